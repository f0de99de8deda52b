/-
  Contracts of take and of Get8 .. Get64.
-/
import Derived.Test.YtcbigopfmiiadaaPRead
import Derived.Test.YtcbigopfmiiadaaPPut
import Derived.Laws.BitsAllLaws
namespace Go.Proofs.Ytcbigopfmiiadaa.Pack
open Go.RowKit

theorem slice_nil_eq (w : World) (a : Option Addr) (n c : Nat) : (binOp .eql 23 (.slice a n c) (.slice none 0 0)).run Try.prog w = .ok (.bool a.isNone) w := Lib.run_eql_slice_nil w 23 5 a n c 0 0 Try.underlying23
theorem or_byte (y : Nat) (x : Int) (hy : y < 256 ^ 7) (h0 : 0 ≤ x) (h1 : x ≤ 255) : bits .or .u64 ((y : Int) * 256) x = ((256 * y + x.toNat : Nat) : Int) := by
  obtain ⟨x, rfl⟩ := Int.eq_ofNat_of_zero_le h0
  have hx : x < 2 ^ 8 := by omega
  have e1 : y <<< 8 = y * 256 := Nat.shiftLeft_eq y 8
  have e2 := Nat.shiftLeft_add_eq_or_of_lt hx y
  rw [e1] at e2
  have h := u64_or_nat (y * 256) x (by omega) (by omega)
  rw [← e2, Int.natCast_mul] at h
  rw [Int.toNat_natCast, Nat.mul_comm 256 y]
  exact h
theorem val_u64 {a b : Int} (h : a = b) : Value.int .u64 a = .int .u64 b := by rw [h]

set_option maxRecDepth 100000 in
set_option maxHeartbeats 1000000 in
theorem take_1 {w : World} {B k p : Nat} {zs : List Int} {e : Int} (h : Rd w B k zs p e) :
    Calls Try.prog 32 #[.pointer (some ⟨k, 0, none⟩)] w fun x w' => x = .returned (.int .u8 ((gV zs p e 1 : Nat) : Int)) ∧ Rd w' B k zs (gP zs p e 1) (gE zs p e 1) ∧ w.grownBy w' (some k) := by
  have hq := slice_nil_eq
  by_cases he : e = 0
  · subst he
    by_cases hl : p + 1 ≤ zs.length
    · obtain ⟨g1, g2, g3⟩ := g_ok hl
      rw [g1, g2, g3]
      clear g1 g2 g3
      have hz : Byt zs := by obtain ⟨_, _, _, _, hz, _⟩ := h; exact hz
      go_enter Try.func32, Try.ntmps32
      go_wp2_with fail
      refine (width_1 _).mono ?_
      rintro x w' ⟨rfl, rfl⟩
      go_wp2_with fail
      refine (ahead_ok h 1 (by omega) hl).mono ?_
      rintro x w1 ⟨b, off, c, rfl, hby, hb, hbk, hc1, hc2⟩
      have h1 := h.later hb
      have hyz : Byt ((zs.drop p).take 1) := (hz.drop p).take 1
      have hyl : ((zs.drop p).take 1).length = 1 := by simp; omega
      generalize hY : (zs.drop p).take 1 = ys at *
      have HY := hid hY
      clear hY
      go_wp2_with fail
      go_loop [4, 6, 14] (fun v _ i => ∃ j : Nat, j ≤ 1 ∧ i = .int .i64 j ∧ v = .int .u64 ((val (ys.take j) : Nat) : Int)) (fun _ _ i => 1 - (intOf i).toNat)
      case atStart => exact ⟨0, Nat.zero_le _, rfl, rfl⟩
      case round =>
        obtain ⟨j, hj, rfl, rfl⟩ := hrel
        by_cases hlt : j < 1
        · have hy := val_take_lt hyz j
          have hg := byt_getD hyz j
          have hck : w1.cell? ⟨b, off + j, none⟩ = some (.int .u8 (ys.getD j 0)) := by
            rcases hby with h0 | ⟨b', off', he, hc⟩
            · subst h0; simp at hyl
            · simp only [Option.some.injEq, Addr.mk.injEq, and_true] at he
              obtain ⟨rfl, rfl⟩ := he
              exact hc j (by omega)
          have HT := hid (val_take ys j (by omega))
          have hy8 : val (ys.take j) < 256 ^ 7 := Nat.lt_of_lt_of_le hy (Nat.pow_le_pow_right (by omega) (by omega))
          clear hy
          generalize ys.getD j 0 = x at *
          generalize val (ys.take j) = y at *
          go_wp2
          go_round
          case rel => exact ⟨j + 1, by omega, by go_num, val_u64 (by rw [HT.out]; exact or_byte y x hy8 hg.1 hg.2)⟩
          case measure => simp [intOf]; omega
        · obtain rfl : j = 1 := by omega
          have hv := val_lt hyz
          rw [hyl] at hv
          rw [List.take_of_length_le (by omega)]
          have R := h1.setP (p + 1) hl
          rw [Int.natCast_add] at R
          have RH := hid R
          obtain ⟨a, cap, c0, c1, c2, f1, f2, _, _, hp, _, hz100, _⟩ := h1.cells
          clear R hby hyl hyz
          generalize hV : val ys = V at *
          have HV := hid hV
          clear hV
          have hv' : V < 256 := hv
          clear hv
          go_wp2
          go_ret
          exact ⟨by rw [HY.out, HV.out]; rfl, RH.out.1, grown_trans (grown_below hb _) RH.out.2⟩
    · obtain ⟨g1, g2, g3⟩ := g_short (zs := zs) (p := p) (s := 1) (by omega)
      rw [g1, g2, g3]
      clear g1 g2 g3
      go_enter Try.func32, Try.ntmps32
      go_wp2_with fail
      refine (width_1 _).mono ?_
      rintro x w' ⟨rfl, rfl⟩
      go_wp2_with fail
      refine (ahead_short h 1 (by omega)).mono ?_
      rintro x w1 ⟨rfl, hr, hg⟩
      go_wp2
      go_ret
      exact ⟨rfl, hr, hg⟩
  · obtain ⟨g1, g2, g3⟩ := g_bad (zs := zs) (p := p) (s := 1) he
    rw [g1, g2, g3]
    clear g1 g2 g3
    go_enter Try.func32, Try.ntmps32
    go_wp2_with fail
    refine (width_1 _).mono ?_
    rintro x w' ⟨rfl, rfl⟩
    go_wp2_with fail
    refine (ahead_bad h he 1).mono ?_
    rintro x w1 ⟨rfl, rfl⟩
    go_wp2
    go_ret
    exact ⟨rfl, h, World.grownBy.refl _ _⟩
theorem take_nil_1 (w : World) : Calls Try.prog 32 #[.pointer none] w fun x w' => x = .returned (.int .u8 0) ∧ w' = w := by
  have hq := slice_nil_eq
  go_enter Try.func32, Try.ntmps32
  go_wp2_with fail
  refine (width_1 _).mono ?_
  rintro x w' ⟨rfl, rfl⟩
  go_wp2_with fail
  refine (ahead_nil _ 1).mono ?_
  rintro x w1 ⟨rfl, rfl⟩
  go_wp2
  go_ret
  exact ⟨rfl, rfl⟩

set_option maxRecDepth 100000 in
set_option maxHeartbeats 1000000 in
theorem take_2 {w : World} {B k p : Nat} {zs : List Int} {e : Int} (h : Rd w B k zs p e) :
    Calls Try.prog 35 #[.pointer (some ⟨k, 0, none⟩)] w fun x w' => x = .returned (.int .u16 ((gV zs p e 2 : Nat) : Int)) ∧ Rd w' B k zs (gP zs p e 2) (gE zs p e 2) ∧ w.grownBy w' (some k) := by
  have hq := slice_nil_eq
  by_cases he : e = 0
  · subst he
    by_cases hl : p + 2 ≤ zs.length
    · obtain ⟨g1, g2, g3⟩ := g_ok hl
      rw [g1, g2, g3]
      clear g1 g2 g3
      have hz : Byt zs := by obtain ⟨_, _, _, _, hz, _⟩ := h; exact hz
      go_enter Try.func35, Try.ntmps35
      go_wp2_with fail
      refine (width_2 _).mono ?_
      rintro x w' ⟨rfl, rfl⟩
      go_wp2_with fail
      refine (ahead_ok h 2 (by omega) hl).mono ?_
      rintro x w1 ⟨b, off, c, rfl, hby, hb, hbk, hc1, hc2⟩
      have h1 := h.later hb
      have hyz : Byt ((zs.drop p).take 2) := (hz.drop p).take 2
      have hyl : ((zs.drop p).take 2).length = 2 := by simp; omega
      generalize hY : (zs.drop p).take 2 = ys at *
      have HY := hid hY
      clear hY
      go_wp2_with fail
      go_loop [4, 6, 14] (fun v _ i => ∃ j : Nat, j ≤ 2 ∧ i = .int .i64 j ∧ v = .int .u64 ((val (ys.take j) : Nat) : Int)) (fun _ _ i => 2 - (intOf i).toNat)
      case atStart => exact ⟨0, Nat.zero_le _, rfl, rfl⟩
      case round =>
        obtain ⟨j, hj, rfl, rfl⟩ := hrel
        by_cases hlt : j < 2
        · have hy := val_take_lt hyz j
          have hg := byt_getD hyz j
          have hck : w1.cell? ⟨b, off + j, none⟩ = some (.int .u8 (ys.getD j 0)) := by
            rcases hby with h0 | ⟨b', off', he, hc⟩
            · subst h0; simp at hyl
            · simp only [Option.some.injEq, Addr.mk.injEq, and_true] at he
              obtain ⟨rfl, rfl⟩ := he
              exact hc j (by omega)
          have HT := hid (val_take ys j (by omega))
          have hy8 : val (ys.take j) < 256 ^ 7 := Nat.lt_of_lt_of_le hy (Nat.pow_le_pow_right (by omega) (by omega))
          clear hy
          generalize ys.getD j 0 = x at *
          generalize val (ys.take j) = y at *
          go_wp2
          go_round
          case rel => exact ⟨j + 1, by omega, by go_num, val_u64 (by rw [HT.out]; exact or_byte y x hy8 hg.1 hg.2)⟩
          case measure => simp [intOf]; omega
        · obtain rfl : j = 2 := by omega
          have hv := val_lt hyz
          rw [hyl] at hv
          rw [List.take_of_length_le (by omega)]
          have R := h1.setP (p + 2) hl
          rw [Int.natCast_add] at R
          have RH := hid R
          obtain ⟨a, cap, c0, c1, c2, f1, f2, _, _, hp, _, hz100, _⟩ := h1.cells
          clear R hby hyl hyz
          generalize hV : val ys = V at *
          have HV := hid hV
          clear hV
          have hv' : V < 65536 := hv
          clear hv
          go_wp2
          go_ret
          exact ⟨by rw [HY.out, HV.out]; rfl, RH.out.1, grown_trans (grown_below hb _) RH.out.2⟩
    · obtain ⟨g1, g2, g3⟩ := g_short (zs := zs) (p := p) (s := 2) (by omega)
      rw [g1, g2, g3]
      clear g1 g2 g3
      go_enter Try.func35, Try.ntmps35
      go_wp2_with fail
      refine (width_2 _).mono ?_
      rintro x w' ⟨rfl, rfl⟩
      go_wp2_with fail
      refine (ahead_short h 2 (by omega)).mono ?_
      rintro x w1 ⟨rfl, hr, hg⟩
      go_wp2
      go_ret
      exact ⟨rfl, hr, hg⟩
  · obtain ⟨g1, g2, g3⟩ := g_bad (zs := zs) (p := p) (s := 2) he
    rw [g1, g2, g3]
    clear g1 g2 g3
    go_enter Try.func35, Try.ntmps35
    go_wp2_with fail
    refine (width_2 _).mono ?_
    rintro x w' ⟨rfl, rfl⟩
    go_wp2_with fail
    refine (ahead_bad h he 2).mono ?_
    rintro x w1 ⟨rfl, rfl⟩
    go_wp2
    go_ret
    exact ⟨rfl, h, World.grownBy.refl _ _⟩
theorem take_nil_2 (w : World) : Calls Try.prog 35 #[.pointer none] w fun x w' => x = .returned (.int .u16 0) ∧ w' = w := by
  have hq := slice_nil_eq
  go_enter Try.func35, Try.ntmps35
  go_wp2_with fail
  refine (width_2 _).mono ?_
  rintro x w' ⟨rfl, rfl⟩
  go_wp2_with fail
  refine (ahead_nil _ 2).mono ?_
  rintro x w1 ⟨rfl, rfl⟩
  go_wp2
  go_ret
  exact ⟨rfl, rfl⟩

set_option maxRecDepth 100000 in
set_option maxHeartbeats 1000000 in
theorem take_4 {w : World} {B k p : Nat} {zs : List Int} {e : Int} (h : Rd w B k zs p e) :
    Calls Try.prog 33 #[.pointer (some ⟨k, 0, none⟩)] w fun x w' => x = .returned (.int .u32 ((gV zs p e 4 : Nat) : Int)) ∧ Rd w' B k zs (gP zs p e 4) (gE zs p e 4) ∧ w.grownBy w' (some k) := by
  have hq := slice_nil_eq
  by_cases he : e = 0
  · subst he
    by_cases hl : p + 4 ≤ zs.length
    · obtain ⟨g1, g2, g3⟩ := g_ok hl
      rw [g1, g2, g3]
      clear g1 g2 g3
      have hz : Byt zs := by obtain ⟨_, _, _, _, hz, _⟩ := h; exact hz
      go_enter Try.func33, Try.ntmps33
      go_wp2_with fail
      refine (width_4 _).mono ?_
      rintro x w' ⟨rfl, rfl⟩
      go_wp2_with fail
      refine (ahead_ok h 4 (by omega) hl).mono ?_
      rintro x w1 ⟨b, off, c, rfl, hby, hb, hbk, hc1, hc2⟩
      have h1 := h.later hb
      have hyz : Byt ((zs.drop p).take 4) := (hz.drop p).take 4
      have hyl : ((zs.drop p).take 4).length = 4 := by simp; omega
      generalize hY : (zs.drop p).take 4 = ys at *
      have HY := hid hY
      clear hY
      go_wp2_with fail
      go_loop [4, 6, 14] (fun v _ i => ∃ j : Nat, j ≤ 4 ∧ i = .int .i64 j ∧ v = .int .u64 ((val (ys.take j) : Nat) : Int)) (fun _ _ i => 4 - (intOf i).toNat)
      case atStart => exact ⟨0, Nat.zero_le _, rfl, rfl⟩
      case round =>
        obtain ⟨j, hj, rfl, rfl⟩ := hrel
        by_cases hlt : j < 4
        · have hy := val_take_lt hyz j
          have hg := byt_getD hyz j
          have hck : w1.cell? ⟨b, off + j, none⟩ = some (.int .u8 (ys.getD j 0)) := by
            rcases hby with h0 | ⟨b', off', he, hc⟩
            · subst h0; simp at hyl
            · simp only [Option.some.injEq, Addr.mk.injEq, and_true] at he
              obtain ⟨rfl, rfl⟩ := he
              exact hc j (by omega)
          have HT := hid (val_take ys j (by omega))
          have hy8 : val (ys.take j) < 256 ^ 7 := Nat.lt_of_lt_of_le hy (Nat.pow_le_pow_right (by omega) (by omega))
          clear hy
          generalize ys.getD j 0 = x at *
          generalize val (ys.take j) = y at *
          go_wp2
          go_round
          case rel => exact ⟨j + 1, by omega, by go_num, val_u64 (by rw [HT.out]; exact or_byte y x hy8 hg.1 hg.2)⟩
          case measure => simp [intOf]; omega
        · obtain rfl : j = 4 := by omega
          have hv := val_lt hyz
          rw [hyl] at hv
          rw [List.take_of_length_le (by omega)]
          have R := h1.setP (p + 4) hl
          rw [Int.natCast_add] at R
          have RH := hid R
          obtain ⟨a, cap, c0, c1, c2, f1, f2, _, _, hp, _, hz100, _⟩ := h1.cells
          clear R hby hyl hyz
          generalize hV : val ys = V at *
          have HV := hid hV
          clear hV
          have hv' : V < 4294967296 := hv
          clear hv
          go_wp2
          go_ret
          exact ⟨by rw [HY.out, HV.out]; rfl, RH.out.1, grown_trans (grown_below hb _) RH.out.2⟩
    · obtain ⟨g1, g2, g3⟩ := g_short (zs := zs) (p := p) (s := 4) (by omega)
      rw [g1, g2, g3]
      clear g1 g2 g3
      go_enter Try.func33, Try.ntmps33
      go_wp2_with fail
      refine (width_4 _).mono ?_
      rintro x w' ⟨rfl, rfl⟩
      go_wp2_with fail
      refine (ahead_short h 4 (by omega)).mono ?_
      rintro x w1 ⟨rfl, hr, hg⟩
      go_wp2
      go_ret
      exact ⟨rfl, hr, hg⟩
  · obtain ⟨g1, g2, g3⟩ := g_bad (zs := zs) (p := p) (s := 4) he
    rw [g1, g2, g3]
    clear g1 g2 g3
    go_enter Try.func33, Try.ntmps33
    go_wp2_with fail
    refine (width_4 _).mono ?_
    rintro x w' ⟨rfl, rfl⟩
    go_wp2_with fail
    refine (ahead_bad h he 4).mono ?_
    rintro x w1 ⟨rfl, rfl⟩
    go_wp2
    go_ret
    exact ⟨rfl, h, World.grownBy.refl _ _⟩
theorem take_nil_4 (w : World) : Calls Try.prog 33 #[.pointer none] w fun x w' => x = .returned (.int .u32 0) ∧ w' = w := by
  have hq := slice_nil_eq
  go_enter Try.func33, Try.ntmps33
  go_wp2_with fail
  refine (width_4 _).mono ?_
  rintro x w' ⟨rfl, rfl⟩
  go_wp2_with fail
  refine (ahead_nil _ 4).mono ?_
  rintro x w1 ⟨rfl, rfl⟩
  go_wp2
  go_ret
  exact ⟨rfl, rfl⟩

theorem Get_1 {w : World} {B k p : Nat} {zs : List Int} {e : Int} (h : Rd w B k zs p e) :
    Calls Try.prog 19 #[.pointer (some ⟨k, 0, none⟩)] w fun x w' => x = .returned (.int .u8 ((gV zs p e 1 : Nat) : Int)) ∧ Rd w' B k zs (gP zs p e 1) (gE zs p e 1) ∧ w.grownBy w' (some k) := by
  go_enter Try.func19, Try.ntmps19
  go_wp2_with fail
  refine (take_1 h).mono ?_
  rintro x w' ⟨rfl, hr, hg⟩
  go_wp2
  go_ret
  exact ⟨rfl, hr, hg⟩
theorem Get_nil_1 (w : World) : Calls Try.prog 19 #[.pointer none] w fun x w' => x = .returned (.int .u8 0) ∧ w' = w := by
  go_enter Try.func19, Try.ntmps19
  go_wp2_with fail
  refine (take_nil_1 _).mono ?_
  rintro x w' ⟨rfl, rfl⟩
  go_wp2
  go_ret
  exact ⟨rfl, rfl⟩

theorem Get_2 {w : World} {B k p : Nat} {zs : List Int} {e : Int} (h : Rd w B k zs p e) :
    Calls Try.prog 22 #[.pointer (some ⟨k, 0, none⟩)] w fun x w' => x = .returned (.int .u16 ((gV zs p e 2 : Nat) : Int)) ∧ Rd w' B k zs (gP zs p e 2) (gE zs p e 2) ∧ w.grownBy w' (some k) := by
  go_enter Try.func22, Try.ntmps22
  go_wp2_with fail
  refine (take_2 h).mono ?_
  rintro x w' ⟨rfl, hr, hg⟩
  go_wp2
  go_ret
  exact ⟨rfl, hr, hg⟩
theorem Get_nil_2 (w : World) : Calls Try.prog 22 #[.pointer none] w fun x w' => x = .returned (.int .u16 0) ∧ w' = w := by
  go_enter Try.func22, Try.ntmps22
  go_wp2_with fail
  refine (take_nil_2 _).mono ?_
  rintro x w' ⟨rfl, rfl⟩
  go_wp2
  go_ret
  exact ⟨rfl, rfl⟩

theorem Get_4 {w : World} {B k p : Nat} {zs : List Int} {e : Int} (h : Rd w B k zs p e) :
    Calls Try.prog 20 #[.pointer (some ⟨k, 0, none⟩)] w fun x w' => x = .returned (.int .u32 ((gV zs p e 4 : Nat) : Int)) ∧ Rd w' B k zs (gP zs p e 4) (gE zs p e 4) ∧ w.grownBy w' (some k) := by
  go_enter Try.func20, Try.ntmps20
  go_wp2_with fail
  refine (take_4 h).mono ?_
  rintro x w' ⟨rfl, hr, hg⟩
  go_wp2
  go_ret
  exact ⟨rfl, hr, hg⟩
theorem Get_nil_4 (w : World) : Calls Try.prog 20 #[.pointer none] w fun x w' => x = .returned (.int .u32 0) ∧ w' = w := by
  go_enter Try.func20, Try.ntmps20
  go_wp2_with fail
  refine (take_nil_4 _).mono ?_
  rintro x w' ⟨rfl, rfl⟩
  go_wp2
  go_ret
  exact ⟨rfl, rfl⟩

end Go.Proofs.Ytcbigopfmiiadaa.Pack
