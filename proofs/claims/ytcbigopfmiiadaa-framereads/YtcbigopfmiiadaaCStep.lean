/-
  The contracts of crc.step, marcotref01.shift, crc.More, marcotref01.More and both Sums: each answers what the plain functions of YtcbigopfmiiadaaMath say, and changes nothing.
-/
import Derived.Test.YtcbigopfmiiadaaRows
import Derived.Test.YtcbigopfmiiadaaCm
import Derived.WalkKit
import Derived.WalkSpells
import Derived.WalkLawsBesides
namespace Go.Proofs.Ytcbigopfmiiadaa.Crc
open Go.RowKit

theorem hid {p : Prop} (h : p) : Hid p := h
theorem and_one (r : Nat) (hr : r < 4294967296) : bits .and .u32 (r : Int) 1 = ((r % 2 : Nat) : Int) := by
  have h := u32_and_nat r 1 hr (by omega)
  rw [Nat.and_one_is_mod] at h
  exact h
theorem half_xor (r : Nat) (hr : r < 4294967296) : bits .xor .u32 ((r : Int) / 2) 2197175160 = ((r / 2 ^^^ 2197175160 : Nat) : Int) := by
  have h := u32_xor_nat (r / 2) 2197175160 (by omega) (by omega)
  rw [← h]
  congr 1
theorem sh_odd (r : Nat) (hr : r < 4294967296) (h : (bits .and .u32 (r : Int) 1 == 1) = true) : bits .xor .u32 ((r : Int) / 2) 2197175160 = ((sh r : Nat) : Int) := by
  rw [and_one r hr] at h
  have h1 : ((r % 2 : Nat) : Int) = 1 := by simpa using h
  rw [half_xor r hr]
  unfold sh
  rw [if_pos (by omega)]
theorem sh_evn (r : Nat) (hr : r < 4294967296) (h : (bits .and .u32 (r : Int) 1 == 1) = false) : (r : Int) / 2 = ((sh r : Nat) : Int) := by
  rw [and_one r hr] at h
  have h1 : ¬ ((r % 2 : Nat) : Int) = 1 := by simpa using h
  unfold sh
  rw [if_neg (by omega)]
  omega
theorem val_u32 {a b : Int} (h : a = b) : Value.int .u32 a = .int .u32 b := by rw [h]

set_option maxRecDepth 100000 in
set_option maxHeartbeats 400000 in
theorem step_any (r : Nat) (w : World) (hr : r < 4294967296) :
    Calls Try.prog 45 #[.int .u32 (r : Int)] w fun e w' => e = .returned (.int .u32 ((shN 8 r : Nat) : Int)) ∧ w' = w := by
  go_enter Try.func45, Try.ntmps45
  go_wp2
  go_loop [0, 4] (fun v i => ∃ k : Nat, k ≤ 8 ∧ i = .int .i64 k ∧ v = .int .u32 ((shN k r : Nat) : Int)) (fun _ i => 8 - (intOf i).toNat)
  case atStart => exact ⟨0, Nat.zero_le _, rfl, rfl⟩
  case round =>
    obtain ⟨k, hk, rfl, rfl⟩ := hrel
    have hy := shN_lt k hr
    by_cases hlt : k < 8
    · go_wp2
      all_goals
        go_round
        case rel => exact ⟨k + 1, by omega, by go_num, val_u32 (by first | exact sh_odd _ hy ‹_› | exact sh_evn _ hy ‹_›)⟩
        case measure => simp [intOf]; omega
    · obtain rfl : k = 8 := by omega
      go_wp2
      go_ret
      exact ⟨rfl, rfl⟩

theorem not_u32 (r : Nat) (hr : r < 4294967296) : bits .xor .u32 IntKind.u32.max (r : Int) = ((4294967295 - r : Nat) : Int) := by
  have h := u32_xor_nat 4294967295 r (by omega) hr
  rw [not_xor hr] at h
  exact h
theorem sh_odd' (r : Nat) (hr : r < 4294967296) (h : ((r : Int) % 2 == 1) = true) : bits .xor .u32 ((r : Int) / 2) 2197175160 = ((sh r : Nat) : Int) := by
  have h1 : (r : Int) % 2 = 1 := by simpa using h
  rw [half_xor r hr]
  unfold sh
  rw [if_pos (by omega)]
theorem sh_evn' (r : Nat) (h : ((r : Int) % 2 == 1) = false) : (r : Int) / 2 = ((sh r : Nat) : Int) := by
  have h1 : ¬ (r : Int) % 2 = 1 := by simpa using h
  unfold sh
  rw [if_neg (by omega)]
  omega
theorem ret_u32 {a b : Int} (h : a = b) : Ending.returned (.int .u32 a) = .returned (.int .u32 b) := by rw [h]

set_option maxRecDepth 100000 in
set_option maxHeartbeats 400000 in
theorem shift_any (r : Nat) (w : World) (hr : r < 4294967296) :
    Calls Try.prog 43 #[.int .u32 (r : Int)] w fun e w' => e = .returned (.int .u32 ((sh r : Nat) : Int)) ∧ w' = w := by
  go_enter Try.func43, Try.ntmps43
  go_wp2
  · go_ret
    exact ⟨ret_u32 (sh_odd' r hr ‹_›), rfl⟩
  · go_ret
    exact ⟨ret_u32 (sh_evn' r ‹_›), rfl⟩

/-- what a slice of bytes holds -/
def Bytes (w : World) (a : Option Addr) (zs : List Int) : Prop :=
  zs = [] ∨ ∃ b off, a = some ⟨b, off, none⟩ ∧ ∀ i, i < zs.length → w.cell? ⟨b, off + i, none⟩ = some (.int .u8 (zs.getD i 0))

theorem take_snoc (zs : List Int) (k : Nat) (h : k < zs.length) : zs.take (k + 1) = zs.take k ++ [zs.getD k 0] := by
  rw [List.take_succ_eq_append_getElem h]
  simp [List.getD, List.getElem?_eq_getElem h]
theorem rowOf_take (r : Nat) (zs : List Int) (k : Nat) (h : k < zs.length) : rowOf r (zs.take (k + 1)) = feed (rowOf r (zs.take k)) (zs.getD k 0).toNat := by
  rw [take_snoc zs k h, rowOf_append]; rfl
theorem xor_byte (y : Nat) (x : Int) (hy : y < 4294967296) (h0 : 0 ≤ x) (h1 : x ≤ 255) : bits .xor .u32 (y : Int) x = ((y ^^^ x.toNat : Nat) : Int) := by
  have h := u32_xor (y : Int) x (by omega) (by omega) h0 (by omega)
  simpa using h
set_option maxRecDepth 100000 in
set_option maxHeartbeats 400000 in
theorem more_any (s : Nat) (a : Option Addr) (n cap : Nat) (zs : List Int) (w : World) (hs : s < 4294967296) (hn : zs.length = n) (hb : Bytes w a zs) (hz : Byt zs) (hm : n ≤ 100000) :
    Calls Try.prog 41 #[.int .u32 (s : Int), .slice a n cap] w fun e w' => e = .returned (.int .u32 ((more s zs : Nat) : Int)) ∧ w' = w := by
  have hns := not_u32 s hs
  go_enter Try.func41, Try.ntmps41
  go_wp2
  go_loop [5, 7, 12] (fun v _ i => ∃ k : Nat, k ≤ n ∧ i = .int .i64 k ∧ v = .int .u32 ((rowOf (4294967295 - s) (zs.take k) : Nat) : Int)) (fun _ _ i => n - (intOf i).toNat)
  case atStart => exact ⟨0, Nat.zero_le _, rfl, rfl⟩
  case round =>
    obtain ⟨k, hk, rfl, rfl⟩ := hrel
    have hy := rowOf_lt (zs.take k) (r := 4294967295 - s) (by omega) (hz.take k)
    have hg := byt_getD hz k
    by_cases hlt : k < n
    · rcases hb with h0 | ⟨b, off, rfl, hc⟩
      · subst h0; simp at hn; omega
      have hck := hc k (by omega)
      have HT := hid (rowOf_take (4294967295 - s) zs k (by omega))
      clear hc
      generalize zs.getD k 0 = x at *
      generalize rowOf (4294967295 - s) (zs.take k) = y at *
      have hxb := xor_byte y x hy hg.1 hg.2
      have hyx : y ^^^ x.toNat < 4294967296 := xor_lt hy (by omega)
      go_wp2_with (go_at_call 45; refine (step_any _ _ hyx).mono ?_; rintro e w' ⟨rfl, rfl⟩)
      go_round
      case rel => exact ⟨k + 1, by omega, by go_num, val_u32 (by rw [HT.out]; rfl)⟩
      case measure => simp [intOf]; omega
    · obtain rfl : k = n := by omega
      rw [List.take_of_length_le (by omega)] at *
      have HN := hid (not_u32 _ hy)
      go_wp2
      go_ret
      exact ⟨ret_u32 HN.out, rfl⟩

theorem ref_step {m R C y x : Nat} (h : shN (m + 1) (R ^^^ C) = feed y x) : shN m (sh (R ^^^ C % 2) ^^^ C / 2) = feed y x := by
  rw [← sh_low, ← h, shN_add m 1]; rfl
theorem xor_bit (R C : Nat) (hR : R < 4294967296) : bits .xor .u32 (R : Int) ((C : Int) % 2) = ((R ^^^ C % 2 : Nat) : Int) := by
  have h := u32_xor_nat R (C % 2) hR (by omega)
  rw [← h]
  congr 1
theorem bit_lt (R C : Nat) (hR : R < 4294967296) : R ^^^ C % 2 < 4294967296 := xor_lt hR (by omega)

set_option maxRecDepth 100000 in
set_option maxHeartbeats 400000 in
theorem ref_more_any (s : Nat) (a : Option Addr) (n cap : Nat) (zs : List Int) (w : World) (hs : s < 4294967296) (hn : zs.length = n) (hb : Bytes w a zs) (hz : Byt zs) (hm : n ≤ 100000) :
    Calls Try.prog 36 #[.int .u32 (s : Int), .slice a n cap] w fun e w' => e = .returned (.int .u32 ((more s zs : Nat) : Int)) ∧ w' = w := by
  go_enter Try.func36, Try.ntmps36
  go_wp2
  go_loop [5, 6, 7, 8, 13] (fun v _ _ _ i => ∃ k : Nat, k ≤ n ∧ i = .int .i64 k ∧ v = .int .u32 ((rowOf (4294967295 - s) (zs.take k) : Nat) : Int)) (fun _ _ _ _ i => n - (intOf i).toNat)
  case atStart => exact ⟨0, Nat.zero_le _, rfl, val_u32 (by simp [rowOf]; omega)⟩
  case round =>
    obtain ⟨k, hk, rfl, rfl⟩ := hrel
    have hy := rowOf_lt (zs.take k) (r := 4294967295 - s) (by omega) (hz.take k)
    have hg := byt_getD hz k
    by_cases hlt : k < n
    · rcases hb with h0 | ⟨b, off, rfl, hc⟩
      · subst h0; simp at hn; omega
      have hck := hc k (by omega)
      have HT := hid (rowOf_take (4294967295 - s) zs k (by omega))
      clear hc
      generalize zs.getD k 0 = x at *
      generalize rowOf (4294967295 - s) (zs.take k) = y at *
      obtain ⟨x, rfl⟩ := Int.eq_ofNat_of_zero_le hg.1
      rw [Int.toNat_natCast] at HT
      have hx : x < 256 := by omega
      go_wp2
      go_loop [5, 7, 8] (fun v c j => ∃ m R C : Nat, m ≤ 8 ∧ j = .int .i64 ((8 - m : Nat) : Int) ∧ v = .int .u32 (R : Int) ∧ c = .int .u32 (C : Int) ∧ R < 4294967296 ∧ C < 2 ^ m ∧ Hid (shN m (R ^^^ C) = feed y x)) (fun _ _ j => 8 - (intOf j).toNat)
      case atStart => exact ⟨8, y, x, Nat.le_refl _, rfl, rfl, rfl, hy, hx, rfl⟩
      case round =>
        obtain ⟨m, R, C, hm8, rfl, rfl, rfl, hR, hC, HF⟩ := hrel
        by_cases hm0 : m = 0
        · subst hm0
          have hC0 : C = 0 := by simpa using hC
          subst hC0
          go_wp2
          go_round
          case rel => exact ⟨k + 1, by omega, by go_num, val_u32 (by rw [HT.out, ← HF.out]; simp [shN])⟩
          case measure => simp [intOf]; omega
        · obtain ⟨m, rfl⟩ : ∃ m', m = m' + 1 := ⟨m - 1, by omega⟩
          have hxb := xor_bit R C hR
          have hbl := bit_lt R C hR
          have hC2 : C / 2 < 2 ^ m := by rw [Nat.pow_succ] at hC; omega
          have hC8 : C < 256 := Nat.lt_of_lt_of_le hC (Nat.pow_le_pow_right (by omega) hm8)
          clear hC
          go_wp2_with (go_at_call 43; refine (shift_any _ _ hbl).mono ?_; rintro e w' ⟨rfl, rfl⟩)
          go_round
          case rel => exact ⟨m, sh (R ^^^ C % 2), C / 2, by omega, by go_num, rfl, by go_num, sh_lt hbl, hC2, ref_step HF.out⟩
          case measure => simp [intOf]; omega
    · obtain rfl : k = n := by omega
      rw [List.take_of_length_le (by omega)] at *
      go_wp2
      go_ret
      exact ⟨ret_u32 (by unfold more; omega), rfl⟩
end Go.Proofs.Ytcbigopfmiiadaa.Crc
