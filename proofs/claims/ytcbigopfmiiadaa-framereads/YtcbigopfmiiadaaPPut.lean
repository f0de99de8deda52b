/-
  Contracts of pack.width, pack.room, pack.put, Put8 .. Put64, PutText, of marcotref02.Put and PutText, and of awake.
-/
import Derived.Test.YtcbigopfmiiadaaPAid
namespace Go.Proofs.Ytcbigopfmiiadaa.Pack
open Go.RowKit

set_option maxRecDepth 100000 in
theorem len_1 (w : World) : Calls Try.prog 44 #[.int .u64 255] w fun e w' => e = .returned (.int .i64 8) ∧ w' = w := by
  go_enter Try.func44, Try.ntmps44
  go_wp2
  go_ret
  exact ⟨by kernel_rfl, rfl⟩
set_option maxRecDepth 100000 in
theorem len_2 (w : World) : Calls Try.prog 44 #[.int .u64 65535] w fun e w' => e = .returned (.int .i64 16) ∧ w' = w := by
  go_enter Try.func44, Try.ntmps44
  go_wp2
  go_ret
  exact ⟨by kernel_rfl, rfl⟩
set_option maxRecDepth 100000 in
theorem len_4 (w : World) : Calls Try.prog 44 #[.int .u64 4294967295] w fun e w' => e = .returned (.int .i64 32) ∧ w' = w := by
  go_enter Try.func44, Try.ntmps44
  go_wp2
  go_ret
  exact ⟨by kernel_rfl, rfl⟩
set_option maxRecDepth 100000 in
theorem len_8 (w : World) : Calls Try.prog 44 #[.int .u64 18446744073709551615] w fun e w' => e = .returned (.int .i64 64) ∧ w' = w := by
  go_enter Try.func44, Try.ntmps44
  go_wp2
  go_ret
  exact ⟨by kernel_rfl, rfl⟩
theorem width_1 (w : World) : Calls Try.prog 37 #[] w fun e w' => e = .returned (.int .i64 1) ∧ w' = w := by
  have H := hid (len_1 w)
  go_enter Try.func37, Try.ntmps37
  go_wp2_with (go_at_call 44; refine H.out.mono ?_; rintro e w' ⟨rfl, rfl⟩)
  go_ret
  exact ⟨rfl, rfl⟩
theorem width_2 (w : World) : Calls Try.prog 40 #[] w fun e w' => e = .returned (.int .i64 2) ∧ w' = w := by
  have H := hid (len_2 w)
  go_enter Try.func40, Try.ntmps40
  go_wp2_with (go_at_call 44; refine H.out.mono ?_; rintro e w' ⟨rfl, rfl⟩)
  go_ret
  exact ⟨rfl, rfl⟩
theorem width_4 (w : World) : Calls Try.prog 39 #[] w fun e w' => e = .returned (.int .i64 4) ∧ w' = w := by
  have H := hid (len_4 w)
  go_enter Try.func39, Try.ntmps39
  go_wp2_with (go_at_call 44; refine H.out.mono ?_; rintro e w' ⟨rfl, rfl⟩)
  go_ret
  exact ⟨rfl, rfl⟩
/-- 'make([]byte, 0, n)' -/
theorem make_room (n : Nat) (hn : n ≤ 1000000) (x : Int) (hx : x = (n : Int)) : ∀ u : World, (Instr.makeSlice 23 (.int .i64 0) (.int .i64 x)).run Try.prog u =
      .ok (.slice (some ⟨u.heap.size, 0, none⟩) 0 n) (u.alloc (.cells (madeCells #[.int .u8 0] n) 5)) := fun u => by
  obtain ⟨i0, hi, hz0, hz1, hz2⟩ := info_parts info5
  subst hx
  have h := run_make (P := Try.prog) u 23 5 i0 (.int .u8 0) Try.underlying23 hi hz0 .i64 .i64 0 (n : Int) (by omega) (by omega) (by rw [hz2]; omega) (by omega)
  rw [Int.toNat_natCast] at h
  simpa [hz1, Value.cells] using h

set_option maxRecDepth 100000 in
set_option maxHeartbeats 1000000 in
theorem room_any (a : Option Addr) (n cap m : Nat) (zs : List Int) (w : World) (hn : zs.length = n) (hb : Bytes w a zs) (hnil : a = none → n = 0 ∧ cap = 0) (hm : n ≤ 100000) (hm' : m ≤ 1000) :
    Calls Try.prog 38 #[.slice a n cap, .int .i64 (m : Int)] w fun e w' => ∃ v, e = .returned v ∧ Own w' w.heap.size v zs ∧ Below w.heap.size w w' := by
  have hmk := make_room (n + m) (by omega) ((n : Int) + (m : Int)) (by omega)
  have hb0 : Below w.heap.size w (w.alloc (.cells (madeCells #[.int .u8 0] (n + m)) 5)) := (Below.refl _ _).alloc (Nat.le_refl _) _
  have ho0 : Own (w.alloc (.cells (madeCells #[.int .u8 0] (n + m)) 5)) w.heap.size (.slice (some ⟨w.heap.size, 0, none⟩) 0 (n + m)) [] :=
    World.ownsRow_made (size := 1) w _ (n + m) (Nat.le_refl _) (by unfold maxLen; omega) (by simp [size_madeCells])
  generalize madeCells #[.int .u8 0] (n + m) = C at *
  go_enter Try.func38, Try.ntmps38
  go_wp2_with (first | (at_builtin; refine app rfl (.tmp 11) (.tmp 12) rfl w.heap.size _ [] rfl ho0 a n cap zs rfl hnil hn (hb.later hb0) (by simp; omega) (by simp) ?_; intro v1 w1 ho1 hg1; have hb1 := ho0.below hb0 (Nat.le_refl _) (by simp) hg1; clear hg1; rw [List.nil_append] at ho1) | fail)
  obtain ⟨a6, c6, rfl, _, _, _⟩ := ho1.form
  go_ret
  exact ⟨_, rfl, ho1, hb1⟩

set_option maxRecDepth 100000 in
set_option maxHeartbeats 4000000 in
theorem put_1 (n : Nat) (hn : n < 256) (a : Option Addr) (l cap : Nat) (zs : List Int) (w : World) (hl : zs.length = l) (hb : Bytes w a zs) (hnil : a = none → l = 0 ∧ cap = 0) (hm : l ≤ 100000) :
    Calls Try.prog 26 #[.slice a l cap, .int .u8 (n : Int)] w fun e w' => ∃ v, e = .returned v ∧ Own w' w.heap.size v (zs ++ be 1 n) ∧ Below w.heap.size w w' := by
  go_enter Try.func26, Try.ntmps26
  go_wp2_with fail
  refine (width_1 _).mono ?_
  rintro e w' ⟨rfl, rfl⟩
  go_wp2_with fail
  refine (room_any a l cap 1 zs _ hl hb hnil hm (by omega)).mono ?_
  rintro e w1 ⟨v1, rfl, ho0, hb0⟩
  clear hb
  go_wp2_with fail
  refine wp_loop_rounds 2 ?_
  rw [rounds_succ]
  go_wp2_with (at_builtin; refine app1 rfl (.tmp 18) (.tmp 25) rfl _ _ _ rfl ho0 _ rfl (by first | omega | (simp; omega)) (Nat.le_refl _) hb0 ?_; intro v2 w2 ho1 hb1; clear ho0 hb0)
  rw [rounds_succ]
  go_wp2
  obtain ⟨a6, c6, rfl, _, _, _⟩ := ho1.form
  go_ret
  refine ⟨_, rfl, ?_, hb1⟩
  rw [← be_1 n hn]
  simpa using ho1

set_option maxRecDepth 100000 in
set_option maxHeartbeats 4000000 in
theorem put_2 (n : Nat) (hn : n < 65536) (a : Option Addr) (l cap : Nat) (zs : List Int) (w : World) (hl : zs.length = l) (hb : Bytes w a zs) (hnil : a = none → l = 0 ∧ cap = 0) (hm : l ≤ 100000) :
    Calls Try.prog 28 #[.slice a l cap, .int .u16 (n : Int)] w fun e w' => ∃ v, e = .returned v ∧ Own w' w.heap.size v (zs ++ be 2 n) ∧ Below w.heap.size w w' := by
  go_enter Try.func28, Try.ntmps28
  go_wp2_with fail
  refine (width_2 _).mono ?_
  rintro e w' ⟨rfl, rfl⟩
  go_wp2_with fail
  refine (room_any a l cap 2 zs _ hl hb hnil hm (by omega)).mono ?_
  rintro e w1 ⟨v1, rfl, ho0, hb0⟩
  clear hb
  go_wp2_with fail
  refine wp_loop_rounds 3 ?_
  rw [rounds_succ]
  go_wp2_with (at_builtin; refine app1 rfl (.tmp 18) (.tmp 25) rfl _ _ _ rfl ho0 _ rfl (by first | omega | (simp; omega)) (Nat.le_refl _) hb0 ?_; intro v2 w2 ho1 hb1; clear ho0 hb0)
  rw [rounds_succ]
  go_wp2_with (at_builtin; refine app1 rfl (.tmp 18) (.tmp 25) rfl _ _ _ rfl ho1 _ rfl (by first | omega | (simp; omega)) (Nat.le_refl _) hb1 ?_; intro v3 w3 ho2 hb2; clear ho1 hb1)
  rw [rounds_succ]
  go_wp2
  obtain ⟨a6, c6, rfl, _, _, _⟩ := ho2.form
  go_ret
  refine ⟨_, rfl, ?_, hb2⟩
  rw [← be_2 n hn]
  simpa using ho2

set_option maxRecDepth 100000 in
set_option maxHeartbeats 4000000 in
theorem put_4 (n : Nat) (hn : n < 4294967296) (a : Option Addr) (l cap : Nat) (zs : List Int) (w : World) (hl : zs.length = l) (hb : Bytes w a zs) (hnil : a = none → l = 0 ∧ cap = 0) (hm : l ≤ 100000) :
    Calls Try.prog 27 #[.slice a l cap, .int .u32 (n : Int)] w fun e w' => ∃ v, e = .returned v ∧ Own w' w.heap.size v (zs ++ be 4 n) ∧ Below w.heap.size w w' := by
  go_enter Try.func27, Try.ntmps27
  go_wp2_with fail
  refine (width_4 _).mono ?_
  rintro e w' ⟨rfl, rfl⟩
  go_wp2_with fail
  refine (room_any a l cap 4 zs _ hl hb hnil hm (by omega)).mono ?_
  rintro e w1 ⟨v1, rfl, ho0, hb0⟩
  clear hb
  go_wp2_with fail
  refine wp_loop_rounds 5 ?_
  rw [rounds_succ]
  go_wp2_with (at_builtin; refine app1 rfl (.tmp 18) (.tmp 25) rfl _ _ _ rfl ho0 _ rfl (by first | omega | (simp; omega)) (Nat.le_refl _) hb0 ?_; intro v2 w2 ho1 hb1; clear ho0 hb0)
  rw [rounds_succ]
  go_wp2_with (at_builtin; refine app1 rfl (.tmp 18) (.tmp 25) rfl _ _ _ rfl ho1 _ rfl (by first | omega | (simp; omega)) (Nat.le_refl _) hb1 ?_; intro v3 w3 ho2 hb2; clear ho1 hb1)
  rw [rounds_succ]
  go_wp2_with (at_builtin; refine app1 rfl (.tmp 18) (.tmp 25) rfl _ _ _ rfl ho2 _ rfl (by first | omega | (simp; omega)) (Nat.le_refl _) hb2 ?_; intro v4 w4 ho3 hb3; clear ho2 hb2)
  rw [rounds_succ]
  go_wp2_with (at_builtin; refine app1 rfl (.tmp 18) (.tmp 25) rfl _ _ _ rfl ho3 _ rfl (by first | omega | (simp; omega)) (Nat.le_refl _) hb3 ?_; intro v5 w5 ho4 hb4; clear ho3 hb3)
  rw [rounds_succ]
  go_wp2
  obtain ⟨a6, c6, rfl, _, _, _⟩ := ho4.form
  go_ret
  refine ⟨_, rfl, ?_, hb4⟩
  rw [← be_4 n hn]
  simpa using ho4

theorem Put_1 (n : Nat) (hn : n < 256) (a : Option Addr) (l cap : Nat) (zs : List Int) (w : World) (hl : zs.length = l) (hb : Bytes w a zs) (hnil : a = none → l = 0 ∧ cap = 0) (hm : l ≤ 100000) :
    Calls Try.prog 12 #[.slice a l cap, .int .u8 (n : Int)] w fun e w' => ∃ v, e = .returned v ∧ Own w' w.heap.size v (zs ++ be 1 n) ∧ Below w.heap.size w w' := by
  go_enter Try.func12, Try.ntmps12
  go_wp2_with fail
  refine (put_1 n hn a l cap zs _ hl hb hnil hm).mono ?_
  rintro e w1 ⟨v1, rfl, ho, hb1⟩
  go_wp2
  obtain ⟨a6, c6, rfl, _, _, _⟩ := ho.form
  go_ret
  exact ⟨_, rfl, ho, hb1⟩
theorem Put_2 (n : Nat) (hn : n < 65536) (a : Option Addr) (l cap : Nat) (zs : List Int) (w : World) (hl : zs.length = l) (hb : Bytes w a zs) (hnil : a = none → l = 0 ∧ cap = 0) (hm : l ≤ 100000) :
    Calls Try.prog 14 #[.slice a l cap, .int .u16 (n : Int)] w fun e w' => ∃ v, e = .returned v ∧ Own w' w.heap.size v (zs ++ be 2 n) ∧ Below w.heap.size w w' := by
  go_enter Try.func14, Try.ntmps14
  go_wp2_with fail
  refine (put_2 n hn a l cap zs _ hl hb hnil hm).mono ?_
  rintro e w1 ⟨v1, rfl, ho, hb1⟩
  go_wp2
  obtain ⟨a6, c6, rfl, _, _, _⟩ := ho.form
  go_ret
  exact ⟨_, rfl, ho, hb1⟩
theorem Put_4 (n : Nat) (hn : n < 4294967296) (a : Option Addr) (l cap : Nat) (zs : List Int) (w : World) (hl : zs.length = l) (hb : Bytes w a zs) (hnil : a = none → l = 0 ∧ cap = 0) (hm : l ≤ 100000) :
    Calls Try.prog 13 #[.slice a l cap, .int .u32 (n : Int)] w fun e w' => ∃ v, e = .returned v ∧ Own w' w.heap.size v (zs ++ be 4 n) ∧ Below w.heap.size w w' := by
  go_enter Try.func13, Try.ntmps13
  go_wp2_with fail
  refine (put_4 n hn a l cap zs _ hl hb hnil hm).mono ?_
  rintro e w1 ⟨v1, rfl, ho, hb1⟩
  go_wp2
  obtain ⟨a6, c6, rfl, _, _, _⟩ := ho.form
  go_ret
  exact ⟨_, rfl, ho, hb1⟩
/-- a text's writing -/
def txt (s : ByteArray) : List Int := ((min s.size 255 : Nat) : Int) :: nums (s.extract 0 (min s.size 255))

theorem txt_short (s : ByteArray) (h : s.size ≤ 255) : txt s = (s.size : Int) :: nums s := by
  unfold txt
  rw [Nat.min_eq_left h]
  congr
  exact ByteArray.extract_zero_size
theorem txt_long (s : ByteArray) (h : 255 < s.size) : txt s = 255 :: nums (s.extract 0 255) := by
  unfold txt
  rw [Nat.min_eq_right (by omega)]
  rfl

end Go.Proofs.Ytcbigopfmiiadaa.Pack
