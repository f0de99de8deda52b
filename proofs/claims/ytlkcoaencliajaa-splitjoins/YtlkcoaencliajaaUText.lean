/-
  Contracts of Common, the program's, and of Inside, the document's.
-/
import Derived.Test.YtlkcoaencliajaaLCutRef
import Derived.Deep.Quiet
namespace Go.Proofs.Ytlkcoaencliajaa.Key
open Go.RowKit
open Go.Op (bytesLess)

theorem same_byte {x y : UInt8} (h : (((x.toNat : Nat) : Int) == ((y.toNat : Nat) : Int)) = true) : x = y := by
  rw [u8_eq]
  have := eq_of_beq h
  omega
theorem other_byte {x y : UInt8} (h : (((x.toNat : Nat) : Int) == ((y.toNat : Nat) : Int)) = false) : x ≠ y := by
  rintro rfl
  simp at h
set_option maxRecDepth 100000 in
set_option maxHeartbeats 1000000 in
/-- Common, the program's -/
theorem common15 (a b : ByteArray) (w : World) (ha : a.size ≤ 1000000) (hb : b.size ≤ 1000000) :
    Calls Try.prog 56 #[.string a, .string b] w fun x w' => x = .returned (.string (str (common a.data.toList b.data.toList))) ∧ Below w.heap.size w w' := by
  obtain ⟨hl1, hl2⟩ := common_len a.data.toList b.data.toList
  have hg := hid (fun n => common_go n a.data.toList b.data.toList)
  have ht := hid (common_take a.data.toList b.data.toList)
  rw [← Lib.size_eq] at hl1 hl2
  generalize hC : (common a.data.toList b.data.toList).length = C at *
  clear hC
  go_enter Try.func56, Try.ntmps56
  go_wp2_with fail
  go_loopw [5] (fun n wr => ∃ j : Nat, j ≤ C ∧ n = .int .i64 j ∧ Below w.heap.size w wr) (fun n _ => C + 1 - (intOf n).toNat)
  case atStart => exact ⟨0, Nat.zero_le _, rfl, Below.refl _ _⟩
  case round =>
    obtain ⟨j, hj, rfl, hbw⟩ := hrel
    have hd : ∀ n, Below w.heap.size w (wr.drewN n) := fun n => ⟨hbw.os, hbw.tape, hbw.output, hbw.size, hbw.block⟩
    have HD := hid hd
    clear hd
    by_cases hin : j < a.size ∧ j < b.size
    · obtain ⟨h1, h2⟩ := hin
      have g := hid (hg.out j hj (by rw [← Lib.size_eq]; exact h1) (by rw [← Lib.size_eq]; exact h2))
      rw [← byte_at a j h1, ← byte_at b j h2] at g
      have k1 : (j : Int) < (a.size : Int) := by omega
      have k2 : (j : Int) < (b.size : Int) := by omega
      by_cases hab : (b.size : Int) < (a.size : Int)
      all_goals
        go_wp2_with fail
        go_quiet (fail)
        go_wp2
        · have hj1 := g.out.1 (same_byte ‹_›)
          exact ⟨⟨j + 1, hj1, rfl, HD.out _⟩, by simp [intOf]; omega⟩
        · have hj1 := g.out.2 (other_byte ‹_›)
          go_ret
          refine ⟨ret_str ?_, HD.out _⟩
          rw [cut_eq, ht.out, hj1]
    · have hj1 : C = j := by omega
      by_cases hab : b.size < a.size
      · have k1 : decide (j < b.size) = false := by simp; omega
        go_wp2_with fail
        go_quiet (fail)
        go_wp2
        go_ret
        refine ⟨ret_str ?_, HD.out _⟩
        rw [cut_eq, ht.out, hj1]
      · have k1 : decide (j < a.size) = false := by simp; omega
        go_wp2_with fail
        go_quiet (fail)
        go_wp2
        go_ret
        refine ⟨ret_str ?_, HD.out _⟩
        rw [cut_eq, ht.out, hj1]

theorem inside_less (lo hi lo' hi' : ByteArray) (e e' : Bool) : insideR (rg lo hi e) (rg lo' hi' e') = (emptyR (rg lo hi e) || (!bytesLess lo.toList lo'.toList && (!e' || (e && (bytesLess hi.toList hi'.toList || hi.toList == hi'.toList))))) := by
  rw [le_str, less_str]; rfl
set_option maxRecDepth 100000 in
set_option maxHeartbeats 1000000 in
theorem inside31 (lo hi lo' hi' : ByteArray) (e e' : Bool) (w : World) :
    Calls Try.prog 61 #[.agg #[.string lo, .string hi, .bool e], .agg #[.string lo', .string hi', .bool e']] w fun x w' => x = .returned (.bool (insideR (rg lo hi e) (rg lo' hi' e'))) ∧ Below w.heap.size w w' := by
  rw [inside_less]
  have HE := empty28 lo hi e
  generalize emptyR (rg lo hi e) = E at *
  go_enter Try.func61, Try.ntmps61
  go_wp2_with fail
  refine (HE _).mono ?_
  clear HE
  rintro x w' ⟨rfl, hbw⟩
  have hx := ((Box.new w (.string lo) (.string hi) (.bool e)).alloc (.cells #[.string lo', .string hi', .bool e'] 29)).later hbw
  have hy := (Box.new (w.alloc (.cells #[.string lo, .string hi, .bool e] 29)) (.string lo') (.string hi') (.bool e')).later hbw
  have hb : Below w.heap.size w w' := (Below.alloc (below_box _ _) (by simp) _).trans (hbw.mono (by simp; omega))
  clear hbw
  rw [show (w.alloc (.cells #[.string lo, .string hi, .bool e] 29)).heap.size = w.heap.size + 1 by simp] at hy
  obtain ⟨a0, a1, a2⟩ := hx.cells
  obtain ⟨b0, b1, b2⟩ := hy.cells
  generalize w.heap.size + 1 = k1 at *
  cases E
  · cases h1 : bytesLess lo.toList lo'.toList
    · cases e'
      · go_wp2_with fail
        go_ret
        exact ⟨ret_bool (by rw [h1]; rfl), hb⟩
      · cases e
        · go_wp2_with fail
          go_ret
          exact ⟨ret_bool (by rw [h1]; rfl), hb⟩
        · cases h2 : bytesLess hi.toList hi'.toList
          · cases h3 : (hi.toList == hi'.toList)
            all_goals
              go_wp2_with fail
              go_ret
              exact ⟨ret_bool (by rw [h1, h2, h3]; rfl), hb⟩
          · go_wp2_with fail
            go_ret
            exact ⟨ret_bool (by rw [h1, h2]; rfl), hb⟩
    · go_wp2_with fail
      go_ret
      exact ⟨ret_bool (by rw [h1]; rfl), hb⟩
  · go_wp2_with fail
    go_ret
    exact ⟨rfl, hb⟩
end Go.Proofs.Ytlkcoaencliajaa.Key
