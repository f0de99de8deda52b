/-
  Contracts of Common, the program's, and of Inside, the document's.
-/
import Derived.Test.YtmnngfbcgpholaaLCutRef
import Derived.Deep.Quiet
namespace Go.Proofs.Ytmnngfbcgpholaa.Key
open Go.RowKit
open Go.Op (bytesLess)

theorem same_byte {x y : UInt8} (h : (((x.toNat : Nat) : Int) == ((y.toNat : Nat) : Int)) = true) : x = y := by
  rw [u8_eq]
  have := eq_of_beq h
  omega
theorem other_byte {x y : UInt8} (h : (((x.toNat : Nat) : Int) == ((y.toNat : Nat) : Int)) = false) : x ≠ y := by
  rintro rfl
  simp at h
theorem inside_less (lo hi lo' hi' : ByteArray) (e e' : Bool) : insideR (rg lo hi e) (rg lo' hi' e') = (emptyR (rg lo hi e) || (!bytesLess lo.toList lo'.toList && (!e' || (e && (bytesLess hi.toList hi'.toList || hi.toList == hi'.toList))))) := by
  rw [le_str, less_str]; rfl
set_option maxRecDepth 100000 in
set_option maxHeartbeats 1000000 in
theorem inside31 (lo hi lo' hi' : ByteArray) (e e' : Bool) (w : World) :
    Calls Try.prog 23 #[.agg #[.string lo, .string hi, .bool e], .agg #[.string lo', .string hi', .bool e']] w fun x w' => x = .returned (.bool (insideR (rg lo hi e) (rg lo' hi' e'))) ∧ Below w.heap.size w w' := by
  rw [inside_less]
  have HE := empty28 lo hi e
  generalize emptyR (rg lo hi e) = E at *
  go_enter Try.func23, Try.ntmps23
  go_wp2_with fail
  refine (HE _).mono ?_
  clear HE
  rintro x w' ⟨rfl, hbw⟩
  have hx := ((Box.new w (.string lo) (.string hi) (.bool e)).alloc (.cells #[.string lo', .string hi', .bool e'] 55)).later hbw
  have hy := (Box.new (w.alloc (.cells #[.string lo, .string hi, .bool e] 55)) (.string lo') (.string hi') (.bool e')).later hbw
  have hb : Below w.heap.size w w' := (Below.alloc (below_box _ _) (by simp) _).trans (hbw.mono (by simp; omega))
  clear hbw
  rw [show (w.alloc (.cells #[.string lo, .string hi, .bool e] 55)).heap.size = w.heap.size + 1 by simp] at hy
  obtain ⟨a0, a1, a2⟩ := hx.cells
  obtain ⟨b0, b1, b2⟩ := hy.cells
  generalize w.heap.size + 1 = k1 at *
  cases E
  · cases h1 : bytesLess lo.toList lo'.toList
    · cases e'
      · go_wp2_with fail
        go_ret
        exact ⟨ret_bool (by rw [h1]; rfl), hb⟩
      · cases e
        · go_wp2_with fail
          go_ret
          exact ⟨ret_bool (by rw [h1]; rfl), hb⟩
        · cases h2 : bytesLess hi.toList hi'.toList
          · cases h3 : (hi.toList == hi'.toList)
            all_goals
              go_wp2_with fail
              go_ret
              exact ⟨ret_bool (by rw [h1, h2, h3]; rfl), hb⟩
          · go_wp2_with fail
            go_ret
            exact ⟨ret_bool (by rw [h1, h2]; rfl), hb⟩
    · go_wp2_with fail
      go_ret
      exact ⟨ret_bool (by rw [h1]; rfl), hb⟩
  · go_wp2_with fail
    go_ret
    exact ⟨rfl, hb⟩
end Go.Proofs.Ytmnngfbcgpholaa.Key
