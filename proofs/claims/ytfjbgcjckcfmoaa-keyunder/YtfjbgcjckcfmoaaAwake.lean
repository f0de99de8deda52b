/-
  The document's examples, as each statement asks them.
-/
import Derived.Test.YtfjbgcjckcfmoaaCutRef
namespace Go.Proofs.Ytfjbgcjckcfmoaa.Key
open Go.RowKit
open Go.Op (bytesLess)

/-- x isn't above y, as the walk asks it -/
theorem le_two {x y : ByteArray} (h : bytesLess y.data.toList x.data.toList = false) : bytesLess x.toList y.toList = true ∨ (bytesLess x.toList y.toList = false ∧ (x.toList == y.toList) = true) := by
  rw [Lib.toList_data, Lib.toList_data]
  cases hc : bytesLess x.data.toList y.data.toList
  · exact .inr ⟨rfl, by rw [less_same h hc]; simp⟩
  · exact .inl rfl
set_option maxHeartbeats 1000000 in
theorem awake9 (w : World) : Calls Try.prog 9 #[] w fun x w' => x = .returned (.bool true) ∧ Below w.heap.size w w' := by
  have H1 := fun w => succ10 ⟨#[97, 255]⟩ w (by decide)
  have e1 : sucS (⟨#[97, 255]⟩ : ByteArray).data.toList = ⟨#[98]⟩ := by rfl
  have e2 : sucO (⟨#[97, 255]⟩ : ByteArray).data.toList = true := by rfl
  rw [e1, e2] at H1
  have H2 := fun w => under24 ⟨#[97, 98]⟩ ⟨#[97, 99]⟩ true w (by decide) (by decide)
  have e3 : str (under (rg ⟨#[97, 98]⟩ ⟨#[97, 99]⟩ true)) = ⟨#[97, 98]⟩ := by rfl
  rw [e3] at H2
  have H3 := fun w => between17 ⟨#[97, 98, 99]⟩ ⟨#[97, 98, 122, 122]⟩ w (by decide) (by decide)
  have e4 : str (between (⟨#[97, 98, 99]⟩ : ByteArray).data.toList (⟨#[97, 98, 122, 122]⟩ : ByteArray).data.toList) = ⟨#[97, 98, 122]⟩ := by rfl
  rw [e4] at H3
  clear e1 e2 e3 e4
  go_enter Try.func9, Try.ntmps9
  go_wp2_with fail
  refine (H1 _).mono ?_
  clear H1
  rintro x w1 ⟨rfl, hb1⟩
  go_wp2_with fail
  refine (H2 _).mono ?_
  clear H2
  rintro x w2 ⟨rfl, hb2⟩
  go_wp2_with fail
  refine (H3 _).mono ?_
  clear H3
  rintro x w3 ⟨rfl, hb3⟩
  go_wp2_with fail
  go_ret
  exact ⟨rfl, (hb1.trans (hb2.mono hb1.size)).trans (hb3.mono (Nat.le_trans hb1.size hb2.size))⟩
end Go.Proofs.Ytfjbgcjckcfmoaa.Key
