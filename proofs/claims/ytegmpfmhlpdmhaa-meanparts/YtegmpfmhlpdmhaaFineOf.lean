/-
  Sizes of a graph that is gone through.
-/
import Derived.Test.YtegmpfmhlpdmhaaRight
import Derived.Test.YtegmpfmhlpdmhaaKi
namespace Go.Proofs.Ytegmpfmhlpdmhaa.Key
open Go.RowKit
set_option linter.unusedVariables false
set_option linter.unusedSimpArgs false

theorem fine_of {l : List It} (h : greatI l = false) (hin : ∀ x ∈ l, x.In) : Fine l ∧ l.length ≤ 30 := by
  unfold greatI at h
  simp only [Bool.or_eq_false_iff, decide_eq_false_iff_not] at h
  have h30 : l.length ≤ 30 := by omega
  exact ⟨⟨by omega, hin, fun x hx => small_of (any_no h.2 x hx) (hin x hx).nd⟩, h30⟩
end Go.Proofs.Ytegmpfmhlpdmhaa.Key
