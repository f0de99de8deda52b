/-
  Contract of Find, the program's.
-/
import Derived.Test.YtegmpfmhlpdmhaaGreatRight
import Derived.Test.YtegmpfmhlpdmhaaGreatBump
namespace Go.Proofs.YtegmpfmhlpdmhaaGreat.Key
open Go.RowKit Draw
set_option linter.unusedVariables false
set_option linter.unusedSimpArgs false

def zeroN : Nd := ⟨false, [], [], [], []⟩
/-- the node found, or the zero value -/
def foundN (l : List It) (b : Int) : Nd := ((findI l b).map (·.nd)).getD zeroN
theorem find_hit {l : List It} {b : Int} {j : Nat} (h : j < l.length) (hn : findI (l.take j) b = none) (hb : l[j].blk = b) : findI l b = some l[j] := by
  unfold findI at *
  rw [List.find?_eq_some_iff_getElem]
  refine ⟨by simpa using hb, j, h, rfl, fun i hi => ?_⟩
  rw [List.find?_eq_none] at hn
  have := hn l[i] (by rw [List.mem_take_iff_getElem]; exact ⟨i, by omega, rfl⟩)
  simpa using this
theorem find_next {l : List It} {b : Int} {j : Nat} (h : j < l.length) (hn : findI (l.take j) b = none) (hb : l[j].blk ≠ b) : findI (l.take (j + 1)) b = none := by
  unfold findI at *
  rw [List.take_succ_eq_append_getElem h, List.find?_append, hn]
  simp [hb]
end Go.Proofs.YtegmpfmhlpdmhaaGreat.Key
