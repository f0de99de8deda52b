/-
  Contract of the program's Ways.
  Contract of the program's Ways, of any items.
  Contract of the document's Get.
  Sizes of a graph that is gone through.
  The walk of MeanGets.
-/
import Derived.Test.YtegmpfmhlpdmhaaGreatKs
import Derived.Test.YtegmpfmhlpdmhaaGreatKc
import Derived.Test.YtegmpfmhlpdmhaaGreatKv
import Derived.Test.YtegmpfmhlpdmhaaGreatRWays
import Derived.Shelf.SlSortCmp.NoneTotal
import Derived.Test.YtegmpfmhlpdmhaaGreatRightRef
import Derived.Test.YtegmpfmhlpdmhaaGreatNLead
import Derived.Test.YtegmpfmhlpdmhaaGreatGet
import Derived.Test.YtegmpfmhlpdmhaaGreatRight
import Derived.Test.YtegmpfmhlpdmhaaGreatKi
import Derived.Test.YtegmpfmhlpdmhaaGreatAwake
namespace Go.Proofs.YtegmpfmhlpdmhaaGreat.Key
open Go.RowKit
set_option linter.unusedVariables false
set_option linter.unusedSimpArgs false

def wF (l S : List It) : Int → Option Value := fun z => if hasW S z then some (.int .i64 ((waysM l z : Nat) : Int)) else none
theorem wF_put {l S : List It} {j : Nat} (h : j < S.length) : putV (wF l (S.take j)) S[j].blk (.int .i64 ((waysM l S[j].blk : Nat) : Int)) = wF l (S.take (j + 1)) := by
  funext z
  unfold putV wF
  rw [hasW_snoc h]
  by_cases e : S[j].blk = z
  · subst e; simp
  · simp [e]
theorem wF_at {l S : List It} {z : Int} (h : hasW S z = true) : (wF l S z).getD (.int .i64 0) = .int .i64 ((waysM l z : Nat) : Int) := by
  unfold wF
  rw [if_pos h]
  rfl
theorem wF_end {l rl : List It} (hp : rl.Perm l) (hr : rightB l = true) (z : Int) : (wF l rl z).getD (.int .i64 0) = .int .i64 ((waysR l z : Nat) : Int) := by
  unfold wF
  rw [hasW_all hp]
  unfold waysR
  rw [if_pos hr]
  cases hf : findI l z with
  | none => rw [ways_out hf]; rfl
  | some x => rfl
end Go.Proofs.YtegmpfmhlpdmhaaGreat.Key

namespace Go.Proofs.YtegmpfmhlpdmhaaGreat.Key
open Go.RowKit
set_option linter.unusedVariables false
set_option linter.unusedSimpArgs false

def noF : Int → Option Value := fun _ => none
theorem noF_at (z : Int) : (noF z).getD (.int .i64 0) = .int .i64 0 := rfl
theorem fine_nil : Fine [] := ⟨by simp, fun x hx => by simp at hx, fun x hx => by simp at hx⟩
theorem ways_nil (root : Int) : waysR [] root = 0 := by
  unfold waysR
  split
  · exact ways_out rfl
  · rfl
end Go.Proofs.YtegmpfmhlpdmhaaGreat.Key

namespace Go.Proofs.YtegmpfmhlpdmhaaGreat.Key
open Go.RowKit
set_option linter.unusedVariables false
set_option linter.unusedSimpArgs false

end Go.Proofs.YtegmpfmhlpdmhaaGreat.Key

namespace Go.Proofs.YtegmpfmhlpdmhaaGreat.Key
open Go.RowKit
set_option linter.unusedVariables false
set_option linter.unusedSimpArgs false

theorem fine_of {l : List It} (h : greatI l = false) (hin : ∀ x ∈ l, x.In) : Fine l ∧ l.length ≤ 30 := by
  unfold greatI at h
  simp only [Bool.or_eq_false_iff, decide_eq_false_iff_not] at h
  have h30 : l.length ≤ 30 := by omega
  exact ⟨⟨by omega, hin, fun x hx => small_of (any_no h.2 x hx) (hin x hx).nd⟩, h30⟩
end Go.Proofs.YtegmpfmhlpdmhaaGreat.Key

namespace Go.Proofs.YtegmpfmhlpdmhaaGreat.Key
open Go.RowKit
set_option linter.unusedVariables false
set_option linter.unusedSimpArgs false

theorem dep_le (l : List It) (b : Int) : depM l b ≤ l.length := by
  unfold depM
  cases hs : seenI l b with
  | none => exact Nat.zero_le _
  | some x =>
    obtain ⟨hr, hf⟩ := seen_some hs
    have := right_len hr (find_in hf)
    dsimp only
    omega
end Go.Proofs.YtegmpfmhlpdmhaaGreat.Key
