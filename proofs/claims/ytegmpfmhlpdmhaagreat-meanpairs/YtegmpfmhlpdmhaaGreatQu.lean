/-
  Operations of a region that only reads, one by one. No program is named here.
  An operation of a region that is not wanted. No program is named here.
  Operations of a region that only reads, one by one, where the guard is read by looking. No program is named here.
-/
import Derived.Test.YtegmpfmhlpdmhaaGreatPp
import Derived.BigQuiet
namespace Go.Proofs.YtegmpfmhlpdmhaaGreat.Key
open Go.RowKit

theorem quiet_val {P : Program} {ops : Array Oper} {C : World → Prop} {K : Act → Prop} {a : Act} {o : Oper} (v : Value) (hw : Region.wanted o (yielded ops a.tmps) = true)
    (hv : ∀ u, C u → (execOp a.eval o).run P u = .ok (.value v) u) (h : K (a.put o.dst v)) : if Region.wanted o (yielded ops a.tmps) then o.quiet P a C K else K (a.put o.dst undef) := by
  rw [if_pos hw]
  refine ⟨v, fun u hu => ?_, h⟩
  unfold Oper.quietAt
  rw [hv u hu]
  exact ⟨rfl, rfl⟩
/-- .. a call that hands back v and leaves a world of the class -/
theorem quiet_call {P : Program} {ops : Array Oper} {C : World → Prop} {K : Act → Prop} {a : Act} {o : Oper} (v : Value) (f : FuncId) (args : Array Value) (hw : Region.wanted o (yielded ops a.tmps) = true)
    (hv : ∀ u, C u → (execOp a.eval o).run P u = .ok (.enter f args) u) (hc : ∀ u, C u → Calls P f args u fun e u' => e = .returned v ∧ C u') (h : K (a.put o.dst v)) : if Region.wanted o (yielded ops a.tmps) then o.quiet P a C K else K (a.put o.dst undef) := by
  rw [if_pos hw]
  refine ⟨v, fun u hu => ?_, h⟩
  unfold Oper.quietAt
  rw [hv u hu]
  exact ⟨rfl, hc u hu⟩
end Go.Proofs.YtegmpfmhlpdmhaaGreat.Key

namespace Go.Proofs.YtegmpfmhlpdmhaaGreat.Key
open Go.RowKit

theorem quiet_skip {P : Program} {ops : Array Oper} {C : World → Prop} {K : Act → Prop} {a : Act} {o : Oper} (hw : Region.wanted o (yielded ops a.tmps) = false)
    (h : K (a.put o.dst undef)) : if Region.wanted o (yielded ops a.tmps) then o.quiet P a C K else K (a.put o.dst undef) := by
  rw [if_neg (by rw [hw]; simp)]
  exact h

end Go.Proofs.YtegmpfmhlpdmhaaGreat.Key

namespace Go.Proofs.YtegmpfmhlpdmhaaGreat.Key
open Go.RowKit

theorem quiet_v {P : Program} {C : World → Prop} {K : Act → Prop} {a : Act} {o : Oper} (v : Value) (hv : ∀ u, C u → (execOp a.eval o).run P u = .ok (.value v) u) (h : K (a.put o.dst v)) : o.quiet P a C K := by
  refine ⟨v, fun u hu => ?_, h⟩
  unfold Oper.quietAt
  rw [hv u hu]
  exact ⟨rfl, rfl⟩
theorem quiet_c {P : Program} {C : World → Prop} {K : Act → Prop} {a : Act} {o : Oper} (v : Value) (f : FuncId) (args : Array Value)
    (hv : ∀ u, C u → (execOp a.eval o).run P u = .ok (.enter f args) u) (hc : ∀ u, C u → Calls P f args u fun e u' => e = .returned v ∧ C u') (h : K (a.put o.dst v)) : o.quiet P a C K := by
  refine ⟨v, fun u hu => ?_, h⟩
  unfold Oper.quietAt
  rw [hv u hu]
  exact ⟨rfl, hc u hu⟩
end Go.Proofs.YtegmpfmhlpdmhaaGreat.Key
