/-
  Operations of a region that only reads, where the guard is read by looking.
-/
import Derived.Test.YtmnngfbcgpholaaTApp
import Derived.BigQuiet
namespace Go.Proofs.Ytmnngfbcgpholaa.Key
open Go.RowKit

theorem quiet_v {P : Program} {C : World → Prop} {K : Act → Prop} {a : Act} {o : Oper} (v : Value) (hv : ∀ u, C u → (execOp a.eval o).run P u = .ok (.value v) u) (h : K (a.put o.dst v)) : o.quiet P a C K := by
  refine ⟨v, fun u hu => ?_, h⟩
  unfold Oper.quietAt
  rw [hv u hu]
  exact ⟨rfl, rfl⟩
theorem quiet_c {P : Program} {C : World → Prop} {K : Act → Prop} {a : Act} {o : Oper} (v : Value) (f : FuncId) (args : Array Value)
    (hv : ∀ u, C u → (execOp a.eval o).run P u = .ok (.enter f args) u) (hc : ∀ u, C u → Calls P f args u fun e u' => e = .returned v ∧ C u') (h : K (a.put o.dst v)) : o.quiet P a C K := by
  refine ⟨v, fun u hu => ?_, h⟩
  unfold Oper.quietAt
  rw [hv u hu]
  exact ⟨rfl, hc u hu⟩
end Go.Proofs.Ytmnngfbcgpholaa.Key
