/-
  Steps through a region that draws: operations that yield the same in every world of a class; a block with a lift and one with a range.
-/
import Derived.Test.YtlpnnheopalhaaaOverSay
import Derived.Laws.StructEq
namespace Go.Proofs.Ytlpnnheopalhaaa.Key
open Go.RowKit
open Go.Op (bytesLess)

/-- in a region that draws: an operation that yields v in every world of the class -/
theorem quiet_val {P : Program} {ops : Array Oper} {C : World → Prop} {K : Act → Prop} {a : Act} {o : Oper} (v : Value) (hw : Region.wanted o (yielded ops a.tmps) = true)
    (hv : ∀ u, C u → (execOp a.eval o).run P u = .ok (.value v) u) (h : K (a.put o.dst v)) : if Region.wanted o (yielded ops a.tmps) then o.quiet P a C K else K (a.put o.dst undef) := by
  rw [if_pos hw]
  refine ⟨v, fun u hu => ?_, h⟩
  unfold Oper.quietAt
  rw [hv u hu]
  exact ⟨rfl, rfl⟩
/-- .. a call that hands back v and leaves a world of the class -/
theorem quiet_call {P : Program} {ops : Array Oper} {C : World → Prop} {K : Act → Prop} {a : Act} {o : Oper} (v : Value) (f : FuncId) (args : Array Value) (hw : Region.wanted o (yielded ops a.tmps) = true)
    (hv : ∀ u, C u → (execOp a.eval o).run P u = .ok (.enter f args) u) (hc : ∀ u, C u → Calls P f args u fun e u' => e = .returned v ∧ C u') (h : K (a.put o.dst v)) : if Region.wanted o (yielded ops a.tmps) then o.quiet P a C K else K (a.put o.dst undef) := by
  rw [if_pos hw]
  refine ⟨v, fun u hu => ?_, h⟩
  unfold Oper.quietAt
  rw [hv u hu]
  exact ⟨rfl, hc u hu⟩
/-- a lift's block and a range's -/
theorem pair_box (w : World) (v0 v1 x0 x1 x2 : Value) : Pair ((w.alloc (.cells #[v0, v1] 23)).alloc (.cells #[x0, x1, x2] 25)) w.heap.size v0 v1 ∧ Box ((w.alloc (.cells #[v0, v1] 23)).alloc (.cells #[x0, x1, x2] 25)) (w.heap.size + 1) x0 x1 x2 := by
  have h := Box.new (w.alloc (.cells #[v0, v1] 23)) x0 x1 x2
  rw [show (w.alloc (.cells #[v0, v1] 23)).heap.size = w.heap.size + 1 by simp] at h
  exact ⟨(Pair.new w v0 v1).alloc _, h⟩
theorem upS_data (l : Lft) (k : List UInt8) : (upS l k).data.toList = (up l k).getD [] := rfl
end Go.Proofs.Ytlpnnheopalhaaa.Key
