/-
  What a region that draws leaves out; two and three blocks that hold ranges.
-/
import Derived.Test.YtfjbgcjckcfmoaaAwake
import Derived.Laws.StructEq
namespace Go.Proofs.Ytfjbgcjckcfmoaa.Key
open Go.RowKit
open Go.Op (bytesLess)

/-- in a region that draws: an operation whose guard bars it -/
theorem quiet_skip {P : Program} {ops : Array Oper} {C : World → Prop} {K : Act → Prop} {a : Act} {o : Oper} (hw : Region.wanted o (yielded ops a.tmps) = false)
    (h : K (a.put o.dst undef)) : if Region.wanted o (yielded ops a.tmps) then o.quiet P a C K else K (a.put o.dst undef) := by
  rw [if_neg (by rw [hw]; decide)]
  exact h
theorem two_boxes (w : World) (v0 v1 v2 x0 x1 x2 : Value) : Box ((w.alloc (.cells #[v0, v1, v2] 29)).alloc (.cells #[x0, x1, x2] 29)) w.heap.size v0 v1 v2 ∧ Box ((w.alloc (.cells #[v0, v1, v2] 29)).alloc (.cells #[x0, x1, x2] 29)) (w.heap.size + 1) x0 x1 x2 ∧
    Below w.heap.size w ((w.alloc (.cells #[v0, v1, v2] 29)).alloc (.cells #[x0, x1, x2] 29)) := by
  refine ⟨(Box.new w v0 v1 v2).alloc _, ?_, ((Below.refl _ _).alloc (Nat.le_refl _) _).alloc (by simp) _⟩
  have h := Box.new (w.alloc (.cells #[v0, v1, v2] 29)) x0 x1 x2
  rw [show (w.alloc (.cells #[v0, v1, v2] 29)).heap.size = w.heap.size + 1 by simp] at h
  exact h
end Go.Proofs.Ytfjbgcjckcfmoaa.Key
