/-
  Contracts of Over, the document's.
-/
import Derived.Test.YtmnngfbcgpholaaLBoxes
namespace Go.Proofs.Ytmnngfbcgpholaa.Key
open Go.RowKit
open Go.Op (bytesLess)

theorem step3 {w2 w3 : World} {x0 x1 x2 : Value} (h : Below (w2.alloc (.cells #[x0, x1, x2] 55)).drew.heap.size (w2.alloc (.cells #[x0, x1, x2] 55)).drew w3) :
    Box w3 w2.heap.size x0 x1 x2 ∧ (∀ k v0 v1 v2, Box w2 k v0 v1 v2 → Box w3 k v0 v1 v2) ∧ ∀ w : World, Below w.heap.size w w2 → Below w.heap.size w w3 := by
  have p0 : Box (w2.alloc (.cells #[x0, x1, x2] 55)).drew w2.heap.size x0 x1 x2 := Box.new w2 x0 x1 x2
  refine ⟨p0.later h, fun k v0 v1 v2 hk => ?_, fun w hw => ?_⟩
  · have p1 : Box (w2.alloc (.cells #[x0, x1, x2] 55)).drew k v0 v1 v2 := hk.alloc _
    exact p1.later h
  · have hb := (hw.alloc hw.size (.cells #[x0, x1, x2] 55)).drew
    exact hb.trans (h.mono hb.size)

end Go.Proofs.Ytmnngfbcgpholaa.Key
