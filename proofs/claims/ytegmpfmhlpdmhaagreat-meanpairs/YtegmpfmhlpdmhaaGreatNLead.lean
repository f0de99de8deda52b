/-
  Contracts of Lead and Step, the document's.
-/
import Derived.Test.YtegmpfmhlpdmhaaGreatKk
import Derived.Test.YtegmpfmhlpdmhaaGreatKr
import Derived.Test.YtegmpfmhlpdmhaaGreatKd
namespace Go.Proofs.YtegmpfmhlpdmhaaGreat.Key
open Go.RowKit Draw
open Go.Op (bytesLess)

theorem EBox.put {w : World} {k : Nat} {e0 : E} (h : EBox w k e0) (e : E) :
    EBox ((((w.setCell ⟨k, 0, none⟩ (.int .u32 e.blk)).setCell ⟨k, 1, none⟩ (.int .u16 e.deep)).setCell ⟨k, 2, none⟩ (.string e.strip)).setCell ⟨k, 3, none⟩ (.string e.add)) k e :=
  Go.Joins.block_setCell (Go.Joins.block_setCell (Go.Joins.block_setCell (Go.Joins.block_setCell h _) _) _) _

theorem WBox.beside4 {w : World} {k g : Nat} {v0 v1 v2 v3 v4 : Value} (h : WBox w k v0 v1 v2 v3 v4) (hne : k < g) (y0 y1 y2 y3 : Value) :
    WBox ((((w.setCell ⟨g, 0, none⟩ y0).setCell ⟨g, 1, none⟩ y1).setCell ⟨g, 2, none⟩ y2).setCell ⟨g, 3, none⟩ y3) k v0 v1 v2 v3 v4 := by
  unfold WBox
  rw [Below.heap_setCell _ _ _ _ (Nat.ne_of_lt hne), Below.heap_setCell _ _ _ _ (Nat.ne_of_lt hne), Below.heap_setCell _ _ _ _ (Nat.ne_of_lt hne), Below.heap_setCell _ _ _ _ (Nat.ne_of_lt hne)]
  exact h
theorem below_four {B k : Nat} {w w' : World} (h : Below B w w') (hk : B ≤ k) (v0 v1 v2 v3 : Value) :
    Below B w ((((w'.setCell ⟨k, 0, none⟩ v0).setCell ⟨k, 1, none⟩ v1).setCell ⟨k, 2, none⟩ v2).setCell ⟨k, 3, none⟩ v3) :=
  (((h.setCell (p := ⟨k, 0, none⟩) hk _).setCell (p := ⟨k, 1, none⟩) hk _).setCell (p := ⟨k, 2, none⟩) hk _).setCell (p := ⟨k, 3, none⟩) hk _
theorem EBox.free {w : World} {k : Nat} {e : E} (h : EBox w k e) (i : Nat) : w.frozen? ⟨k, i, none⟩ = false := frozen_of_row _ _ i _ _ h

end Go.Proofs.YtegmpfmhlpdmhaaGreat.Key
