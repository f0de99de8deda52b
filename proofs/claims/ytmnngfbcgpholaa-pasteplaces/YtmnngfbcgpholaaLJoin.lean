/-
  Contracts of Join, the program's and the document's, and the document's examples, as each statement asks them.
-/
import Derived.Test.YtmnngfbcgpholaaLGo
import Derived.Laws.StructEq
namespace Go.Proofs.Ytmnngfbcgpholaa.Key
open Go.RowKit
open Go.Op (bytesLess)

/-- what Join answers -/
def joS (o : Option Lft) : ByteArray := str ((o.map Lft.strip).getD [])
def joA (o : Option Lft) : ByteArray := str ((o.map Lft.add).getD [])
theorem join_front {s p q d : ByteArray} (h : has p.data.toList q.data.toList = true) :
    joS (joinO (lf s p) (lf q d)) = s ∧ joA (joinO (lf s p) (lf q d)) = upS (lf q d) p.data.toList ∧ (joinO (lf s p) (lf q d)).isSome = true := by
  have e : joinO (lf s p) (lf q d) = some ⟨s.data.toList, d.data.toList ++ p.data.toList.drop q.data.toList.length⟩ := by
    unfold joinO
    rw [show has (lf s p).add (lf q d).strip = true from h]
    rfl
  rw [e]
  refine ⟨str_eq s, ?_, rfl⟩
  unfold upS up
  rw [show has p.data.toList (lf q d).strip = true from h]
  rfl
theorem join_back {s p q d : ByteArray} (h0 : has p.data.toList q.data.toList = false) (h : has q.data.toList p.data.toList = true) :
    joS (joinO (lf s p) (lf q d)) = upS (lf p s) q.data.toList ∧ joA (joinO (lf s p) (lf q d)) = d ∧ (joinO (lf s p) (lf q d)).isSome = true := by
  have e : joinO (lf s p) (lf q d) = some ⟨s.data.toList ++ q.data.toList.drop p.data.toList.length, d.data.toList⟩ := by
    unfold joinO
    rw [show has (lf s p).add (lf q d).strip = false from h0, show has (lf q d).strip (lf s p).add = true from h]
    rfl
  rw [e]
  refine ⟨?_, str_eq d, rfl⟩
  unfold upS up
  rw [show has q.data.toList (lf p s).strip = true from h]
  rfl
theorem join_no {s p q d : ByteArray} (h0 : has p.data.toList q.data.toList = false) (h : has q.data.toList p.data.toList = false) : joinO (lf s p) (lf q d) = none := by
  unfold joinO
  rw [show has (lf s p).add (lf q d).strip = false from h0, show has (lf q d).strip (lf s p).add = false from h]
  rfl

theorem pairs3 {w w' : World} {v0 v1 x0 x1 y0 y1 : Value}
    (h : Below (((w.alloc (.cells #[v0, v1] 43)).alloc (.cells #[x0, x1] 43)).alloc (.cells #[y0, y1] 43)).heap.size
      (((w.alloc (.cells #[v0, v1] 43)).alloc (.cells #[x0, x1] 43)).alloc (.cells #[y0, y1] 43)) w') :
    Pair w' w.heap.size v0 v1 ∧ Pair w' (w.heap.size + 1) x0 x1 ∧ Pair w' (w.heap.size + 1 + 1) y0 y1 ∧ Below w.heap.size w w' := by
  have q0 := (((Pair.new w v0 v1).alloc (.cells #[x0, x1] 43)).alloc (.cells #[y0, y1] 43)).later h
  have q1 := ((Pair.new (w.alloc (.cells #[v0, v1] 43)) x0 x1).alloc (.cells #[y0, y1] 43)).later h
  have q2 := (Pair.new ((w.alloc (.cells #[v0, v1] 43)).alloc (.cells #[x0, x1] 43)) y0 y1).later h
  have s1 : (w.alloc (.cells #[v0, v1] 43)).heap.size = w.heap.size + 1 := by simp
  have s2 : ((w.alloc (.cells #[v0, v1] 43)).alloc (.cells #[x0, x1] 43)).heap.size = w.heap.size + 1 + 1 := by simp
  rw [s1] at q1
  rw [s2] at q2
  have hb : Below w.heap.size w (((w.alloc (.cells #[v0, v1] 43)).alloc (.cells #[x0, x1] 43)).alloc (.cells #[y0, y1] 43)) := (below_two _ _ _).alloc (by simp; omega) _
  exact ⟨q0, q1, q2, hb.trans (h.mono hb.size)⟩

end Go.Proofs.Ytmnngfbcgpholaa.Key
