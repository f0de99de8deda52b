/-
  Blocks that hold lifts and ranges, told apart: what Over begins with.
-/
import Derived.Test.YtmnngfbcgpholaaLPairs
import Derived.Deep.CutRange
import Derived.Deep.RegionWith
namespace Go.Proofs.Ytmnngfbcgpholaa.Key
open Go.RowKit
open Go.Op (bytesLess)

theorem boxes3 {w w' : World} {v0 v1 x0 x1 x2 y0 y1 y2 : Value}
    (h : Below (((w.alloc (.cells #[v0, v1] 43)).alloc (.cells #[x0, x1, x2] 55)).alloc (.cells #[y0, y1, y2] 55)).drew.heap.size
      (((w.alloc (.cells #[v0, v1] 43)).alloc (.cells #[x0, x1, x2] 55)).alloc (.cells #[y0, y1, y2] 55)).drew w') :
    Pair w' w.heap.size v0 v1 ∧ Box w' (w.heap.size + 1) x0 x1 x2 ∧ Box w' (w.heap.size + 1 + 1) y0 y1 y2 ∧ Below w.heap.size w w' := by
  have q0 := ((Pair.new w v0 v1).alloc (.cells #[x0, x1, x2] 55)).alloc (.cells #[y0, y1, y2] 55)
  have q1 := (Box.new (w.alloc (.cells #[v0, v1] 43)) x0 x1 x2).alloc (.cells #[y0, y1, y2] 55)
  have q2 := Box.new ((w.alloc (.cells #[v0, v1] 43)).alloc (.cells #[x0, x1, x2] 55)) y0 y1 y2
  have s1 : (w.alloc (.cells #[v0, v1] 43)).heap.size = w.heap.size + 1 := by simp
  have s2 : ((w.alloc (.cells #[v0, v1] 43)).alloc (.cells #[x0, x1, x2] 55)).heap.size = w.heap.size + 1 + 1 := by simp
  rw [s1] at q1
  rw [s2] at q2
  have hb : Below w.heap.size w (((w.alloc (.cells #[v0, v1] 43)).alloc (.cells #[x0, x1, x2] 55)).alloc (.cells #[y0, y1, y2] 55)).drew := (below_3 _ _ _ _).drew
  generalize ((w.alloc (.cells #[v0, v1] 43)).alloc (.cells #[x0, x1, x2] 55)).alloc (.cells #[y0, y1, y2] 55) = u at *
  have p0 : Pair u.drew w.heap.size v0 v1 := q0
  have p1 : Box u.drew (w.heap.size + 1) x0 x1 x2 := q1
  have p2 : Box u.drew (w.heap.size + 1 + 1) y0 y1 y2 := q2
  exact ⟨p0.later h, p1.later h, p2.later h, hb.trans (h.mono hb.size)⟩

theorem boxes4f {w w' : World} {v0 v1 x0 x1 x2 y0 y1 y2 z0 z1 z2 : Value}
    (h : Below ((((w.alloc (.cells #[v0, v1] 43)).alloc (.cells #[x0, x1, x2] 55)).alloc (.cells #[y0, y1, y2] 55)).alloc (.cells #[z0, z1, z2] 55)).drew.heap.size
      ((((w.alloc (.cells #[v0, v1] 43)).alloc (.cells #[x0, x1, x2] 55)).alloc (.cells #[y0, y1, y2] 55)).alloc (.cells #[z0, z1, z2] 55)).drew w') :
    Pair w' w.heap.size v0 v1 ∧ Box w' (w.heap.size + 1) x0 x1 x2 ∧ Box w' (w.heap.size + 1 + 1) y0 y1 y2 ∧ Box w' (w.heap.size + 1 + 1 + 1) z0 z1 z2 ∧ Below w.heap.size w w' := by
  have q0 := (((Pair.new w v0 v1).alloc (.cells #[x0, x1, x2] 55)).alloc (.cells #[y0, y1, y2] 55)).alloc (.cells #[z0, z1, z2] 55)
  have q1 := ((Box.new (w.alloc (.cells #[v0, v1] 43)) x0 x1 x2).alloc (.cells #[y0, y1, y2] 55)).alloc (.cells #[z0, z1, z2] 55)
  have q2 := (Box.new ((w.alloc (.cells #[v0, v1] 43)).alloc (.cells #[x0, x1, x2] 55)) y0 y1 y2).alloc (.cells #[z0, z1, z2] 55)
  have q3 := Box.new (((w.alloc (.cells #[v0, v1] 43)).alloc (.cells #[x0, x1, x2] 55)).alloc (.cells #[y0, y1, y2] 55)) z0 z1 z2
  have s1 : (w.alloc (.cells #[v0, v1] 43)).heap.size = w.heap.size + 1 := by simp
  have s2 : ((w.alloc (.cells #[v0, v1] 43)).alloc (.cells #[x0, x1, x2] 55)).heap.size = w.heap.size + 1 + 1 := by simp
  have s3 : (((w.alloc (.cells #[v0, v1] 43)).alloc (.cells #[x0, x1, x2] 55)).alloc (.cells #[y0, y1, y2] 55)).heap.size = w.heap.size + 1 + 1 + 1 := by simp
  rw [s1] at q1
  rw [s2] at q2
  rw [s3] at q3
  have hb : Below w.heap.size w ((((w.alloc (.cells #[v0, v1] 43)).alloc (.cells #[x0, x1, x2] 55)).alloc (.cells #[y0, y1, y2] 55)).alloc (.cells #[z0, z1, z2] 55)).drew := ((below_3 _ _ _ _).alloc (by simp; omega) _).drew
  generalize (((w.alloc (.cells #[v0, v1] 43)).alloc (.cells #[x0, x1, x2] 55)).alloc (.cells #[y0, y1, y2] 55)).alloc (.cells #[z0, z1, z2] 55) = u at *
  have p0 : Pair u.drew w.heap.size v0 v1 := q0
  have p1 : Box u.drew (w.heap.size + 1) x0 x1 x2 := q1
  have p2 : Box u.drew (w.heap.size + 1 + 1) y0 y1 y2 := q2
  have p3 : Box u.drew (w.heap.size + 1 + 1 + 1) z0 z1 z2 := q3
  exact ⟨p0.later h, p1.later h, p2.later h, p3.later h, hb.trans (h.mono hb.size)⟩
theorem Box.put {w : World} {k : Nat} {v0 v1 v2 : Value} (h : Box w k v0 v1 v2) (y0 y1 y2 : Value) : Box (((w.setCell ⟨k, 0, none⟩ y0).setCell ⟨k, 1, none⟩ y1).setCell ⟨k, 2, none⟩ y2) k y0 y1 y2 :=
  Go.Joins.block_setCell (Go.Joins.block_setCell (Go.Joins.block_setCell h y0) y1) y2
theorem Box.beside {w : World} {k k' : Nat} {v0 v1 v2 : Value} (h : Box w k v0 v1 v2) (hne : k < k') (y0 y1 y2 : Value) : Box (((w.setCell ⟨k', 0, none⟩ y0).setCell ⟨k', 1, none⟩ y1).setCell ⟨k', 2, none⟩ y2) k v0 v1 v2 := by
  unfold Box
  rw [Below.heap_setCell _ _ _ _ (Nat.ne_of_lt hne), Below.heap_setCell _ _ _ _ (Nat.ne_of_lt hne), Below.heap_setCell _ _ _ _ (Nat.ne_of_lt hne)]
  exact h
theorem Box.put0 {w : World} {k : Nat} {v0 v1 v2 : Value} (h : Box w k v0 v1 v2) (y0 : Value) : Box (w.setCell ⟨k, 0, none⟩ y0) k y0 v1 v2 := Go.Joins.block_setCell h y0
theorem Box.beside1 {w : World} {k k' : Nat} {v0 v1 v2 : Value} (h : Box w k v0 v1 v2) (hne : k ≠ k') (y0 : Value) : Box (w.setCell ⟨k', 0, none⟩ y0) k v0 v1 v2 := (Below.heap_setCell _ _ _ _ hne).trans h
theorem Pair.beside3 {w : World} {k k' : Nat} {v0 v1 : Value} (h : Pair w k v0 v1) (hne : k < k') (y0 y1 y2 : Value) : Pair (((w.setCell ⟨k', 0, none⟩ y0).setCell ⟨k', 1, none⟩ y1).setCell ⟨k', 2, none⟩ y2) k v0 v1 := by
  unfold Pair
  rw [Below.heap_setCell _ _ _ _ (Nat.ne_of_lt hne), Below.heap_setCell _ _ _ _ (Nat.ne_of_lt hne), Below.heap_setCell _ _ _ _ (Nat.ne_of_lt hne)]
  exact h
theorem Below.put3 {w w' : World} {k : Nat} (h : Below w.heap.size w w') (hk : w.heap.size + 1 + 1 < k) (y0 y1 y2 : Value) : Below w.heap.size w (((w'.setCell ⟨k, 0, none⟩ y0).setCell ⟨k, 1, none⟩ y1).setCell ⟨k, 2, none⟩ y2) := by
  have hle : w.heap.size ≤ k := by omega
  exact ((h.setCell hle _).setCell hle _).setCell hle _
/-- a lift, the answer's block, and a third block: what is left of the beginning of Over -/
def Begun (w u : World) (k : Nat) (s a L H : ByteArray) (E : Bool) : Prop :=
  Pair u w.heap.size (.string s) (.string a) ∧ Box u (w.heap.size + 1 + 1) (.string ⟨#[]⟩) (.string ⟨#[]⟩) (.bool false) ∧ Box u k (.string L) (.string H) (.bool E) ∧ Below w.heap.size w u ∧ w.heap.size + 1 + 1 < k
theorem begun_new {w u : World} {s a : ByteArray} (L H : ByteArray) (E : Bool) (A : Pair u w.heap.size (.string s) (.string a)) (Z : Box u (w.heap.size + 1 + 1) (.string ⟨#[]⟩) (.string ⟨#[]⟩) (.bool false)) (hb : Below w.heap.size w u) :
    Begun w (u.alloc (.cells #[.string L, .string H, .bool E] 55)) u.heap.size s a L H E :=
  ⟨A.alloc _, Z.alloc _, Box.new _ _ _ _, hb.alloc hb.size _, Z.lt⟩
theorem begun_put {w u : World} {k : Nat} {s a : ByteArray} {v0 v1 v2 : Value} (L H : ByteArray) (E : Bool) (A : Pair u w.heap.size (.string s) (.string a)) (Z : Box u (w.heap.size + 1 + 1) (.string ⟨#[]⟩) (.string ⟨#[]⟩) (.bool false)) (F : Box u k v0 v1 v2) (hb : Below w.heap.size w u) (hk : w.heap.size + 1 + 1 < k) :
    Begun w (((u.setCell ⟨k, 0, none⟩ (.string L)).setCell ⟨k, 1, none⟩ (.string H)).setCell ⟨k, 2, none⟩ (.bool E)) k s a L H E :=
  ⟨A.beside3 (by omega) _ _ _, Z.beside hk _ _ _, F.put _ _ _, Below.put3 hb hk _ _ _, hk⟩

/-- which one Over answers -/
def overV (b E t : Bool) (v1 v2 v3 : Value) : Value := if b then v1 else if E && t then v2 else v3

end Go.Proofs.Ytmnngfbcgpholaa.Key
