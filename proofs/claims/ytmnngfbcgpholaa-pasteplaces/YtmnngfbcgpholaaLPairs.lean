/-
  What is known of joined lifts in the walks: their sizes, what they answer; blocks that hold lifts, told apart.
-/
import Derived.Test.YtmnngfbcgpholaaLJoinRef
import Derived.Lib.SmallJoins
namespace Go.Proofs.Ytmnngfbcgpholaa.Key
open Go.RowKit
open Go.Op (bytesLess)

theorem Pair.put {w : World} {k : Nat} {v0 v1 : Value} (h : Pair w k v0 v1) (y0 y1 : Value) : Pair ((w.setCell ⟨k, 0, none⟩ y0).setCell ⟨k, 1, none⟩ y1) k y0 y1 :=
  Go.Joins.block_setCell (Go.Joins.block_setCell h y0) y1
theorem Pair.beside {w : World} {k k' : Nat} {v0 v1 : Value} (h : Pair w k v0 v1) (hne : k ≠ k') (y0 y1 : Value) : Pair ((w.setCell ⟨k', 0, none⟩ y0).setCell ⟨k', 1, none⟩ y1) k v0 v1 := by
  unfold Pair
  rw [Below.heap_setCell _ _ _ _ hne, Below.heap_setCell _ _ _ _ hne]
  exact h
theorem two_pairs (w : World) (v0 v1 x0 x1 : Value) : Pair ((w.alloc (.cells #[v0, v1] 43)).alloc (.cells #[x0, x1] 43)) w.heap.size v0 v1 ∧ Pair ((w.alloc (.cells #[v0, v1] 43)).alloc (.cells #[x0, x1] 43)) (w.heap.size + 1) x0 x1 := by
  have h := Pair.new (w.alloc (.cells #[v0, v1] 43)) x0 x1
  rw [show (w.alloc (.cells #[v0, v1] 43)).heap.size = w.heap.size + 1 by simp] at h
  exact ⟨(Pair.new w v0 v1).alloc _, h⟩
theorem three_pairs (w : World) (v0 v1 x0 x1 y0 y1 : Value) : Pair (((w.alloc (.cells #[v0, v1] 43)).alloc (.cells #[x0, x1] 43)).alloc (.cells #[y0, y1] 43)) w.heap.size v0 v1 ∧ Pair (((w.alloc (.cells #[v0, v1] 43)).alloc (.cells #[x0, x1] 43)).alloc (.cells #[y0, y1] 43)) (w.heap.size + 1) x0 x1 ∧
    Pair (((w.alloc (.cells #[v0, v1] 43)).alloc (.cells #[x0, x1] 43)).alloc (.cells #[y0, y1] 43)) (w.heap.size + 1 + 1) y0 y1 := by
  obtain ⟨h1, h2⟩ := two_pairs w v0 v1 x0 x1
  have h := Pair.new ((w.alloc (.cells #[v0, v1] 43)).alloc (.cells #[x0, x1] 43)) y0 y1
  rw [show ((w.alloc (.cells #[v0, v1] 43)).alloc (.cells #[x0, x1] 43)).heap.size = w.heap.size + 1 + 1 by simp] at h
  exact ⟨h1.alloc _, h2.alloc _, h⟩
theorem below_3 (w : World) (o o' o'' : Obj) : Below w.heap.size w (((w.alloc o).alloc o').alloc o'') := (below_two _ _ _).alloc (by simp; omega) _

theorem lf_str (j : Lft) : lf (str j.strip) (str j.add) = j := rfl
theorem joS_some (j : Lft) : joS (some j) = str j.strip := rfl
theorem joA_some (j : Lft) : joA (some j) = str j.add := rfl
theorem joS_none : joS none = ⟨#[]⟩ := rfl
theorem joA_none : joA none = ⟨#[]⟩ := rfl
theorem upS_of {l : Lft} {k x : List UInt8} (h : up l k = some x) : upS l k = str x := by unfold upS; rw [h]; rfl
theorem upB_of {l : Lft} {k x : List UInt8} (h : up l k = some x) : upB l k = true := by unfold upB; rw [h]; rfl
theorem upS_none {l : Lft} {k : List UInt8} (h : up l k = none) : upS l k = ⟨#[]⟩ := by unfold upS; rw [h]; rfl
theorem upB_none {l : Lft} {k : List UInt8} (h : up l k = none) : upB l k = false := by unfold upB; rw [h]; rfl
theorem join_size {a b j : Lft} (h : joinO a b = some j) : j.strip.length ≤ a.strip.length + b.strip.length ∧ j.add.length ≤ b.add.length + a.add.length := by
  unfold joinO at h
  split at h
  · cases h
    simp only [List.length_append, List.length_drop]
    omega
  · split at h
    · cases h
      simp only [List.length_append, List.length_drop]
      omega
    · cases h
theorem join_sizes {s p q d : ByteArray} {j : Lft} (h : joinO (lf s p) (lf q d) = some j) : (str j.strip).size ≤ s.size + q.size ∧ (str j.add).size ≤ d.size + p.size := by
  have := join_size h
  rw [str_size, str_size, Lib.size_eq s, Lib.size_eq q, Lib.size_eq d, Lib.size_eq p]
  exact this
/-- joined lifts go as one behind the other -/
theorem goes_none {a b : Lft} {k x : List UInt8} (h : joinO a b = none) (hx : up a k = some x) : up b x = none := by
  have := up_join a b k
  rw [h, hx] at this
  exact this.symm
theorem goes_some {a b j : Lft} {k x : List UInt8} (h : joinO a b = some j) (hx : up a k = some x) : up j k = up b x := by
  have := up_join a b k
  rw [h, hx] at this
  exact this
theorem goes_not {a b j : Lft} {k : List UInt8} (h : joinO a b = some j) (hx : up a k = none) : up j k = none := by
  have := up_join a b k
  rw [h, hx] at this
  exact this
end Go.Proofs.Ytmnngfbcgpholaa.Key
