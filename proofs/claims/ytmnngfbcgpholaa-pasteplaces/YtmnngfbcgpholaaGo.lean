/-
  Contracts of Up, the program's and the document's; blocks that hold a lift.
-/
import Derived.Test.YtmnngfbcgpholaaMs
import Derived.Test.YtmnngfbcgpholaaWay
namespace Go.Proofs.Ytmnngfbcgpholaa.Key
open Go.RowKit
open Go.Op (bytesLess)

/-- a lift that is handed in -/
def lf (s a : ByteArray) : Lft := ⟨s.data.toList, a.data.toList⟩
/-- a lift as a value -/
abbrev lv (s a : ByteArray) : Value := .agg #[.string s, .string a]
/-- a block that holds a lift -/
def Pair (w : World) (k : Nat) (v0 v1 : Value) : Prop := w.heap[k]? = some (.cells #[v0, v1] 43 (0, 0))
theorem Pair.new (w : World) (v0 v1 : Value) : Pair (w.alloc (.cells #[v0, v1] 43)) w.heap.size v0 v1 := Go.heap_alloc_new _ _
theorem Pair.lt {w : World} {k : Nat} {v0 v1 : Value} (h : Pair w k v0 v1) : k < w.heap.size := (Array.getElem?_eq_some_iff.1 h).1
theorem Pair.later {w w' : World} {k : Nat} {v0 v1 : Value} (h : Pair w k v0 v1) (hb : Below w.heap.size w w') : Pair w' k v0 v1 := (hb.block k h.lt).trans h
theorem Pair.alloc {w : World} {k : Nat} {v0 v1 : Value} (h : Pair w k v0 v1) (o : Obj) : Pair (w.alloc o) k v0 v1 := h.later ((Below.refl _ _).alloc (Nat.le_refl _) o)
theorem Pair.cells {w : World} {k : Nat} {v0 v1 : Value} (h : Pair w k v0 v1) : w.cell? ⟨k, 0, none⟩ = some v0 ∧ w.cell? ⟨k, 1, none⟩ = some v1 :=
  ⟨cell_of_row _ _ 0 _ _ _ h, cell_of_row _ _ 1 _ _ _ h⟩
theorem Pair.free {w : World} {k : Nat} {v0 v1 : Value} (h : Pair w k v0 v1) : w.frozen? ⟨k, 0, none⟩ = false ∧ w.frozen? ⟨k, 1, none⟩ = false :=
  ⟨frozen_of_row _ _ 0 _ _ h, frozen_of_row _ _ 1 _ _ h⟩
theorem below_one (w : World) (o : Obj) : Below w.heap.size w (w.alloc o) := (Below.refl _ _).alloc (Nat.le_refl _) o
theorem below_drew {B : Nat} {w w' : World} (h : Below B w w') (n : Nat) : Below B w (w'.drewN n) := ⟨h.os, h.tape, h.output, h.size, h.block⟩
theorem below_two (w : World) (o o' : Obj) : Below w.heap.size w ((w.alloc o).alloc o') := (below_one w o).alloc (by simp) _

/-- what Up answers -/
def upS (l : Lft) (k : List UInt8) : ByteArray := str ((up l k).getD [])
def upB (l : Lft) (k : List UInt8) : Bool := (up l k).isSome
theorem drop_eq (s : ByteArray) (n : Nat) : s.extract n s.size = str (s.data.toList.drop n) := by
  rw [Lib.extract_eq]
  obtain ⟨⟨l⟩⟩ := s
  simp [str, ByteArray.size]
  exact List.take_of_length_le (by simp)
theorem drop_data (s : ByteArray) (n : Nat) : (s.extract n s.size).data.toList = s.data.toList.drop n := by rw [drop_eq, str_data]
theorem upS_yes {s a k : ByteArray} (h : has k.data.toList s.data.toList = true) : upS (lf s a) k.data.toList = a ++ k.extract s.size k.size := by
  rw [str_append, drop_data]
  unfold upS up
  rw [show (lf s a).strip = s.data.toList from rfl, h, Lib.size_eq]
  rfl
theorem upB_eq {s a k : ByteArray} {b : Bool} (h : has k.data.toList s.data.toList = b) : upB (lf s a) k.data.toList = b := by
  unfold upB
  rw [up_has]
  exact h
theorem upS_no {s a k : ByteArray} (h : has k.data.toList s.data.toList = false) : upS (lf s a) k.data.toList = ⟨#[]⟩ := by
  unfold upS
  rw [up_none (l := lf s a) h]
  rfl
theorem has_size {k s : ByteArray} (h : has k.data.toList s.data.toList = true) : s.size ≤ k.size := by
  obtain ⟨t, ht⟩ := has_iff.1 h
  have := congrArg List.length ht
  rw [List.length_append] at this
  rw [Lib.size_eq, Lib.size_eq]
  omega

theorem up_size {s a k : ByteArray} {x : List UInt8} (h : up (lf s a) k.data.toList = some x) : x.length ≤ a.size + k.size := by
  obtain ⟨t, h1, rfl⟩ := up_some h
  have := congrArg List.length h1
  rw [List.length_append] at this ⊢
  rw [Lib.size_eq, Lib.size_eq]
  show a.data.toList.length + t.length ≤ _
  omega

end Go.Proofs.Ytmnngfbcgpholaa.Key
