/-
  What slices.SortFunc asks and leaves, at items compared by depth.
  Contract of slices.SortFunc at items compared by depth.
-/
import Derived.Test.YtegmpfmhlpdmhaaGreatClone
import Derived.Test.YtegmpfmhlpdmhaaGreatKv
import Derived.Shelf.SlSortCmp.InsertionK
import Derived.Test.YtegmpfmhlpdmhaaGreatLay
import Derived.Shelf.SlSortCmp.WholeK
namespace Go.Proofs.YtegmpfmhlpdmhaaGreat.Key
open Go.RowKit Go.Sort Go.Shelf
set_option linter.unusedVariables false
set_option linter.unusedSimpArgs false

def zeroIt : It := ⟨0, zeroN, ⟨none, 0, none, 0, none, 0, none, 0⟩⟩
/-- the item of a number -/
def itAt (l : List It) (i : Nat) : It := l.getD i zeroIt
def encI (l : List It) (i : Nat) : List Value := (itAt l i).cells
def cfI (l : List It) (i j : Nat) : Int := cmpI (deepI (itAt l i).nd) (deepI (itAt l j).nd)
theorem ltI (l : List It) (i j : Nat) : ltOf (cfI l) i j = decide (deepI (itAt l i).nd < deepI (itAt l j).nd) := by
  unfold ltOf cfI cmpI
  by_cases h1 : deepI (itAt l i).nd < deepI (itAt l j).nd
  · simp [h1]
  · by_cases h2 : deepI (itAt l j).nd < deepI (itAt l i).nd <;> simp [h1, h2]
theorem swoI (l : List It) : SWO (ltOf (cfI l)) where
  irrefl x := by rw [ltI]; simp
  trans x y z h1 h2 := by rw [ltI] at *; simp at *; omega
  ntrans x y z h1 h2 := by rw [ltI] at *; simp at *; omega
/-- a sort's world: only its row's block has turned, below it nothing -/
theorem sortWorld_below {α : Type} [Inhabited α] {w0 w : World} {enc : α → List Value} {k blk off m : Nat} {dk : Array α} {os : Array Obj} (hb : Below w0.heap.size w0 w) (hk : w0.heap.size ≤ blk) : Below w0.heap.size w0 (sortWorldK enc k w blk off m dk os) := by
  have h1 : ∀ (u : World) (f : Array Value → Array Value), (mapBlock u blk f).os = u.os ∧ (mapBlock u blk f).tape = u.tape ∧ (mapBlock u blk f).output = u.output ∧ (mapBlock u blk f).heap.size = u.heap.size ∧ ∀ i, i < w0.heap.size → (mapBlock u blk f).heap[i]? = u.heap[i]? := by
    intro u f
    unfold mapBlock
    refine ⟨rfl, rfl, rfl, by simp, fun i hi => ?_⟩
    dsimp only
    rw [Array.getElem?_modify, if_neg (by omega)]
  unfold sortWorldK putRowK putRow
  obtain ⟨e1, e2, e3, e4, e5⟩ := h1 (Sort.ahead w m) (putCells id off (flatK enc k dk))
  refine ⟨e1.trans hb.os, e2.trans hb.tape, e3.trans hb.output, ?_, fun i hi => ?_⟩
  · show w0.heap.size ≤ ((mapBlock (Sort.ahead w m) blk (putCells id off (flatK enc k dk))).heap ++ os).size
    rw [Array.size_append, e4]
    have := hb.size
    show w0.heap.size ≤ w.heap.size + os.size
    omega
  · show ((mapBlock (Sort.ahead w m) blk (putCells id off (flatK enc k dk))).heap ++ os)[i]? = w0.heap[i]?
    have hs : i < (mapBlock (Sort.ahead w m) blk (putCells id off (flatK enc k dk))).heap.size := by rw [e4]; have := hb.size; show i < w.heap.size; omega
    rw [Array.getElem?_append_left hs, e5 i hi]
    exact hb.block i hi
theorem lies_at {w : World} {l : List It} (h : ∀ x ∈ l, Lies w x.nd x.pl) (i : Nat) : Lies w (itAt l i).nd (itAt l i).pl := by
  unfold itAt
  by_cases hi : i < l.length
  · rw [getD_at hi]; exact h _ (List.getElem_mem hi)
  · rw [show l.getD i zeroIt = zeroIt by simp [List.getD, List.getElem?_eq_none (show l.length ≤ i by omega)]]
    exact ⟨.inl rfl, .inl rfl, .inl rfl, .inl rfl⟩
theorem small_at {l : List It} (h : ∀ x ∈ l, Small x.nd) (i : Nat) : Small (itAt l i).nd := by
  unfold itAt
  by_cases hi : i < l.length
  · rw [getD_at hi]; exact h _ (List.getElem_mem hi)
  · rw [show l.getD i zeroIt = zeroIt by simp [List.getD, List.getElem?_eq_none (show l.length ≤ i by omega)]]
    exact ⟨⟨by simp [zeroIt, zeroN], by simp [zeroIt, zeroN], by simp [zeroIt, zeroN], by simp [zeroIt, zeroN]⟩, by simp [zeroIt, zeroN], by simp [zeroIt, zeroN], by simp [zeroIt, zeroN], by simp [zeroIt, zeroN], by simp [zeroIt, zeroN]⟩
end Go.Proofs.YtegmpfmhlpdmhaaGreat.Key

namespace Go.Proofs.YtegmpfmhlpdmhaaGreat.Key
open Go.RowKit Go.Sort Go.Shelf
set_option linter.unusedVariables false
set_option linter.unusedSimpArgs false

theorem range_map (l : List It) : (Array.range l.length).toList.map (itAt l) = l := by
  refine List.ext_getElem (by simp) fun i h1 h2 => ?_
  simp only [Array.toList_range, List.getElem_map, List.getElem_range]
  unfold itAt
  rw [getD_at h2]
set_option maxRecDepth 100000 in
theorem isAgg52 (w : World) : (isAgg 48).run Tryz.prog w = .ok true w := by kernel_rfl
set_option maxRecDepth 100000 in
theorem sizeOf52 (w : World) : (Go.sizeOf 48).run Tryz.prog w = .ok 6 w := by kernel_rfl
end Go.Proofs.YtegmpfmhlpdmhaaGreat.Key
