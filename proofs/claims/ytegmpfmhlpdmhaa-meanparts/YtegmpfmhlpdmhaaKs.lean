/-
  What slices.SortFunc asks and leaves, at items compared by depth.
  Contract of slices.SortFunc at items compared by depth.
-/
import Derived.Test.YtegmpfmhlpdmhaaClone
import Derived.Test.YtegmpfmhlpdmhaaKv
import Derived.Shelf.SlSortCmp.InsertionK
import Derived.Test.YtegmpfmhlpdmhaaLay
import Derived.Shelf.SlSortCmp.WholeK
namespace Go.Proofs.Ytegmpfmhlpdmhaa.Key
open Go.RowKit Go.Sort Go.Shelf
set_option linter.unusedVariables false
set_option linter.unusedSimpArgs false

def zeroIt : It := ⟨0, zeroN, ⟨none, 0, none, 0, none, 0, none, 0⟩⟩
/-- the item of a number -/
def itAt (l : List It) (i : Nat) : It := l.getD i zeroIt
def encI (l : List It) (i : Nat) : List Value := (itAt l i).cells
def cfI (l : List It) (i j : Nat) : Int := cmpI (deepI (itAt l i).nd) (deepI (itAt l j).nd)
theorem ltI (l : List It) (i j : Nat) : ltOf (cfI l) i j = decide (deepI (itAt l i).nd < deepI (itAt l j).nd) := by
  unfold ltOf cfI cmpI
  by_cases h1 : deepI (itAt l i).nd < deepI (itAt l j).nd
  · simp [h1]
  · by_cases h2 : deepI (itAt l j).nd < deepI (itAt l i).nd <;> simp [h1, h2]
theorem swoI (l : List It) : SWO (ltOf (cfI l)) where
  irrefl x := by rw [ltI]; simp
  trans x y z h1 h2 := by rw [ltI] at *; simp at *; omega
  ntrans x y z h1 h2 := by rw [ltI] at *; simp at *; omega
/-- a sort's world: only its row's block has turned, below it nothing -/
theorem sortWorld_below {α : Type} [Inhabited α] {w0 w : World} {enc : α → List Value} {k blk off m : Nat} {dk : Array α} {os : Array Obj} (hb : Below w0.heap.size w0 w) (hk : w0.heap.size ≤ blk) : Below w0.heap.size w0 (sortWorldK enc k w blk off m dk os) := by
  have h1 : ∀ (u : World) (f : Array Value → Array Value), (mapBlock u blk f).os = u.os ∧ (mapBlock u blk f).tape = u.tape ∧ (mapBlock u blk f).output = u.output ∧ (mapBlock u blk f).heap.size = u.heap.size ∧ ∀ i, i < w0.heap.size → (mapBlock u blk f).heap[i]? = u.heap[i]? := by
    intro u f
    unfold mapBlock
    refine ⟨rfl, rfl, rfl, by simp, fun i hi => ?_⟩
    dsimp only
    rw [Array.getElem?_modify, if_neg (by omega)]
  unfold sortWorldK putRowK putRow
  obtain ⟨e1, e2, e3, e4, e5⟩ := h1 (Sort.ahead w m) (putCells id off (flatK enc k dk))
  refine ⟨e1.trans hb.os, e2.trans hb.tape, e3.trans hb.output, ?_, fun i hi => ?_⟩
  · show w0.heap.size ≤ ((mapBlock (Sort.ahead w m) blk (putCells id off (flatK enc k dk))).heap ++ os).size
    rw [Array.size_append, e4]
    have := hb.size
    show w0.heap.size ≤ w.heap.size + os.size
    omega
  · show ((mapBlock (Sort.ahead w m) blk (putCells id off (flatK enc k dk))).heap ++ os)[i]? = w0.heap[i]?
    have hs : i < (mapBlock (Sort.ahead w m) blk (putCells id off (flatK enc k dk))).heap.size := by rw [e4]; have := hb.size; show i < w.heap.size; omega
    rw [Array.getElem?_append_left hs, e5 i hi]
    exact hb.block i hi
theorem lies_at {w : World} {l : List It} (h : ∀ x ∈ l, Lies w x.nd x.pl) (i : Nat) : Lies w (itAt l i).nd (itAt l i).pl := by
  unfold itAt
  by_cases hi : i < l.length
  · rw [getD_at hi]; exact h _ (List.getElem_mem hi)
  · rw [show l.getD i zeroIt = zeroIt by simp [List.getD, List.getElem?_eq_none (show l.length ≤ i by omega)]]
    exact ⟨.inl rfl, .inl rfl, .inl rfl, .inl rfl⟩
theorem small_at {l : List It} (h : ∀ x ∈ l, Small x.nd) (i : Nat) : Small (itAt l i).nd := by
  unfold itAt
  by_cases hi : i < l.length
  · rw [getD_at hi]; exact h _ (List.getElem_mem hi)
  · rw [show l.getD i zeroIt = zeroIt by simp [List.getD, List.getElem?_eq_none (show l.length ≤ i by omega)]]
    exact ⟨⟨by simp [zeroIt, zeroN], by simp [zeroIt, zeroN], by simp [zeroIt, zeroN], by simp [zeroIt, zeroN]⟩, by simp [zeroIt, zeroN], by simp [zeroIt, zeroN], by simp [zeroIt, zeroN], by simp [zeroIt, zeroN], by simp [zeroIt, zeroN]⟩
theorem cmpLaysI {l : List It} (hl : Fine l) {w0 w : World} (h : ∀ x ∈ l, Lies w0 x.nd x.pl) (hb : Below w0.heap.size w0 w) {blk off size : Nat} (hk : w0.heap.size ≤ blk) : CmpLays Try.prog 29 #[] (encI l) 6 (cfI l) blk off size w := by
  intro m os dk hs x y
  have hB := sortWorld_below (enc := encI l) (k := 6) (off := off) (m := m) (dk := dk) (os := os) hb hk
  exact (clos29 (itAt l x) (itAt l y) _ (small_at hl.sml x) (small_at hl.sml y) ((lies_at h x).later hB) ((lies_at h y).later hB)).mono fun e w' ⟨h1, h2⟩ => ⟨h1, h2⟩
end Go.Proofs.Ytegmpfmhlpdmhaa.Key

namespace Go.Proofs.Ytegmpfmhlpdmhaa.Key
open Go.RowKit Go.Sort Go.Shelf
set_option linter.unusedVariables false
set_option linter.unusedSimpArgs false

theorem range_map (l : List It) : (Array.range l.length).toList.map (itAt l) = l := by
  refine List.ext_getElem (by simp) fun i h1 h2 => ?_
  simp only [Array.toList_range, List.getElem_map, List.getElem_range]
  unfold itAt
  rw [getD_at h2]
set_option maxRecDepth 100000 in
theorem isAgg52 (w : World) : (isAgg 52).run Try.prog w = .ok true w := by kernel_rfl
set_option maxRecDepth 100000 in
theorem sizeOf52 (w : World) : (Go.sizeOf 52).run Try.prog w = .ok 6 w := by kernel_rfl
set_option maxRecDepth 100000 in
set_option maxHeartbeats 1600000 in
theorem sort28 (l : List It) (hl : Fine l) (hpos : 0 < l.length) (w0 w : World) (h : ∀ x ∈ l, Lies w0 x.nd x.pl) (hb : RowKit.Below w0.heap.size w0 w) (v : Value) (ho : w.ownsRow w0.heap.size 52 6 v l.length (l.flatMap It.cells)) :
    ∃ blk cap, v = .slice (some ⟨blk, 0, none⟩) l.length cap ∧ Calls Try.prog 28 #[v, .func (.func 29) #[] #[]] w fun e w' => e = .returned (.tuple #[]) ∧ ∃ rl : List It, rl.Perm l ∧ rl.Pairwise (fun x y => deepI x.nd ≤ deepI y.nd) ∧ Items w' (some ⟨blk, 0, none⟩) rl ∧ RowKit.Below w0.heap.size w0 w' := by
  obtain ⟨a, cap, rfl, he⟩ := row_cells It.cells 6 (fun _ => rfl) ho
  rcases he with rfl | ⟨g, rfl, hB, ⟨cur, hg⟩, hc⟩
  · simp at hpos
  refine ⟨g, cap, rfl, ?_⟩
  have hgl : g < w.heap.size := (Array.getElem?_eq_some_iff.1 hg).1
  have hsz : (Array.range l.length).size = l.length := by simp
  have hget : ∀ i, i < l.length → (Array.range l.length)[i]! = i := by
    intro i hi
    rw [getElem!_pos _ i (by simpa using hi)]
    simp
  have hH : HoldsK (encI l) 6 w g 0 (Array.range l.length) := by
    intro j hj
    rw [size_flatK, hsz] at hj
    have hi : j / 6 < l.length := by omega
    have hq : j % 6 < 6 := Nat.mod_lt _ (by omega)
    have hlen : ((itAt l (j / 6)).cells).length = 6 := rfl
    refine ⟨?_, frozen_of_row _ _ _ _ _ hg⟩
    rw [get_flatK _ _ _ _ (by rw [hsz]; exact hj), hget _ hi]
    have e1 : itAt l (j / 6) = l[j / 6] := by unfold itAt; rw [getD_at hi]
    have := hc (j / 6) hi (j % 6) ((itAt l (j / 6)).cells[j % 6]!) hq (by rw [e1, List.getElem!_eq_getElem?_getD, List.getElem?_eq_getElem (show j % 6 < (l[j / 6].cells).length from hq)]; rfl)
    rw [show 0 + j / 6 * 6 + j % 6 = 0 + j by omega] at this
    exact this
  have eg : ∀ args w, (callFunc 29 args).run Try.prog w = .ok (.enter 29 args) w := enters_of Try.func29 (by kernel_rfl) rfl
  have hcon := AnyQ.slices_SortFunc (α := Nat) sortIt 6 isAgg52 sizeOf52 (encI l) (fun _ => rfl) (fun x v hv => oneI _ v hv) (cfI l) (swoI l) 29 #[] g 0 cap (Array.range l.length) w eg (cmpLaysI hl h hb hB) hH hgl (by rw [hsz]; have := hl.len; omega)
  rw [hsz] at hcon
  refine hcon.mono ?_
  rintro e w' ⟨rfl, d', n, os, ⟨hp1, hp2, hp3⟩, hs, rfl⟩
  refine ⟨rfl, d'.toList.map (itAt l), ?_, ?_, ?_, sortWorld_below hb hB⟩
  · have e1 : d'.extract 0 l.length = d' := by rw [← hsz, ← hp1]; simp
    have e2 : (Array.range l.length).extract 0 l.length = Array.range l.length := by simp
    rw [e1, e2] at hp3
    have := hp3.map (itAt l)
    rwa [range_map] at this
  · rw [List.pairwise_iff_getElem]
    intro i j hi hj hij
    simp only [List.length_map, Array.length_toList] at hi hj
    have := hs i j (Nat.zero_le _) hij (by rw [← hsz, ← hp1]; exact hj)
    rw [ltI, getElem!_pos d' i hi, getElem!_pos d' j hj] at this
    simp only [decide_eq_false_iff_not] at this
    simp only [List.getElem_map, Array.getElem_toList]
    omega
  · have hHs := holdsK_sortWorldK_c (encI l) 6 w g 0 (Array.range l.length) d' n os hH hgl hp1
    refine .inr ⟨g, 0, rfl, fun i hi => ?_⟩
    have hi' : i < d'.size := by simpa using hi
    have hx : (d'.toList.map (itAt l))[i] = itAt l d'[i] := by simp
    rw [hx]
    refine ⟨?_, (lies_at h _).later (sortWorld_below hb hB)⟩
    have hcell := fun c (hc : c < 6) => (hHs.cell hi' hc).1
    rw [getElem!_pos d' i hi'] at hcell
    exact ⟨hcell 0 (by omega), hcell 1 (by omega), hcell 2 (by omega), hcell 3 (by omega), hcell 4 (by omega), hcell 5 (by omega)⟩
end Go.Proofs.Ytegmpfmhlpdmhaa.Key
