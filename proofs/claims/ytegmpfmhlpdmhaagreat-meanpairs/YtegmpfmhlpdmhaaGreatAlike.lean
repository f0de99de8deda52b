/-
  Contracts of alike at pairs, texts, edges and messages, and of SameBlocks: are two lists the same?
-/
import Derived.Test.YtegmpfmhlpdmhaaGreatNode
import Derived.Test.YtegmpfmhlpdmhaaGreatKd
namespace Go.Proofs.YtegmpfmhlpdmhaaGreat.Key
open Go.RowKit Draw
open Go.Op (bytesLess)

theorem take_two {α : Type} {l l' : List α} {j : Nat} (h1 : j < l.length) (h2 : j < l'.length) (h3 : l.take j = l'.take j) (h4 : l[j] = l'[j]) : l.take (j + 1) = l'.take (j + 1) := by
  rw [List.take_succ_eq_append_getElem h1, List.take_succ_eq_append_getElem h2, h3, h4]
/-- a cell that holds a text -/
structure OneS (w : World) (b o : Nat) (s : ByteArray) : Prop where
  c0 : w.cell? ⟨b, o, none⟩ = some (.string s)
theorem OneS.later {w w' : World} {b o : Nat} {s : ByteArray} (h : OneS w b o s) (hb : Below w.heap.size w w') : OneS w' b o s := ⟨(hb.cell (p := ⟨b, o, none⟩) (World.block_lt_of_cell? w _ h.c0)).trans h.c0⟩
theorem Txts.one {w : World} {a : Option Addr} {l : List ByteArray} (h : Txts w a l) {i : Nat} (hi : i < l.length) : ∃ b off, a = some ⟨b, off, none⟩ ∧ OneS w b (off + i) l[i] := by
  obtain ⟨b, off, e, hc⟩ := h.at hi
  exact ⟨b, off, e, ⟨hc⟩⟩
/-- a cell that holds a number -/
structure OneU (w : World) (b o : Nat) (z : Int) : Prop where
  c0 : w.cell? ⟨b, o, none⟩ = some (.int .u32 z)
theorem OneU.later {w w' : World} {b o : Nat} {z : Int} (h : OneU w b o z) (hb : Below w.heap.size w w') : OneU w' b o z := ⟨(hb.cell (p := ⟨b, o, none⟩) (World.block_lt_of_cell? w _ h.c0)).trans h.c0⟩
/-- a slice of numbers -/
def Nums (w : World) (a : Option Addr) (l : List Int) : Prop := l = [] ∨ ∃ b off, a = some ⟨b, off, none⟩ ∧ ∀ i (h : i < l.length), OneU w b (off + i) l[i]
theorem Nums.one {w : World} {a : Option Addr} {l : List Int} (h : Nums w a l) {i : Nat} (hi : i < l.length) : ∃ b off, a = some ⟨b, off, none⟩ ∧ OneU w b (off + i) l[i] := by
  rcases h with rfl | ⟨b, off, rfl, hc⟩
  · simp at hi
  · exact ⟨b, off, rfl, hc i hi⟩
theorem Nums.later {w w' : World} {a : Option Addr} {l : List Int} (h : Nums w a l) (hb : Below w.heap.size w w') : Nums w' a l := by
  rcases h with rfl | ⟨b, off, rfl, hc⟩
  · exact .inl rfl
  · exact .inr ⟨b, off, rfl, fun i hi => (hc i hi).later hb⟩
theorem not_samePr {m m' : Pr} (h : ((m.key.toList == m'.key.toList) && (m.val.toList == m'.val.toList)) = false) : m ≠ m' := by
  rintro rfl
  simp at h
theorem is_samePr {m m' : Pr} (h : ((m.key.toList == m'.key.toList) && (m.val.toList == m'.val.toList)) = true) : m = m' := by
  have key : ∀ x y : ByteArray, x.toList = y.toList → x = y := fun x y h => by
    rw [Lib.toList_data, Lib.toList_data] at h
    rw [← str_eq x, ← str_eq y, h]
  obtain ⟨ky, vl⟩ := m
  obtain ⟨ky', vl'⟩ := m'
  simp only [Bool.and_eq_true, beq_iff_eq] at h
  obtain ⟨h0, h1⟩ := h
  rw [key _ _ h0, key _ _ h1]
theorem not_sameS {m m' : ByteArray} (h : (m.toList == m'.toList) = false) : m ≠ m' := by
  rintro rfl
  simp at h
theorem is_sameS {m m' : ByteArray} (h : (m.toList == m'.toList) = true) : m = m' := by
  have key : ∀ x y : ByteArray, x.toList = y.toList → x = y := fun x y h => by
    rw [Lib.toList_data, Lib.toList_data] at h
    rw [← str_eq x, ← str_eq y, h]
  exact key _ _ (eq_of_beq h)
theorem not_sameE {m m' : E} (h : ((m.blk == m'.blk) && ((m.deep == m'.deep) && ((m.strip.toList == m'.strip.toList) && (m.add.toList == m'.add.toList)))) = false) : m ≠ m' := by
  rintro rfl
  simp at h
theorem is_sameE {m m' : E} (h : ((m.blk == m'.blk) && ((m.deep == m'.deep) && ((m.strip.toList == m'.strip.toList) && (m.add.toList == m'.add.toList)))) = true) : m = m' := by
  have key : ∀ x y : ByteArray, x.toList = y.toList → x = y := fun x y h => by
    rw [Lib.toList_data, Lib.toList_data] at h
    rw [← str_eq x, ← str_eq y, h]
  obtain ⟨bk, dp, st, ad⟩ := m
  obtain ⟨bk', dp', st', ad'⟩ := m'
  simp only [Bool.and_eq_true, beq_iff_eq] at h
  obtain ⟨h0, h1, h2, h3⟩ := h
  rw [h0, h1, key _ _ h2, key _ _ h3]
theorem not_sameM {m m' : M} (h : ((m.kind == m'.kind) && ((m.key.toList == m'.key.toList) && ((m.val.toList == m'.val.toList) && ((m.blk == m'.blk) && ((m.deep == m'.deep) && (m.add.toList == m'.add.toList)))))) = false) : m ≠ m' := by
  rintro rfl
  simp at h
theorem is_sameM {m m' : M} (h : ((m.kind == m'.kind) && ((m.key.toList == m'.key.toList) && ((m.val.toList == m'.val.toList) && ((m.blk == m'.blk) && ((m.deep == m'.deep) && (m.add.toList == m'.add.toList)))))) = true) : m = m' := by
  have key : ∀ x y : ByteArray, x.toList = y.toList → x = y := fun x y h => by
    rw [Lib.toList_data, Lib.toList_data] at h
    rw [← str_eq x, ← str_eq y, h]
  obtain ⟨kd, ky, vl, bk, dp, ad⟩ := m
  obtain ⟨kd', ky', vl', bk', dp', ad'⟩ := m'
  simp only [Bool.and_eq_true, beq_iff_eq] at h
  obtain ⟨h0, h1, h2, h3, h4, h5⟩ := h
  rw [h0, key _ _ h1, key _ _ h2, h3, h4, key _ _ h5]
theorem not_sameU {m m' : Int} (h : (m == m') = false) : m ≠ m' := by
  rintro rfl
  simp at h
theorem is_sameU {m m' : Int} (h : (m == m') = true) : m = m' := by
  exact eq_of_beq h
end Go.Proofs.YtegmpfmhlpdmhaaGreat.Key
