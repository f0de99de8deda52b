/-
  Contract of Same, the document's: are two rows of messages the same?
-/
import Derived.Test.YtegmpfmhlpdmhaaGreatMs
import Derived.Test.YtegmpfmhlpdmhaaGreatKd
import Derived.Laws.StructEq
import Derived.Deep.CutRange
namespace Go.Proofs.YtegmpfmhlpdmhaaGreat.Key
open Go.RowKit Draw
open Go.Op (bytesLess)

theorem not_same {m m' : M} (h : ((m.kind == m'.kind) && ((m.key.toList == m'.key.toList) && ((m.val.toList == m'.val.toList) && ((m.blk == m'.blk) && ((m.deep == m'.deep) && (m.add.toList == m'.add.toList)))))) = false) : m ≠ m' := by
  rintro rfl
  simp at h
theorem is_same {m m' : M} (h : ((m.kind == m'.kind) && ((m.key.toList == m'.key.toList) && ((m.val.toList == m'.val.toList) && ((m.blk == m'.blk) && ((m.deep == m'.deep) && (m.add.toList == m'.add.toList)))))) = true) : m = m' := by
  obtain ⟨a, b, c, d, e, f⟩ := m
  obtain ⟨a', b', c', d', e', f'⟩ := m'
  have key : ∀ x y : ByteArray, x.toList = y.toList → x = y := fun x y h => by
    rw [Lib.toList_data, Lib.toList_data] at h
    rw [← str_eq x, ← str_eq y, h]
  simp only [Bool.and_eq_true, beq_iff_eq] at h
  obtain ⟨h1, h2, h3, h4, h5, h6⟩ := h
  rw [h1, key _ _ h2, key _ _ h3, h4, h5, key _ _ h6]

theorem take_both {l l' : List M} {j : Nat} (h1 : j < l.length) (h2 : j < l'.length) (h3 : l.take j = l'.take j) (h4 : l[j] = l'[j]) : l.take (j + 1) = l'.take (j + 1) := by
  rw [List.take_succ_eq_append_getElem h1, List.take_succ_eq_append_getElem h2, h3, h4]

/-- true is told just if p holds -/
def Tells (x : Ending) (p : Prop) : Prop := ∃ b, x = .returned (.bool b) ∧ (b = true ↔ p)
theorem Tells.no {p : Prop} (h : ¬ p) : Tells (.returned (.bool false)) p := ⟨false, rfl, ⟨fun h => absurd h (by decide), fun e => absurd e h⟩⟩
theorem Tells.yes {p : Prop} (h : p) : Tells (.returned (.bool true)) p := ⟨true, rfl, ⟨fun _ => h, fun _ => rfl⟩⟩

end Go.Proofs.YtegmpfmhlpdmhaaGreat.Key
