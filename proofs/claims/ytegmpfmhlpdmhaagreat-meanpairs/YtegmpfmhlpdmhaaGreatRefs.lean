/-
  Refs and volumes in memory; contract of SameRefs.
-/
import Derived.Test.YtegmpfmhlpdmhaaGreatAlike
import Derived.Test.YtegmpfmhlpdmhaaGreatTargets
import Derived.Test.YtegmpfmhlpdmhaaGreatSameN
import Derived.Test.YtegmpfmhlpdmhaaGreatOwn
namespace Go.Proofs.YtegmpfmhlpdmhaaGreat.Key
open Go.RowKit Draw
set_option linter.unusedVariables false
set_option linter.unusedSimpArgs false

/-- a block, so often -/
structure Rf where
  blk : Int
  n : Int
def Rf.cells (x : Rf) : List Value := [.int .u32 x.blk, .int .u32 x.n]
structure TwoU (w : World) (b o : Nat) (x : Rf) : Prop where
  c0 : w.cell? ⟨b, o, none⟩ = some (.int .u32 x.blk)
  c1 : w.cell? ⟨b, o + 1, none⟩ = some (.int .u32 x.n)
theorem TwoU.later {w w' : World} {b o : Nat} {x : Rf} (h : TwoU w b o x) (hb : Below w.heap.size w w') : TwoU w' b o x :=
  ⟨(hb.cell (p := ⟨b, o, none⟩) (World.block_lt_of_cell? w _ h.c0)).trans h.c0, (hb.cell (p := ⟨b, o + 1, none⟩) (World.block_lt_of_cell? w _ h.c1)).trans h.c1⟩
/-- a slice of refs -/
def Refs (w : World) (a : Option Addr) (l : List Rf) : Prop := l = [] ∨ ∃ b off, a = some ⟨b, off, none⟩ ∧ ∀ i (h : i < l.length), TwoU w b (off + i * 2) l[i]
theorem Refs.one {w : World} {a : Option Addr} {l : List Rf} (h : Refs w a l) {i : Nat} (hi : i < l.length) : ∃ b off, a = some ⟨b, off, none⟩ ∧ TwoU w b (off + i * 2) l[i] := by
  rcases h with rfl | ⟨b, off, rfl, hc⟩
  · simp at hi
  · exact ⟨b, off, rfl, hc i hi⟩
theorem Refs.later {w w' : World} {a : Option Addr} {l : List Rf} (h : Refs w a l) (hb : Below w.heap.size w w') : Refs w' a l := by
  rcases h with rfl | ⟨b, off, rfl, hc⟩
  · exact .inl rfl
  · exact .inr ⟨b, off, rfl, fun i hi => (hc i hi).later hb⟩
/-- a volume -/
structure Vo where
  name : ByteArray
  blk : Int
  deep : Int
def Vo.cells (x : Vo) : List Value := [.string x.name, .int .u32 x.blk, .int .u16 x.deep]
structure Three (w : World) (b o : Nat) (x : Vo) : Prop where
  c0 : w.cell? ⟨b, o, none⟩ = some (.string x.name)
  c1 : w.cell? ⟨b, o + 1, none⟩ = some (.int .u32 x.blk)
  c2 : w.cell? ⟨b, o + 2, none⟩ = some (.int .u16 x.deep)
theorem Three.later {w w' : World} {b o : Nat} {x : Vo} (h : Three w b o x) (hb : Below w.heap.size w w') : Three w' b o x :=
  ⟨(hb.cell (p := ⟨b, o, none⟩) (World.block_lt_of_cell? w _ h.c0)).trans h.c0, (hb.cell (p := ⟨b, o + 1, none⟩) (World.block_lt_of_cell? w _ h.c1)).trans h.c1, (hb.cell (p := ⟨b, o + 2, none⟩) (World.block_lt_of_cell? w _ h.c2)).trans h.c2⟩
/-- a slice of volumes -/
def Vols (w : World) (a : Option Addr) (l : List Vo) : Prop := l = [] ∨ ∃ b off, a = some ⟨b, off, none⟩ ∧ ∀ i (h : i < l.length), Three w b (off + i * 3) l[i]
theorem Vols.one {w : World} {a : Option Addr} {l : List Vo} (h : Vols w a l) {i : Nat} (hi : i < l.length) : ∃ b off, a = some ⟨b, off, none⟩ ∧ Three w b (off + i * 3) l[i] := by
  rcases h with rfl | ⟨b, off, rfl, hc⟩
  · simp at hi
  · exact ⟨b, off, rfl, hc i hi⟩
theorem Vols.later {w w' : World} {a : Option Addr} {l : List Vo} (h : Vols w a l) (hb : Below w.heap.size w w') : Vols w' a l := by
  rcases h with rfl | ⟨b, off, rfl, hc⟩
  · exact .inl rfl
  · exact .inr ⟨b, off, rfl, fun i hi => (hc i hi).later hb⟩
theorem not_sameR {m m' : Rf} (h : ((m.blk == m'.blk) && (m.n == m'.n)) = false) : m ≠ m' := by
  rintro rfl
  simp at h
theorem is_sameR {m m' : Rf} (h : ((m.blk == m'.blk) && (m.n == m'.n)) = true) : m = m' := by
  obtain ⟨a, b⟩ := m
  obtain ⟨a', b'⟩ := m'
  simp only [Bool.and_eq_true, beq_iff_eq] at h
  obtain ⟨rfl, rfl⟩ := h
  rfl
end Go.Proofs.YtegmpfmhlpdmhaaGreat.Key
