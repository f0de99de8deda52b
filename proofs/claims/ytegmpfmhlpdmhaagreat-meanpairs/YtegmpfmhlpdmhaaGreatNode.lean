/-
  Nodes: edges, texts, pairs and messages in memory; a node as a value, in a block; ways.
-/
import Derived.Test.YtegmpfmhlpdmhaaGreatPp
import Derived.Test.YtegmpfmhlpdmhaaGreatWg
namespace Go.Proofs.YtegmpfmhlpdmhaaGreat.Key
open Go.RowKit
open Go.Op (bytesLess)

/-- an edge -/
structure E where
  blk : Int
  deep : Int
  strip : ByteArray
  add : ByteArray
def E.nil : E := ⟨0, 0, ⟨#[]⟩, ⟨#[]⟩⟩
def E.cells (e : E) : List Value := [.int .u32 e.blk, .int .u16 e.deep, .string e.strip, .string e.add]
abbrev ev (e : E) : Value := .agg #[.int .u32 e.blk, .int .u16 e.deep, .string e.strip, .string e.add]
structure Four (w : World) (b o : Nat) (e : E) : Prop where
  c0 : w.cell? ⟨b, o, none⟩ = some (.int .u32 e.blk)
  c1 : w.cell? ⟨b, o + 1, none⟩ = some (.int .u16 e.deep)
  c2 : w.cell? ⟨b, o + 2, none⟩ = some (.string e.strip)
  c3 : w.cell? ⟨b, o + 3, none⟩ = some (.string e.add)
theorem Four.lt {w : World} {b o : Nat} {e : E} (h : Four w b o e) : b < w.heap.size := World.block_lt_of_cell? w _ h.c0
theorem Four.below {w w' : World} {b o B : Nat} {e : E} (h : Four w b o e) (hb : Below B w w') (hB : b < B) : Four w' b o e :=
  ⟨(hb.cell (p := ⟨b, o, none⟩) hB).trans h.c0, (hb.cell (p := ⟨b, o + 1, none⟩) hB).trans h.c1, (hb.cell (p := ⟨b, o + 2, none⟩) hB).trans h.c2, (hb.cell (p := ⟨b, o + 3, none⟩) hB).trans h.c3⟩
theorem Four.later {w w' : World} {b o : Nat} {e : E} (h : Four w b o e) (hb : Below w.heap.size w w') : Four w' b o e := h.below hb h.lt
/-- a slice of edges -/
def Eds (w : World) (a : Option Addr) (l : List E) : Prop := l = [] ∨ ∃ b off, a = some ⟨b, off, none⟩ ∧ ∀ i (h : i < l.length), Four w b (off + i * 4) l[i]
theorem Eds.at {w : World} {a : Option Addr} {l : List E} (h : Eds w a l) {i : Nat} (hi : i < l.length) : ∃ b off, a = some ⟨b, off, none⟩ ∧ Four w b (off + i * 4) l[i] := by
  rcases h with rfl | ⟨b, off, rfl, hc⟩
  · simp at hi
  · exact ⟨b, off, rfl, hc i hi⟩
theorem Eds.later {w w' : World} {a : Option Addr} {l : List E} (h : Eds w a l) (hb : Below w.heap.size w w') : Eds w' a l := by
  rcases h with rfl | ⟨b, off, rfl, hc⟩
  · exact .inl rfl
  · exact .inr ⟨b, off, rfl, fun i hi => (hc i hi).later hb⟩
/-- a slice of texts -/
def Txts (w : World) (a : Option Addr) (l : List ByteArray) : Prop := l = [] ∨ ∃ b off, a = some ⟨b, off, none⟩ ∧ ∀ i (h : i < l.length), w.cell? ⟨b, off + i, none⟩ = some (.string l[i])
theorem Txts.at {w : World} {a : Option Addr} {l : List ByteArray} (h : Txts w a l) {i : Nat} (hi : i < l.length) : ∃ b off, a = some ⟨b, off, none⟩ ∧ w.cell? ⟨b, off + i, none⟩ = some (.string l[i]) := by
  rcases h with rfl | ⟨b, off, rfl, hc⟩
  · simp at hi
  · exact ⟨b, off, rfl, hc i hi⟩
theorem Txts.at2 {w : World} {a : Option Addr} {l : List ByteArray} (h : Txts w a l) {i j : Nat} (hi : i < l.length) (hj : j < l.length) : ∃ b off, a = some ⟨b, off, none⟩ ∧ w.cell? ⟨b, off + i, none⟩ = some (.string l[i]) ∧ w.cell? ⟨b, off + j, none⟩ = some (.string l[j]) := by
  rcases h with rfl | ⟨b, off, rfl, hc⟩
  · simp at hi
  · exact ⟨b, off, rfl, hc i hi, hc j hj⟩
theorem Txts.later {w w' : World} {a : Option Addr} {l : List ByteArray} (h : Txts w a l) (hb : Below w.heap.size w w') : Txts w' a l := by
  rcases h with rfl | ⟨b, off, rfl, hc⟩
  · exact .inl rfl
  · exact .inr ⟨b, off, rfl, fun i hi => (hb.cell (p := ⟨b, off + i, none⟩) (World.block_lt_of_cell? w _ (hc i hi))).trans (hc i hi)⟩

/-- a node -/
structure Nd where
  leaf : Bool
  ps : List Pr
  pv : List ByteArray
  ks : List E
  bf : List M
/-- where its lists lie, and their room -/
structure Pl where
  a1 : Option Addr
  c1 : Nat
  a2 : Option Addr
  c2 : Nat
  a3 : Option Addr
  c3 : Nat
  a4 : Option Addr
  c4 : Nat
/-- .. as a value -/
abbrev nv (n : Nd) (p : Pl) : Value := .agg #[.bool n.leaf, .slice p.a1 n.ps.length p.c1, .slice p.a2 n.pv.length p.c2, .slice p.a3 n.ks.length p.c3, .slice p.a4 n.bf.length p.c4]
structure Lies (w : World) (n : Nd) (p : Pl) : Prop where
  h1 : Prs w p.a1 n.ps
  h2 : Txts w p.a2 n.pv
  h3 : Eds w p.a3 n.ks
  h4 : Msgs w p.a4 n.bf
theorem Lies.later {w w' : World} {n : Nd} {p : Pl} (h : Lies w n p) (hb : Below w.heap.size w w') : Lies w' n p := ⟨h.h1.later hb, h.h2.later hb, h.h3.later hb, h.h4.later hb⟩
theorem Lies.alloc {w : World} {n : Nd} {p : Pl} (h : Lies w n p) (o : Obj) : Lies (w.alloc o) n p := h.later (below_box w o)
/-- a block that holds a node -/
def NBox (w : World) (k : Nat) (v0 v1 v2 v3 v4 : Value) : Prop := w.heap[k]? = some (.cells #[v0, v1, v2, v3, v4] 46 (0, 0))
theorem NBox.new (w : World) (v0 v1 v2 v3 v4 : Value) : NBox (w.alloc (.cells #[v0, v1, v2, v3, v4] 46)) w.heap.size v0 v1 v2 v3 v4 := Go.heap_alloc_new _ _
theorem NBox.lt {w : World} {k : Nat} {v0 v1 v2 v3 v4 : Value} (h : NBox w k v0 v1 v2 v3 v4) : k < w.heap.size := (Array.getElem?_eq_some_iff.1 h).1
theorem NBox.below {w w' : World} {k B : Nat} {v0 v1 v2 v3 v4 : Value} (h : NBox w k v0 v1 v2 v3 v4) (hb : Below B w w') (hB : k < B) : NBox w' k v0 v1 v2 v3 v4 := (hb.block k hB).trans h
theorem NBox.later {w w' : World} {k : Nat} {v0 v1 v2 v3 v4 : Value} (h : NBox w k v0 v1 v2 v3 v4) (hb : Below w.heap.size w w') : NBox w' k v0 v1 v2 v3 v4 := h.below hb h.lt
theorem NBox.alloc {w : World} {k : Nat} {v0 v1 v2 v3 v4 : Value} (h : NBox w k v0 v1 v2 v3 v4) (o : Obj) : NBox (w.alloc o) k v0 v1 v2 v3 v4 := h.later (below_box w o)
theorem NBox.cells {w : World} {k : Nat} {v0 v1 v2 v3 v4 : Value} (h : NBox w k v0 v1 v2 v3 v4) : w.cell? ⟨k, 0, none⟩ = some v0 ∧ w.cell? ⟨k, 1, none⟩ = some v1 ∧ w.cell? ⟨k, 2, none⟩ = some v2 ∧ w.cell? ⟨k, 3, none⟩ = some v3 ∧ w.cell? ⟨k, 4, none⟩ = some v4 :=
  ⟨cell_of_row _ _ 0 _ _ _ h, cell_of_row _ _ 1 _ _ _ h, cell_of_row _ _ 2 _ _ _ h, cell_of_row _ _ 3 _ _ _ h, cell_of_row _ _ 4 _ _ _ h⟩
theorem NBox.free {w : World} {k : Nat} {v0 v1 v2 v3 v4 : Value} (h : NBox w k v0 v1 v2 v3 v4) (i : Nat) : w.frozen? ⟨k, i, none⟩ = false := frozen_of_row _ _ i _ _ h
/-- a block that holds an edge -/
def EBox (w : World) (k : Nat) (e : E) : Prop := w.heap[k]? = some (.cells #[.int .u32 e.blk, .int .u16 e.deep, .string e.strip, .string e.add] 39 (0, 0))
theorem EBox.new (w : World) (e : E) : EBox (w.alloc (.cells #[.int .u32 e.blk, .int .u16 e.deep, .string e.strip, .string e.add] 39)) w.heap.size e := Go.heap_alloc_new _ _
theorem EBox.lt {w : World} {k : Nat} {e : E} (h : EBox w k e) : k < w.heap.size := (Array.getElem?_eq_some_iff.1 h).1
theorem EBox.later {w w' : World} {k : Nat} {e : E} (h : EBox w k e) (hb : Below w.heap.size w w') : EBox w' k e := (hb.block k h.lt).trans h
theorem EBox.alloc {w : World} {k : Nat} {e : E} (h : EBox w k e) (o : Obj) : EBox (w.alloc o) k e := h.later (below_box w o)
theorem EBox.four {w : World} {k : Nat} {e : E} (h : EBox w k e) : Four w k 0 e :=
  ⟨cell_of_row _ _ 0 _ _ _ h, cell_of_row _ _ 1 _ _ _ h, cell_of_row _ _ 2 _ _ _ h, cell_of_row _ _ 3 _ _ _ h⟩

/-- a way -/
structure Wy where
  kind : Int
  val : ByteArray
  blk : Int
  deep : Int
  key : ByteArray
abbrev wv (x : Wy) : Value := .agg #[.int .u8 x.kind, .string x.val, .int .u32 x.blk, .int .u16 x.deep, .string x.key]
def noWay : Wy := ⟨0, ⟨#[]⟩, 0, 0, ⟨#[]⟩⟩
def toVal (v : ByteArray) : Wy := ⟨1, v, 0, 0, ⟨#[]⟩⟩
/-- a block that holds a way -/
def WBox (w : World) (k : Nat) (v0 v1 v2 v3 v4 : Value) : Prop := w.heap[k]? = some (.cells #[v0, v1, v2, v3, v4] 70 (0, 0))
theorem WBox.new (w : World) (v0 v1 v2 v3 v4 : Value) : WBox (w.alloc (.cells #[v0, v1, v2, v3, v4] 70)) w.heap.size v0 v1 v2 v3 v4 := Go.heap_alloc_new _ _
theorem WBox.lt {w : World} {k : Nat} {v0 v1 v2 v3 v4 : Value} (h : WBox w k v0 v1 v2 v3 v4) : k < w.heap.size := (Array.getElem?_eq_some_iff.1 h).1
theorem WBox.below {w w' : World} {k B : Nat} {v0 v1 v2 v3 v4 : Value} (h : WBox w k v0 v1 v2 v3 v4) (hb : Below B w w') (hB : k < B) : WBox w' k v0 v1 v2 v3 v4 := (hb.block k hB).trans h
theorem WBox.later {w w' : World} {k : Nat} {v0 v1 v2 v3 v4 : Value} (h : WBox w k v0 v1 v2 v3 v4) (hb : Below w.heap.size w w') : WBox w' k v0 v1 v2 v3 v4 := h.below hb h.lt
theorem WBox.alloc {w : World} {k : Nat} {v0 v1 v2 v3 v4 : Value} (h : WBox w k v0 v1 v2 v3 v4) (o : Obj) : WBox (w.alloc o) k v0 v1 v2 v3 v4 := h.later (below_box w o)
theorem WBox.cells {w : World} {k : Nat} {v0 v1 v2 v3 v4 : Value} (h : WBox w k v0 v1 v2 v3 v4) : w.cell? ⟨k, 0, none⟩ = some v0 ∧ w.cell? ⟨k, 1, none⟩ = some v1 ∧ w.cell? ⟨k, 2, none⟩ = some v2 ∧ w.cell? ⟨k, 3, none⟩ = some v3 ∧ w.cell? ⟨k, 4, none⟩ = some v4 :=
  ⟨cell_of_row _ _ 0 _ _ _ h, cell_of_row _ _ 1 _ _ _ h, cell_of_row _ _ 2 _ _ _ h, cell_of_row _ _ 3 _ _ _ h, cell_of_row _ _ 4 _ _ _ h⟩
theorem WBox.free {w : World} {k : Nat} {v0 v1 v2 v3 v4 : Value} (h : WBox w k v0 v1 v2 v3 v4) (i : Nat) : w.frozen? ⟨k, i, none⟩ = false := frozen_of_row _ _ i _ _ h

/-- what holds at each place below n -/
def upTo (p : Nat → Bool) : Nat → Bool
  | 0 => true
  | n + 1 => upTo p n && p n
theorem upTo_no {p : Nat → Bool} {n j : Nat} (h : j < n) (hp : p j = false) : upTo p n = false := by
  induction n with
  | zero => omega
  | succ n ih =>
    rw [upTo]
    by_cases e : j = n
    · subst e; rw [hp, Bool.and_false]
    · rw [ih (by omega), Bool.false_and]
theorem upTo_at {p : Nat → Bool} {n j : Nat} (h : upTo p n = true) (hj : j < n) : p j = true := by
  cases hp : p j
  · rw [upTo_no hj hp] at h; cases h
  · rfl
theorem upTo_and (p q : Nat → Bool) (n : Nat) : upTo (fun i => p i && q i) n = (upTo p n && upTo q n) := by
  induction n with
  | zero => rfl
  | succ n ih =>
    simp only [upTo, ih]
    cases upTo p n <;> cases upTo q n <;> cases p n <;> cases q n <;> rfl
theorem upTo_mono {p : Nat → Bool} {n m : Nat} (h : upTo p n = true) (hm : m ≤ n) : upTo p m = true := by
  induction m with
  | zero => rfl
  | succ m ih => rw [upTo, ih (by omega), upTo_at h (by omega)]; rfl

/-- may a pair be in a leaf? -/
def okP (p : Pr) : Bool := decide (p.key.size ≤ 16) && decide (p.val.size ≤ 32)
def okAt (ps : List Pr) (i : Nat) : Bool := okP (ps.getD i Pr.nil)
/-- is a pair's key above the one ahead of it? -/
def riseAt (ps : List Pr) (i : Nat) : Bool := (i == 0) || bytesLess (ps.getD (i - 1) Pr.nil).key.data.toList (ps.getD i Pr.nil).key.data.toList
def leafB (n : Nd) : Bool := n.pv.isEmpty && (n.ks.isEmpty && (n.bf.isEmpty && upTo (fun i => okAt n.ps i && riseAt n.ps i) n.ps.length))
/-- the pivot ahead of one -/
def ahead (pv : List ByteArray) : Nat → ByteArray
  | 0 => ⟨#[]⟩
  | i + 1 => pv.getD i default
def pivAt (pv : List ByteArray) (i : Nat) : Bool := bytesLess (ahead pv i).data.toList (pv.getD i default).data.toList && decide ((pv.getD i default).size ≤ 16)
def okE (e : E) : Bool := decide (1 ≤ e.deep) && (decide (e.strip.size ≤ 16) && decide (e.add.size ≤ 16))
def edgeAt (ks : List E) (i : Nat) : Bool := okE (ks.getD i E.nil)
theorem getD_at {α : Type} {d : α} {l : List α} {i : Nat} (h : i < l.length) : l.getD i d = l[i] := by simp [List.getD, h]
theorem okAt_at {ps : List Pr} {i : Nat} (h : i < ps.length) : okAt ps i = okP ps[i] := by rw [okAt, getD_at h]
theorem edgeAt_at {ks : List E} {i : Nat} (h : i < ks.length) : edgeAt ks i = okE ks[i] := by rw [edgeAt, getD_at h]
theorem pivAt_at {pv : List ByteArray} {i : Nat} (h : i < pv.length) : pivAt pv i = (bytesLess (ahead pv i).data.toList pv[i].data.toList && decide (pv[i].size ≤ 16)) := by rw [pivAt, getD_at h]
theorem ahead_at {pv : List ByteArray} {i : Nat} (h : i < pv.length) : ahead pv (i + 1) = pv[i] := by rw [ahead, getD_at h]
theorem riseAt_zero (ps : List Pr) : riseAt ps 0 = true := rfl
theorem riseAt_at {ps : List Pr} {i : Nat} (h : i + 1 < ps.length) : riseAt ps (i + 1) = bytesLess (ps[i]'(by omega)).key.data.toList ps[i + 1].key.data.toList := by
  rw [riseAt, getD_at h, Nat.add_sub_cancel, getD_at (by omega)]
  rfl
end Go.Proofs.YtegmpfmhlpdmhaaGreat.Key
