/-
  Rows of the call's own of whatever elements; nodes with lists of the call's own.
-/
import Derived.Test.YtmnngfbcgpholaaSameN
import Derived.Test.YtmnngfbcgpholaaTShift
import Derived.Test.YtmnngfbcgpholaaKd
import Derived.Lib.SmallJoins
namespace Go.Proofs.Ytmnngfbcgpholaa.Key
open Go.RowKit Draw

set_option maxRecDepth 100000 in
theorem flat_len {α : Type} (f : α → List Value) (sz : Nat) (hf : ∀ x, (f x).length = sz) (l : List α) : (l.flatMap f).length = l.length * sz := by
  induction l with
  | nil => simp
  | cons x l ih =>
    rw [List.flatMap_cons, List.length_append, ih, hf, List.length_cons, Nat.add_mul]
    omega
set_option maxRecDepth 100000 in
theorem flat_at {α : Type} (f : α → List Value) (sz : Nat) (hf : ∀ x, (f x).length = sz) : ∀ (l : List α) (i : Nat) (h : i < l.length) (q : Nat), q < sz → (l.flatMap f)[i * sz + q]? = (f l[i])[q]?
  | [], i, h, _, _ => by simp at h
  | x :: l, 0, _, q, hq => by
    rw [List.flatMap_cons, List.getElem?_append_left (by rw [hf]; omega)]
    simp
  | x :: l, i + 1, h, q, hq => by
    have h' : i < l.length := by simpa using h
    rw [List.flatMap_cons, List.getElem?_append_right (by rw [hf, Nat.add_mul]; omega), hf, show (i + 1) * sz + q - sz = i * sz + q by rw [Nat.add_mul]; omega]
    exact flat_at f sz hf l i h' q hq
set_option maxRecDepth 100000 in
theorem flat_news {α : Type} (f : α → List Value) (sz : Nat) (h0 : 0 < sz) (hf : ∀ x, (f x).length = sz) {l : List α} {w : World} {b off : Nat} (h : ∀ i (_ : i < l.length) q u, (f l[i])[q]? = some u → w.cell? ⟨b, off + i * sz + q, none⟩ = some u) : ∀ j u, (l.flatMap f)[j]? = some u → w.cell? ((⟨b, off, none⟩ : Addr).add j) = some u := by
  intro j u hu
  have hj : j < l.length * sz := by rw [← flat_len f sz hf]; exact (List.getElem?_eq_some_iff.1 hu).1
  have hi : j / sz < l.length := (Nat.div_lt_iff_lt_mul h0).2 hj
  have hq : j % sz < sz := Nat.mod_lt _ h0
  have e : j = j / sz * sz + j % sz := by rw [Nat.mul_comm]; exact (Nat.div_add_mod j sz).symm
  rw [e, flat_at f sz hf l _ hi _ hq] at hu
  have := h _ hi _ _ hu
  rw [add_plain]
  rw [show off + j = off + j / sz * sz + j % sz by omega]
  exact this
set_option maxRecDepth 100000 in
theorem oneP (x : Pr) : ∀ u ∈ x.cells, u.oneCell' = true := by
  intro u hu
  simp only [Pr.cells, List.mem_cons, List.not_mem_nil, or_false] at hu
  rcases hu with rfl | rfl <;> rfl
set_option maxRecDepth 100000 in
theorem oneE (x : E) : ∀ u ∈ x.cells, u.oneCell' = true := by
  intro u hu
  simp only [E.cells, List.mem_cons, List.not_mem_nil, or_false] at hu
  rcases hu with rfl | rfl | rfl | rfl <;> rfl
def tcell (s : ByteArray) : List Value := [.string s]
set_option maxRecDepth 100000 in
theorem oneT (s : ByteArray) : ∀ u ∈ tcell s, u.oneCell' = true := by
  intro u hu
  simp only [tcell, List.mem_cons, List.not_mem_nil, or_false] at hu
  subst hu
  rfl
set_option maxRecDepth 100000 in
theorem info66 : (Try.prog.info? 66).map (fun i => (i.zero, i.size, i.bytes)) = some (some (.agg #[.string ⟨#[]⟩, .string ⟨#[]⟩]), 2, 32) := by kernel_rfl
set_option maxRecDepth 100000 in
theorem info9 : (Try.prog.info? 9).map (fun i => (i.zero, i.size, i.bytes)) = some (some (.string ⟨#[]⟩), 1, 16) := by kernel_rfl
set_option maxRecDepth 100000 in
theorem info46 : (Try.prog.info? 46).map (fun i => (i.zero, i.size, i.bytes)) = some (some (.agg #[.int .u32 0, .int .u16 0, .string ⟨#[]⟩, .string ⟨#[]⟩]), 4, 40) := by kernel_rfl
set_option maxRecDepth 100000 in
theorem NBox.put {w : World} {k : Nat} {v0 v1 v2 v3 v4 : Value} (h : NBox w k v0 v1 v2 v3 v4) (y0 y1 y2 y3 y4 : Value) :
    NBox (((((w.setCell ⟨k, 0, none⟩ y0).setCell ⟨k, 1, none⟩ y1).setCell ⟨k, 2, none⟩ y2).setCell ⟨k, 3, none⟩ y3).setCell ⟨k, 4, none⟩ y4) k y0 y1 y2 y3 y4 :=
  Go.Joins.block_setCell (Go.Joins.block_setCell (Go.Joins.block_setCell (Go.Joins.block_setCell (Go.Joins.block_setCell h y0) y1) y2) y3) y4
set_option maxRecDepth 100000 in
/-- a row of the call's own, kept while only older blocks are written to -/
theorem row_later {w w' : World} {B : Nat} {e : TypeId} {sz : Nat} {v : Value} {n : Nat} {xs : List Value} (h : w.ownsRow B e sz v n xs) (hb : Below w.heap.size w w') : w'.ownsRow B e sz v n xs :=
  World.ownsRow.kept (row := none) h ⟨hb.os, hb.tape, hb.output, hb.size, fun k hk _ => hb.block k hk⟩ (by cases hv : v.ownBlock <;> simp)
set_option maxRecDepth 100000 in
theorem row_mono {w : World} {B B' : Nat} {e : TypeId} {sz : Nat} {v : Value} {n : Nat} {xs : List Value} (h : w.ownsRow B e sz v n xs) (hB : B' ≤ B) : w.ownsRow B' e sz v n xs := by
  refine ⟨h.1, ?_⟩
  rcases h.2 with h | ⟨g, cap, cur, hv, hb, r⟩
  · exact .inl h
  · exact .inr ⟨g, cap, cur, hv, Nat.le_trans hB hb, r⟩
set_option maxRecDepth 100000 in
/-- .. kept by a store into an older block -/
theorem row_set {w : World} {B k i : Nat} {u : Value} {e : TypeId} {sz : Nat} {v : Value} {n : Nat} {xs : List Value} (h : w.ownsRow B e sz v n xs) (hk : k < B) : (w.setCell ⟨k, i, none⟩ u).ownsRow B e sz v n xs := by
  refine ⟨h.1, ?_⟩
  rcases h.2 with h | ⟨g, cap, cur, hv, hb, hg, r⟩
  · exact .inl h
  · refine .inr ⟨g, cap, cur, hv, hb, ?_, r⟩
    rw [Below.heap_setCell _ _ _ _ (by dsimp only; omega)]
    exact hg
set_option maxRecDepth 100000 in
theorem row_five {w : World} {B k : Nat} {y0 y1 y2 y3 y4 : Value} {e : TypeId} {sz : Nat} {v : Value} {n : Nat} {xs : List Value} (h : w.ownsRow B e sz v n xs) (hk : k < B) :
    (((((w.setCell ⟨k, 0, none⟩ y0).setCell ⟨k, 1, none⟩ y1).setCell ⟨k, 2, none⟩ y2).setCell ⟨k, 3, none⟩ y3).setCell ⟨k, 4, none⟩ y4).ownsRow B e sz v n xs := row_set (row_set (row_set (row_set (row_set h hk) hk) hk) hk) hk
set_option maxRecDepth 100000 in
theorem row_slice {w : World} {B : Nat} {e : TypeId} {sz : Nat} {v : Value} {n : Nat} {xs : List Value} (h : w.ownsRow B e sz v n xs) : ∃ a m c, v = .slice a m c := by
  rcases h.2 with ⟨rfl, _⟩ | ⟨g, cap, cur, rfl, _⟩
  · exact ⟨_, _, _, rfl⟩
  · exact ⟨_, _, _, rfl⟩
/-- a node with lists of the call's own -/
structure Owns (w : World) (B : Nat) (n : Nd) (x1 x2 x3 x4 : Value) : Prop where
  o1 : w.ownsRow B 66 2 x1 n.ps.length (n.ps.flatMap Pr.cells)
  o2 : w.ownsRow B 9 1 x2 n.pv.length (n.pv.flatMap tcell)
  o3 : w.ownsRow B 46 4 x3 n.ks.length (n.ks.flatMap E.cells)
  o4 : w.ownsRow B 48 6 x4 n.bf.length (n.bf.flatMap M.cells)

theorem row_cells {α : Type} (f : α → List Value) (sz : Nat) (hf : ∀ x, (f x).length = sz) {w : World} {B : Nat} {e : TypeId} {v : Value} {l : List α} (h : w.ownsRow B e sz v l.length (l.flatMap f)) :
    ∃ a c, v = .slice a l.length c ∧ (l = [] ∨ ∃ g, a = some ⟨g, 0, none⟩ ∧ B ≤ g ∧ (∃ cur, w.heap[g]? = some (.cells cur e (0, 0))) ∧ ∀ i (_ : i < l.length) q u, q < sz → (f l[i])[q]? = some u → w.cell? ⟨g, 0 + i * sz + q, none⟩ = some u) := by
  have hc := fun g hg => World.ownsRow.cells h (g := g) hg
  rcases h.2 with ⟨rfl, h0⟩ | ⟨g, cap, cur, rfl, hb, hg, _, _, _, _⟩
  · have hy : l = [] := List.eq_nil_of_length_eq_zero h0
    exact ⟨none, 0, by rw [h0], .inl hy⟩
  · refine ⟨_, cap, rfl, .inr ⟨g, rfl, hb, ⟨cur, hg⟩, fun i hi q u hq hu => ?_⟩⟩
    have := hc g rfl (i * sz + q) u ((flat_at f sz hf l i hi q hq).trans hu)
    rw [add_plain] at this
    rw [Nat.add_assoc]
    exact this
theorem Owns.lies {w : World} {B : Nat} {n : Nd} {x1 x2 x3 x4 : Value} (h : Owns w B n x1 x2 x3 x4) : ∃ q : Pl, x1 = .slice q.a1 n.ps.length q.c1 ∧ x2 = .slice q.a2 n.pv.length q.c2 ∧ x3 = .slice q.a3 n.ks.length q.c3 ∧ x4 = .slice q.a4 n.bf.length q.c4 ∧ Lies w n q := by
  obtain ⟨a1, c1, e1, h1⟩ := row_cells Pr.cells 2 (fun _ => rfl) h.o1
  obtain ⟨a2, c2, e2, h2⟩ := row_cells tcell 1 (fun _ => rfl) h.o2
  obtain ⟨a3, c3, e3, h3⟩ := row_cells E.cells 4 (fun _ => rfl) h.o3
  obtain ⟨a4, c4, e4, h4⟩ := row_cells M.cells 6 (fun _ => rfl) h.o4
  refine ⟨⟨a1, c1, a2, c2, a3, c3, a4, c4⟩, e1, e2, e3, e4, ⟨?_, ?_, ?_, ?_⟩⟩
  · rcases h1 with h1 | ⟨g, e, _, _, hc⟩
    · exact .inl h1
    · exact .inr ⟨g, 0, e, fun i hi => ⟨hc i hi 0 _ (by omega) rfl, hc i hi 1 _ (by omega) rfl⟩⟩
  · rcases h2 with h2 | ⟨g, e, _, _, hc⟩
    · exact .inl h2
    · exact .inr ⟨g, 0, e, fun i hi => by have := hc i hi 0 _ (by omega) rfl; rw [Nat.mul_one] at this; exact this⟩
  · rcases h3 with h3 | ⟨g, e, _, _, hc⟩
    · exact .inl h3
    · exact .inr ⟨g, 0, e, fun i hi => ⟨hc i hi 0 _ (by omega) rfl, hc i hi 1 _ (by omega) rfl, hc i hi 2 _ (by omega) rfl, hc i hi 3 _ (by omega) rfl⟩⟩
  · rcases h4 with h4 | ⟨g, e, _, _, hc⟩
    · exact .inl h4
    · exact .inr ⟨g, 0, e, fun i hi => ⟨hc i hi 0 _ (by omega) rfl, hc i hi 1 _ (by omega) rfl, hc i hi 2 _ (by omega) rfl, hc i hi 3 _ (by omega) rfl, hc i hi 4 _ (by omega) rfl, hc i hi 5 _ (by omega) rfl⟩⟩
theorem Owns.later {w w' : World} {B : Nat} {n : Nd} {x1 x2 x3 x4 : Value} (h : Owns w B n x1 x2 x3 x4) (hb : Below w.heap.size w w') : Owns w' B n x1 x2 x3 x4 := ⟨row_later h.o1 hb, row_later h.o2 hb, row_later h.o3 hb, row_later h.o4 hb⟩
/-- a row kept by a store into a block of another type -/
theorem row_type {w : World} {B g i : Nat} {u : Value} {e e' : TypeId} {sz : Nat} {v : Value} {n : Nat} {xs : List Value} {cur : Array Value} (h : w.ownsRow B e sz v n xs) (hg : w.heap[g]? = some (.cells cur e' (0, 0))) (he : e ≠ e') : (w.setCell ⟨g, i, none⟩ u).ownsRow B e sz v n xs := by
  refine ⟨h.1, ?_⟩
  rcases h.2 with h | ⟨k, cap, cu, hv, hb, hk, r⟩
  · exact .inl h
  · refine .inr ⟨k, cap, cu, hv, hb, ?_, r⟩
    have hne : k ≠ g := by
      rintro rfl
      rw [hk] at hg
      simp only [Option.some.injEq, Obj.cells.injEq] at hg
      exact he hg.2.1
    rw [Below.heap_setCell _ _ _ _ hne]
    exact hk
end Go.Proofs.Ytmnngfbcgpholaa.Key
