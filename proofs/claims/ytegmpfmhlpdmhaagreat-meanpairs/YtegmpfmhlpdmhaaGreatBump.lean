/-
  Rows of the call's own as lists in memory; edges whose blocks are counted on.
-/
import Derived.Test.YtegmpfmhlpdmhaaGreatOwn9
namespace Go.Proofs.YtegmpfmhlpdmhaaGreat.Key
open Go.RowKit

theorem row_cells {α : Type} (f : α → List Value) (sz : Nat) (hf : ∀ x, (f x).length = sz) {w : World} {B : Nat} {e : TypeId} {v : Value} {l : List α} (h : w.ownsRow B e sz v l.length (l.flatMap f)) :
    ∃ a c, v = .slice a l.length c ∧ (l = [] ∨ ∃ g, a = some ⟨g, 0, none⟩ ∧ B ≤ g ∧ (∃ cur, w.heap[g]? = some (.cells cur e (0, 0))) ∧ ∀ i (_ : i < l.length) q u, q < sz → (f l[i])[q]? = some u → w.cell? ⟨g, 0 + i * sz + q, none⟩ = some u) := by
  have hc := fun g hg => World.ownsRow.cells h (g := g) hg
  rcases h.2 with ⟨rfl, h0⟩ | ⟨g, cap, cur, rfl, hb, hg, _, _, _, _⟩
  · have hy : l = [] := List.eq_nil_of_length_eq_zero h0
    exact ⟨none, 0, by rw [h0], .inl hy⟩
  · refine ⟨_, cap, rfl, .inr ⟨g, rfl, hb, ⟨cur, hg⟩, fun i hi q u hq hu => ?_⟩⟩
    have := hc g rfl (i * sz + q) u ((flat_at f sz hf l i hi q hq).trans hu)
    rw [add_plain] at this
    rw [Nat.add_assoc]
    exact this
theorem Owns.lies {w : World} {B : Nat} {n : Nd} {x1 x2 x3 x4 : Value} (h : Owns w B n x1 x2 x3 x4) : ∃ q : Pl, x1 = .slice q.a1 n.ps.length q.c1 ∧ x2 = .slice q.a2 n.pv.length q.c2 ∧ x3 = .slice q.a3 n.ks.length q.c3 ∧ x4 = .slice q.a4 n.bf.length q.c4 ∧ Lies w n q := by
  obtain ⟨a1, c1, e1, h1⟩ := row_cells Pr.cells 2 (fun _ => rfl) h.o1
  obtain ⟨a2, c2, e2, h2⟩ := row_cells tcell 1 (fun _ => rfl) h.o2
  obtain ⟨a3, c3, e3, h3⟩ := row_cells E.cells 4 (fun _ => rfl) h.o3
  obtain ⟨a4, c4, e4, h4⟩ := row_cells M.cells 6 (fun _ => rfl) h.o4
  refine ⟨⟨a1, c1, a2, c2, a3, c3, a4, c4⟩, e1, e2, e3, e4, ⟨?_, ?_, ?_, ?_⟩⟩
  · rcases h1 with h1 | ⟨g, e, _, _, hc⟩
    · exact .inl h1
    · exact .inr ⟨g, 0, e, fun i hi => ⟨hc i hi 0 _ (by omega) rfl, hc i hi 1 _ (by omega) rfl⟩⟩
  · rcases h2 with h2 | ⟨g, e, _, _, hc⟩
    · exact .inl h2
    · exact .inr ⟨g, 0, e, fun i hi => by have := hc i hi 0 _ (by omega) rfl; rw [Nat.mul_one] at this; exact this⟩
  · rcases h3 with h3 | ⟨g, e, _, _, hc⟩
    · exact .inl h3
    · exact .inr ⟨g, 0, e, fun i hi => ⟨hc i hi 0 _ (by omega) rfl, hc i hi 1 _ (by omega) rfl, hc i hi 2 _ (by omega) rfl, hc i hi 3 _ (by omega) rfl⟩⟩
  · rcases h4 with h4 | ⟨g, e, _, _, hc⟩
    · exact .inl h4
    · exact .inr ⟨g, 0, e, fun i hi => ⟨hc i hi 0 _ (by omega) rfl, hc i hi 1 _ (by omega) rfl, hc i hi 2 _ (by omega) rfl, hc i hi 3 _ (by omega) rfl, hc i hi 4 _ (by omega) rfl, hc i hi 5 _ (by omega) rfl⟩⟩
theorem Owns.later {w w' : World} {B : Nat} {n : Nd} {x1 x2 x3 x4 : Value} (h : Owns w B n x1 x2 x3 x4) (hb : Below w.heap.size w w') : Owns w' B n x1 x2 x3 x4 := ⟨row_later h.o1 hb, row_later h.o2 hb, row_later h.o3 hb, row_later h.o4 hb⟩
/-- a row kept by a store into a block of another type -/
theorem row_type {w : World} {B g i : Nat} {u : Value} {e e' : TypeId} {sz : Nat} {v : Value} {n : Nat} {xs : List Value} {cur : Array Value} (h : w.ownsRow B e sz v n xs) (hg : w.heap[g]? = some (.cells cur e' (0, 0))) (he : e ≠ e') : (w.setCell ⟨g, i, none⟩ u).ownsRow B e sz v n xs := by
  refine ⟨h.1, ?_⟩
  rcases h.2 with h | ⟨k, cap, cu, hv, hb, hk, r⟩
  · exact .inl h
  · refine .inr ⟨k, cap, cu, hv, hb, ?_, r⟩
    have hne : k ≠ g := by
      rintro rfl
      rw [hk] at hg
      simp only [Option.some.injEq, Obj.cells.injEq] at hg
      exact he hg.2.1
    rw [Below.heap_setCell _ _ _ _ hne]
    exact hk
theorem NBox.type {w : World} {k g i : Nat} {u v0 v1 v2 v3 v4 : Value} {cur : Array Value} (h : NBox w k v0 v1 v2 v3 v4) (hg : w.heap[g]? = some (.cells cur 39 (0, 0))) : NBox (w.setCell ⟨g, i, none⟩ u) k v0 v1 v2 v3 v4 := by
  have hne : k ≠ g := by
    rintro rfl
    rw [show w.heap[k]? = _ from h] at hg
    simp only [Option.some.injEq, Obj.cells.injEq] at hg
    exact absurd hg.2.1 (by decide)
  unfold NBox
  rw [Below.heap_setCell _ _ _ _ hne]
  exact h
/-- an edge whose block is counted on -/
def bumpE (e : E) : E := ⟨IntKind.u32.wrap (e.blk + 1), e.deep, e.strip, e.add⟩
def bumpL (ks : List E) (j : Nat) : List E := (ks.take j).map bumpE ++ ks.drop j
theorem bumpL_zero (ks : List E) : bumpL ks 0 = ks := by simp [bumpL]
theorem bumpL_all (ks : List E) : bumpL ks ks.length = ks.map bumpE := by simp [bumpL]
theorem bumpL_len (ks : List E) (j : Nat) : (bumpL ks j).length = ks.length := by simp [bumpL]; omega
theorem bumpL_at {ks : List E} {j : Nat} (h : j < ks.length) : (bumpL ks j)[j]'(by rw [bumpL_len]; exact h) = ks[j] := by
  unfold bumpL
  rw [List.getElem_append_right (by simp; omega)]
  simp
  congr 1
  omega
theorem bumpL_succ {ks : List E} {j : Nat} (h : j < ks.length) : bumpL ks (j + 1) = (bumpL ks j).set j (bumpE ks[j]) := by
  have hl : ((ks.take j).map bumpE).length = j := by simp; omega
  have hd := List.drop_eq_getElem_cons h
  unfold bumpL
  rw [List.take_succ_eq_append_getElem h, List.map_append, List.append_assoc, List.set_append_right _ _ (by rw [hl]; exact Nat.le_refl _), hl, Nat.sub_self, hd]
  rfl
theorem cellsE_set (b : Int) : ∀ (l : List E) (i : Nat) (h : i < l.length), (l.flatMap E.cells).set (i * 4) (.int .u32 b) = (l.set i ⟨b, l[i].deep, l[i].strip, l[i].add⟩).flatMap E.cells
  | [], i, h => by simp at h
  | x :: l, 0, _ => by simp [E.cells]
  | x :: l, i + 1, h => by
    have ih := cellsE_set b l i (by simpa using h)
    rw [List.flatMap_cons, List.set_append_right _ _ (by simp [E.cells]; omega), show (i + 1) * 4 - x.cells.length = i * 4 by simp [E.cells]; omega, ih]
    simp
/-- one more of them -/
theorem Owns.bump {w : World} {B g : Nat} {lf : Bool} {ps : List Pr} {pv : List ByteArray} {ks : List E} {bf : List M} {x1 x2 x4 : Value} {c j : Nat} (h : Owns w B ⟨lf, ps, pv, bumpL ks j, bf⟩ x1 x2 (.slice (some ⟨g, 0, none⟩) (bumpL ks j).length c) x4) (hj : j < ks.length) (hg : ∃ cur, w.heap[g]? = some (.cells cur 39 (0, 0))) :
    Owns (w.setCell ⟨g, j * 4, none⟩ (.int .u32 (IntKind.u32.wrap (ks[j].blk + 1)))) B ⟨lf, ps, pv, bumpL ks (j + 1), bf⟩ x1 x2 (.slice (some ⟨g, 0, none⟩) (bumpL ks j).length c) x4 := by
  obtain ⟨cur, hg⟩ := hg
  have hs := (World.ownsRow.stored h.o3 (j * 4) (.int .u32 (IntKind.u32.wrap (ks[j].blk + 1)))).1
  refine ⟨row_type h.o1 hg (by decide), row_type h.o2 hg (by decide), ?_, row_type h.o4 hg (by decide)⟩
  dsimp only at hs ⊢
  rw [bumpL_succ hj, List.length_set]
  rw [cellsE_set _ _ _ (by rw [bumpL_len]; exact hj)] at hs
  rw [show bumpE ks[j] = ⟨IntKind.u32.wrap (ks[j].blk + 1), ((bumpL ks j)[j]'(by rw [bumpL_len]; exact hj)).deep, ((bumpL ks j)[j]'(by rw [bumpL_len]; exact hj)).strip, ((bumpL ks j)[j]'(by rw [bumpL_len]; exact hj)).add⟩ by rw [bumpL_at hj]; rfl]
  exact hs
theorem Owns.bump' {w : World} {B g : Nat} {lf : Bool} {ps : List Pr} {pv : List ByteArray} {ks : List E} {bf : List M} {x1 x2 x4 : Value} {c j m : Nat} (hm : ks.length = m) (h : Owns w B ⟨lf, ps, pv, bumpL ks j, bf⟩ x1 x2 (.slice (some ⟨g, 0, none⟩) m c) x4) (hj : j < ks.length) (hg : ∃ cur, w.heap[g]? = some (.cells cur 39 (0, 0))) :
    Owns (w.setCell ⟨g, j * 4, none⟩ (.int .u32 (IntKind.u32.wrap (ks[j].blk + 1)))) B ⟨lf, ps, pv, bumpL ks (j + 1), bf⟩ x1 x2 (.slice (some ⟨g, 0, none⟩) m c) x4 := by
  obtain rfl : m = (bumpL ks j).length := by rw [bumpL_len, hm]
  exact h.bump hj hg
theorem Owns.lies' {w : World} {B : Nat} {n : Nd} {b1 b2 b3 b4 : Option Addr} {l1 l2 l3 l4 d1 d2 d3 d4 : Nat} (h : Owns w B n (.slice b1 l1 d1) (.slice b2 l2 d2) (.slice b3 l3 d3) (.slice b4 l4 d4)) : Lies w n ⟨b1, d1, b2, d2, b3, d3, b4, d4⟩ := by
  obtain ⟨⟨a1, c1, a2, c2, a3, c3, a4, c4⟩, e1, e2, e3, e4, hq⟩ := h.lies
  simp only [Value.slice.injEq] at e1 e2 e3 e4
  obtain ⟨rfl, _, rfl⟩ := e1
  obtain ⟨rfl, _, rfl⟩ := e2
  obtain ⟨rfl, _, rfl⟩ := e3
  obtain ⟨rfl, _, rfl⟩ := e4
  exact hq
/-- the edge at a place -/
theorem Owns.edge {w : World} {B : Nat} {lf : Bool} {ps : List Pr} {pv : List ByteArray} {ks : List E} {bf : List M} {x1 x2 x4 : Value} {b3 : Option Addr} {m c j : Nat} (h : Owns w B ⟨lf, ps, pv, bumpL ks j, bf⟩ x1 x2 (.slice b3 m c) x4) (hj : j < ks.length) :
    ∃ g, b3 = some ⟨g, 0, none⟩ ∧ B ≤ g ∧ (∃ cur, w.heap[g]? = some (.cells cur 39 (0, 0))) ∧ Four w g (j * 4) ks[j] := by
  obtain ⟨a, c', e, hr⟩ := row_cells E.cells 4 (fun _ => rfl) h.o3
  simp only [Value.slice.injEq] at e
  obtain ⟨rfl, _, rfl⟩ := e
  have hl : j < (bumpL ks j).length := by rw [bumpL_len]; exact hj
  rcases hr with hr | ⟨g, rfl, hB, hg, hc⟩
  · dsimp only at hr; rw [hr] at hl; simp at hl
  · refine ⟨g, rfl, hB, hg, ?_⟩
    dsimp only at hc
    have h0 := hc j hl 0 _ (by omega) rfl
    have h1 := hc j hl 1 _ (by omega) rfl
    have h2 := hc j hl 2 _ (by omega) rfl
    have h3 := hc j hl 3 _ (by omega) rfl
    rw [bumpL_at hj, Nat.zero_add] at h0 h1 h2 h3
    exact ⟨h0, h1, h2, h3⟩
theorem wf32 {z : Int} (h : (Lit.int .u32 z).wf = true) : 0 ≤ z ∧ z ≤ 4294967295 := by
  simp only [Lit.wf, Bool.and_eq_true, decide_eq_true_eq] at h
  have h2 : z ≤ IntKind.u32.max := h.2
  have h1 : IntKind.u32.min ≤ z := h.1
  have e1 : IntKind.u32.min = 0 := rfl
  have e2 : IntKind.u32.max = 4294967295 := by decide
  omega
theorem bump_ne {z : Int} (h : (Lit.int .u32 z).wf = true) : IntKind.u32.wrap (z + 1) ≠ z := by
  have e : IntKind.u32.wrap (z + 1) = (z + 1) % 4294967296 := by first | rfl | simp [IntKind.wrap, IntKind.signed, IntKind.bits]
  have := wf32 h
  rw [e]
  omega
end Go.Proofs.YtegmpfmhlpdmhaaGreat.Key
