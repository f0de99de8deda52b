/-
  A node that a call builds: its block, rows of its own in it, a row appended to.
-/
import Derived.Test.YtmnngfbcgpholaaRowsT
import Derived.Laws.AppendOwnNone
namespace Go.Proofs.Ytmnngfbcgpholaa.Key
open Go.RowKit Draw
set_option linter.unusedVariables false
set_option linter.unusedSimpArgs false

/-- a block that holds a pair -/
def PBox (w : World) (k : Nat) (p : Pr) : Prop := w.heap[k]? = some (.cells #[.string p.key, .string p.val] 66 (0, 0))
theorem PBox.new (w : World) (p : Pr) : PBox (w.alloc (.cells #[.string p.key, .string p.val] 66)) w.heap.size p := Go.heap_alloc_new _ _
theorem PBox.lt {w : World} {k : Nat} {p : Pr} (h : PBox w k p) : k < w.heap.size := (Array.getElem?_eq_some_iff.1 h).1
theorem PBox.later {w w' : World} {k : Nat} {p : Pr} (h : PBox w k p) (hb : Below w.heap.size w w') : PBox w' k p := (hb.block k h.lt).trans h
theorem PBox.two {w : World} {k : Nat} {p : Pr} (h : PBox w k p) : w.cell? ⟨k, 0, none⟩ = some (.string p.key) ∧ w.cell? ⟨k, 1, none⟩ = some (.string p.val) :=
  ⟨cell_of_row _ _ 0 _ _ _ h, cell_of_row _ _ 1 _ _ _ h⟩
theorem PBox.free {w : World} {k : Nat} {p : Pr} (h : PBox w k p) (i : Nat) : w.frozen? ⟨k, i, none⟩ = false := frozen_of_row _ _ i _ _ h

theorem grown_trans {w u u' : World} {row : Option Nat} (h : w.grownBy u row) (h' : u.grownBy u' row) : w.grownBy u' row :=
  ⟨h'.os.trans h.os, h'.tape.trans h.tape, h'.output.trans h.output, Nat.le_trans h.size h'.size, fun k hk hne => (h'.block k (Nat.lt_of_lt_of_le hk h.size) hne).trans (h.block k hk hne)⟩
theorem below_grown {w u : World} (row : Option Nat) (h : Below w.heap.size w u) : w.grownBy u row := ⟨h.os, h.tape, h.output, h.size, fun k hk _ => h.block k hk⟩
theorem NBox.kept {w u : World} {row : Option Nat} {k : Nat} {v0 v1 v2 v3 v4 : Value} (h : NBox w k v0 v1 v2 v3 v4) (hg : w.grownBy u row) (hne : some k ≠ row) : NBox u k v0 v1 v2 v3 v4 := (hg.block k h.lt hne).trans h
/-- rows of elements of other types lie in other blocks -/
theorem rows_apart {w : World} {B B' : Nat} {e e' : TypeId} {sz sz' : Nat} {v v' : Value} {n n' : Nat} {xs xs' : List Value} (h : w.ownsRow B e sz v n xs) (h' : w.ownsRow B' e' sz' v' n' xs') (hne : e ≠ e') : v.ownBlock = none ∨ v.ownBlock ≠ v'.ownBlock := by
  rcases h.2 with ⟨rfl, _⟩ | ⟨g, cap, cur, rfl, _, hg, _⟩
  · exact .inl rfl
  · rcases h'.2 with ⟨rfl, _⟩ | ⟨g', cap', cur', rfl, _, hg', _⟩
    · exact .inr (by intro e; cases e)
    · refine .inr fun e => ?_
      have : g = g' := by
        have e' : some g = some g' := e
        exact Option.some.inj e'
      subst this
      rw [hg] at hg'
      simp only [Option.some.injEq, Obj.cells.injEq] at hg'
      exact hne hg'.2.1
theorem row_kept {w u : World} {B B' : Nat} {e e' : TypeId} {sz sz' : Nat} {v v' : Value} {n n' : Nat} {xs xs' : List Value} (h : w.ownsRow B e sz v n xs) (h' : w.ownsRow B' e' sz' v' n' xs') (hne : e ≠ e') (hg : w.grownBy u v'.ownBlock) : u.ownsRow B e sz v n xs :=
  World.ownsRow.kept h hg (rows_apart h h' hne)
theorem row_ge {w : World} {B : Nat} {e : TypeId} {sz : Nat} {v : Value} {n : Nat} {xs : List Value} (h : w.ownsRow B e sz v n xs) {k : Nat} (hk : k < B) : some k ≠ v.ownBlock := by
  intro e
  have := (World.ownsRow.lt h k e.symm).1
  omega
/-- one more at a row's end, in a region that draws -/
theorem yOne {α : Type} (f : α → List Value) (sz byt : Nat) (t e : TypeId) (z : Value) (h0 : 0 < sz) (hf : ∀ x, (f x).length = sz) (ht : Try.prog.underlying t = some (.slice e)) (info : (Try.prog.info? e).map (fun i => (i.zero, i.size, i.bytes)) = some (some z, sz, byt)) (hz : z.cells.size = sz) (hby : byt ≤ 200) (hone : ∀ x, ∀ u ∈ f x, u.oneCell' = true)
    {ops : Array Oper} {o : Oper} {a : Act} {w : World} {K : Value → World → Prop} (hw : Region.wanted o (yielded ops a.tmps) = true) (s x : Operand)
    (ho : o.op = .call { callee := .builtin .append, args := #[s, x], argTypes := #[t, t] })
    (B : Nat) (v : Value) (l : List α) (hs : a.eval s = v) (hown : w.ownsRow B e sz v l.length (l.flatMap f)) (y : α) (k : Nat) (hx : a.eval x = .slice (some ⟨k, 0, none⟩) 1 1) (hc : ∀ j u, (f y)[j]? = some u → w.cell? ⟨k, j, none⟩ = some u) (hsz : l.length ≤ 90000) (hB : B ≤ w.heap.size)
    (h : ∀ v' w', w'.ownsRow B e sz v' (l ++ [y]).length ((l ++ [y]).flatMap f) → w.grownBy w' v.ownBlock → K v' w') : opYields Try.prog ops o a w K := by
  obtain ⟨i0, hi, hz0, hz1, hz2⟩ := info_parts info
  have hk : (l.length + 1) * byt ≤ 100000 * 200 := Nat.mul_le_mul (by omega) hby
  refine opYields_append hw s x t ho B e i0 z sz byt ht hi hz0 hz1 hz2 hz h0 v _ _ hs hown ⟨k, 0, none⟩ 1 1 (f y) hx (by rw [hf]; omega) ?_ (hone y) (by unfold maxLen; omega) (by omega) hB ?_
  · intro j u hu
    rw [add_plain, Nat.zero_add]
    exact hc j u hu
  · intro v' w' h1 h2
    refine h v' w' ?_ h2
    rw [List.length_append, List.flatMap_append, List.flatMap_cons, List.flatMap_nil, List.append_nil]
    exact h1
/-- .. in a region that does not -/
theorem appOne {α : Type} (f : α → List Value) (sz byt : Nat) (t e : TypeId) (z : Value) (h0 : 0 < sz) (hf : ∀ x, (f x).length = sz) (ht : Try.prog.underlying t = some (.slice e)) (info : (Try.prog.info? e).map (fun i => (i.zero, i.size, i.bytes)) = some (some z, sz, byt)) (hz : z.cells.size = sz) (hby : byt ≤ 200) (hone : ∀ x, ∀ u ∈ f x, u.oneCell' = true)
    {w : World} {ops : Array Oper} {rest : List Oper} {o : Oper} {a : Act} {Q : Exit → Act → World → Prop} (hgd : o.guard = none) (s x : Operand) (ho : o.op = .call { callee := .builtin .append, args := #[s, x], argTypes := #[t, t] })
    (B : Nat) (v : Value) (l : List α) (hs : a.eval s = v) (hown : w.ownsRow B e sz v l.length (l.flatMap f)) (y : α) (k : Nat) (hx : a.eval x = .slice (some ⟨k, 0, none⟩) 1 1) (hc : ∀ j u, (f y)[j]? = some u → w.cell? ⟨k, j, none⟩ = some u) (hsz : l.length ≤ 90000) (hB : B ≤ w.heap.size)
    (h : ∀ v' w', w'.ownsRow B e sz v' (l ++ [y]).length ((l ++ [y]).flatMap f) → w.grownBy w' v.ownBlock → wpList Try.prog ops Q rest (a.put o.dst v') w') : wpList Try.prog ops Q (o :: rest) a w := by
  obtain ⟨i0, hi, hz0, hz1, hz2⟩ := info_parts info
  have hk : (l.length + 1) * byt ≤ 100000 * 200 := Nat.mul_le_mul (by omega) hby
  refine wpList_append_own _ hgd s x t ho B e i0 z sz byt ht hi hz0 hz1 hz2 hz h0 _ _ _ hs hown ⟨k, 0, none⟩ 1 1 (f y) hx (by rw [hf]; omega) ?_ (hone y) (by unfold maxLen; omega) (by omega) hB ?_
  · intro j u hu
    rw [add_plain, Nat.zero_add]
    exact hc j u hu
  · intro v' w' h1 h2 _
    refine h v' w' ?_ h2
    rw [List.length_append, List.flatMap_append, List.flatMap_cons, List.flatMap_nil, List.append_nil]
    exact h1
theorem PBox.each {w : World} {k : Nat} {p : Pr} (h : PBox w k p) : ∀ j u, p.cells[j]? = some u → w.cell? ⟨k, j, none⟩ = some u := by
  intro j u hu
  obtain ⟨h0, h1⟩ := h.two
  have hj : j < 2 := by have := (List.getElem?_eq_some_iff.1 hu).1; simpa [Pr.cells] using this
  match j, hj with
  | 0, _ => rw [← hu]; exact h0
  | 1, _ => rw [← hu]; exact h1
theorem row_nil (w : World) (B : Nat) (e : TypeId) (sz : Nat) : w.ownsRow B e sz (.slice none 0 0) 0 [] := World.ownsRow_nil _ _ _ _
/-- one of a node's fields put anew -/
theorem NBox.put1 {w : World} {k : Nat} {v0 v1 v2 v3 v4 : Value} (h : NBox w k v0 v1 v2 v3 v4) (y : Value) : NBox (w.setCell ⟨k, 1, none⟩ y) k v0 y v2 v3 v4 := Go.Joins.block_setCell h y
theorem NBox.put2 {w : World} {k : Nat} {v0 v1 v2 v3 v4 : Value} (h : NBox w k v0 v1 v2 v3 v4) (y : Value) : NBox (w.setCell ⟨k, 2, none⟩ y) k v0 v1 y v3 v4 := Go.Joins.block_setCell h y
theorem NBox.put3 {w : World} {k : Nat} {v0 v1 v2 v3 v4 : Value} (h : NBox w k v0 v1 v2 v3 v4) (y : Value) : NBox (w.setCell ⟨k, 3, none⟩ y) k v0 v1 v2 y v4 := Go.Joins.block_setCell h y
theorem NBox.put4 {w : World} {k : Nat} {v0 v1 v2 v3 v4 : Value} (h : NBox w k v0 v1 v2 v3 v4) (y : Value) : NBox (w.setCell ⟨k, 4, none⟩ y) k v0 v1 v2 v3 y := Go.Joins.block_setCell h y
theorem NBox.far {w : World} {k k' i : Nat} {v0 v1 v2 v3 v4 u : Value} (h : NBox w k v0 v1 v2 v3 v4) (hne : k ≠ k') : NBox (w.setCell ⟨k', i, none⟩ u) k v0 v1 v2 v3 v4 := by
  unfold NBox
  rw [Below.heap_setCell _ _ _ _ hne]
  exact h
/-- a block that holds a text -/
def OneCell (w : World) (k : Nat) (s : ByteArray) : Prop := w.heap[k]? = some (.cells #[.string s] 9 (0, 0))
theorem OneCell.new (w : World) (s : ByteArray) : OneCell (w.alloc (.cells #[.string s] 9)) w.heap.size s := Go.heap_alloc_new _ _
theorem OneCell.lt {w : World} {k : Nat} {s : ByteArray} (h : OneCell w k s) : k < w.heap.size := (Array.getElem?_eq_some_iff.1 h).1
theorem OneCell.later {w w' : World} {k : Nat} {s : ByteArray} (h : OneCell w k s) (hb : Below w.heap.size w w') : OneCell w' k s := (hb.block k h.lt).trans h
theorem OneCell.each {w : World} {k : Nat} {s : ByteArray} (h : OneCell w k s) : ∀ j u, (tcell s)[j]? = some u → w.cell? ⟨k, j, none⟩ = some u := by
  intro j u hu
  have hj : j < 1 := by have := (List.getElem?_eq_some_iff.1 hu).1; simpa [tcell] using this
  obtain rfl : j = 0 := by omega
  rw [← hu]
  exact cell_of_row _ _ 0 _ _ _ h
theorem EBox.each {w : World} {k : Nat} {e : E} (h : EBox w k e) : ∀ j u, (E.cells e)[j]? = some u → w.cell? ⟨k, j, none⟩ = some u := by
  intro j u hu
  obtain ⟨c0, c1, c2, c3⟩ := h.four
  simp only [Nat.zero_add] at c1 c2 c3
  have hj : j < 4 := by have := (List.getElem?_eq_some_iff.1 hu).1; simpa [E.cells] using this
  match j, hj with
  | 0, _ => rw [← hu]; exact c0
  | 1, _ => rw [← hu]; exact c1
  | 2, _ => rw [← hu]; exact c2
  | 3, _ => rw [← hu]; exact c3
theorem EBox.kept {w u : World} {row : Option Nat} {k : Nat} {e : E} (h : EBox w k e) (hg : w.grownBy u row) (hne : some k ≠ row) : EBox u k e := (hg.block k h.lt hne).trans h
theorem Pair.kept {w u : World} {row : Option Nat} {k : Nat} {v0 v1 : Value} (h : Pair w k v0 v1) (hg : w.grownBy u row) (hne : some k ≠ row) : Pair u k v0 v1 := (hg.block k h.lt hne).trans h
theorem EBox.far {w : World} {k k' i : Nat} {e : E} {u : Value} (h : EBox w k e) (hne : k ≠ k') : EBox (w.setCell ⟨k', i, none⟩ u) k e := by
  unfold EBox
  rw [Below.heap_setCell _ _ _ _ hne]
  exact h
theorem Pair.far {w : World} {k k' i : Nat} {v0 v1 u : Value} (h : Pair w k v0 v1) (hne : k ≠ k') : Pair (w.setCell ⟨k', i, none⟩ u) k v0 v1 := by
  unfold Pair
  rw [Below.heap_setCell _ _ _ _ hne]
  exact h
/-- a kid's lift put anew -/
theorem EBox.lift {w : World} {k : Nat} {e : E} (h : EBox w k e) (s d : ByteArray) : EBox ((w.setCell ⟨k, 2, none⟩ (.string s)).setCell ⟨k, 3, none⟩ (.string d)) k ⟨e.blk, e.deep, s, d⟩ := Go.Joins.block_setCell (Go.Joins.block_setCell h (.string s)) (.string d)
/-- a row that lies elsewhere -/
theorem row_far {w : World} {B k i : Nat} {u : Value} {e : TypeId} {sz : Nat} {v : Value} {n : Nat} {xs : List Value} (h : w.ownsRow B e sz v n xs) (hk : some k ≠ v.ownBlock) : (w.setCell ⟨k, i, none⟩ u).ownsRow B e sz v n xs := by
  refine ⟨h.1, ?_⟩
  rcases h.2 with h | ⟨g, cap, cur, rfl, hb, hg, r⟩
  · exact .inl h
  · refine .inr ⟨g, cap, cur, rfl, hb, ?_, r⟩
    rw [Below.heap_setCell _ _ _ _ (fun e => hk (by subst e; rfl))]
    exact hg
theorem row_old {w : World} {B : Nat} {e : TypeId} {sz : Nat} {v : Value} {n : Nat} {xs : List Value} (h : w.ownsRow B e sz v n xs) {k : Nat} (hk : w.heap.size ≤ k) : some k ≠ v.ownBlock := by
  intro e
  have := (World.ownsRow.lt h k e.symm).2
  omega
theorem row_len {w : World} {B : Nat} {e : TypeId} {sz : Nat} {a : Option Addr} {d c n : Nat} {xs : List Value} (h : w.ownsRow B e sz (.slice a d c) n xs) : d = n := by
  rcases h.2 with ⟨e, h0⟩ | ⟨g, cap, cur, e, _⟩
  · simp only [Value.slice.injEq] at e
    omega
  · simp only [Value.slice.injEq] at e
    exact e.2.1
theorem four_boxes (w : World) (v0 v1 v2 v3 v4 r0 r1 r2 x0 x1 x2 x3 x4 y0 y1 y2 y3 y4 : Value) :
    NBox ((((w.alloc (.cells #[v0, v1, v2, v3, v4] 27)).alloc (.cells #[r0, r1, r2] 55)).alloc (.cells #[x0, x1, x2, x3, x4] 27)).alloc (.cells #[y0, y1, y2, y3, y4] 27)) w.heap.size v0 v1 v2 v3 v4 ∧
    Box ((((w.alloc (.cells #[v0, v1, v2, v3, v4] 27)).alloc (.cells #[r0, r1, r2] 55)).alloc (.cells #[x0, x1, x2, x3, x4] 27)).alloc (.cells #[y0, y1, y2, y3, y4] 27)) (w.heap.size + 1) r0 r1 r2 ∧
    NBox ((((w.alloc (.cells #[v0, v1, v2, v3, v4] 27)).alloc (.cells #[r0, r1, r2] 55)).alloc (.cells #[x0, x1, x2, x3, x4] 27)).alloc (.cells #[y0, y1, y2, y3, y4] 27)) (w.heap.size + 1 + 1) x0 x1 x2 x3 x4 ∧
    NBox ((((w.alloc (.cells #[v0, v1, v2, v3, v4] 27)).alloc (.cells #[r0, r1, r2] 55)).alloc (.cells #[x0, x1, x2, x3, x4] 27)).alloc (.cells #[y0, y1, y2, y3, y4] 27)) (w.heap.size + 1 + 1 + 1) y0 y1 y2 y3 y4 ∧
    Below w.heap.size w ((((w.alloc (.cells #[v0, v1, v2, v3, v4] 27)).alloc (.cells #[r0, r1, r2] 55)).alloc (.cells #[x0, x1, x2, x3, x4] 27)).alloc (.cells #[y0, y1, y2, y3, y4] 27)) ∧
    ((((w.alloc (.cells #[v0, v1, v2, v3, v4] 27)).alloc (.cells #[r0, r1, r2] 55)).alloc (.cells #[x0, x1, x2, x3, x4] 27)).alloc (.cells #[y0, y1, y2, y3, y4] 27)).heap.size = w.heap.size + 1 + 1 + 1 + 1 := by
  have a1 : (w.alloc (.cells #[v0, v1, v2, v3, v4] 27)).heap.size = w.heap.size + 1 := by simp
  have a2 : ((w.alloc (.cells #[v0, v1, v2, v3, v4] 27)).alloc (.cells #[r0, r1, r2] 55)).heap.size = w.heap.size + 1 + 1 := by simp
  have a3 : (((w.alloc (.cells #[v0, v1, v2, v3, v4] 27)).alloc (.cells #[r0, r1, r2] 55)).alloc (.cells #[x0, x1, x2, x3, x4] 27)).heap.size = w.heap.size + 1 + 1 + 1 := by simp
  have h0 := NBox.new w v0 v1 v2 v3 v4
  have h1 := Box.new (w.alloc (.cells #[v0, v1, v2, v3, v4] 27)) r0 r1 r2
  have h2 := NBox.new ((w.alloc (.cells #[v0, v1, v2, v3, v4] 27)).alloc (.cells #[r0, r1, r2] 55)) x0 x1 x2 x3 x4
  have h3 := NBox.new (((w.alloc (.cells #[v0, v1, v2, v3, v4] 27)).alloc (.cells #[r0, r1, r2] 55)).alloc (.cells #[x0, x1, x2, x3, x4] 27)) y0 y1 y2 y3 y4
  rw [a1] at h1
  rw [a2] at h2
  rw [a3] at h3
  refine ⟨((h0.alloc _).alloc _).alloc _, (h1.alloc _).alloc _, h2.alloc _, h3, (((below_box w _).alloc (by simp) _).alloc (by simp; omega) _).alloc (by simp; omega) _, by simp⟩
end Go.Proofs.Ytmnngfbcgpholaa.Key
