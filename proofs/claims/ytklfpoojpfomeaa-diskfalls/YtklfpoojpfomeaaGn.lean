/-
  Rows of the call's own, of whatever elements, appended to.
-/
import Derived.Test.YtklfpoojpfomeaaMs
import Derived.Test.YtklfpoojpfomeaaKd
import Derived.Lib.SmallJoins
namespace Go.Proofs.Ytklfpoojpfomeaa.Key
open Go.RowKit
set_option linter.unusedVariables false
set_option linter.unusedSimpArgs false

set_option maxRecDepth 100000 in
theorem flat_len {α : Type} (f : α → List Value) (sz : Nat) (hf : ∀ x, (f x).length = sz) (l : List α) : (l.flatMap f).length = l.length * sz := by
  induction l with
  | nil => simp
  | cons x l ih =>
    rw [List.flatMap_cons, List.length_append, ih, hf, List.length_cons, Nat.add_mul]
    omega
set_option maxRecDepth 100000 in
theorem flat_at {α : Type} (f : α → List Value) (sz : Nat) (hf : ∀ x, (f x).length = sz) : ∀ (l : List α) (i : Nat) (h : i < l.length) (q : Nat), q < sz → (l.flatMap f)[i * sz + q]? = (f l[i])[q]?
  | [], i, h, _, _ => by simp at h
  | x :: l, 0, _, q, hq => by
    rw [List.flatMap_cons, List.getElem?_append_left (by rw [hf]; omega)]
    simp
  | x :: l, i + 1, h, q, hq => by
    have h' : i < l.length := by simpa using h
    rw [List.flatMap_cons, List.getElem?_append_right (by rw [hf, Nat.add_mul]; omega), hf, show (i + 1) * sz + q - sz = i * sz + q by rw [Nat.add_mul]; omega]
    exact flat_at f sz hf l i h' q hq
set_option maxRecDepth 100000 in
theorem flat_news {α : Type} (f : α → List Value) (sz : Nat) (h0 : 0 < sz) (hf : ∀ x, (f x).length = sz) {l : List α} {w : World} {b off : Nat} (h : ∀ i (_ : i < l.length) q u, (f l[i])[q]? = some u → w.cell? ⟨b, off + i * sz + q, none⟩ = some u) : ∀ j u, (l.flatMap f)[j]? = some u → w.cell? ((⟨b, off, none⟩ : Addr).add j) = some u := by
  intro j u hu
  have hj : j < l.length * sz := by rw [← flat_len f sz hf]; exact (List.getElem?_eq_some_iff.1 hu).1
  have hi : j / sz < l.length := (Nat.div_lt_iff_lt_mul h0).2 hj
  have hq : j % sz < sz := Nat.mod_lt _ h0
  have e : j = j / sz * sz + j % sz := by rw [Nat.mul_comm]; exact (Nat.div_add_mod j sz).symm
  rw [e, flat_at f sz hf l _ hi _ hq] at hu
  have := h _ hi _ _ hu
  rw [add_plain]
  rw [show off + j = off + j / sz * sz + j % sz by omega]
  exact this
set_option maxRecDepth 100000 in
/-- a row of the call's own, kept while only older blocks are written to -/
theorem row_later {w w' : World} {B : Nat} {e : TypeId} {sz : Nat} {v : Value} {n : Nat} {xs : List Value} (h : w.ownsRow B e sz v n xs) (hb : Below w.heap.size w w') : w'.ownsRow B e sz v n xs :=
  World.ownsRow.kept (row := none) h ⟨hb.os, hb.tape, hb.output, hb.size, fun k hk _ => hb.block k hk⟩ (by cases hv : v.ownBlock <;> simp)
set_option maxRecDepth 100000 in
theorem row_slice {w : World} {B : Nat} {e : TypeId} {sz : Nat} {v : Value} {n : Nat} {xs : List Value} (h : w.ownsRow B e sz v n xs) : ∃ a m c, v = .slice a m c := by
  rcases h.2 with ⟨rfl, _⟩ | ⟨g, cap, cur, rfl, _⟩
  · exact ⟨_, _, _, rfl⟩
  · exact ⟨_, _, _, rfl⟩
theorem row_cells {α : Type} (f : α → List Value) (sz : Nat) (hf : ∀ x, (f x).length = sz) {w : World} {B : Nat} {e : TypeId} {v : Value} {l : List α} (h : w.ownsRow B e sz v l.length (l.flatMap f)) :
    ∃ a c, v = .slice a l.length c ∧ (l = [] ∨ ∃ g, a = some ⟨g, 0, none⟩ ∧ B ≤ g ∧ (∃ cur, w.heap[g]? = some (.cells cur e (0, 0))) ∧ ∀ i (_ : i < l.length) q u, q < sz → (f l[i])[q]? = some u → w.cell? ⟨g, 0 + i * sz + q, none⟩ = some u) := by
  have hc := fun g hg => World.ownsRow.cells h (g := g) hg
  rcases h.2 with ⟨rfl, h0⟩ | ⟨g, cap, cur, rfl, hb, hg, _, _, _, _⟩
  · have hy : l = [] := List.eq_nil_of_length_eq_zero h0
    exact ⟨none, 0, by rw [h0], .inl hy⟩
  · refine ⟨_, cap, rfl, .inr ⟨g, rfl, hb, ⟨cur, hg⟩, fun i hi q u hq hu => ?_⟩⟩
    have := hc g rfl (i * sz + q) u ((flat_at f sz hf l i hi q hq).trans hu)
    rw [add_plain] at this
    rw [Nat.add_assoc]
    exact this
set_option maxRecDepth 100000 in
/-- 'append(l, ys...)' -/
theorem appGen {α : Type} (f : α → List Value) (sz byt : Nat) (t e : TypeId) (z : Value) (h0 : 0 < sz) (hf : ∀ x, (f x).length = sz) (ht : Try.prog.underlying t = some (.slice e)) (info : (Try.prog.info? e).map (fun i => (i.zero, i.size, i.bytes)) = some (some z, sz, byt)) (hz : z.cells.size = sz) (hby : byt ≤ 200) (hone : ∀ x, ∀ u ∈ f x, u.oneCell' = true)
    {w0 w : World} {ops : Array Oper} {rest : List Oper} {o : Oper} {a : Act} {Q : Exit → Act → World → Prop} (hgd : o.guard = none) (s x : Operand) (ho : o.op = .call { callee := .builtin .append, args := #[s, x], argTypes := #[t, t] })
    (B : Nat) (v : Value) (l : List α) (hs : a.eval s = v) (hown : w.ownsRow B e sz v l.length (l.flatMap f)) (ad : Option Addr) (m c : Nat) (ys : List α) (hx : a.eval x = .slice ad m c) (hnil : ad = none → m = 0 ∧ c = 0) (hl : ys.length = m) (hn : ∀ adr, ad = some adr → ∀ j u, (ys.flatMap f)[j]? = some u → w.cell? (adr.add j) = some u) (hsz : l.length + m ≤ 100000) (hB : B ≤ w.heap.size) (hbel : Below B w0 w)
    (h : ∀ v' w', w'.ownsRow B e sz v' (l ++ ys).length ((l ++ ys).flatMap f) → Below B w0 w' → w.grownBy w' v.ownBlock → wpList Try.prog ops Q rest (a.put o.dst v') w') : wpList Try.prog ops Q (o :: rest) a w := by
  obtain ⟨i0, hi, hz0, hz1, hz2⟩ := info_parts info
  cases ad with
  | none =>
    obtain ⟨rfl, rfl⟩ := hnil rfl
    have hy : ys = [] := List.eq_nil_of_length_eq_zero hl
    subst hy
    refine wpList_append_own_none hgd s x t ho B e i0 sz ht hi _ _ _ hs hown hx ?_
    exact h v w (by simpa using hown) hbel ⟨rfl, rfl, rfl, Nat.le_refl _, fun _ _ _ => rfl⟩
  | some ad =>
    have hk : (l.length + m) * byt ≤ 100000 * 200 := Nat.mul_le_mul hsz hby
    refine wpList_append_own _ hgd s x t ho B e i0 z sz byt ht hi hz0 hz1 hz2 hz h0 _ _ _ hs hown ad m c (ys.flatMap f) hx (by rw [flat_len f sz hf, hl]) (hn ad rfl) (by intro u hu; obtain ⟨y, _, hy⟩ := List.mem_flatMap.1 hu; exact hone y u hy)
      (by unfold maxLen; omega) (by omega) hB ?_
    intro v' w' h1 h2 _
    refine h v' w' ?_ (hbel.grown h2 hB fun j hj => (World.ownsRow.lt hown j hj).1) h2
    rw [List.length_append, List.flatMap_append, hl]
    exact h1
theorem filt_at {α : Type} {p : α → Bool} {l : List α} {j : Nat} {x : α} (h : l[j]? = some x) : (l.take (j + 1)).filter p = if p x then (l.take j).filter p ++ [x] else (l.take j).filter p := by
  rw [List.take_add_one, h]
  show (l.take j ++ [x]).filter p = _
  rw [List.filter_append]
  cases hq : p x <;> simp [hq]
theorem filter_le {α : Type} (p : α → Bool) (l : List α) (j : Nat) : ((l.take j).filter p).length ≤ j := by
  have := List.length_filter_le p (l.take j)
  rw [List.length_take] at this
  omega
end Go.Proofs.Ytklfpoojpfomeaa.Key
