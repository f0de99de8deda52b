/-
  Rows of the call's own of whatever elements, appended to; items cloned.
-/
import Derived.Test.YtegmpfmhlpdmhaaGreatClos
import Derived.Test.YtegmpfmhlpdmhaaGreatOwnRs
namespace Go.Proofs.YtegmpfmhlpdmhaaGreat.Key
open Go.RowKit
set_option linter.unusedVariables false
set_option linter.unusedSimpArgs false

set_option maxRecDepth 100000 in
/-- 'append(l, ys...)' -/
theorem appGen {α : Type} (f : α → List Value) (sz byt : Nat) (t e : TypeId) (z : Value) (h0 : 0 < sz) (hf : ∀ x, (f x).length = sz) (ht : Tryz.prog.underlying t = some (.slice e)) (info : (Tryz.prog.info? e).map (fun i => (i.zero, i.size, i.bytes)) = some (some z, sz, byt)) (hz : z.cells.size = sz) (hby : byt ≤ 200) (hone : ∀ x, ∀ u ∈ f x, u.oneCell' = true)
    {w0 w : World} {ops : Array Oper} {rest : List Oper} {o : Oper} {a : Act} {Q : Exit → Act → World → Prop} (hgd : o.guard = none) (s x : Operand) (ho : o.op = .call { callee := .builtin .append, args := #[s, x], argTypes := #[t, t] })
    (B : Nat) (v : Value) (l : List α) (hs : a.eval s = v) (hown : w.ownsRow B e sz v l.length (l.flatMap f)) (ad : Option Addr) (m c : Nat) (ys : List α) (hx : a.eval x = .slice ad m c) (hnil : ad = none → m = 0 ∧ c = 0) (hl : ys.length = m) (hn : ∀ adr, ad = some adr → ∀ j u, (ys.flatMap f)[j]? = some u → w.cell? (adr.add j) = some u) (hsz : l.length + m ≤ 100000) (hB : B ≤ w.heap.size) (hbel : Below B w0 w)
    (h : ∀ v' w', w'.ownsRow B e sz v' (l ++ ys).length ((l ++ ys).flatMap f) → Below B w0 w' → w.grownBy w' v.ownBlock → wpList Tryz.prog ops Q rest (a.put o.dst v') w') : wpList Tryz.prog ops Q (o :: rest) a w := by
  obtain ⟨i0, hi, hz0, hz1, hz2⟩ := info_parts info
  cases ad with
  | none =>
    obtain ⟨rfl, rfl⟩ := hnil rfl
    have hy : ys = [] := List.eq_nil_of_length_eq_zero hl
    subst hy
    refine wpList_append_own_none hgd s x t ho B e i0 sz ht hi _ _ _ hs hown hx ?_
    exact h v w (by simpa using hown) hbel ⟨rfl, rfl, rfl, Nat.le_refl _, fun _ _ _ => rfl⟩
  | some ad =>
    have hk : (l.length + m) * byt ≤ 100000 * 200 := Nat.mul_le_mul hsz hby
    refine wpList_append_own _ hgd s x t ho B e i0 z sz byt ht hi hz0 hz1 hz2 hz h0 _ _ _ hs hown ad m c (ys.flatMap f) hx (by rw [flat_len f sz hf, hl]) (hn ad rfl) (by intro u hu; obtain ⟨y, _, hy⟩ := List.mem_flatMap.1 hu; exact hone y u hy)
      (by unfold maxLen; omega) (by omega) hB ?_
    intro v' w' h1 h2 _
    refine h v' w' ?_ (hbel.grown h2 hB fun j hj => (World.ownsRow.lt hown j hj).1) h2
    rw [List.length_append, List.flatMap_append, hl]
    exact h1
set_option maxRecDepth 100000 in
theorem Items.news {w : World} {a : Option Addr} {l : List It} (h : Items w a l) : ∀ adr, a = some adr → ∀ j u, (l.flatMap It.cells)[j]? = some u → w.cell? (adr.add j) = some u := by
  rintro adr rfl
  rcases h with rfl | ⟨b, off, he, hc⟩
  · intro j u hu; simp at hu
  · simp only [Option.some.injEq] at he
    subst he
    refine flat_news It.cells 6 (by omega) (fun _ => rfl) fun i hi q u hu => ?_
    obtain ⟨⟨c0, c1, c2, c3, c4, c5⟩, _⟩ := hc i hi
    have hq : q < 6 := by have := (List.getElem?_eq_some_iff.1 hu).1; simpa [It.cells] using this
    match q, hq with
    | 0, _ => rw [← hu]; exact c0
    | 1, _ => rw [← hu]; exact c1
    | 2, _ => rw [← hu]; exact c2
    | 3, _ => rw [← hu]; exact c3
    | 4, _ => rw [← hu]; exact c4
    | 5, _ => rw [← hu]; exact c5
set_option maxRecDepth 100000 in
theorem info48 : (Tryz.prog.info? 48).map (fun i => (i.zero, i.size, i.bytes)) = some (some (.agg #[.int .u32 0, .bool false, .slice none 0 0, .slice none 0 0, .slice none 0 0, .slice none 0 0]), 6, 112) := by kernel_rfl
theorem oneI (x : It) : ∀ u ∈ x.cells, u.oneCell' = true := by
  intro u hu
  simp only [It.cells, List.mem_cons, List.not_mem_nil, or_false] at hu
  rcases hu with rfl | rfl | rfl | rfl | rfl | rfl <;> rfl
theorem OwnI.made (w : World) : (w.alloc (.cells #[] 48)).ownsRow w.heap.size 48 6 (.slice (some ⟨w.heap.size, 0, none⟩) 0 0) 0 [] :=
  World.ownsRow_made w #[] 0 (Nat.le_refl _) (Nat.zero_le _) (by simp)
end Go.Proofs.YtegmpfmhlpdmhaaGreat.Key
