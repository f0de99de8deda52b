/-
  Rows of the call's own of whatever elements, appended to; items cloned.
-/
import Derived.Test.YtegmpfmhlpdmhaaClos
import Derived.Test.YtegmpfmhlpdmhaaOwnRs
namespace Go.Proofs.Ytegmpfmhlpdmhaa.Key
open Go.RowKit
set_option linter.unusedVariables false
set_option linter.unusedSimpArgs false

set_option maxRecDepth 100000 in
/-- 'append(l, ys...)' -/
theorem appGen {α : Type} (f : α → List Value) (sz byt : Nat) (t e : TypeId) (z : Value) (h0 : 0 < sz) (hf : ∀ x, (f x).length = sz) (ht : Try.prog.underlying t = some (.slice e)) (info : (Try.prog.info? e).map (fun i => (i.zero, i.size, i.bytes)) = some (some z, sz, byt)) (hz : z.cells.size = sz) (hby : byt ≤ 200) (hone : ∀ x, ∀ u ∈ f x, u.oneCell' = true)
    {w0 w : World} {ops : Array Oper} {rest : List Oper} {o : Oper} {a : Act} {Q : Exit → Act → World → Prop} (hgd : o.guard = none) (s x : Operand) (ho : o.op = .call { callee := .builtin .append, args := #[s, x], argTypes := #[t, t] })
    (B : Nat) (v : Value) (l : List α) (hs : a.eval s = v) (hown : w.ownsRow B e sz v l.length (l.flatMap f)) (ad : Option Addr) (m c : Nat) (ys : List α) (hx : a.eval x = .slice ad m c) (hnil : ad = none → m = 0 ∧ c = 0) (hl : ys.length = m) (hn : ∀ adr, ad = some adr → ∀ j u, (ys.flatMap f)[j]? = some u → w.cell? (adr.add j) = some u) (hsz : l.length + m ≤ 100000) (hB : B ≤ w.heap.size) (hbel : Below B w0 w)
    (h : ∀ v' w', w'.ownsRow B e sz v' (l ++ ys).length ((l ++ ys).flatMap f) → Below B w0 w' → w.grownBy w' v.ownBlock → wpList Try.prog ops Q rest (a.put o.dst v') w') : wpList Try.prog ops Q (o :: rest) a w := by
  obtain ⟨i0, hi, hz0, hz1, hz2⟩ := info_parts info
  cases ad with
  | none =>
    obtain ⟨rfl, rfl⟩ := hnil rfl
    have hy : ys = [] := List.eq_nil_of_length_eq_zero hl
    subst hy
    refine wpList_append_own_none hgd s x t ho B e i0 sz ht hi _ _ _ hs hown hx ?_
    exact h v w (by simpa using hown) hbel ⟨rfl, rfl, rfl, Nat.le_refl _, fun _ _ _ => rfl⟩
  | some ad =>
    have hk : (l.length + m) * byt ≤ 100000 * 200 := Nat.mul_le_mul hsz hby
    refine wpList_append_own _ hgd s x t ho B e i0 z sz byt ht hi hz0 hz1 hz2 hz h0 _ _ _ hs hown ad m c (ys.flatMap f) hx (by rw [flat_len f sz hf, hl]) (hn ad rfl) (by intro u hu; obtain ⟨y, _, hy⟩ := List.mem_flatMap.1 hu; exact hone y u hy)
      (by unfold maxLen; omega) (by omega) hB ?_
    intro v' w' h1 h2 _
    refine h v' w' ?_ (hbel.grown h2 hB fun j hj => (World.ownsRow.lt hown j hj).1) h2
    rw [List.length_append, List.flatMap_append, hl]
    exact h1
set_option maxRecDepth 100000 in
theorem Items.news {w : World} {a : Option Addr} {l : List It} (h : Items w a l) : ∀ adr, a = some adr → ∀ j u, (l.flatMap It.cells)[j]? = some u → w.cell? (adr.add j) = some u := by
  rintro adr rfl
  rcases h with rfl | ⟨b, off, he, hc⟩
  · intro j u hu; simp at hu
  · simp only [Option.some.injEq] at he
    subst he
    refine flat_news It.cells 6 (by omega) (fun _ => rfl) fun i hi q u hu => ?_
    obtain ⟨⟨c0, c1, c2, c3, c4, c5⟩, _⟩ := hc i hi
    have hq : q < 6 := by have := (List.getElem?_eq_some_iff.1 hu).1; simpa [It.cells] using this
    match q, hq with
    | 0, _ => rw [← hu]; exact c0
    | 1, _ => rw [← hu]; exact c1
    | 2, _ => rw [← hu]; exact c2
    | 3, _ => rw [← hu]; exact c3
    | 4, _ => rw [← hu]; exact c4
    | 5, _ => rw [← hu]; exact c5
set_option maxRecDepth 100000 in
theorem info52 : (Try.prog.info? 52).map (fun i => (i.zero, i.size, i.bytes)) = some (some (.agg #[.int .u32 0, .bool false, .slice none 0 0, .slice none 0 0, .slice none 0 0, .slice none 0 0]), 6, 112) := by kernel_rfl
theorem oneI (x : It) : ∀ u ∈ x.cells, u.oneCell' = true := by
  intro u hu
  simp only [It.cells, List.mem_cons, List.not_mem_nil, or_false] at hu
  rcases hu with rfl | rfl | rfl | rfl | rfl | rfl <;> rfl
theorem OwnI.made (w : World) : (w.alloc (.cells #[] 52)).ownsRow w.heap.size 52 6 (.slice (some ⟨w.heap.size, 0, none⟩) 0 0) 0 [] :=
  World.ownsRow_made w #[] 0 (Nat.le_refl _) (Nat.zero_le _) (by simp)
set_option maxRecDepth 100000 in
set_option maxHeartbeats 1000000 in
/-- slices.Clone, of items -/
theorem clone27 (a : Option Addr) (c : Nat) (l : List It) (w : World) (hl : l.length ≤ 1000) (hne : a ≠ none) (h : Items w a l) :
    Calls Try.prog 27 #[.slice a l.length c] w fun x w' => ∃ v, x = .returned v ∧ w'.ownsRow w.heap.size 52 6 v l.length (l.flatMap It.cells) ∧ Below w.heap.size w w' := by
  obtain ⟨ad, rfl⟩ := Option.ne_none_iff_exists'.1 hne
  have HN := hid (h.later (below_box w (.cells #[] 52))).news
  have O0 := OwnI.made w
  have hb0 := below_box w (.cells #[] 52)
  generalize hn : l.length = n at *
  have HL := hid hn
  clear hn h hne
  have hE := fun (w : World) => Lib.run_eql_slice_nil (P := Try.prog) w 22 52 (some ad) n c 0 0 Try.underlying22
  go_enter Try.func27, Try.ntmps27
  go_wp2_with (first | (at_builtin; refine appGen It.cells 6 112 22 52 _ (by omega) (fun _ => rfl) Try.underlying22 info52 rfl (by omega) oneI (w0 := w) rfl _ _ rfl w.heap.size _ [] rfl O0 (some ad) n c l rfl (by simp) HL.out HN.out (by simp; omega) (by simp) hb0 ?_; intro v' w' h1 h2 _) | fail)
  go_ret
  exact ⟨v', rfl, by rw [List.nil_append, HL.out] at h1; exact h1, h2⟩
end Go.Proofs.Ytegmpfmhlpdmhaa.Key
