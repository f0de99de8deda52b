/-
  Lists in room of the call's own: contracts of again (at pairs, texts, edges, messages).
-/
import Derived.Test.YtegmpfmhlpdmhaaGreatMayN
import Derived.Test.YtegmpfmhlpdmhaaGreatKi
namespace Go.Proofs.YtegmpfmhlpdmhaaGreat.Key
open Go.RowKit Draw

set_option maxRecDepth 100000 in
theorem flat_len {α : Type} (f : α → List Value) (sz : Nat) (hf : ∀ x, (f x).length = sz) (l : List α) : (l.flatMap f).length = l.length * sz := by
  induction l with
  | nil => simp
  | cons x l ih =>
    rw [List.flatMap_cons, List.length_append, ih, hf, List.length_cons, Nat.add_mul]
    omega
set_option maxRecDepth 100000 in
theorem flat_at {α : Type} (f : α → List Value) (sz : Nat) (hf : ∀ x, (f x).length = sz) : ∀ (l : List α) (i : Nat) (h : i < l.length) (q : Nat), q < sz → (l.flatMap f)[i * sz + q]? = (f l[i])[q]?
  | [], i, h, _, _ => by simp at h
  | x :: l, 0, _, q, hq => by
    rw [List.flatMap_cons, List.getElem?_append_left (by rw [hf]; omega)]
    simp
  | x :: l, i + 1, h, q, hq => by
    have h' : i < l.length := by simpa using h
    rw [List.flatMap_cons, List.getElem?_append_right (by rw [hf, Nat.add_mul]; omega), hf, show (i + 1) * sz + q - sz = i * sz + q by rw [Nat.add_mul]; omega]
    exact flat_at f sz hf l i h' q hq
set_option maxRecDepth 100000 in
theorem flat_news {α : Type} (f : α → List Value) (sz : Nat) (h0 : 0 < sz) (hf : ∀ x, (f x).length = sz) {l : List α} {w : World} {b off : Nat} (h : ∀ i (_ : i < l.length) q u, (f l[i])[q]? = some u → w.cell? ⟨b, off + i * sz + q, none⟩ = some u) : ∀ j u, (l.flatMap f)[j]? = some u → w.cell? ((⟨b, off, none⟩ : Addr).add j) = some u := by
  intro j u hu
  have hj : j < l.length * sz := by rw [← flat_len f sz hf]; exact (List.getElem?_eq_some_iff.1 hu).1
  have hi : j / sz < l.length := (Nat.div_lt_iff_lt_mul h0).2 hj
  have hq : j % sz < sz := Nat.mod_lt _ h0
  have e : j = j / sz * sz + j % sz := by rw [Nat.mul_comm]; exact (Nat.div_add_mod j sz).symm
  rw [e, flat_at f sz hf l _ hi _ hq] at hu
  have := h _ hi _ _ hu
  rw [add_plain]
  rw [show off + j = off + j / sz * sz + j % sz by omega]
  exact this
set_option maxRecDepth 100000 in
/-- 'append([]T(nil), l...)' -/
theorem appAll {α : Type} (f : α → List Value) (sz byt : Nat) (t e : TypeId) (z : Value) (h0 : 0 < sz) (hf : ∀ x, (f x).length = sz) (ht : Tryz.prog.underlying t = some (.slice e)) (info : (Tryz.prog.info? e).map (fun i => (i.zero, i.size, i.bytes)) = some (some z, sz, byt)) (hz : z.cells.size = sz) (hby : byt ≤ 100) (hone : ∀ x, ∀ u ∈ f x, u.oneCell' = true)
    {w : World} {ops : Array Oper} {rest : List Oper} {o : Oper} {a : Act} {Q : Exit → Act → World → Prop} (hgd : o.guard = none) (s x : Operand) (ho : o.op = .call { callee := .builtin .append, args := #[s, x], argTypes := #[t, t] })
    (hs : a.eval s = .slice none 0 0) (ad : Option Addr) (m c : Nat) (l : List α) (hx : a.eval x = .slice ad m c) (hnil : ad = none → m = 0 ∧ c = 0) (hl : l.length = m) (hn : ∀ adr, ad = some adr → ∀ j u, (l.flatMap f)[j]? = some u → w.cell? (adr.add j) = some u) (hm : m ≤ 1000)
    (h : ∀ v' w', w'.ownsRow w.heap.size e sz v' l.length (l.flatMap f) → Below w.heap.size w w' → wpList Tryz.prog ops Q rest (a.put o.dst v') w') : wpList Tryz.prog ops Q (o :: rest) a w := by
  obtain ⟨i0, hi, hz0, hz1, hz2⟩ := info_parts info
  have hown := World.ownsRow_nil w w.heap.size e sz
  cases ad with
  | none =>
    obtain ⟨rfl, rfl⟩ := hnil rfl
    have hy : l = [] := List.eq_nil_of_length_eq_zero hl
    subst hy
    refine wpList_append_own_none hgd s x t ho w.heap.size e i0 sz ht hi _ _ _ hs hown hx ?_
    exact h _ w hown (Below.refl _ _)
  | some ad =>
    refine wpList_append_own _ hgd s x t ho w.heap.size e i0 z sz byt ht hi hz0 hz1 hz2 hz h0 _ _ _ hs hown ad m c (l.flatMap f) hx (by rw [flat_len f sz hf, hl]) (hn ad rfl) (by intro u hu; obtain ⟨y, _, hy⟩ := List.mem_flatMap.1 hu; exact hone y u hy)
      (by unfold maxLen; omega) (by rw [Nat.zero_add]; exact Nat.le_trans (Nat.mul_le_mul hm hby) (by decide)) (Nat.le_refl _) ?_
    intro v' w' h1 h2 _
    refine h v' w' ?_ ⟨h2.os, h2.tape, h2.output, h2.size, fun k hk => h2.block k hk (by simp [Value.ownBlock])⟩
    rw [List.nil_append, Nat.zero_add] at h1
    rw [hl]
    exact h1
set_option maxRecDepth 100000 in
theorem oneP (x : Pr) : ∀ u ∈ x.cells, u.oneCell' = true := by
  intro u hu
  simp only [Pr.cells, List.mem_cons, List.not_mem_nil, or_false] at hu
  rcases hu with rfl | rfl <;> rfl
set_option maxRecDepth 100000 in
theorem oneE (x : E) : ∀ u ∈ x.cells, u.oneCell' = true := by
  intro u hu
  simp only [E.cells, List.mem_cons, List.not_mem_nil, or_false] at hu
  rcases hu with rfl | rfl | rfl | rfl <;> rfl
def tcell (s : ByteArray) : List Value := [.string s]
set_option maxRecDepth 100000 in
theorem oneT (s : ByteArray) : ∀ u ∈ tcell s, u.oneCell' = true := by
  intro u hu
  simp only [tcell, List.mem_cons, List.not_mem_nil, or_false] at hu
  subst hu
  rfl
set_option maxRecDepth 100000 in
theorem info50 : (Tryz.prog.info? 50).map (fun i => (i.zero, i.size, i.bytes)) = some (some (.agg #[.string ⟨#[]⟩, .string ⟨#[]⟩]), 2, 32) := by kernel_rfl
set_option maxRecDepth 100000 in
theorem info9 : (Tryz.prog.info? 9).map (fun i => (i.zero, i.size, i.bytes)) = some (some (.string ⟨#[]⟩), 1, 16) := by kernel_rfl
set_option maxRecDepth 100000 in
theorem info39 : (Tryz.prog.info? 39).map (fun i => (i.zero, i.size, i.bytes)) = some (some (.agg #[.int .u32 0, .int .u16 0, .string ⟨#[]⟩, .string ⟨#[]⟩]), 4, 40) := by kernel_rfl
set_option maxRecDepth 100000 in
theorem Prs.news {w : World} {a : Option Addr} {l : List Pr} (h : Prs w a l) : ∀ adr, a = some adr → ∀ j u, (l.flatMap Pr.cells)[j]? = some u → w.cell? (adr.add j) = some u := by
  rintro adr rfl
  rcases h with rfl | ⟨b, off, he, hc⟩
  · intro j u hu; simp at hu
  · simp only [Option.some.injEq] at he
    subst he
    refine flat_news Pr.cells 2 (by omega) (fun _ => rfl) fun i hi q u hu => ?_
    obtain ⟨c0, c1⟩ := hc i hi
    have hq : q < 2 := by have := (List.getElem?_eq_some_iff.1 hu).1; simpa [Pr.cells] using this
    match q, hq with
    | 0, _ => rw [← hu]; exact c0
    | 1, _ => rw [← hu]; exact c1
set_option maxRecDepth 100000 in
theorem Eds.news {w : World} {a : Option Addr} {l : List E} (h : Eds w a l) : ∀ adr, a = some adr → ∀ j u, (l.flatMap E.cells)[j]? = some u → w.cell? (adr.add j) = some u := by
  rintro adr rfl
  rcases h with rfl | ⟨b, off, he, hc⟩
  · intro j u hu; simp at hu
  · simp only [Option.some.injEq] at he
    subst he
    refine flat_news E.cells 4 (by omega) (fun _ => rfl) fun i hi q u hu => ?_
    obtain ⟨c0, c1, c2, c3⟩ := hc i hi
    have hq : q < 4 := by have := (List.getElem?_eq_some_iff.1 hu).1; simpa [E.cells] using this
    match q, hq with
    | 0, _ => rw [← hu]; exact c0
    | 1, _ => rw [← hu]; exact c1
    | 2, _ => rw [← hu]; exact c2
    | 3, _ => rw [← hu]; exact c3
set_option maxRecDepth 100000 in
theorem Msgs.news {w : World} {a : Option Addr} {l : List M} (h : Msgs w a l) : ∀ adr, a = some adr → ∀ j u, (l.flatMap M.cells)[j]? = some u → w.cell? (adr.add j) = some u := by
  rintro adr rfl
  rcases h with rfl | ⟨b, off, he, hc⟩
  · intro j u hu; simp at hu
  · simp only [Option.some.injEq] at he
    subst he
    refine flat_news M.cells 6 (by omega) (fun _ => rfl) fun i hi q u hu => ?_
    obtain ⟨c0, c1, c2, c3, c4, c5⟩ := hc i hi
    have hq : q < 6 := by have := (List.getElem?_eq_some_iff.1 hu).1; simpa [M.cells] using this
    match q, hq with
    | 0, _ => rw [← hu]; exact c0
    | 1, _ => rw [← hu]; exact c1
    | 2, _ => rw [← hu]; exact c2
    | 3, _ => rw [← hu]; exact c3
    | 4, _ => rw [← hu]; exact c4
    | 5, _ => rw [← hu]; exact c5
set_option maxRecDepth 100000 in
theorem Txts.news {w : World} {a : Option Addr} {l : List ByteArray} (h : Txts w a l) : ∀ adr, a = some adr → ∀ j u, (l.flatMap tcell)[j]? = some u → w.cell? (adr.add j) = some u := by
  rintro adr rfl
  rcases h with rfl | ⟨b, off, he, hc⟩
  · intro j u hu; simp at hu
  · simp only [Option.some.injEq] at he
    subst he
    refine flat_news tcell 1 (by omega) (fun _ => rfl) fun i hi q u hu => ?_
    have hq : q < 1 := by have := (List.getElem?_eq_some_iff.1 hu).1; simpa [tcell] using this
    match q, hq with
    | 0, _ =>
      have := hc i hi
      rw [← hu, Nat.mul_one]
      exact this
set_option maxRecDepth 100000 in
theorem none_len {α : Type} {P : World → Option Addr → List α → Prop} {w : World} {l : List α} {c : Nat} {a : Option Addr} (h : P w a l) (hP : ∀ w, P w none l → l = []) (hz : a = none → c = 0) : a = none → l.length = 0 ∧ c = 0 := by
  rintro rfl
  exact ⟨by rw [hP w h]; rfl, hz rfl⟩
set_option maxRecDepth 100000 in
theorem Prs.nil {l : List Pr} (w : World) (h : Prs w none l) : l = [] := by rcases h with h | ⟨b, off, e, _⟩; exact h; cases e
set_option maxRecDepth 100000 in
theorem Txts.nil {l : List ByteArray} (w : World) (h : Txts w none l) : l = [] := by rcases h with h | ⟨b, off, e, _⟩; exact h; cases e
set_option maxRecDepth 100000 in
theorem Eds.nil {l : List E} (w : World) (h : Eds w none l) : l = [] := by rcases h with h | ⟨b, off, e, _⟩; exact h; cases e
set_option maxRecDepth 100000 in
theorem Msgs.nil {l : List M} (w : World) (h : Msgs w none l) : l = [] := by rcases h with h | ⟨b, off, e, _⟩; exact h; cases e

set_option maxRecDepth 100000 in
set_option maxHeartbeats 1000000 in
theorem again24 (a : Option Addr) (c : Nat) (l : List Pr) (w : World) (hl : l.length ≤ 1000) (hz : a = none → c = 0) (h : Prs w a l) :
    Calls Tryz.prog 55 #[.slice a l.length c] w fun x w' => ∃ v, x = .returned v ∧ w'.ownsRow w.heap.size 50 2 v l.length (l.flatMap Pr.cells) ∧ Below w.heap.size w w' := by
  have HN := hid h.news
  have HZ := hid (none_len (P := Prs) h Prs.nil hz)
  clear h hz
  generalize hn : l.length = n at *
  have HL := hid hn
  clear hn
  go_enter Tryz.func55, Tryz.ntmps55
  go_wp2_with (first | (at_builtin; refine appAll Pr.cells 2 32 30 50 _ (by omega) (fun _ => rfl) Tryz.underlying30 info50 rfl (by omega) oneP rfl _ _ rfl rfl a n c l rfl HZ.out HL.out HN.out hl ?_; intro v' w' h1 h2) | fail)
  go_ret
  exact ⟨v', rfl, by rw [HL.out] at h1; exact h1, h2⟩
set_option maxRecDepth 100000 in
set_option maxHeartbeats 1000000 in
theorem again25 (a : Option Addr) (c : Nat) (l : List ByteArray) (w : World) (hl : l.length ≤ 1000) (hz : a = none → c = 0) (h : Txts w a l) :
    Calls Tryz.prog 56 #[.slice a l.length c] w fun x w' => ∃ v, x = .returned v ∧ w'.ownsRow w.heap.size 9 1 v l.length (l.flatMap tcell) ∧ Below w.heap.size w w' := by
  have HN := hid h.news
  have HZ := hid (none_len (P := Txts) h Txts.nil hz)
  clear h hz
  generalize hn : l.length = n at *
  have HL := hid hn
  clear hn
  go_enter Tryz.func56, Tryz.ntmps56
  go_wp2_with (first | (at_builtin; refine appAll tcell 1 16 44 9 _ (by omega) (fun _ => rfl) Tryz.underlying44 info9 rfl (by omega) oneT rfl _ _ rfl rfl a n c l rfl HZ.out HL.out HN.out hl ?_; intro v' w' h1 h2) | fail)
  go_ret
  exact ⟨v', rfl, by rw [HL.out] at h1; exact h1, h2⟩
set_option maxRecDepth 100000 in
set_option maxHeartbeats 1000000 in
theorem again26 (a : Option Addr) (c : Nat) (l : List E) (w : World) (hl : l.length ≤ 1000) (hz : a = none → c = 0) (h : Eds w a l) :
    Calls Tryz.prog 57 #[.slice a l.length c] w fun x w' => ∃ v, x = .returned v ∧ w'.ownsRow w.heap.size 39 4 v l.length (l.flatMap E.cells) ∧ Below w.heap.size w w' := by
  have HN := hid h.news
  have HZ := hid (none_len (P := Eds) h Eds.nil hz)
  clear h hz
  generalize hn : l.length = n at *
  have HL := hid hn
  clear hn
  go_enter Tryz.func57, Tryz.ntmps57
  go_wp2_with (first | (at_builtin; refine appAll E.cells 4 40 40 39 _ (by omega) (fun _ => rfl) Tryz.underlying40 info39 rfl (by omega) oneE rfl _ _ rfl rfl a n c l rfl HZ.out HL.out HN.out hl ?_; intro v' w' h1 h2) | fail)
  go_ret
  exact ⟨v', rfl, by rw [HL.out] at h1; exact h1, h2⟩
set_option maxRecDepth 100000 in
set_option maxHeartbeats 1000000 in
theorem again27 (a : Option Addr) (c : Nat) (l : List M) (w : World) (hl : l.length ≤ 1000) (hz : a = none → c = 0) (h : Msgs w a l) :
    Calls Tryz.prog 58 #[.slice a l.length c] w fun x w' => ∃ v, x = .returned v ∧ w'.ownsRow w.heap.size 42 6 v l.length (l.flatMap M.cells) ∧ Below w.heap.size w w' := by
  have HN := hid h.news
  have HZ := hid (none_len (P := Msgs) h Msgs.nil hz)
  clear h hz
  generalize hn : l.length = n at *
  have HL := hid hn
  clear hn
  go_enter Tryz.func58, Tryz.ntmps58
  go_wp2_with (first | (at_builtin; refine appAll M.cells 6 64 43 42 _ (by omega) (fun _ => rfl) Tryz.underlying43 info42 rfl (by omega) one_cell rfl _ _ rfl rfl a n c l rfl HZ.out HL.out HN.out hl ?_; intro v' w' h1 h2) | fail)
  go_ret
  exact ⟨v', rfl, by rw [HL.out] at h1; exact h1, h2⟩
end Go.Proofs.YtegmpfmhlpdmhaaGreat.Key
