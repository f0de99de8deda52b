/-
  A law for regions that draw, whose last operation waits for all others and writes a slot that one of them may have looked at, and whose operations are each told what holds until they come up. No program is named here.
-/
import Derived.Test.YtklfpoojpfomeaaKd
namespace Go.Proofs.Ytklfpoojpfomeaa.Draw
open Go
set_option linter.unusedVariables false
set_option linter.unusedSimpArgs false

/-- the table is the region's, but that what the last operation writes may be looked at by those ahead of it -/
def tabC (ops : Array Oper) (tab : List Row) (L : Nat) : Bool :=
  Region.noSelect ops && (tab.length == ops.size) &&
  (List.range ops.size).all fun i =>
    match ops[i]?, tab[i]? with
    | some o, some (d, ds, _) =>
      (o.dst == d) && (o.after.all fun e => !Region.binds .any e || decide (e.on < i)) &&
      (ds.all fun jt => (((ops[jt.1]?).bind (·.dst)) == some jt.2) && o.after.any fun e => Region.binds .any e && (e.on == jt.1)) &&
      ((List.range ops.size).all fun j =>
        match (ops[j]?).bind (·.dst) with
        | some t => ((j == L) || (!(o.looksAt ops).contains t || ds.any fun jt => jt.1 == j)) && (j == i || o.dst != some t)
        | none => true)
    | _, _ => false

structure TabOkC (ops : Array Oper) (tab : List Row) (L : Nat) : Prop where
  sel : Region.noSelect ops = true
  len : tab.length = ops.size
  dst : ∀ (i : Nat) (x : Row), tab[i]? = some x → dstAt ops i = x.1
  dep : ∀ (i : Nat) (o : Oper) (x : Row), ops[i]? = some o → tab[i]? = some x → ∀ jt ∈ x.2.1, dstAt ops jt.1 = some jt.2 ∧ ∃ e ∈ o.after, Region.binds .any e = true ∧ e.on = jt.1
  look : ∀ (i : Nat) (o : Oper) (x : Row), ops[i]? = some o → tab[i]? = some x → ∀ j t, j ≠ L → dstAt ops j = some t → t ∈ o.looksAt ops → ∃ jt ∈ x.2.1, jt.1 = j
  back : ∀ (i : Nat) (o : Oper), ops[i]? = some o → ∀ e ∈ o.after, Region.binds .any e = true → e.on < i
  dis : ∀ i j t, dstAt ops i = some t → dstAt ops j = some t → j = i
theorem tabOkC {ops : Array Oper} {tab : List Row} {L : Nat} (h : tabC ops tab L = true) : TabOkC ops tab L := by
  simp only [tabC, Bool.and_eq_true, beq_iff_eq, List.all_eq_true, List.mem_range] at h
  obtain ⟨⟨hs, hl⟩, hall⟩ := h
  have key : ∀ (i : Nat) (o : Oper) (x : Row), ops[i]? = some o → tab[i]? = some x → o.dst = x.1 ∧ (∀ e ∈ o.after, Region.binds .any e = true → e.on < i) ∧ (∀ jt ∈ x.2.1, dstAt ops jt.1 = some jt.2 ∧ ∃ e ∈ o.after, Region.binds .any e = true ∧ e.on = jt.1) ∧
      (∀ j t, dstAt ops j = some t → (j ≠ L → t ∈ o.looksAt ops → ∃ jt ∈ x.2.1, jt.1 = j) ∧ (j ≠ i → o.dst ≠ some t)) := by
    intro i o x ho hx
    obtain ⟨d, ds, kp⟩ := x
    have h1 := hall i (Array.getElem?_eq_some_iff.1 ho).1
    simp only [ho, hx, Bool.and_eq_true, beq_iff_eq, List.all_eq_true] at h1
    obtain ⟨⟨⟨h1, h0⟩, h2⟩, h3⟩ := h1
    refine ⟨h1, fun e he hb => by have := Array.all_eq_true_iff_forall_mem.1 h0 e he; simpa [hb] using this, fun jt hm => ?_, fun j t hj => ?_⟩
    · obtain ⟨h4, h5⟩ := h2 jt hm
      obtain ⟨e, he, hb⟩ := Array.any_eq_true'.1 h5
      simp only [Bool.and_eq_true, beq_iff_eq] at hb
      exact ⟨h4, e, he, hb⟩
    · have h4 := h3 j (List.mem_range.2 (dstAt_lt hj))
      unfold dstAt at hj
      simp only [hj, Bool.and_eq_true, Bool.or_eq_true, Bool.not_eq_true', List.any_eq_true, beq_iff_eq, bne_iff_ne] at h4
      refine ⟨fun hjL hm => ?_, fun hne => h4.2.resolve_left hne⟩
      rcases h4.1 with h | h | ⟨jt, hm', e⟩
      · exact absurd h hjL
      · simp at h
        exact absurd hm h
      · exact ⟨jt, hm', e⟩
  have getT : ∀ i o, ops[i]? = some o → ∃ x, tab[i]? = some x := fun i o ho => ⟨tab[i]'(by rw [hl]; exact (Array.getElem?_eq_some_iff.1 ho).1), List.getElem?_eq_getElem _⟩
  have getO : ∀ i x, tab[i]? = some x → ∃ o, ops[i]? = some o := fun i x hx => ⟨ops[i]'(by rw [← hl]; exact (List.getElem?_eq_some_iff.1 hx).1), Array.getElem?_eq_getElem _⟩
  refine ⟨hs, hl, fun i x hx => ?_, fun i o x ho hx => (key i o x ho hx).2.2.1, fun i o x ho hx j t hjL hj => ((key i o x ho hx).2.2.2 j t hj).1 hjL, fun i o ho => by obtain ⟨x, hx⟩ := getT i o ho; exact (key i o x ho hx).2.1, fun i j t hi hj => ?_⟩
  · obtain ⟨o, ho⟩ := getO i x hx
    have := (key i o x ho hx).1
    unfold dstAt
    rw [ho]
    exact this
  · rcases Nat.lt_or_ge i ops.size with hlt | hge
    · have ho : ops[i]? = some ops[i] := Array.getElem?_eq_getElem hlt
      obtain ⟨x, hx⟩ := getT i _ ho
      have h1 := ((key i _ x ho hx).2.2.2 j t hj).2
      by_cases hji : j = i
      · exact hji
      · have h2 : ops[i].dst = some t := by unfold dstAt at hi; rw [ho] at hi; exact hi
        exact absurd h2 (h1 hji)
    · unfold dstAt at hi
      rw [Array.getElem?_eq_none hge] at hi
      cases hi

theorem Like.agree2 {ops : Array Oper} {a0 a a' : Act} {S S' : Nat → Prop} {vs : Nat → Value} (h : Like ops a0 S vs a) (h' : Like ops a0 S' vs a') (hd : ∀ i j t, dstAt ops i = some t → dstAt ops j = some t → j = i) {t : Tmp} (hS : ∀ j, dstAt ops j = some t → (S j ∧ S' j) ∨ (¬ S j ∧ ¬ S' j)) : a.tmps[t]? = a'.tmps[t]? := by
  by_cases hj : ∃ j, dstAt ops j = some t
  · obtain ⟨j, hj⟩ := hj
    rcases hS j hj with ⟨h1, h2⟩ | ⟨h1, h2⟩
    · by_cases hlt : t < a0.tmps.size
      · rw [h.put j t h1 hj hlt, h'.put j t h2 hj hlt]
      · rw [Array.getElem?_eq_none (Nat.le_of_not_lt (by rw [h.size]; exact hlt)), Array.getElem?_eq_none (Nat.le_of_not_lt (by rw [h'.size]; exact hlt))]
    · rw [h.rest t (fun i hi e => by have := hd j i t hj e; subst this; exact h1 hi), h'.rest t (fun i hi e => by have := hd j i t hj e; subst this; exact h2 hi)]
  · rw [h.rest t (fun j _ e => hj ⟨j, e⟩), h'.rest t (fun j _ e => hj ⟨j, e⟩)]
/-- whatever order is drawn, of a region whose last operation waits for all others, and may write what one of them has looked at: it is shown once, over what all of them have yielded -/
theorem wp_region_put2 {P : Program} {ops : Array Oper} {id : Nat} {Q : Exit → Act → World → Prop} {a0 : Act} {w : World}
    (tab : List Row) (C : Nat → World → Prop) (R : Nat → World → World → Prop) (V : Nat → Value → World → Prop)
    (hm : P.follows .mixedOrders = true) (L : Nat) (hB : tabC ops tab L = true) (hC0 : ∀ j, C j { w with drawn := w.drawn + 1 }) (hCR : ∀ i j u u', laterB tab i j = true → C i u → C j u → R i u u' → C j u') (hVR : ∀ i j v u u', needB tab i j = true → C i u → R i u u' → V j v u → V j v u')
    (tabI : List Row) (hI : tab.take L = tabI) (oL : Oper) (hoL : ops[L]? = some oL) (hLs : ops.size = L + 1) (hLa : ((List.range L).all fun j => (oL.after.any fun e => Region.binds .any e && (e.on == j)) || (ancs tab tab.length L).contains j) = true)
    (hops : eachOpI P ops C R V a0 (ops.toList.take L) (tab.take L) 0) (hend : ∀ u, C L u → givingAll V u (fun a => opYields P ops oL a u fun v u' => Q .normal (a.put oL.dst v) u') tabI 0 a0) : (Code.region id ops true).wp P Q a0 w := by
  subst hI
  have T := tabOkC hB
  have hLall : ∀ j, j < L → (∃ e ∈ oL.after, Region.binds .any e = true ∧ e.on = j) ∨ j ∈ ancs tab tab.length L := fun j hj => by
    have := List.all_eq_true.1 hLa j (List.mem_range.2 hj)
    rw [Bool.or_eq_true] at this
    rcases this with this | this
    · obtain ⟨e, he, h⟩ := Array.any_eq_true'.1 this
      rw [Bool.and_eq_true, beq_iff_eq] at h
      exact .inl ⟨e, he, h.1, h.2⟩
    · exact .inr (by simpa using this)
  refine wp_region_any hm ?_
  -- what must be kept: what is kept to the end, or waited for
  have main : ∀ (fuel : Nat) (listed : Array Bool) (a : Act) (u : World) (vs : Nat → Value), listed.size = ops.size → (List.range ops.size).countP (fun i => !listed.getD i true) ≤ fuel → (∀ j, listed.getD j false = false → C j u) → listed.getD L false = false → Like ops a0 (fun i => listed.getD i false = true) vs a →
      (∀ i, listed.getD i false = true → ∀ j ∈ depsOf tab i, listed.getD j false = true) →
      (∀ i, listed.getD i false = true → (keptAt tab i = true ∨ ∃ k, k < tab.length ∧ listed.getD k false = false ∧ i ∈ depsOf tab k) → V i (vs i) u) →
      wpAny P .any ops Q fuel listed a u := by
    have fin : ∀ (listed : Array Bool) (a : Act) (u : World) (vs : Nat → Value), listed.size = ops.size → C L u → Like ops a0 (fun i => listed.getD i false = true) vs a → (∀ i, listed.getD i false = true → (keptAt tab i = true ∨ ∃ k, k < tab.length ∧ listed.getD k false = false ∧ i ∈ depsOf tab k) → V i (vs i) u) → (∀ i, i < L → listed.getD i false = true) → listed.getD L false = false → opYields P ops oL a u fun v u' => Q .normal (a.put oL.dst v) u' := by
      intro listed a u vs hsz hu hL hV hall hLf
      have htl : ∀ (i : Nat) (x : Row), (tab.take L)[i]? = some x → i < L ∧ tab[i]? = some x := fun i x hx => by
        have hi : i < (tab.take L).length := (List.getElem?_eq_some_iff.1 hx).1
        rw [List.length_take] at hi
        rw [List.getElem?_take_of_lt (by omega)] at hx
        exact ⟨by omega, hx⟩
      obtain ⟨a', hL', hQ⟩ := givingAll_at T.dis (tab.take L) 0 a0 (Like.start (vs := vs) (by omega)) (fun i x hx => by rw [Nat.zero_add]; exact T.dst i x (htl i x hx).2)
        (fun i x hx hk => by rw [Nat.zero_add]; exact hV i (hall i (htl i x hx).1) (.inl (by rw [keptAt_at (htl i x hx).2]; exact hk))) (hend u hu)
      have hall' : ∀ j t, dstAt ops j = some t → (listed.getD j false = true ∧ j < 0 + (tab.take L).length) ∨ (¬ listed.getD j false = true ∧ ¬ j < 0 + (tab.take L).length) := fun j t hj => by
        have h1 := dstAt_lt hj
        rw [List.length_take, T.len]
        by_cases h2 : j = L
        · subst h2
          exact .inr ⟨by rw [hLf]; simp, by omega⟩
        · exact .inl ⟨hall j (by omega), by omega⟩
      have e : a = a' := by
        have e1 : a.tmps = a'.tmps := by
          apply Array.ext_getElem?
          intro t
          exact hL.agree2 hL' T.dis fun j hj => hall' j t hj
        have e2 : a.defers = a'.defers := hL.defers.trans hL'.defers.symm
        obtain ⟨t1, d1⟩ := a
        obtain ⟨t2, d2⟩ := a'
        dsimp only at e1 e2
        rw [e1, e2]
      rw [e]
      exact hQ
    have done : ∀ (fuel : Nat) (listed : Array Bool) (a : Act) (u : World), (∀ i, i < ops.size → listed.getD i true = true) → Q .normal a u → wpAny P .any ops Q fuel listed a u := by
      intro fuel listed a u hall hQ
      have hno : ∀ i, i ∉ Region.ready .any ops listed := fun i hi => by
        obtain ⟨h1, o, ho, _⟩ := mem_ready.1 hi
        rw [hall i (Array.getElem?_eq_some_iff.1 ho).1] at h1
        cases h1
      cases fuel with
      | zero => exact ⟨List.eq_nil_iff_forall_not_mem.2 hno, hQ⟩
      | succ fuel => exact ⟨fun _ => hQ, fun i hi => absurd hi (hno i)⟩
    have lex : ∀ (listed : Array Bool), listed.size = ops.size → ∀ i, i < ops.size → listed.getD i true = false → listed.getD i false = false := by
      intro listed hsz i hi h
      simp [show i < listed.size by omega] at h ⊢
      exact h
    intro fuel
    induction fuel with
    | zero =>
      intro listed a u vs hsz hn hu hLf hL _ hV
      have h0 := List.countP_eq_zero.1 (Nat.le_zero.1 hn) L (List.mem_range.2 (by omega))
      simp [show L < listed.size by omega] at h0 hLf
      rw [h0] at hLf
      cases hLf
    | succ fuel ih =>
      intro listed a u vs hsz hn hu hLf hL hcl hV
      refine ⟨fun hr => ?_, fun i hi => ?_⟩
      · have hevery : ∀ i, i < ops.size → listed.getD i false = true := fun i => by
          induction i using Nat.strongRecOn with
          | _ i ihi =>
            intro hi
            cases hc : listed.getD i false with
            | true => rfl
            | false =>
              have hmem : i ∈ Region.ready .any ops listed := mem_ready.2 ⟨by simp [show i < listed.size by omega] at hc ⊢; exact hc, ops[i], Array.getElem?_eq_getElem hi, fun e he hb => ihi e.on (T.back i ops[i] (Array.getElem?_eq_getElem hi) e he hb) (by have := T.back i ops[i] (Array.getElem?_eq_getElem hi) e he hb; omega)⟩
              rw [hr] at hmem
              cases hmem
        rw [hevery L (by omega)] at hLf
        cases hLf
      · obtain ⟨h1, o, ho, hall⟩ := mem_ready.1 hi
        have hlt := (Array.getElem?_eq_some_iff.1 ho).1
        have hil := lex listed hsz i hlt h1
        have hx : tab[i]? = some (tab[i]'(by rw [T.len]; exact hlt)) := List.getElem?_eq_getElem _
        generalize tab[i]'(by rw [T.len]; exact hlt) = x at hx
        have hdep := T.dep i o x ho hx
        have hlist : ∀ jt ∈ x.2.1, listed.getD jt.1 false = true := fun jt hm => by
          obtain ⟨_, e, he, hb, hon⟩ := hdep jt hm
          rw [← hon]
          exact hall e he hb
        have hdl : ∀ j ∈ depsOf tab i, listed.getD j false = true := fun j hj => by
          rw [depsOf_at hx] at hj
          obtain ⟨jt, hm, rfl⟩ := List.mem_map.1 hj
          exact hlist jt hm
        have hanc : ∀ k ∈ ancs tab tab.length i, listed.getD k false = true := ancs_in (S := fun i => listed.getD i false = true) hcl tab.length i hdl
        by_cases hiL : i = L
        · subst hiL
          rw [hoL] at ho
          cases ho
          have hal : ∀ j, j < i → listed.getD j false = true := fun j hj => by
            rcases hLall j hj with ⟨e, he, hb, rfl⟩ | h
            · exact hall e he hb
            · exact hanc j h
          have h3 := fin listed a u vs hsz (hu i hLf) hL hV hal hLf
          refine wpOp_yields hoL ?_
          have step : ∀ v u', Q .normal (a.put oL.dst v) u' → wpAny P .any ops Q fuel (listed.setIfInBounds i true) (a.put oL.dst v) u' := fun v u' hQ => done fuel _ _ _ (fun j hj => by
            by_cases hji : i = j
            · subst hji; simp [show i < listed.size by omega]
            · rw [getD_set_ne true hji]
              have := hal j (by omega)
              simp [show j < listed.size by omega] at this ⊢
              exact this) hQ
          unfold opYields at h3 ⊢
          split at h3
          · rename_i hw
            rw [if_pos hw]
            exact yieldsK_mono step h3
          · rename_i hw
            rw [if_neg hw]
            exact step _ _ h3
        have h2 := eachOpI_at (ops.toList.take L) (tab.take L) 0 hops i o x (by rw [List.getElem?_take_of_lt (by omega)]; simpa using ho) (by rw [List.getElem?_take_of_lt (by omega)]; exact hx) u (by rw [Nat.zero_add]; exact hu i hil)
        obtain ⟨a', hL', h3⟩ := giving_at T.dis x.2.1 (fun _ => False) a0 (Like.start (vs := vs) (fun _ h => h)) (fun jt hm => (hdep jt hm).1)
          (fun jt hm => hV jt.1 (hlist jt hm) (.inr ⟨i, by rw [T.len]; exact hlt, hil, by rw [depsOf_at hx]; exact List.mem_map.2 ⟨jt, hm, rfl⟩⟩)) h2
        have hsel := Region.noSelect_spec T.sel i o
        obtain ⟨e1, e2⟩ := same_op (ops := ops) (o := o) (a := a) (a' := a') (fun cs b => hsel cs b ho) (fun t ht => hL.agree2 hL' T.dis fun j hj => by
          by_cases hjL : j = L
          · refine .inr ⟨by rw [hjL, hLf]; simp, ?_⟩
            rintro (h | ⟨jt, hm, e⟩)
            · exact h
            · obtain ⟨_, e2, he2, hb2, hon2⟩ := hdep jt hm
              have := T.back i o ho e2 he2 hb2
              omega
          · obtain ⟨jt, hm, rfl⟩ := T.look i o x ho hx j t hjL hj ht
            exact .inl ⟨hlist jt hm, .inr ⟨jt, hm, rfl⟩⟩)
        refine wpOp_yields ho ?_
        unfold opYields at h3 ⊢
        rw [e1, e2]
        have step : ∀ v u', R (0 + i) u u' ∧ V (0 + i) v u' → wpAny P .any ops Q fuel (listed.setIfInBounds i true) (a.put o.dst v) u' := by
          rintro v u' ⟨hR, hv⟩
          rw [Nat.zero_add] at hv hR
          have hod : o.dst = dstAt ops i := by unfold dstAt; rw [ho]; rfl
          rw [hod]
          refine ih (listed.setIfInBounds i true) _ u' (fun j => if j = i then v else vs j) (by simpa using hsz) ?_ (fun j hj => ?_) (by rw [getD_set_ne false hiL]; exact hLf) (hL.more (fun j t h1 h2 => T.dis i j t h1 h2) (fun j => ?_) (by simp) (fun j hj => by simp [hj])) (fun j hj k hk => ?_) (fun j hj hneed => ?_)
          · have hc := countP_less (l := List.range ops.size) (p := fun j => !listed.getD j true) (q := fun j => !(listed.setIfInBounds i true).getD j true) (i := i) (List.mem_range.2 hlt) (by rw [h1]; rfl) (by simp [show i < listed.size by omega]) (fun j hj => by
              by_cases hji : i = j
              · subst hji; rw [h1]; rfl
              · rw [getD_set_ne true hji] at hj; exact hj)
            omega
          · by_cases hji : i = j
            · subst hji
              simp [show i < listed.size by omega] at hj
            · rw [getD_set_ne false hji] at hj
              refine hCR i j u u' ?_ (hu i hil) (hu j hj) hR
              unfold laterB
              rw [Bool.and_eq_true, bne_iff_ne, Bool.not_eq_true']
              refine ⟨fun e => hji e.symm, ?_⟩
              rw [Bool.eq_false_iff]
              intro hc
              have := hanc j (by simpa using hc)
              rw [hj] at this
              cases this
          · by_cases hji : i = j
            · subst hji; simp [show i < listed.size by omega]
            · rw [getD_set_ne false hji]
              exact ⟨.inl, fun h => h.resolve_right (Ne.symm hji)⟩
          · by_cases hji : i = j
            · subst hji; exact getD_set_true (hdl k hk)
            · rw [getD_set_ne false hji] at hj
              exact getD_set_true (hcl j hj k hk)
          · by_cases hji : j = i
            · subst hji; simpa using hv
            · simp only [hji, if_false]
              rw [getD_set_ne false (Ne.symm hji)] at hj
              have hneed' : keptAt tab j = true ∨ ∃ k, k < tab.length ∧ k ≠ i ∧ listed.getD k false = false ∧ j ∈ depsOf tab k := by
                rcases hneed with h | ⟨k, hk, hkl, hkd⟩
                · exact .inl h
                · have hki : k ≠ i := by
                    rintro rfl
                    simp [show k < listed.size by omega] at hkl
                  rw [getD_set_ne false (Ne.symm hki)] at hkl
                  exact .inr ⟨k, hk, hki, hkl, hkd⟩
              refine hVR i j _ u u' ?_ (hu i hil) hR (hV j hj ?_)
              · simp only [needB, Bool.and_eq_true, bne_iff_ne, ne_eq, Bool.or_eq_true, List.any_eq_true, List.mem_range, Bool.not_eq_true']
                refine ⟨⟨hji, ?_⟩, ?_⟩
                · rw [Bool.eq_false_iff]
                  intro hc
                  have := ancs_in (S := fun i => listed.getD i false = true) hcl tab.length j (hcl j hj) i (by simpa using hc)
                  rw [hil] at this
                  cases this
                rcases hneed' with h | ⟨k, hk, hki, hkl, hkd⟩
                · exact .inl h
                · refine .inr ⟨k, hk, ⟨hki, ?_⟩, by simpa using hkd⟩
                  rw [Bool.eq_false_iff]
                  intro hc
                  have := hanc k (by simpa using hc)
                  rw [hkl] at this
                  cases this
              · rcases hneed' with h | ⟨k, hk, _, hkl, hkd⟩
                · exact .inl h
                · exact .inr ⟨k, hk, hkl, hkd⟩
        split at h3
        · rename_i hw
          rw [if_pos hw]
          exact yieldsK_mono step h3
        · rename_i hw
          rw [if_neg hw]
          exact step _ _ h3
  have h00 : ∀ i, ¬ (Array.replicate ops.size false).getD i false = true := fun i => by by_cases h : i < ops.size <;> simp [h]
  refine main ops.size _ a0 _ (fun _ => undef) (by simp) ?_ (fun j _ => hC0 j) (Bool.eq_false_iff.2 (h00 L)) (Like.start h00) (fun i hi => absurd hi (h00 i)) (fun i hi => absurd hi (h00 i))
  have := List.countP_le_length (p := fun i => !(Array.replicate ops.size false).getD i true) (l := List.range ops.size)
  rw [List.length_range] at this
  exact this
end Go.Proofs.Ytklfpoojpfomeaa.Draw
