/-
  Laws for regions that draw, of which each operation is told what holds as long as it has not come up. No program is named here.
  Pairs as they are told: as long as more are wanted, with the keys that they have in the root. Plain.
  Cuts sorted, and each kept once. Plain.
  Contract of the closure that collects cuts.
  Contracts of slices.Sort and slices.Compact on a row of texts of the call's own.
  Contract of parts: the parts of a range, between the cuts of a node.
  The law of regions that draw their order, where what is known of an operation may name what one earlier operation (d) has yielded. No program is named here.
-/
import Derived.Test.YtegmpfmhlpdmhaaGreatKd
import Derived.Test.YtegmpfmhlpdmhaaGreatKc
import Derived.Lib.SlicesCompact
import Derived.Shelf.Sort.Plain
import Derived.Test.YtegmpfmhlpdmhaaGreatClone
import Derived.Test.YtegmpfmhlpdmhaaGreatKt
import Derived.Test.YtegmpfmhlpdmhaaGreatLay
import Derived.Deep.CutRange
namespace Go.Proofs.YtegmpfmhlpdmhaaGreat.Draw
open Go
set_option linter.unusedVariables false
set_option linter.unusedSimpArgs false

/-- may j still have to come up behind i? -/
def laterB (tab : List Row) (i j : Nat) : Bool := (j != i) && !(ancs tab tab.length i).contains j
/-- each operation, over what holds until it comes up -/
def eachOpI (P : Program) (ops : Array Oper) (C : Nat → World → Prop) (R : Nat → World → World → Prop) (V : Nat → Value → World → Prop) (a : Act) : List Oper → List Row → Nat → Prop
  | o :: l, (_, ds, _) :: tab, k => (∀ u, C k u → giving V u (fun a' => opYields P ops o a' u fun v u' => R k u u' ∧ V k v u') ds a) ∧ eachOpI P ops C R V a l tab (k + 1)
  | _, _, _ => True
theorem eachOpI_at {P : Program} {ops : Array Oper} {C : Nat → World → Prop} {R : Nat → World → World → Prop} {V : Nat → Value → World → Prop} {a : Act} : ∀ (l : List Oper) (tab : List Row) (k : Nat), eachOpI P ops C R V a l tab k → ∀ i o x, l[i]? = some o → tab[i]? = some x →
    ∀ u, C (k + i) u → giving V u (fun a' => opYields P ops o a' u fun v u' => R (k + i) u u' ∧ V (k + i) v u') x.2.1 a
  | [], _, _, _, i, o, x, ho, _ => by simp at ho
  | _ :: _, [], _, _, i, o, x, _, hx => by simp at hx
  | o' :: l, (d, ds, b) :: tab, k, h, i, o, x, ho, hx => by
    cases i with
    | zero =>
      simp only [List.getElem?_cons_zero, Option.some.injEq] at ho hx
      subst ho hx
      exact h.1
    | succ i =>
      rw [List.getElem?_cons_succ] at ho hx
      have := eachOpI_at l tab (k + 1) h.2 i o x ho hx
      rw [show k + (i + 1) = k + 1 + i by omega]
      exact this
/-- whatever order is drawn, of a region whose last operation, one without a slot, waits for all others, by way of others too: it is shown once, over what all of them have yielded -/
theorem wp_region_until {P : Program} {ops : Array Oper} {id : Nat} {Q : Exit → Act → World → Prop} {a0 : Act} {w : World}
    (tab : List Row) (C : Nat → World → Prop) (R : Nat → World → World → Prop) (V : Nat → Value → World → Prop)
    (hm : P.follows .mixedOrders = true) (hB : tabB ops tab = true) (hC0 : ∀ j, C j { w with drawn := w.drawn + 1 }) (hCR : ∀ i j u u', laterB tab i j = true → C i u → C j u → R i u u' → C j u') (hVR : ∀ i j v u u', needB tab i j = true → C i u → R i u u' → V j v u → V j v u')
    (tabI : List Row) (L : Nat) (hI : tab.take L = tabI) (oL : Oper) (hoL : ops[L]? = some oL) (hLd : oL.dst = none) (hLs : ops.size = L + 1) (hLa : ((List.range L).all fun j => (ancs tab tab.length L).contains j) = true)
    (hops : eachOpI P ops C R V a0 (ops.toList.take L) (tab.take L) 0) (hend : ∀ u, C L u → givingAll V u (fun a => Puts P ops oL a u fun u' => Q .normal (a.put oL.dst undef) u') tabI 0 a0) : (Code.region id ops true).wp P Q a0 w := by
  subst hI
  have T := tabOk hB
  have hLall : ∀ j, j < L → j ∈ ancs tab tab.length L := fun j hj => by
    have := List.all_eq_true.1 hLa j (List.mem_range.2 hj)
    simpa using this
  have hLn : dstAt ops L = none := by unfold dstAt; rw [hoL]; exact hLd
  refine wp_region_any hm ?_
  -- what must be kept: what is kept to the end, or waited for
  have main : ∀ (fuel : Nat) (listed : Array Bool) (a : Act) (u : World) (vs : Nat → Value), listed.size = ops.size → (List.range ops.size).countP (fun i => !listed.getD i true) ≤ fuel → (∀ j, listed.getD j false = false → C j u) → listed.getD L false = false → Like ops a0 (fun i => listed.getD i false = true) vs a →
      (∀ i, listed.getD i false = true → ∀ j ∈ depsOf tab i, listed.getD j false = true) →
      (∀ i, listed.getD i false = true → (keptAt tab i = true ∨ ∃ k, k < tab.length ∧ listed.getD k false = false ∧ i ∈ depsOf tab k) → V i (vs i) u) →
      wpAny P .any ops Q fuel listed a u := by
    have fin : ∀ (listed : Array Bool) (a : Act) (u : World) (vs : Nat → Value), listed.size = ops.size → C L u → Like ops a0 (fun i => listed.getD i false = true) vs a → (∀ i, listed.getD i false = true → (keptAt tab i = true ∨ ∃ k, k < tab.length ∧ listed.getD k false = false ∧ i ∈ depsOf tab k) → V i (vs i) u) → (∀ i, i < L → listed.getD i false = true) → opYields P ops oL a u fun v u' => Q .normal (a.put oL.dst v) u' := by
      intro listed a u vs hsz hu hL hV hall
      have htl : ∀ (i : Nat) (x : Row), (tab.take L)[i]? = some x → i < L ∧ tab[i]? = some x := fun i x hx => by
        have hi : i < (tab.take L).length := (List.getElem?_eq_some_iff.1 hx).1
        rw [List.length_take] at hi
        rw [List.getElem?_take_of_lt (by omega)] at hx
        exact ⟨by omega, hx⟩
      obtain ⟨a', hL', hQ⟩ := givingAll_at T.dis (tab.take L) 0 a0 (Like.start (vs := vs) (by omega)) (fun i x hx => by rw [Nat.zero_add]; exact T.dst i x (htl i x hx).2)
        (fun i x hx hk => by rw [Nat.zero_add]; exact hV i (hall i (htl i x hx).1) (.inl (by rw [keptAt_at (htl i x hx).2]; exact hk))) (hend u hu)
      have hall' : ∀ j t, dstAt ops j = some t → listed.getD j false = true ∧ j < 0 + (tab.take L).length := fun j t hj => by
        have h1 := dstAt_lt hj
        have h2 : j ≠ L := by rintro rfl; rw [hLn] at hj; cases hj
        refine ⟨hall j (by omega), ?_⟩
        rw [List.length_take, T.len]
        omega
      have e : a = a' := by
        have e1 : a.tmps = a'.tmps := by
          apply Array.ext_getElem?
          intro t
          exact hL.agree hL' fun j hj => hall' j t hj
        have e2 : a.defers = a'.defers := hL.defers.trans hL'.defers.symm
        obtain ⟨t1, d1⟩ := a
        obtain ⟨t2, d2⟩ := a'
        dsimp only at e1 e2
        rw [e1, e2]
      rw [e]
      exact hQ.out
    have done : ∀ (fuel : Nat) (listed : Array Bool) (a : Act) (u : World), (∀ i, i < ops.size → listed.getD i true = true) → Q .normal a u → wpAny P .any ops Q fuel listed a u := by
      intro fuel listed a u hall hQ
      have hno : ∀ i, i ∉ Region.ready .any ops listed := fun i hi => by
        obtain ⟨h1, o, ho, _⟩ := mem_ready.1 hi
        rw [hall i (Array.getElem?_eq_some_iff.1 ho).1] at h1
        cases h1
      cases fuel with
      | zero => exact ⟨List.eq_nil_iff_forall_not_mem.2 hno, hQ⟩
      | succ fuel => exact ⟨fun _ => hQ, fun i hi => absurd hi (hno i)⟩
    have lex : ∀ (listed : Array Bool), listed.size = ops.size → ∀ i, i < ops.size → listed.getD i true = false → listed.getD i false = false := by
      intro listed hsz i hi h
      simp [show i < listed.size by omega] at h ⊢
      exact h
    intro fuel
    induction fuel with
    | zero =>
      intro listed a u vs hsz hn hu hLf hL _ hV
      have h0 := List.countP_eq_zero.1 (Nat.le_zero.1 hn) L (List.mem_range.2 (by omega))
      simp [show L < listed.size by omega] at h0 hLf
      rw [h0] at hLf
      cases hLf
    | succ fuel ih =>
      intro listed a u vs hsz hn hu hLf hL hcl hV
      refine ⟨fun hr => ?_, fun i hi => ?_⟩
      · have hevery : ∀ i, i < ops.size → listed.getD i false = true := fun i => by
          induction i using Nat.strongRecOn with
          | _ i ihi =>
            intro hi
            cases hc : listed.getD i false with
            | true => rfl
            | false =>
              have hmem : i ∈ Region.ready .any ops listed := mem_ready.2 ⟨by simp [show i < listed.size by omega] at hc ⊢; exact hc, ops[i], Array.getElem?_eq_getElem hi, fun e he hb => ihi e.on (T.back i ops[i] (Array.getElem?_eq_getElem hi) e he hb) (by have := T.back i ops[i] (Array.getElem?_eq_getElem hi) e he hb; omega)⟩
              rw [hr] at hmem
              cases hmem
        rw [hevery L (by omega)] at hLf
        cases hLf
      · obtain ⟨h1, o, ho, hall⟩ := mem_ready.1 hi
        have hlt := (Array.getElem?_eq_some_iff.1 ho).1
        have hil := lex listed hsz i hlt h1
        by_cases hiL : i = L
        · subst hiL
          rw [hoL] at ho
          cases ho
          have hal : ∀ j, j < i → listed.getD j false = true := fun j hj => by
            have hx : tab[i]? = some (tab[i]'(by rw [T.len]; exact hlt)) := List.getElem?_eq_getElem _
            refine ancs_in (S := fun i => listed.getD i false = true) hcl tab.length i (fun k hk => ?_) j (hLall j hj)
            rw [depsOf_at hx] at hk
            obtain ⟨jt, hm, rfl⟩ := List.mem_map.1 hk
            obtain ⟨_, e, he, hb, hon⟩ := T.dep i oL _ hoL hx jt hm
            rw [← hon]
            exact hall e he hb
          have h3 := fin listed a u vs hsz (hu i hLf) hL hV hal
          refine wpOp_yields hoL ?_
          have step : ∀ v u', Q .normal (a.put oL.dst v) u' → wpAny P .any ops Q fuel (listed.setIfInBounds i true) (a.put oL.dst v) u' := fun v u' hQ => done fuel _ _ _ (fun j hj => by
            by_cases hji : i = j
            · subst hji; simp [show i < listed.size by omega]
            · rw [getD_set_ne true hji]
              have := hal j (by omega)
              simp [show j < listed.size by omega] at this ⊢
              exact this) hQ
          unfold opYields at h3 ⊢
          split at h3
          · rename_i hw
            rw [if_pos hw]
            exact yieldsK_mono step h3
          · rename_i hw
            rw [if_neg hw]
            exact step _ _ h3
        have hx : tab[i]? = some (tab[i]'(by rw [T.len]; exact hlt)) := List.getElem?_eq_getElem _
        generalize tab[i]'(by rw [T.len]; exact hlt) = x at hx
        have hdep := T.dep i o x ho hx
        have hlist : ∀ jt ∈ x.2.1, listed.getD jt.1 false = true := fun jt hm => by
          obtain ⟨_, e, he, hb, hon⟩ := hdep jt hm
          rw [← hon]
          exact hall e he hb
        have hdl : ∀ j ∈ depsOf tab i, listed.getD j false = true := fun j hj => by
          rw [depsOf_at hx] at hj
          obtain ⟨jt, hm, rfl⟩ := List.mem_map.1 hj
          exact hlist jt hm
        have hanc : ∀ k ∈ ancs tab tab.length i, listed.getD k false = true := ancs_in (S := fun i => listed.getD i false = true) hcl tab.length i hdl
        have h2 := eachOpI_at (ops.toList.take L) (tab.take L) 0 hops i o x (by rw [List.getElem?_take_of_lt (by omega)]; simpa using ho) (by rw [List.getElem?_take_of_lt (by omega)]; exact hx) u (by rw [Nat.zero_add]; exact hu i hil)
        obtain ⟨a', hL', h3⟩ := giving_at T.dis x.2.1 (fun _ => False) a0 (Like.start (vs := vs) (fun _ h => h)) (fun jt hm => (hdep jt hm).1)
          (fun jt hm => hV jt.1 (hlist jt hm) (.inr ⟨i, by rw [T.len]; exact hlt, hil, by rw [depsOf_at hx]; exact List.mem_map.2 ⟨jt, hm, rfl⟩⟩)) h2
        have hsel := Region.noSelect_spec T.sel i o
        obtain ⟨e1, e2⟩ := same_op (ops := ops) (o := o) (a := a) (a' := a') (fun cs b => hsel cs b ho) (fun t ht => hL.agree hL' fun j hj => by
          obtain ⟨jt, hm, rfl⟩ := T.look i o x ho hx j t hj ht
          exact ⟨hlist jt hm, .inr ⟨jt, hm, rfl⟩⟩)
        refine wpOp_yields ho ?_
        unfold opYields at h3 ⊢
        rw [e1, e2]
        have step : ∀ v u', R (0 + i) u u' ∧ V (0 + i) v u' → wpAny P .any ops Q fuel (listed.setIfInBounds i true) (a.put o.dst v) u' := by
          rintro v u' ⟨hR, hv⟩
          rw [Nat.zero_add] at hv hR
          have hod : o.dst = dstAt ops i := by unfold dstAt; rw [ho]; rfl
          rw [hod]
          refine ih (listed.setIfInBounds i true) _ u' (fun j => if j = i then v else vs j) (by simpa using hsz) ?_ (fun j hj => ?_) (by rw [getD_set_ne false hiL]; exact hLf) (hL.more (fun j t h1 h2 => T.dis i j t h1 h2) (fun j => ?_) (by simp) (fun j hj => by simp [hj])) (fun j hj k hk => ?_) (fun j hj hneed => ?_)
          · have hc := countP_less (l := List.range ops.size) (p := fun j => !listed.getD j true) (q := fun j => !(listed.setIfInBounds i true).getD j true) (i := i) (List.mem_range.2 hlt) (by rw [h1]; rfl) (by simp [show i < listed.size by omega]) (fun j hj => by
              by_cases hji : i = j
              · subst hji; rw [h1]; rfl
              · rw [getD_set_ne true hji] at hj; exact hj)
            omega
          · by_cases hji : i = j
            · subst hji
              simp [show i < listed.size by omega] at hj
            · rw [getD_set_ne false hji] at hj
              refine hCR i j u u' ?_ (hu i hil) (hu j hj) hR
              unfold laterB
              rw [Bool.and_eq_true, bne_iff_ne, Bool.not_eq_true']
              refine ⟨fun e => hji e.symm, ?_⟩
              rw [Bool.eq_false_iff]
              intro hc
              have := hanc j (by simpa using hc)
              rw [hj] at this
              cases this
          · by_cases hji : i = j
            · subst hji; simp [show i < listed.size by omega]
            · rw [getD_set_ne false hji]
              exact ⟨.inl, fun h => h.resolve_right (Ne.symm hji)⟩
          · by_cases hji : i = j
            · subst hji; exact getD_set_true (hdl k hk)
            · rw [getD_set_ne false hji] at hj
              exact getD_set_true (hcl j hj k hk)
          · by_cases hji : j = i
            · subst hji; simpa using hv
            · simp only [hji, if_false]
              rw [getD_set_ne false (Ne.symm hji)] at hj
              have hneed' : keptAt tab j = true ∨ ∃ k, k < tab.length ∧ k ≠ i ∧ listed.getD k false = false ∧ j ∈ depsOf tab k := by
                rcases hneed with h | ⟨k, hk, hkl, hkd⟩
                · exact .inl h
                · have hki : k ≠ i := by
                    rintro rfl
                    simp [show k < listed.size by omega] at hkl
                  rw [getD_set_ne false (Ne.symm hki)] at hkl
                  exact .inr ⟨k, hk, hki, hkl, hkd⟩
              refine hVR i j _ u u' ?_ (hu i hil) hR (hV j hj ?_)
              · simp only [needB, Bool.and_eq_true, bne_iff_ne, ne_eq, Bool.or_eq_true, List.any_eq_true, List.mem_range, Bool.not_eq_true']
                refine ⟨⟨hji, ?_⟩, ?_⟩
                · rw [Bool.eq_false_iff]
                  intro hc
                  have := ancs_in (S := fun i => listed.getD i false = true) hcl tab.length j (hcl j hj) i (by simpa using hc)
                  rw [hil] at this
                  cases this
                rcases hneed' with h | ⟨k, hk, hki, hkl, hkd⟩
                · exact .inl h
                · refine .inr ⟨k, hk, ⟨hki, ?_⟩, by simpa using hkd⟩
                  rw [Bool.eq_false_iff]
                  intro hc
                  have := hanc k (by simpa using hc)
                  rw [hkl] at this
                  cases this
              · rcases hneed' with h | ⟨k, hk, _, hkl, hkd⟩
                · exact .inl h
                · exact .inr ⟨k, hk, hkl, hkd⟩
        split at h3
        · rename_i hw
          rw [if_pos hw]
          exact yieldsK_mono step h3
        · rename_i hw
          rw [if_neg hw]
          exact step _ _ h3
  have h00 : ∀ i, ¬ (Array.replicate ops.size false).getD i false = true := fun i => by by_cases h : i < ops.size <;> simp [h]
  refine main ops.size _ a0 _ (fun _ => undef) (by simp) ?_ (fun j _ => hC0 j) (Bool.eq_false_iff.2 (h00 L)) (Like.start h00) (fun i hi => absurd hi (h00 i)) (fun i hi => absurd hi (h00 i))
  have := List.countP_le_length (p := fun i => !(Array.replicate ops.size false).getD i true) (l := List.range ops.size)
  rw [List.length_range] at this
  exact this

/-- whatever order is drawn; of each operation is told what holds until it comes up, and of the end what holds there -/
theorem wp_region_eachI {P : Program} {ops : Array Oper} {id : Nat} {Q : Exit → Act → World → Prop} {a0 : Act} {w : World}
    (tab : List Row) (C : Nat → World → Prop) (R : Nat → World → World → Prop) (V : Nat → Value → World → Prop)
    (hm : P.follows .mixedOrders = true) (hB : tabB ops tab = true) (hC0 : ∀ j, C j { w with drawn := w.drawn + 1 }) (hCR : ∀ i j u u', laterB tab i j = true → C i u → C j u → R i u u' → C j u') (hVR : ∀ i j v u u', needB tab i j = true → C i u → R i u u' → V j v u → V j v u')
    (hops : eachOpI P ops C R V a0 ops.toList tab 0) (hend : ∀ u, C ops.size u → givingAll V u (fun a => Q .normal a u) tab 0 a0) : (Code.region id ops true).wp P Q a0 w := by
  have T := tabOk hB
  refine wp_region_any hm ?_
  -- what must be kept: what is kept to the end, or waited for
  have main : ∀ (fuel : Nat) (listed : Array Bool) (a : Act) (u : World) (vs : Nat → Value), listed.size = ops.size → (List.range ops.size).countP (fun i => !listed.getD i true) ≤ fuel → (∀ j, listed.getD j false = false → C j u) → Like ops a0 (fun i => listed.getD i false = true) vs a →
      (∀ i, listed.getD i false = true → ∀ j ∈ depsOf tab i, listed.getD j false = true) →
      (∀ i, listed.getD i false = true → (keptAt tab i = true ∨ ∃ k, k < tab.length ∧ listed.getD k false = false ∧ i ∈ depsOf tab k) → V i (vs i) u) →
      wpAny P .any ops Q fuel listed a u := by
    have fin : ∀ (listed : Array Bool) (a : Act) (u : World) (vs : Nat → Value), listed.size = ops.size → C ops.size u → Like ops a0 (fun i => listed.getD i false = true) vs a → (∀ i, listed.getD i false = true → (keptAt tab i = true ∨ ∃ k, k < tab.length ∧ listed.getD k false = false ∧ i ∈ depsOf tab k) → V i (vs i) u) → (∀ i, i < ops.size → listed.getD i false = true) → Q .normal a u := by
      intro listed a u vs hsz hu hL hV hall
      obtain ⟨a', hL', hQ⟩ := givingAll_at T.dis tab 0 a0 (Like.start (vs := vs) (by omega)) (fun i x hx => by rw [Nat.zero_add]; exact T.dst i x hx)
        (fun i x hx hk => by rw [Nat.zero_add]; exact hV i (hall i (by rw [← T.len]; exact (List.getElem?_eq_some_iff.1 hx).1)) (.inl (by rw [keptAt_at hx]; exact hk))) (hend u hu)
      have hall' : ∀ j t, dstAt ops j = some t → listed.getD j false = true ∧ j < 0 + tab.length := fun j t hj => ⟨hall j (dstAt_lt hj), by rw [T.len]; have := dstAt_lt hj; omega⟩
      have e : a = a' := by
        have e1 : a.tmps = a'.tmps := by
          apply Array.ext_getElem?
          intro t
          exact hL.agree hL' fun j hj => hall' j t hj
        have e2 : a.defers = a'.defers := hL.defers.trans hL'.defers.symm
        obtain ⟨t1, d1⟩ := a
        obtain ⟨t2, d2⟩ := a'
        dsimp only at e1 e2
        rw [e1, e2]
      rw [e]
      exact hQ
    have lex : ∀ (listed : Array Bool), listed.size = ops.size → ∀ i, i < ops.size → listed.getD i true = false → listed.getD i false = false := by
      intro listed hsz i hi h
      simp [show i < listed.size by omega] at h ⊢
      exact h
    intro fuel
    induction fuel with
    | zero =>
      intro listed a u vs hsz hn hu hL _ hV
      have hall : ∀ i, i < ops.size → listed.getD i false = true := by
        intro i hi
        have h0 := List.countP_eq_zero.1 (Nat.le_zero.1 hn) i (List.mem_range.2 hi)
        simp [show i < listed.size by omega] at h0 ⊢
        exact h0
      refine ⟨?_, fin listed a u vs hsz (hu _ (by simp [hsz])) hL hV hall⟩
      refine List.eq_nil_iff_forall_not_mem.2 fun i hi => ?_
      obtain ⟨h1, o, ho, _⟩ := mem_ready.1 hi
      have hlt := (Array.getElem?_eq_some_iff.1 ho).1
      have := hall i hlt
      rw [lex listed hsz i hlt h1] at this
      cases this
    | succ fuel ih =>
      intro listed a u vs hsz hn hu hL hcl hV
      refine ⟨fun hr => ?_, fun i hi => ?_⟩
      · refine fin listed a u vs hsz (hu _ (by simp [hsz])) hL hV fun i => ?_
        induction i using Nat.strongRecOn with
        | _ i ihi =>
          intro hi
          cases hc : listed.getD i false with
          | true => rfl
          | false =>
            have hmem : i ∈ Region.ready .any ops listed := mem_ready.2 ⟨by simp [show i < listed.size by omega] at hc ⊢; exact hc, ops[i], Array.getElem?_eq_getElem hi, fun e he hb => ihi e.on (T.back i ops[i] (Array.getElem?_eq_getElem hi) e he hb) (by have := T.back i ops[i] (Array.getElem?_eq_getElem hi) e he hb; omega)⟩
            rw [hr] at hmem
            cases hmem
      · obtain ⟨h1, o, ho, hall⟩ := mem_ready.1 hi
        have hlt := (Array.getElem?_eq_some_iff.1 ho).1
        have hil := lex listed hsz i hlt h1
        have hx : tab[i]? = some (tab[i]'(by rw [T.len]; exact hlt)) := List.getElem?_eq_getElem _
        generalize tab[i]'(by rw [T.len]; exact hlt) = x at hx
        have hdep := T.dep i o x ho hx
        have hlist : ∀ jt ∈ x.2.1, listed.getD jt.1 false = true := fun jt hm => by
          obtain ⟨_, e, he, hb, hon⟩ := hdep jt hm
          rw [← hon]
          exact hall e he hb
        have hdl : ∀ j ∈ depsOf tab i, listed.getD j false = true := fun j hj => by
          rw [depsOf_at hx] at hj
          obtain ⟨jt, hm, rfl⟩ := List.mem_map.1 hj
          exact hlist jt hm
        have hanc : ∀ k ∈ ancs tab tab.length i, listed.getD k false = true := ancs_in (S := fun i => listed.getD i false = true) hcl tab.length i hdl
        have h2 := eachOpI_at ops.toList tab 0 hops i o x (by simpa using ho) hx u (by rw [Nat.zero_add]; exact hu i hil)
        obtain ⟨a', hL', h3⟩ := giving_at T.dis x.2.1 (fun _ => False) a0 (Like.start (vs := vs) (fun _ h => h)) (fun jt hm => (hdep jt hm).1)
          (fun jt hm => hV jt.1 (hlist jt hm) (.inr ⟨i, by rw [T.len]; exact hlt, hil, by rw [depsOf_at hx]; exact List.mem_map.2 ⟨jt, hm, rfl⟩⟩)) h2
        have hsel := Region.noSelect_spec T.sel i o
        obtain ⟨e1, e2⟩ := same_op (ops := ops) (o := o) (a := a) (a' := a') (fun cs b => hsel cs b ho) (fun t ht => hL.agree hL' fun j hj => by
          obtain ⟨jt, hm, rfl⟩ := T.look i o x ho hx j t hj ht
          exact ⟨hlist jt hm, .inr ⟨jt, hm, rfl⟩⟩)
        refine wpOp_yields ho ?_
        unfold opYields at h3 ⊢
        rw [e1, e2]
        have step : ∀ v u', R (0 + i) u u' ∧ V (0 + i) v u' → wpAny P .any ops Q fuel (listed.setIfInBounds i true) (a.put o.dst v) u' := by
          rintro v u' ⟨hR, hv⟩
          rw [Nat.zero_add] at hv hR
          have hod : o.dst = dstAt ops i := by unfold dstAt; rw [ho]; rfl
          rw [hod]
          refine ih (listed.setIfInBounds i true) _ u' (fun j => if j = i then v else vs j) (by simpa using hsz) ?_ (fun j hj => ?_) (hL.more (fun j t h1 h2 => T.dis i j t h1 h2) (fun j => ?_) (by simp) (fun j hj => by simp [hj])) (fun j hj k hk => ?_) (fun j hj hneed => ?_)
          · have hc := countP_less (l := List.range ops.size) (p := fun j => !listed.getD j true) (q := fun j => !(listed.setIfInBounds i true).getD j true) (i := i) (List.mem_range.2 hlt) (by rw [h1]; rfl) (by simp [show i < listed.size by omega]) (fun j hj => by
              by_cases hji : i = j
              · subst hji; rw [h1]; rfl
              · rw [getD_set_ne true hji] at hj; exact hj)
            omega
          · by_cases hji : i = j
            · subst hji
              simp [show i < listed.size by omega] at hj
            · rw [getD_set_ne false hji] at hj
              refine hCR i j u u' ?_ (hu i hil) (hu j hj) hR
              unfold laterB
              rw [Bool.and_eq_true, bne_iff_ne, Bool.not_eq_true']
              refine ⟨fun e => hji e.symm, ?_⟩
              rw [Bool.eq_false_iff]
              intro hc
              have := hanc j (by simpa using hc)
              rw [hj] at this
              cases this
          · by_cases hji : i = j
            · subst hji; simp [show i < listed.size by omega]
            · rw [getD_set_ne false hji]
              exact ⟨.inl, fun h => h.resolve_right (Ne.symm hji)⟩
          · by_cases hji : i = j
            · subst hji; exact getD_set_true (hdl k hk)
            · rw [getD_set_ne false hji] at hj
              exact getD_set_true (hcl j hj k hk)
          · by_cases hji : j = i
            · subst hji; simpa using hv
            · simp only [hji, if_false]
              rw [getD_set_ne false (Ne.symm hji)] at hj
              have hneed' : keptAt tab j = true ∨ ∃ k, k < tab.length ∧ k ≠ i ∧ listed.getD k false = false ∧ j ∈ depsOf tab k := by
                rcases hneed with h | ⟨k, hk, hkl, hkd⟩
                · exact .inl h
                · have hki : k ≠ i := by
                    rintro rfl
                    simp [show k < listed.size by omega] at hkl
                  rw [getD_set_ne false (Ne.symm hki)] at hkl
                  exact .inr ⟨k, hk, hki, hkl, hkd⟩
              refine hVR i j _ u u' ?_ (hu i hil) hR (hV j hj ?_)
              · simp only [needB, Bool.and_eq_true, bne_iff_ne, ne_eq, Bool.or_eq_true, List.any_eq_true, List.mem_range, Bool.not_eq_true']
                refine ⟨⟨hji, ?_⟩, ?_⟩
                · rw [Bool.eq_false_iff]
                  intro hc
                  have := ancs_in (S := fun i => listed.getD i false = true) hcl tab.length j (hcl j hj) i (by simpa using hc)
                  rw [hil] at this
                  cases this
                rcases hneed' with h | ⟨k, hk, hki, hkl, hkd⟩
                · exact .inl h
                · refine .inr ⟨k, hk, ⟨hki, ?_⟩, by simpa using hkd⟩
                  rw [Bool.eq_false_iff]
                  intro hc
                  have := hanc k (by simpa using hc)
                  rw [hkl] at this
                  cases this
              · rcases hneed' with h | ⟨k, hk, _, hkl, hkd⟩
                · exact .inl h
                · exact .inr ⟨k, hk, hkl, hkd⟩
        split at h3
        · rename_i hw
          rw [if_pos hw]
          exact yieldsK_mono step h3
        · rename_i hw
          rw [if_neg hw]
          exact step _ _ h3
  have h00 : ∀ i, ¬ (Array.replicate ops.size false).getD i false = true := fun i => by by_cases h : i < ops.size <;> simp [h]
  refine main ops.size _ a0 _ (fun _ => undef) (by simp) ?_ (fun j _ => hC0 j) (Like.start h00) (fun i hi => absurd hi (h00 i)) (fun i hi => absurd hi (h00 i))
  have := List.countP_le_length (p := fun i => !(Array.replicate ops.size false).getD i true) (l := List.range ops.size)
  rw [List.length_range] at this
  exact this
end Go.Proofs.YtegmpfmhlpdmhaaGreat.Draw

namespace Go.Proofs.YtegmpfmhlpdmhaaGreat.Key
open Go.Op (bytesLess)
set_option linter.unusedVariables false
set_option linter.unusedSimpArgs false

/-- some pairs told behind others: what was told then, and whether more are wanted -/
def tellR (most : Int) : List Pr → List Pr → List Pr × Bool
  | out, [] => (out, true)
  | out, p :: A => if ((out.length : Int) + 1) = most then (out ++ [p], false) else tellR most (out ++ [p]) A
theorem tellR_nil (most : Int) (out : List Pr) : tellR most out [] = (out, true) := rfl
theorem tellR_app (most : Int) : ∀ (A B out : List Pr), tellR most out (A ++ B) = if (tellR most out A).2 then tellR most (tellR most out A).1 B else tellR most out A
  | [], B, out => rfl
  | p :: A, B, out => by
    rw [List.cons_append, tellR, tellR]
    by_cases h : ((out.length : Int) + 1) = most
    · rw [if_pos h, if_pos h]; rfl
    · rw [if_neg h, if_neg h]; exact tellR_app most A B _
theorem tellR_len (most : Int) : ∀ (A out : List Pr), (tellR most out A).1.length ≤ out.length + A.length ∧ out.length ≤ (tellR most out A).1.length ∧ (A ≠ [] → out.length < (tellR most out A).1.length)
  | [], out => ⟨by simp [tellR], by simp [tellR], fun h => absurd rfl h⟩
  | p :: A, out => by
    rw [tellR]
    by_cases h : ((out.length : Int) + 1) = most
    · rw [if_pos h]
      simp only [List.length_append, List.length_cons, List.length_nil]
      exact ⟨by omega, by omega, fun _ => by omega⟩
    · rw [if_neg h]
      obtain ⟨h1, h2, h3⟩ := tellR_len most A (out ++ [p])
      simp only [List.length_append, List.length_cons, List.length_nil] at h1 h2 ⊢
      exact ⟨by omega, by omega, fun _ => by omega⟩
/-- more are wanted just if not all have been told -/
theorem tellR_first {most : Int} (hm : most ≠ 0) (A : List Pr) : (tellR most [] A).1 = firstL most A := by
  have key : ∀ (A out : List Pr), (0 ≤ most → (out.length : Int) < most) → (tellR most out A).1 = out ++ if most < 0 then A else A.take (most.toNat - out.length) := by
    intro A
    induction A with
    | nil => intro out h; simp [tellR]
    | cons p A ih =>
      intro out h
      rw [tellR]
      by_cases e : ((out.length : Int) + 1) = most
      · rw [if_pos e, if_neg (by omega), show most.toNat - out.length = 1 by omega]
        rfl
      · rw [if_neg e, ih (out ++ [p]) (fun h0 => by have := h h0; simp only [List.length_append, List.length_cons, List.length_nil]; omega)]
        by_cases h0 : most < 0
        · rw [if_pos h0, if_pos h0]; simp
        · rw [if_neg h0, if_neg h0]
          have := h (by omega)
          simp only [List.length_append, List.length_cons, List.length_nil]
          rw [show most.toNat - out.length = (most.toNat - (out.length + 1)) + 1 by omega, List.take_succ_cons]
          simp
  rw [key A [] (fun h0 => by simp; omega)]
  unfold firstL
  simp

/-- where a key of the root is by a row of lifts -/
def ups : List Lft → List UInt8 → Option (List UInt8)
  | [], k => some k
  | l :: t, k => (up l k).bind (ups t)
/-- .. and back -/
def downs : List Lft → List UInt8 → Option (List UInt8)
  | [], x => some x
  | l :: t, x => (downs t x).bind (up (turn l))
theorem ups_iff : ∀ {ps : List Lft} {k x : List UInt8}, ups ps k = some x ↔ downs ps x = some k
  | [], k, x => by simp only [ups, downs, Option.some.injEq]; exact ⟨fun h => h.symm, fun h => h.symm⟩
  | l :: t, k, x => by
    simp only [ups, downs, Option.bind_eq_some_iff]
    constructor
    · rintro ⟨y, h1, h2⟩
      exact ⟨y, ups_iff.1 h2, up_back h1⟩
    · rintro ⟨y, h1, h2⟩
      exact ⟨y, up_iff.2 h2, ups_iff.2 h1⟩
theorem ups_app : ∀ (ps qs : List Lft) (k : List UInt8), ups (ps ++ qs) k = (ups ps k).bind (ups qs)
  | [], qs, k => rfl
  | l :: t, qs, k => by
    show (up l k).bind (ups (t ++ qs)) = ((up l k).bind (ups t)).bind (ups qs)
    cases up l k with
    | none => rfl
    | some y => exact ups_app t qs y
theorem downs_snoc (ps : List Lft) (e : Lft) (x : List UInt8) : downs (ps ++ [e]) x = (up (turn e) x).bind (downs ps) := by
  refine Option.ext fun k => ?_
  rw [← ups_iff, ups_app]
  simp only [Option.bind_eq_some_iff, ups]
  constructor
  · rintro ⟨y, h1, z, h2, h3⟩
    cases h3
    exact ⟨y, up_iff.1 h2, ups_iff.1 h1⟩
  · rintro ⟨y, h1, h2⟩
    exact ⟨y, ups_iff.2 h2, x, up_iff.2 h1, rfl⟩
/-- a pair with the key that it has in the root -/
def backP (ps : List Lft) (p : Pr) : Pr := ⟨str ((downs ps (kOf p)).getD []), p.val⟩
theorem back_nil (p : Pr) : backP [] p = p := by
  unfold backP downs kOf
  show (⟨str p.key.data.toList, p.val⟩ : Pr) = p
  rw [str_eq]
theorem back_map_nil (A : List Pr) : A.map (backP []) = A := by
  rw [show backP [] = id from funext back_nil, List.map_id]
/-- all keys of a range come from keys of the root -/
def Comes (ps : List Lft) (r : Rng) : Prop := ∀ x, inR r x = true → (downs ps x).isSome = true
theorem Comes.nil (r : Rng) : Comes [] r := fun _ _ => rfl
theorem Comes.on {ps : List Lft} {r p : Rng} (h : Comes ps r) (hp : ∀ k, inR p k = true → inR r k = true) (e : Lft) : Comes (ps ++ [e]) (overR e p) := by
  intro x hx
  rw [in_over, Bool.and_eq_true] at hx
  obtain ⟨y, hy⟩ := Option.isSome_iff_exists.1 hx.1
  rw [hy] at hx
  rw [downs_snoc, hy]
  exact h y (hp y hx.2)
theorem Comes.sub {ps : List Lft} {r p : Rng} (h : Comes ps r) (hp : ∀ k, inR p k = true → inR r k = true) : Comes ps p := fun x hx => h x (hp x hx)
/-- what is told of a range beyond an edge -/
theorem back_down {ps : List Lft} {e : Lft} {p : Rng} (A : List Pr) : (restL A (overR e p)).map (backP (ps ++ [e])) = ((restL A (overR e p)).map (downP e)).map (backP ps) := by
  rw [List.map_map]
  refine List.map_congr_left fun q hq => ?_
  have := (List.mem_filter.1 hq).2
  rw [in_over, Bool.and_eq_true] at this
  obtain ⟨y, hy⟩ := Option.isSome_iff_exists.1 this.1
  show backP (ps ++ [e]) q = backP ps (downP e q)
  unfold backP
  rw [downs_snoc, kOf_down]
  unfold downL
  rw [hy]
  rfl
/-- rows of lifts as one lift -/
def OneOf (ps : List Lft) (w : Lft) : Prop := ∀ k, up w k = ups ps k
theorem OneOf.nil : OneOf [] ⟨[], []⟩ := fun k => by
  show up ⟨[], []⟩ k = some k
  rw [show k = [] ++ k from rfl]
  exact up_app ⟨[], []⟩ k
theorem OneOf.one (l : Lft) : OneOf [l] l := fun k => by
  show up l k = (up l k).bind fun x => some x
  cases up l k <;> rfl
theorem OneOf.join {ps qs : List Lft} {a b : Lft} (ha : OneOf ps a) (hb : OneOf qs b) (h : ∃ k, (ups (ps ++ qs) k).isSome = true) : ∃ j, joinO a b = some j ∧ OneOf (ps ++ qs) j := by
  have key : ∀ k, upO (joinO a b) k = ups (ps ++ qs) k := by
    intro k
    rw [up_join, ups_app, ha k]
    cases ups ps k with
    | none => rfl
    | some y => exact hb y
  obtain ⟨k, hk⟩ := h
  cases hj : joinO a b with
  | none =>
    have := key k
    rw [hj] at this
    rw [← this] at hk
    cases hk
  | some j =>
    refine ⟨j, rfl, fun k => ?_⟩
    have := key k
    rw [hj] at this
    exact this
theorem OneOf.back {ps : List Lft} {w : Lft} (h : OneOf ps w) (x : List UInt8) : up (turn w) x = downs ps x := by
  refine Option.ext fun k => ?_
  rw [← ups_iff, ← h k]
  exact up_iff.symm
theorem ups_take {ps : List Lft} {k : List UInt8} (h : (ups ps k).isSome = true) (i : Nat) : (ups (ps.take i) k).isSome = true ∧ ∃ k', (ups (ps.drop i) k').isSome = true := by
  rw [← List.take_append_drop i ps, ups_app] at h
  cases hu : ups (ps.take i) k with
  | none => rw [hu] at h; cases h
  | some y => rw [hu] at h; exact ⟨rfl, y, h⟩
end Go.Proofs.YtegmpfmhlpdmhaaGreat.Key

namespace Go.Proofs.YtegmpfmhlpdmhaaGreat.Key
open Go.Op (bytesLess)
set_option linter.unusedVariables false
set_option linter.unusedSimpArgs false

/-- sorted, each once -/
def sortC (L : List (List UInt8)) : List (List UInt8) := Lib.compact (L.mergeSort fun x y => decide (x ≤ y))
theorem sort_le (L : List (List UInt8)) : (L.mergeSort fun x y => decide (x ≤ y)).Pairwise fun x y => bytesLess y x = false := by
  have h := List.pairwise_mergeSort (le := fun x y : List UInt8 => decide (x ≤ y)) (fun a b c h1 h2 => by
    simp only [decide_eq_true_eq] at *
    exact List.le_trans h1 h2) (fun a b => by
    simp only [Bool.or_eq_true, decide_eq_true_eq]
    exact List.le_total a b) L
  refine h.imp fun {a b} hab => ?_
  rw [Go.Proofs.bytesLess_eq]
  simp only [decide_eq_true_eq] at hab
  simpa using hab
/-- what stays of a sorted row -/
theorem compact_inv {S : List (List UInt8)} (hs : S.Pairwise fun x y => bytesLess y x = false) : ∀ m, m ≤ S.length →
    (Lib.compactUpTo S.toArray m).Pairwise (fun a b => bytesLess a b = true) ∧ (∀ x, x ∈ Lib.compactUpTo S.toArray m ↔ x ∈ S.take m) ∧ (∀ j, j + 1 = m → ∀ x ∈ Lib.compactUpTo S.toArray m, x = S.toArray[j]! ∨ bytesLess x S.toArray[j]! = true)
  | 0, _ => ⟨by simp [Lib.compactUpTo], fun x => by simp [Lib.compactUpTo], fun j hj => by omega⟩
  | m + 1, hm => by
    obtain ⟨h1, h2, h3⟩ := compact_inv hs m (by omega)
    have hget : ∀ i (hi : i < S.length), S.toArray[i]! = S[i] := fun i hi => by rw [getElem!_pos _ i (by simpa using hi)]; simp
    have htk : S.take (m + 1) = S.take m ++ [S[m]'(by omega)] := List.take_succ_eq_append_getElem (by omega)
    rw [Lib.compactUpTo_succ]
    by_cases hk : Lib.keeps S.toArray m = true
    · rw [if_pos hk]
      have hlast : ∀ x ∈ Lib.compactUpTo S.toArray m, bytesLess x S.toArray[m]! = true := by
        intro x hx
        have hm0 : m ≠ 0 := by
          rintro rfl
          simp [Lib.compactUpTo] at hx
        obtain ⟨j, rfl⟩ : ∃ j, m = j + 1 := ⟨m - 1, by omega⟩
        have hne : S.toArray[j + 1]! ≠ S.toArray[j]! := by
          unfold Lib.keeps at hk
          simpa using hk
        have hle : bytesLess S.toArray[j + 1]! S.toArray[j]! = false := by
          rw [hget _ (by omega), hget _ (by omega)]
          exact List.pairwise_iff_getElem.1 hs j (j + 1) (by omega) (by omega) (by omega)
        have hlt : bytesLess S.toArray[j]! S.toArray[j + 1]! = true := by
          cases hc : bytesLess S.toArray[j]! S.toArray[j + 1]!
          · exact absurd (less_same hle hc) hne
          · rfl
        rcases h3 j rfl x hx with e | e
        · rw [e]; exact hlt
        · exact less_trans e hlt
      refine ⟨List.pairwise_append.2 ⟨h1, List.pairwise_singleton _ _, fun a ha b hb => by
        rw [List.mem_singleton.1 hb]; exact hlast a ha⟩, fun x => ?_, fun j hj x hx => ?_⟩
      · rw [htk, List.mem_append, List.mem_append, h2, hget m (by omega)]
      · obtain rfl : j = m := by omega
        rcases List.mem_append.1 hx with hx | hx
        · exact .inr (hlast x hx)
        · exact .inl (List.mem_singleton.1 hx)
    · rw [if_neg hk, List.append_nil]
      have hm0 : m ≠ 0 := by
        rintro rfl
        simp [Lib.keeps] at hk
      obtain ⟨j, rfl⟩ : ∃ j, m = j + 1 := ⟨m - 1, by omega⟩
      have heq : S.toArray[j + 1]! = S.toArray[j]! := by
        unfold Lib.keeps at hk
        simpa using hk
      refine ⟨h1, fun x => ?_, fun j' hj x hx => ?_⟩
      · rw [htk, List.mem_append, h2]
        constructor
        · exact .inl
        · rintro (h | h)
          · exact h
          · rw [List.mem_singleton.1 h]
            have := heq
            rw [hget _ (by omega), hget _ (by omega)] at this
            rw [this]
            exact List.mem_take_iff_getElem.2 ⟨j, by omega, rfl⟩
      · obtain rfl : j' = j + 1 := by omega
        rw [heq]
        exact h3 j rfl x hx
theorem sortC_mem (L : List (List UInt8)) (x : List UInt8) : x ∈ sortC L ↔ x ∈ L := by
  have h := (compact_inv (sort_le L) _ (Nat.le_refl _)).2.1 x
  unfold sortC Lib.compact
  rw [h, List.take_length]
  exact (List.mergeSort_perm L _).mem_iff
theorem sortC_rise (L : List (List UInt8)) : (sortC L).Pairwise fun a b => bytesLess a b = true := (compact_inv (sort_le L) _ (Nat.le_refl _)).1
theorem sortC_len (L : List (List UInt8)) : (sortC L).length ≤ L.length := by
  unfold sortC Lib.compact Lib.compactUpTo
  rw [List.length_map]
  refine Nat.le_trans (List.length_filter_le _ _) ?_
  rw [List.length_range, List.length_mergeSort]
  exact Nat.le_refl _
theorem sortC_cuts {r : Rng} {L : List (List UInt8)} (hf : r.lo ∈ L) (hi : ∀ x ∈ L, inR r x = true) : Cuts r (sortC L) := by
  have hpos : 0 < (sortC L).length := by
    have := (sortC_mem L r.lo).2 hf
    exact List.length_pos_iff.2 (List.ne_nil_of_mem this)
  refine ⟨sortC_rise L, fun c hc => hi c ((sortC_mem L c).1 hc), hpos, ?_⟩
  rw [getD_at hpos]
  obtain ⟨i, hil, he⟩ := List.mem_iff_getElem.1 ((sortC_mem L r.lo).2 hf)
  rcases Nat.eq_zero_or_pos i with rfl | h0
  · exact he
  · have h1 := List.pairwise_iff_getElem.1 (sortC_rise L) 0 i hpos hil h0
    have h2 := (inR_and (hi _ ((sortC_mem L _).1 (List.getElem_mem hpos)))).1
    rw [he] at h1
    rw [h1] at h2
    cases h2
end Go.Proofs.YtegmpfmhlpdmhaaGreat.Key

namespace Go.Proofs.YtegmpfmhlpdmhaaGreat.Key
open Go.RowKit
set_option linter.unusedVariables false
set_option linter.unusedSimpArgs false

/-- a row of texts of the call's own -/
def OwnT (w : World) (B : Nat) (v : Value) (cs : List ByteArray) : Prop := w.ownsRow B 9 1 v cs.length (cs.flatMap tcell)
/-- a cell that holds one value -/
def Cel (w : World) (g : Nat) (t : TypeId) (v : Value) : Prop := w.heap[g]? = some (.cells #[v] t (0, 0))
theorem Cel.lt {w : World} {g : Nat} {t : TypeId} {v : Value} (h : Cel w g t v) : g < w.heap.size := (Array.getElem?_eq_some_iff.1 h).1
theorem Cel.later {w w' : World} {g : Nat} {t : TypeId} {v : Value} (h : Cel w g t v) (hb : Below w.heap.size w w') : Cel w' g t v := (hb.block g h.lt).trans h
theorem Cel.cell {w : World} {g : Nat} {t : TypeId} {v : Value} (h : Cel w g t v) : w.cell? ⟨g, 0, none⟩ = some v := cell_of_row _ _ 0 _ _ _ h
theorem Cel.free {w : World} {g : Nat} {t : TypeId} {v : Value} (h : Cel w g t v) : w.frozen? ⟨g, 0, none⟩ = false := frozen_of_row _ _ 0 _ _ h
theorem Cel.put {w : World} {g : Nat} {t : TypeId} {v : Value} (h : Cel w g t v) (y : Value) : Cel (w.setCell ⟨g, 0, none⟩ y) g t y := Go.Joins.block_setCell h y
/-- a row's block is not a cell's -/
theorem row_off {w : World} {B : Nat} {e t : TypeId} {sz n g : Nat} {v : Value} {xs : List Value} {cs : Array Value} {m : Nat × Nat} (h : w.ownsRow B e sz v n xs) (hg : w.heap[g]? = some (.cells cs t m)) (hne : e ≠ t) : v.ownBlock ≠ some g := by
  rcases h.2 with ⟨rfl, _⟩ | ⟨b, cap, cur, rfl, hb, hh, _⟩
  · simp [Value.ownBlock]
  · intro e'
    simp only [Value.ownBlock, Option.some.injEq] at e'
    subst e'
    rw [hh] at hg
    simp only [Option.some.injEq, Obj.cells.injEq] at hg
    exact hne hg.2.1
/-- boxes stay, but the one that holds the row, and rows of texts -/
def KeepT (g : Nat) (w w' : World) : Prop := ∀ b cs t m, w.heap[b]? = some (.cells cs t m) → b ≠ g → t ≠ 9 → w'.heap[b]? = some (.cells cs t m)
theorem KeepT.of_below (g : Nat) {w w' : World} (h : Below w.heap.size w w') : KeepT g w w' := fun b cs t m hb _ _ => (h.block b (Array.getElem?_eq_some_iff.1 hb).1).trans hb
theorem KeepT.trans {g : Nat} {w w' w'' : World} (h : KeepT g w w') (k : KeepT g w' w'') : KeepT g w w'' := fun b cs t m hb hg ht => k b cs t m (h b cs t m hb hg ht) hg ht
theorem KeepT.grown {g B : Nat} {w w' : World} {v : Value} {n : Nat} {xs : List Value} (h : w.ownsRow B 9 1 v n xs) (hw : w.grownBy w' v.ownBlock) : KeepT g w w' := fun b cs t m hb _ ht =>
  (hw.block b (Array.getElem?_eq_some_iff.1 hb).1 (fun e => row_off h hb (fun e' => ht e'.symm) e.symm)).trans hb
theorem KeepT.set (g : Nat) (w : World) (v : Value) : KeepT g w (w.setCell ⟨g, 0, none⟩ v) := fun b cs t m hb hg _ => (heap_setCell_other w ⟨g, 0, none⟩ b v hg).trans hb
set_option maxRecDepth 100000 in
set_option maxHeartbeats 800000 in
theorem cut109 (rb g B : Nat) (lo hi : ByteArray) (e : Bool) (k : ByteArray) (v : Value) (cs : List ByteArray) (w0 w : World) (hr : Box w rb (.string lo) (.string hi) (.bool e)) (hrB : rb ≠ g) (hg : Cel w g 44 v) (hgB : B ≤ g) (ho : OwnT w B v cs) (hl : cs.length ≤ 10000) (hBw : B ≤ w.heap.size) (hb : Below B w0 w) :
    Calls Tryz.prog 75 #[.string k, .pointer (some ⟨rb, 0, none⟩), .pointer (some ⟨g, 0, none⟩)] w fun x w' => x = .returned (.tuple #[]) ∧ (∃ v', Cel w' g 44 v' ∧ OwnT w' B v' (if inR (rg lo hi e) k.data.toList then cs ++ [k] else cs)) ∧ Below B w0 w' ∧ B ≤ w'.heap.size ∧ KeepT g w w' := by
  have HI := hid (in56 lo hi k e w)
  obtain ⟨a0, a1, a2⟩ := hr.cells
  cases hin : inR (rg lo hi e) k.data.toList
  · rw [hin] at HI
    go_enter Tryz.func75, Tryz.ntmps75
    go_wp2_with fail
    refine HI.out.mono ?_
    rintro x w1 ⟨rfl, hb1⟩
    go_wp2_with fail
    go_end0
    exact ⟨rfl, ⟨v, hg.later hb1, row_later ho hb1⟩, hb.trans (hb1.mono hBw), Nat.le_trans hBw hb1.size, KeepT.of_below g hb1⟩
  · rw [hin] at HI
    go_enter Tryz.func75, Tryz.ntmps75
    go_wp2_with fail
    refine HI.out.mono ?_
    rintro x w1 ⟨rfl, hb1⟩
    have hg1 := hg.later hb1
    have ho1 : OwnT w1 B v cs := row_later ho hb1
    have hb2 := hb.trans (hb1.mono hBw)
    have hs1 := Nat.le_trans hBw hb1.size
    have N1 := Go.heap_alloc_new w1 (.cells #[.string k] 9)
    have hg2 := hg1.later (below_box w1 (.cells #[.string k] 9))
    have ho2 : OwnT (w1.alloc (.cells #[.string k] 9)) B v cs := row_later ho1 (below_box w1 _)
    have hb3 := hb2.alloc hs1 (.cells #[.string k] 9)
    have q := hg1.cell
    have hro := row_off ho2 hg2 (by decide)
    have hbw := hb1
    clear hb1 ho1 ho hg
    obtain ⟨va, vn, vc, rfl⟩ := row_slice ho2
    have hkn : ∀ adr, some (⟨w1.heap.size, 0, none⟩ : Addr) = some adr → ∀ j u, (([k].flatMap tcell))[j]? = some u → (w1.alloc (.cells #[.string k] 9)).cell? (adr.add j) = some u := by
      rintro adr ha j u hu
      cases ha
      match j with
      | 0 => simp [tcell] at hu; subst hu; exact cell_of_row _ _ 0 _ _ _ N1
      | j + 1 => simp [tcell] at hu
    go_wp2_with (first | (at_builtin; refine appGen tcell 1 16 44 9 _ (by omega) (fun _ => rfl) Tryz.underlying44 info9 rfl (by omega) oneT (w0 := w0) rfl _ _ rfl B _ cs rfl ho2 (some ⟨w1.heap.size, 0, none⟩) 1 1 [k] rfl (by simp) rfl hkn (by omega) (by simp; omega) hb3 ?_; intro v' w2 h1 h2 h3; obtain ⟨a7, n7, c7, rfl⟩ := row_slice h1; have hg3 : Cel w2 g 44 _ := (h3.block g hg2.lt (fun e => hro e.symm)).trans hg2; have q0 := hg3.cell; have q1 := hg3.free) | fail)
    have hg4 := hg3.put (.slice a7 n7 c7)
    have ho4 : OwnT (w2.setCell ⟨g, 0, none⟩ (.slice a7 n7 c7)) B (.slice a7 n7 c7) (cs ++ [k]) := row_type h1 hg3 (by decide)
    have hb4 := h2.setCell (p := ⟨g, 0, none⟩) hgB (.slice a7 n7 c7)
    have hsz : B ≤ (w2.setCell ⟨g, 0, none⟩ (.slice a7 n7 c7)).heap.size := by
      have := h3.size
      simp at this ⊢
      omega
    go_wp2_with fail
    go_end0
    exact ⟨rfl, ⟨_, hg4, ho4⟩, hb4, hsz, (KeepT.of_below g hbw).trans ((KeepT.of_below g (below_box w1 _)).trans ((KeepT.grown ho2 h3).trans (KeepT.set g w2 _)))⟩
end Go.Proofs.YtegmpfmhlpdmhaaGreat.Key

namespace Go.Proofs.YtegmpfmhlpdmhaaGreat.Key
open Go.RowKit Go.Shelf
set_option linter.unusedVariables false
set_option linter.unusedSimpArgs false

theorem putRow_grown (w : World) (blk n : Nat) (d : Array (List UInt8)) (os : Array Obj) : w.grownBy (Sort.grow (Sort.putRow Go.Proofs.encStr (Sort.ahead w n) blk 0 d) os) (some blk) := by
  unfold Sort.putRow Sort.mapBlock Sort.grow Sort.ahead
  refine ⟨rfl, rfl, rfl, by simp, fun k hk hne => ?_⟩
  dsimp only
  rw [Array.getElem?_append_left (by simpa using hk), Array.getElem?_modify, if_neg (fun e => hne (by rw [e]))]
/-- a row of texts, as bytes -/
structure TxtRow (w : World) (B blk cap : Nat) (L : List (List UInt8)) : Prop where
  holds : Sort.Holds Go.Proofs.encStr w blk 0 L.toArray
  lt : blk < w.heap.size
  base : B ≤ blk
  len : L.length ≤ cap
  cap : cap ≤ maxLen
theorem OwnT.row {w : World} {B : Nat} {v : Value} {cs : List ByteArray} (h : OwnT w B v cs) (hne : cs ≠ []) : ∃ blk cap, v = .slice (some ⟨blk, 0, none⟩) cs.length cap ∧ TxtRow w B blk cap (cs.map fun s => s.data.toList) ∧ v.ownBlock = some blk := by
  obtain ⟨a, c, e, hr⟩ := row_cells tcell 1 (fun _ => rfl) h
  rcases hr with rfl | ⟨g, rfl, hB, ⟨cur, hg⟩, hc⟩
  · exact absurd rfl hne
  · subst e
    refine ⟨g, c, rfl, ⟨fun j hj => ?_, (Array.getElem?_eq_some_iff.1 hg).1, hB, ?_, ?_⟩, rfl⟩
    · have hj' : j < cs.length := by simpa using hj
      refine ⟨?_, frozen_of_row _ _ _ _ _ hg⟩
      have := hc j hj' 0 (.string cs[j]) (by omega) rfl
      rw [getElem!_pos _ j hj]
      simp only [List.getElem_toArray, List.getElem_map]
      rw [show 0 + j * 1 + 0 = 0 + j by omega] at this
      rw [this]
    · rw [List.length_map]
      rcases h.2 with ⟨e, _⟩ | ⟨b, cap, cur', e, _, _, h3, _⟩
      · cases e
      · simp only [Value.slice.injEq] at e
        obtain ⟨_, _, rfl⟩ := e
        exact h3
    · rcases h.2 with ⟨e, _⟩ | ⟨b, cap, cur', e, _, _, _, h4, _⟩
      · cases e
      · simp only [Value.slice.injEq] at e
        obtain ⟨_, _, rfl⟩ := e
        exact h4
theorem TxtRow.txts {w : World} {B blk cap : Nat} {L : List (List UInt8)} (h : TxtRow w B blk cap L) : Txts w (some ⟨blk, 0, none⟩) (L.map str) := by
  refine .inr ⟨blk, 0, rfl, fun i hi => ?_⟩
  have hi' : i < L.length := by simpa using hi
  have := (h.holds i (by simpa using hi')).1
  rw [getElem!_pos _ i (by simpa using hi')] at this
  rw [this, List.getElem_map]
  rfl
set_option maxRecDepth 100000 in
theorem sort110 {B blk cap : Nat} {L : List (List UInt8)} {w : World} (h : TxtRow w B blk cap L) (hl : L.length ≤ 100000) :
    Calls Tryz.prog 76 #[.slice (some ⟨blk, 0, none⟩) L.length cap] w fun e w' => e = .returned (.tuple #[]) ∧ TxtRow w' B blk cap (L.mergeSort fun x y => decide (x ≤ y)) ∧ w.grownBy w' (some blk) := by
  have hm := h.cap
  unfold maxLen at hm
  refine (Any.slices_Sort_string sortStr blk 0 cap L w h.holds h.lt (by omega)).mono ?_
  rintro e w' ⟨rfl, n, os, rfl⟩
  have hg := putRow_grown w blk n (L.mergeSort fun x y => decide (x ≤ y)).toArray os
  refine ⟨rfl, ⟨?_, Nat.lt_of_lt_of_le h.lt hg.size, h.base, by rw [List.length_mergeSort]; exact h.len, h.cap⟩, hg⟩
  exact Sort.holds_grow _ _ _ _ _ _ (by show blk < (Sort.mapBlock _ _ _).heap.size; simpa [Sort.mapBlock, Sort.ahead] using h.lt) (Sort.holds_putRow _ _ _ _ L.toArray _ (Sort.holds_ahead _ _ _ _ _ _ h.holds) (by simp))
set_option maxRecDepth 100000 in
theorem compact111 {B blk cap : Nat} {L : List (List UInt8)} {w : World} (h : TxtRow w B blk cap L) :
    Calls Tryz.prog 77 #[.slice (some ⟨blk, 0, none⟩) L.length cap] w fun e w' => e = .returned (.slice (some ⟨blk, 0, none⟩) (Lib.compact L).length cap) ∧ TxtRow w' B blk cap (Lib.compact L) ∧ w.grownBy w' (some blk) := by
  have hm := h.cap
  unfold maxLen at hm
  have hle : (Lib.compact L).length ≤ L.length := by
    unfold Lib.compact Lib.compactUpTo
    rw [List.length_map]
    refine Nat.le_trans (List.length_filter_le _ _) ?_
    rw [List.length_range]
    exact Nat.le_refl _
  refine (Any.slices_Compact_string compStr blk 0 cap L w h.holds (by have := h.len; omega) h.len).mono ?_
  rintro e w' ⟨rfl, q, rfl⟩
  have hg := putRow_grown w blk q (Lib.compact L ++ List.replicate (L.length - (Lib.compact L).length) []).toArray #[]
  rw [Sort.grow_empty] at hg
  refine ⟨rfl, ⟨fun j hj => ?_, Nat.lt_of_lt_of_le h.lt hg.size, h.base, Nat.le_trans hle h.len, h.cap⟩, hg⟩
  have hH := Sort.holds_putRow Go.Proofs.encStr (Sort.ahead w q) blk 0 L.toArray (Lib.compact L ++ List.replicate (L.length - (Lib.compact L).length) []).toArray (Sort.holds_ahead _ _ _ _ _ _ h.holds) (by simp; omega)
  have hj' : j < (Lib.compact L).length := by simpa using hj
  have := hH j (by simp; omega)
  rw [getElem!_pos _ j (by simp; omega)] at this
  rw [getElem!_pos _ j hj]
  simp only [List.getElem_toArray, List.getElem_append_left hj'] at this ⊢
  exact this
end Go.Proofs.YtegmpfmhlpdmhaaGreat.Key

namespace Go.Proofs.YtegmpfmhlpdmhaaGreat.Key
open Go.RowKit
set_option linter.unusedVariables false
set_option linter.unusedSimpArgs false

def rcell (r : Rng) : List Value := [.string (str r.lo), .string (str r.hi), .bool r.e]
/-- is a text in a range? -/
def inT (lo hi : ByteArray) (e : Bool) (s : ByteArray) : Bool := inR (rg lo hi e) s.data.toList
theorem filter_take {p : ByteArray → Bool} {l : List ByteArray} {j : Nat} (h : j < l.length) : (l.take (j + 1)).filter p = (l.take j).filter p ++ if p l[j] then [l[j]] else [] := by
  rw [List.take_succ_eq_append_getElem h, List.filter_append]
  congr 1
  cases hp : p l[j] <;> simp [hp]
/-- the cuts of a message, as texts -/
def cutT (m : M) : List ByteArray := (cutM m).map str
theorem cutT_len (m : M) : (cutT m).length ≤ 2 := by
  unfold cutT cutM
  cases (aboutR m).e <;> simp
theorem cutsT_len (l : List M) : (l.flatMap cutT).length ≤ 2 * l.length := by
  induction l with
  | nil => simp
  | cons a t ih =>
    have := cutT_len a
    rw [List.flatMap_cons, List.length_append, List.length_cons]
    omega
/-- a text more, if it is in the range -/
def addC (lo hi : ByteArray) (e : Bool) (cs : List ByteArray) (k : ByteArray) : List ByteArray := if inR (rg lo hi e) k.data.toList then cs ++ [k] else cs
/-- the cell of the cuts, while they are collected -/
structure PI (w0 : World) (B g : Nat) (cs : List ByteArray) (u : World) : Prop where
  base : B ≤ g
  cel : ∃ v, Cel u g 44 v ∧ OwnT u B v cs
  below : Below B w0 u
  size : B ≤ u.heap.size
theorem cutP (rb g B : Nat) (lo hi : ByteArray) (e : Bool) (w0 u : World) (hr : Box w0 rb (.string lo) (.string hi) (.bool e)) (hrB : rb < B) (k : ByteArray) (cs : List ByteArray) (hP : PI w0 B g cs u) (hl : cs.length ≤ 10000) :
    Calls Tryz.prog 75 #[.string k, .pointer (some ⟨rb, 0, none⟩), .pointer (some ⟨g, 0, none⟩)] u fun x w' => x = .returned (.tuple #[]) ∧ PI w0 B g (addC lo hi e cs k) w' ∧ KeepT g u w' := by
  obtain ⟨h1, ⟨v, h2, h3⟩, h4, h5⟩ := hP
  refine (cut109 rb g B lo hi e k v cs w0 u ((h4.block rb hrB).trans hr) (by omega) h2 h1 h3 hl h5 h4).mono ?_
  rintro x w' ⟨rfl, ⟨v', h6, h7⟩, h8, h9, h10⟩
  exact ⟨rfl, ⟨h1, ⟨v', h6, h7⟩, h8, h9⟩, h10⟩
theorem PI.later {w0 : World} {B g : Nat} {cs : List ByteArray} {u u' : World} (h : PI w0 B g cs u) (hb : Below u.heap.size u u') : PI w0 B g cs u' := by
  obtain ⟨h1, ⟨v, h2, h3⟩, h4, h5⟩ := h
  exact ⟨h1, ⟨v, h2.later hb, row_later h3 hb⟩, h4.trans (hb.mono h5), Nat.le_trans h5 hb.size⟩
theorem PI.cell {w0 : World} {B g : Nat} {cs : List ByteArray} {u : World} (h : PI w0 B g cs u) : ∃ v, Cel u g 44 v ∧ OwnT u B v cs ∧ u.cell? ⟨g, 0, none⟩ = some v := by
  obtain ⟨v, h2, h3⟩ := h.cel
  exact ⟨v, h2, h3, h2.cell⟩
theorem own1 (w : World) (lo : ByteArray) : OwnT (w.alloc (.cells #[.string lo] 9)) w.heap.size (.slice (some ⟨w.heap.size, 0, none⟩) 1 1) [lo] :=
  ⟨by simp [tcell], .inr ⟨w.heap.size, 1, #[.string lo], rfl, Nat.le_refl _, Go.heap_alloc_new _ _, by simp, by unfold maxLen; omega, by simp [tcell]⟩⟩
theorem cuts_take {p : ByteArray → Bool} {l : List M} {j : Nat} (h : j < l.length) : ((l.take (j + 1)).flatMap cutT).filter p = ((l.take j).flatMap cutT).filter p ++ (cutT l[j]).filter p := by
  rw [List.take_succ_eq_append_getElem h, List.flatMap_append, List.filter_append]
  simp
theorem str_list (x : List UInt8) : (str x).data.toList = x := rfl
theorem cuts_from {pv : List ByteArray} {bf : List M} {lo hi : ByteArray} {e : Bool} {X : List (List UInt8)} {cs : List ByteArray} (hX : cs.map (fun s => s.data.toList) = X) (hcs : lo :: pv.filter (inT lo hi e) ++ (bf.flatMap cutT).filter (inT lo hi e) = cs) :
    ∀ x ∈ sortC X, x = lo.data.toList ∨ x ∈ pv.map (fun s => s.data.toList) ++ bf.flatMap cutM := by
  intro x hx
  rw [sortC_mem, ← hX] at hx
  obtain ⟨s, hs, rfl⟩ := List.mem_map.1 hx
  rw [← hcs, List.mem_append, List.mem_cons] at hs
  rcases hs with (rfl | hs) | hs
  · exact .inl rfl
  · exact .inr (List.mem_append_left _ (List.mem_map.2 ⟨s, (List.mem_filter.1 hs).1, rfl⟩))
  · obtain ⟨m, hm, h2⟩ := List.mem_flatMap.1 (List.mem_filter.1 hs).1
    refine .inr (List.mem_append_right _ (List.mem_flatMap.2 ⟨m, hm, ?_⟩))
    unfold cutT at h2
    obtain ⟨k, hk, rfl⟩ := List.mem_map.1 h2
    rwa [str_data]
theorem cuts_all {pv : List ByteArray} {bf : List M} {lo hi : ByteArray} {e : Bool} {X : List (List UInt8)} {cs : List ByteArray} (hX : cs.map (fun s => s.data.toList) = X) (hcs : lo :: pv.filter (inT lo hi e) ++ (bf.flatMap cutT).filter (inT lo hi e) = cs) (hr : inR (rg lo hi e) lo.data.toList = true) :
    Cuts (rg lo hi e) (sortC X) ∧ ∀ x ∈ pv.map (fun s => s.data.toList) ++ bf.flatMap cutM, inR (rg lo hi e) x = true → x ∈ sortC X := by
  subst hX hcs
  refine ⟨sortC_cuts (by simp [rg]) ?_, ?_⟩
  · intro x hx
    obtain ⟨s, hs, rfl⟩ := List.mem_map.1 hx
    rw [List.mem_append, List.mem_cons] at hs
    rcases hs with (rfl | hs) | hs
    · exact hr
    · exact (List.mem_filter.1 hs).2
    · exact (List.mem_filter.1 hs).2
  · intro x hx hi'
    refine (sortC_mem _ x).2 ?_
    rw [List.mem_map]
    rw [List.mem_append] at hx
    rcases hx with hx | hx
    · obtain ⟨s, hs, rfl⟩ := List.mem_map.1 hx
      exact ⟨s, List.mem_append_left _ (List.mem_cons_of_mem _ (List.mem_filter.2 ⟨hs, hi'⟩)), rfl⟩
    · obtain ⟨m, hm, hx⟩ := List.mem_flatMap.1 hx
      refine ⟨str x, List.mem_append_right _ (List.mem_filter.2 ⟨List.mem_flatMap.2 ⟨m, hm, List.mem_map.2 ⟨x, hx, rfl⟩⟩, ?_⟩), str_list x⟩
      unfold inT
      rw [str_list]
      exact hi'
theorem own_base {w : World} {B B' : Nat} {t : TypeId} {sz n : Nat} {v : Value} {xs : List Value} (hB : B' ≤ B) (h : w.ownsRow B t sz v n xs) : w.ownsRow B' t sz v n xs := by
  refine ⟨h.1, ?_⟩
  rcases h.2 with h2 | ⟨b, cap, cur, e, h1, h3⟩
  · exact .inl h2
  · exact .inr ⟨b, cap, cur, e, Nat.le_trans hB h1, h3⟩
theorem info25 : (Tryz.prog.info? 25).map (fun i => (i.zero, i.size, i.bytes)) = some (some (.agg #[.string ⟨#[]⟩, .string ⟨#[]⟩, .bool false]), 3, 40) := by kernel_rfl
theorem oneG (x : Rng) : ∀ u ∈ rcell x, u.oneCell' = true := by
  intro u hu
  simp only [rcell, List.mem_cons, List.not_mem_nil, or_false] at hu
  rcases hu with rfl | rfl | rfl <;> rfl
theorem rnews (w : World) (r : Rng) (s0 s1 : ByteArray) (e1 : Bool) (he : rcell r = [.string s0, .string s1, .bool e1]) :
    ∀ adr, some (⟨w.heap.size + 1, 0, none⟩ : Addr) = some adr → ∀ j u, ([r].flatMap rcell)[j]? = some u → ((w.alloc (.cells #[.string s0, .string s1, .bool e1] 25)).alloc (.cells #[.string s0, .string s1, .bool e1] 25)).cell? (adr.add j) = some u := by
  rintro adr ha j u hu
  cases ha
  have N1 := Go.heap_alloc_new (w.alloc (.cells #[.string s0, .string s1, .bool e1] 25)) (.cells #[.string s0, .string s1, .bool e1] 25)
  rw [show (w.alloc (.cells #[.string s0, .string s1, .bool e1] 25)).heap.size = w.heap.size + 1 by simp] at N1
  rw [List.flatMap_cons, List.flatMap_nil, List.append_nil, he] at hu
  match j with
  | 0 => simp at hu; subst hu; exact cell_of_row _ _ 0 _ _ _ N1
  | 1 => simp at hu; subst hu; exact cell_of_row _ _ 1 _ _ _ N1
  | 2 => simp at hu; subst hu; exact cell_of_row _ _ 2 _ _ _ N1
  | j + 3 => simp at hu
theorem add_is (lo hi : ByteArray) (e : Bool) (cs : List ByteArray) (k : ByteArray) : addC lo hi e cs k = cs ++ [k].filter (inT lo hi e) := by
  unfold addC inT
  cases h : inR (rg lo hi e) k.data.toList <;> simp [h]
theorem add_two (lo hi : ByteArray) (e : Bool) (cs : List ByteArray) (k m : ByteArray) : addC lo hi e (addC lo hi e cs k) m = cs ++ [k, m].filter (inT lo hi e) := by
  rw [add_is, add_is, List.append_assoc, ← List.filter_append]
  rfl
set_option maxRecDepth 100000 in
set_option maxHeartbeats 1600000 in
theorem parts100 (n : Nd) (p : Pl) (lo hi : ByteArray) (e : Bool) (w : World) (hf : Few n) (hk : ∀ m ∈ n.bf, m.key.size ≤ 1000) (h : Lies w n p) (hr : inR (rg lo hi e) lo.data.toList = true) :
    Calls Tryz.prog 66 #[nv n p, av lo hi e] w fun x w' => (∃ cs v, x = .returned v ∧ Cuts (rg lo hi e) cs ∧ ((∀ x ∈ cutsN n, inR (rg lo hi e) x = true → x ∈ cs) ∧ ∀ x ∈ cs, x = lo.data.toList ∨ x ∈ cutsN n) ∧ cs.length ≤ 10000 ∧ w'.ownsRow w.heap.size 25 3 v (partsN (rg lo hi e) cs cs.length).length ((partsN (rg lo hi e) cs cs.length).flatMap rcell)) ∧ Below w.heap.size w w' := by
  have hmf : ∀ (fn : Fn) (first cap : Array Value) (w : World), (Instr.makeFunc fn first cap).run Tryz.prog w = .ok (.func fn first cap) w := fun _ _ _ _ => rfl
  obtain ⟨lf, ps, pv, ks, bf⟩ := n
  obtain ⟨a1, c1, a2, c2, a3, c3, a4, c4⟩ := p
  have hpv := h.h2
  have hbf := h.h4
  have l2 := hf.l2
  have l4 := hf.l4
  dsimp only at hpv hbf l2 l4 hk
  obtain ⟨W, HW⟩ : ∃ u, Hid ((w.alloc (.cells #[.bool lf, .slice a1 ps.length c1, .slice a2 pv.length c2, .slice a3 ks.length c3, .slice a4 bf.length c4] 46)).alloc (.cells #[.string lo, .string hi, .bool e] 25) = u) := ⟨_, hid rfl⟩
  have hb1 : Below w.heap.size w W := by
    rw [← HW.out]
    exact (below_box _ _).alloc (by simp) _
  have sW : W.heap.size = w.heap.size + 2 := by rw [← HW.out]; simp
  have N1 : NBox W w.heap.size (.bool lf) (.slice a1 ps.length c1) (.slice a2 pv.length c2) (.slice a3 ks.length c3) (.slice a4 bf.length c4) := by
    rw [← HW.out]
    exact (NBox.new w _ _ _ _ _).alloc _
  have R1 : Box W (w.heap.size + 1) (.string lo) (.string hi) (.bool e) := by
    rw [← HW.out]
    have := Box.new (w.alloc (.cells #[.bool lf, .slice a1 ps.length c1, .slice a2 pv.length c2, .slice a3 ks.length c3, .slice a4 bf.length c4] 46)) (.string lo) (.string hi) (.bool e)
    rwa [show (w.alloc (.cells #[.bool lf, .slice a1 ps.length c1, .slice a2 pv.length c2, .slice a3 ks.length c3, .slice a4 bf.length c4] 46)).heap.size = w.heap.size + 1 by simp] at this
  have HC := hid (fun g u => cutP (w.heap.size + 1) g (w.heap.size + 2) lo hi e W u R1 (by omega))
  have HP := hid (fun (u : World) (hu : Below W.heap.size W u) => hpv.later (hb1.trans (hu.mono hb1.size)))
  have HB := hid (fun (u : World) (hu : Below W.heap.size W u) => hbf.later (hb1.trans (hu.mono hb1.size)))
  obtain ⟨m2, HM2⟩ : ∃ m, Hid (pv.length = m) := ⟨_, hid rfl⟩
  obtain ⟨m4, HM4⟩ : ∃ m, Hid (bf.length = m) := ⟨_, hid rfl⟩
  dsimp only [nv]
  rw [HM2.out] at N1 HW l2 ⊢
  rw [HM4.out] at N1 HW l4 ⊢
  generalize ps.length = n1 at *
  generalize ks.length = n3 at *
  clear hf h hpv hbf
  have hP0 : PI W (w.heap.size + 2) (w.heap.size + 2 + 1) [lo] ((W.alloc (.cells #[.string lo] 9)).alloc (.cells #[.slice (some ⟨w.heap.size + 2, 0, none⟩) 1 1] 44)) := by
    have o1 := own1 W lo
    have g1 := Go.heap_alloc_new (W.alloc (.cells #[.string lo] 9)) (.cells #[.slice (some ⟨w.heap.size + 2, 0, none⟩) 1 1] 44)
    rw [show (W.alloc (.cells #[.string lo] 9)).heap.size = W.heap.size + 1 by simp] at g1
    rw [← sW]
    rw [← sW] at g1
    have o2 : OwnT ((W.alloc (.cells #[.string lo] 9)).alloc (.cells #[.slice (some ⟨W.heap.size, 0, none⟩) 1 1] 44)) W.heap.size _ [lo] := row_later o1 (below_box _ _)
    exact ⟨by omega, ⟨_, g1, o2⟩, (below_box _ _).alloc (by simp) _, by simp; omega⟩
  obtain ⟨r1, r2, r3⟩ := R1.cells
  obtain ⟨d1, d2, d3, d4, d5⟩ := N1.cells
  go_enter Tryz.func66, Tryz.ntmps66
  go_upto_region 1 with fail
  rw [HW.out]
  go_wp2_with fail
  clear r1 r2 r3 d1 d2 d3 d4 d5
  have HN := hid N1
  have HR := hid R1
  have HS := hid sW
  clear N1 R1 sW
  go_loopw [23] (fun i wr => ∃ j : Nat, j ≤ m2 ∧ i = .int .i64 j ∧ PI W (w.heap.size + 2) (w.heap.size + 2 + 1) (lo :: (pv.take j).filter (inT lo hi e)) wr) (fun i _ => m2 - (intOf i).toNat)
  case atStart => exact ⟨0, Nat.zero_le _, rfl, hP0⟩
  case round =>
    clear hP0
    obtain ⟨j, hj, rfl, hP⟩ := hrel
    by_cases hjn : j < m2
    · have hjl : j < pv.length := by rw [HM2.out]; exact hjn
      obtain ⟨b, off, rfl, hx⟩ := (HP.out wr (by rw [HS.out]; exact hP.below)).at hjl
      have hst := hid (filter_take (p := inT lo hi e) hjl)
      obtain ⟨x, HX⟩ : ∃ m, Hid (pv[j] = m) := ⟨_, hid rfl⟩
      rw [HX.out] at hx hst
      have hlj : ((pv.take j).filter (inT lo hi e)).length ≤ j := Nat.le_trans (List.length_filter_le _ _) (by rw [List.length_take]; omega)
      have hc := hid (HC.out (w.heap.size + 2 + 1) wr x _ hP (by simp; omega))
      have hji : (j : Int) < (m2 : Int) := by omega
      go_wp2_with fail
      refine hc.out.mono ?_
      rintro y w1 ⟨rfl, hP1, _⟩
      go_wp2_with fail
      go_roundw
      case rel =>
        refine ⟨j + 1, by omega, by go_num, ?_⟩
        rw [hst.out]
        unfold addC at hP1
        unfold inT at *
        split at hP1 <;> simp_all
      case measure => simp [intOf]; omega
    · obtain rfl : j = m2 := by omega
      rw [show pv.take j = pv by rw [← HM2.out, List.take_length]] at hP
      have hbw := hP.below
      obtain ⟨d1, d2, d3, d4, d5⟩ := (HN.out.below hbw (by omega)).cells
      go_wp2_with fail
      clear d1 d2 d3 d4 d5 hbw
      go_loopw [34] (fun i wq => ∃ t : Nat, t ≤ m4 ∧ i = .int .i64 t ∧ PI W (w.heap.size + 2) (w.heap.size + 2 + 1) (lo :: pv.filter (inT lo hi e) ++ ((bf.take t).flatMap cutT).filter (inT lo hi e)) wq) (fun i _ => m4 - (intOf i).toNat)
      case atStart => exact ⟨0, Nat.zero_le _, rfl, by simpa using hP⟩
      case round =>
        clear hP
        obtain ⟨t, ht, rfl, hP⟩ := hrel
        by_cases htn : t < m4
        · have htl : t < bf.length := by rw [HM4.out]; exact htn
          obtain ⟨b, off, rfl, hx⟩ := (HB.out wr (by rw [HS.out]; exact hP.below)).at htl
          have hst := hid (cuts_take (p := inT lo hi e) htl)
          have hkm := hk _ (List.getElem_mem htl)
          obtain ⟨x, HX⟩ : ∃ m, Hid (bf[t] = m) := ⟨_, hid rfl⟩
          rw [HX.out] at hx hst hkm
          have hA := hid (fun u => about57 x u hkm)
          have hlj : (pv.filter (inT lo hi e)).length ≤ 1000 := Nat.le_trans (List.length_filter_le _ _) (by rw [HM2.out]; omega)
          have hlt : (((bf.take t).flatMap cutT).filter (inT lo hi e)).length ≤ 2000 := Nat.le_trans (List.length_filter_le _ _) (Nat.le_trans (cutsT_len _) (by rw [List.length_take]; omega))
          obtain ⟨cs, HCS⟩ : ∃ m, Hid (lo :: pv.filter (inT lo hi e) ++ ((bf.take t).flatMap cutT).filter (inT lo hi e) = m) := ⟨_, hid rfl⟩
          have hcl : cs.length ≤ 4000 := by rw [← HCS.out]; simp; omega
          rw [HCS.out] at hP
          have hcut : Hid (cutT x = str (aboutR x).lo :: if (aboutR x).e then [str (aboutR x).hi] else []) := hid (by unfold cutT cutM; cases (aboutR x).e <;> rfl)
          unfold rv at hA
          generalize str (aboutR x).lo = L at *
          generalize str (aboutR x).hi = H at *
          generalize (aboutR x).e = E at *
          have hM0 := MBox.new wr x
          have hb0 := below_box wr (.cells #[.int .u8 x.kind, .string x.key, .string x.val, .int .u32 x.blk, .int .u16 x.deep, .string x.add] 42)
          clear hlj hlt hkm
          obtain ⟨kd, ky, vl, bk, dp, ad⟩ := x
          obtain ⟨d0, d1, d2, d3, d4, d5⟩ := hx
          dsimp only at d0 d1 d2 d3 d4 d5 hb0 hM0
          have hti : (t : Int) < (m4 : Int) := by omega
          have hg1 : w.heap.size + 2 + 1 < wr.heap.size := by obtain ⟨v, hv, _⟩ := hP.cel; exact hv.lt
          generalize hWA : wr.alloc (.cells #[.int .u8 kd, .string ky, .string vl, .int .u32 bk, .int .u16 dp, .string ad] 42) = WA at *
          have HWA := hid hWA
          have hPA := hP.later hb0
          have hWAs : wr.heap.size + 1 = WA.heap.size := by rw [← hWA]; simp
          have HWS := hid hWAs
          clear hWA hP hWAs
          go_upto_region 11 with fail
          rw [HWA.out]
          clear d0 d1 d2 d3 d4 d5
          obtain ⟨d0, d1, d2, d3, d4, d5⟩ := hM0.six
          simp only [Nat.zero_add] at d0 d1 d2 d3 d4 d5
          go_wp2_with fail
          refine (hA.out _).mono ?_
          clear hA d0 d1 d2 d3 d4 d5
          rintro y w1 ⟨rfl, hb1⟩
          have hP2 := (hPA.later hb1).later (below_box w1 (.cells #[.string L, .string H, .bool E] 25))
          have B2 := Box.new w1 (.string L) (.string H) (.bool E)
          have hkg : w1.heap.size ≠ w.heap.size + 2 + 1 := by
            have := hb1.size
            have := HWS.out
            omega
          have hc := hid (HC.out (w.heap.size + 2 + 1) _ L cs hP2 (by omega))
          clear hPA hP2 hb1
          go_wp2_with fail
          refine hc.out.mono ?_
          clear hc
          rintro y w3 ⟨rfl, hP3, hK3⟩
          have B3 : Box w3 w1.heap.size (.string L) (.string H) (.bool E) := hK3 _ _ _ _ B2 hkg (by decide)
          obtain ⟨g0, g1, g2⟩ := B3.cells
          have hl3 : (addC lo hi e cs L).length ≤ 5000 := by unfold addC; split <;> (try simp) <;> omega
          clear hK3 B2
          cases E
          · go_wp2_with fail
            go_roundw
            case rel =>
              refine ⟨t + 1, by omega, by go_num, ?_⟩
              rw [hst.out, hcut.out]
              rw [if_neg Bool.false_ne_true, ← List.append_assoc, HCS.out, ← add_is]
              exact hP3
            case measure => simp [intOf]; omega
          · have hc := hid (HC.out (w.heap.size + 2 + 1) _ H _ hP3 (by omega))
            go_wp2_with fail
            refine hc.out.mono ?_
            rintro y w4 ⟨rfl, hP4, hK4⟩
            go_wp2_with fail
            go_roundw
            case rel =>
              refine ⟨t + 1, by omega, by go_num, ?_⟩
              rw [hst.out, hcut.out]
              rw [if_pos trivial, ← List.append_assoc, HCS.out, ← add_two]
              exact hP4
            case measure => simp [intOf]; omega
        · obtain rfl : t = m4 := by omega
          rw [show bf.take t = bf by rw [← HM4.out, List.take_length]] at hP
          obtain ⟨cs, HCS⟩ : ∃ m, Hid (lo :: pv.filter (inT lo hi e) ++ (bf.flatMap cutT).filter (inT lo hi e) = m) := ⟨_, hid rfl⟩
          rw [HCS.out] at hP
          have hcl : cs.length ≤ 4000 := by
            rw [← HCS.out]
            have h1 : (pv.filter (inT lo hi e)).length ≤ 1000 := Nat.le_trans (List.length_filter_le _ _) (by rw [HM2.out]; omega)
            have h2 : ((bf.flatMap cutT).filter (inT lo hi e)).length ≤ 2000 := Nat.le_trans (List.length_filter_le _ _) (Nat.le_trans (cutsT_len _) (by rw [HM4.out]; omega))
            simp
            omega
          have hne : cs ≠ [] := by rw [← HCS.out]; simp
          obtain ⟨v, hv, hov⟩ := hP.cel
          have hro := row_off hov hv (by decide)
          obtain ⟨blk, cap, rfl, htr, hob⟩ := OwnT.row hov hne
          have hbB := htr.base
          have hbW := hP.below
          have hbs := hP.size
          have hs := sort110 htr (by simp; omega)
          obtain ⟨X, HXX⟩ : ∃ m, Hid (cs.map (fun s => s.data.toList) = m) := ⟨_, hid rfl⟩
          obtain ⟨N, HNN⟩ : ∃ m, Hid (cs.length = m) := ⟨_, hid rfl⟩
          have hXN : X.length = N := by rw [← HXX.out, List.length_map, HNN.out]
          rw [HXX.out, hXN] at hs
          have HXN := hid hXN
          rw [hob] at hro
          rw [HNN.out] at hv hcl
          have hvc := hv.cell
          have HSS := hid hs
          clear hP hov htr hob hs hXN hne
          go_wp2_with fail
          refine HSS.out.mono ?_
          clear HSS
          rintro y w5 ⟨rfl, htr, hg5⟩
          have hv5 : Cel w5 _ 44 _ := (hg5.block _ hv.lt (fun e => hro e.symm)).trans hv
          have hb5 := hbW.grown hg5 hbs (fun k hk => by cases hk; exact hbB)
          have hs5 := Nat.le_trans hbs hg5.size
          have hvc5 := hv5.cell
          have hvf5 := hv5.free
          have hc := compact111 htr
          rw [List.length_mergeSort, HXN.out] at hc
          change Calls Tryz.prog 77 _ _ (fun x w' => x = .returned (.slice _ (sortC X).length _) ∧ TxtRow w' _ _ _ (sortC X) ∧ _) at hc
          have HCC := hid hc
          clear hv hvc htr hg5 hbW hbs hc
          go_wp2_with fail
          refine HCC.out.mono ?_
          clear HCC
          rintro y w6 ⟨rfl, htr, hg6⟩
          have hv6 : Cel w6 _ 44 _ := (hg6.block _ hv5.lt (fun e => hro e.symm)).trans hv5
          have hb6 := hb5.grown hg6 hs5 (fun k hk => by cases hk; exact hbB)
          have hs6 := Nat.le_trans hs5 hg6.size
          have hvc6 := hv6.cell
          have hvf6 := hv6.free
          clear hv5 hvc5 hvf5 hb5 hs5 hg6
          have htx := htr.txts
          have hgb : w.heap.size + 2 + 1 ≠ blk := fun e' => hro (by rw [e'])
          have hb7 : Below (w.heap.size + 2) W (w6.setCell ⟨w.heap.size + 2 + 1, 0, none⟩ (.slice (some ⟨blk, 0, none⟩) (sortC X).length cap)) := hb6.setCell (p := ⟨w.heap.size + 2 + 1, 0, none⟩) (by show w.heap.size + 2 ≤ w.heap.size + 2 + 1; omega) _
          have hv7 := hv6.put (.slice (some ⟨blk, 0, none⟩) (sortC X).length cap)
          have htx7 : ∀ i (h : i < (sortC X).length), (w6.setCell ⟨w.heap.size + 2 + 1, 0, none⟩ (.slice (some ⟨blk, 0, none⟩) (sortC X).length cap)).cell? ⟨blk, i, none⟩ = some (.string (str ((sortC X).getD i []))) := by
            intro i hi
            rw [World.cell?_of_block (w := w6) (heap_setCell_other w6 ⟨w.heap.size + 2 + 1, 0, none⟩ blk _ (Ne.symm hgb))]
            have := (htr.holds i (by simpa using hi)).1
            rw [Nat.zero_add] at this
            rw [this, getD_at hi]
            simp [Go.Proofs.encStr, str, hi]
          have hs7 : w.heap.size + 2 ≤ (w6.setCell ⟨w.heap.size + 2 + 1, 0, none⟩ (.slice (some ⟨blk, 0, none⟩) (sortC X).length cap)).heap.size := by
            have := hb6.size
            simp
            exact hs6
          have hblt := htr.lt
          obtain ⟨M, HMM⟩ : ∃ m, Hid ((sortC X).length = m) := ⟨_, hid rfl⟩
          have hML : M ≤ 4000 := by
            rw [← HMM.out]
            have := sortC_len X
            rw [HXN.out] at this
            omega
          rw [HMM.out] at htx7 hs7 hb7 hv7
          have hb7' : ∀ u, w6.setCell ⟨w.heap.size + 2 + 1, 0, none⟩ (.slice (some ⟨blk, 0, none⟩) M cap) = u → blk < u.heap.size := by rintro u rfl; simpa using hblt
          go_upto_region 18 with fail
          rw [HMM.out]
          generalize w6.setCell ⟨w.heap.size + 2 + 1, 0, none⟩ (.slice (some ⟨blk, 0, none⟩) M cap) = w7 at *
          replace hb7' := hb7' w7 rfl
          have hvc7 := hv7.cell
          have hgl := hv7.lt
          clear hv6 hvc6 hvf6 hb6 htr htx hgb hblt hs6
          go_wp2_with fail
          go_loopw [12, 57] (fun o i wq => ∃ q : Nat, q ≤ M ∧ i = .int .i64 q ∧ wq.ownsRow w7.heap.size 25 3 o (partsN (rg lo hi e) (sortC X) q).length ((partsN (rg lo hi e) (sortC X) q).flatMap rcell) ∧ Below w7.heap.size w7 wq) (fun _ i _ => M - (intOf i).toNat)
          case atStart => exact ⟨0, Nat.zero_le _, rfl, ⟨by simp [partsN], .inl ⟨rfl, rfl⟩⟩, Below.refl _ _⟩
          case round =>
            clear hvc7
            obtain ⟨q, hq, rfl, hO, hbq⟩ := hrel
            have hvq : Cel wr _ 44 _ := (hbq.block _ hgl).trans hv7
            have hvc : wr.cell? _ = some _ := (hbq.cell (p := ⟨w.heap.size + 2 + 1, 0, none⟩) hgl).trans hv7.cell
            by_cases hqm : q < M
            · have hql : q < (sortC X).length := by rw [HMM.out]; exact hqm
              obtain ⟨s0, hs0⟩ : ∃ m, Hid (str ((sortC X).getD q []) = m) := ⟨_, hid rfl⟩
              have hx0 : wr.cell? ⟨blk, q, none⟩ = some _ := (hbq.cell (p := ⟨blk, q, none⟩) hb7').trans (htx7 q hqm)
              rw [hs0.out] at hx0
              clear hql
              have ha := below_box wr (.cells #[.string s0, .string hi, .bool e] 25)
              have hvc2 := Cel.cell (Cel.later (t := 44) hvq ha)
              have hRq : Box wr (w.heap.size + 1) (.string lo) (.string hi) (.bool e) := (hbq.block _ (by omega)).trans ((hb7.block _ (by omega)).trans HR.out)
              obtain ⟨r0, r1, r2⟩ := hRq.cells
              have hqi : (q : Int) < (M : Int) := by omega
              by_cases hq1 : q + 1 < M
              · have hx1 : wr.cell? ⟨blk, q + 1, none⟩ = some _ := (hbq.cell (p := ⟨blk, q + 1, none⟩) hb7').trans (htx7 (q + 1) hq1)
                obtain ⟨s1, hs1⟩ : ∃ m, Hid (str ((sortC X).getD (q + 1) []) = m) := ⟨_, hid rfl⟩
                rw [hs1.out] at hx1
                have hx2 : (wr.alloc (.cells #[.string s0, .string hi, .bool e] 25)).cell? ⟨blk, q + 1, none⟩ = some _ := (ha.cell (p := ⟨blk, q + 1, none⟩) (Nat.lt_of_lt_of_le hb7' hbq.size)).trans hx1
                have hqj : (q : Int) + 1 < (M : Int) := by omega
                have hO2 := row_later (row_later hO (below_box wr (.cells #[.string s0, .string s1, .bool true] 25))) (below_box (wr.alloc (.cells #[.string s0, .string s1, .bool true] 25)) (.cells #[.string s0, .string s1, .bool true] 25))
                have hB2 := (hbq.alloc hbq.size (.cells #[.string s0, .string s1, .bool true] 25)).alloc (by simp; have := hbq.size; omega) (.cells #[.string s0, .string s1, .bool true] 25)
                have hK2 := rnews wr (partAt (rg lo hi e) (sortC X) q) s0 s1 true (by unfold rcell partAt; dsimp only; rw [HMM.out, if_pos hq1, if_pos hq1, hs0.out, hs1.out])
                obtain ⟨oa, on, oc, rfl⟩ := row_slice hO
                go_wp2_with (first | (at_builtin; go_loud (refine appGen rcell 3 40 120 25 _ (by omega) (fun _ => rfl) Tryz.underlying120 info25 rfl (by omega) oneG (w0 := w7) rfl _ _ rfl w7.heap.size _ (partsN (rg lo hi e) (sortC X) q) rfl hO2 (some ⟨wr.heap.size + 1, 0, none⟩) 1 1 [partAt (rg lo hi e) (sortC X) q] rfl (by simp) rfl hK2 (by rw [partsN_len]; omega) (by simp; have := hbq.size; omega) hB2 ?_); intro v' w9 h1 h2 _) | fail)
                go_roundw
                case rel => exact ⟨q + 1, by omega, by go_num, by rw [partsN_succ]; exact h1, h2⟩
                case measure => simp [intOf]; omega
              · have hqj : ¬ (q : Int) + 1 < (M : Int) := by omega
                have hO2 := row_later (row_later hO (below_box wr (.cells #[.string s0, .string hi, .bool e] 25))) (below_box (wr.alloc (.cells #[.string s0, .string hi, .bool e] 25)) (.cells #[.string s0, .string hi, .bool e] 25))
                have hB2 := (hbq.alloc hbq.size (.cells #[.string s0, .string hi, .bool e] 25)).alloc (by simp; have := hbq.size; omega) (.cells #[.string s0, .string hi, .bool e] 25)
                have hK2 := rnews wr (partAt (rg lo hi e) (sortC X) q) s0 hi e (by unfold rcell partAt; dsimp only; rw [HMM.out, if_neg hq1, if_neg hq1, hs0.out]; simp [rg, str_eq])
                obtain ⟨oa, on, oc, rfl⟩ := row_slice hO
                go_wp2_with (first | (at_builtin; go_loud (refine appGen rcell 3 40 120 25 _ (by omega) (fun _ => rfl) Tryz.underlying120 info25 rfl (by omega) oneG (w0 := w7) rfl _ _ rfl w7.heap.size _ (partsN (rg lo hi e) (sortC X) q) rfl hO2 (some ⟨wr.heap.size + 1, 0, none⟩) 1 1 [partAt (rg lo hi e) (sortC X) q] rfl (by simp) rfl hK2 (by rw [partsN_len]; omega) (by simp; have := hbq.size; omega) hB2 ?_); intro v' w9 h1 h2 _) | fail)
                go_roundw
                case rel => exact ⟨q + 1, by omega, by go_num, by rw [partsN_succ]; exact h1, h2⟩
                case measure => simp [intOf]; omega
            · obtain rfl : q = M := by omega
              go_wp2_with fail
              go_ret
              have hcc := cuts_all HXX.out HCS.out hr
              refine ⟨⟨sortC X, _, rfl, hcc.1, ⟨hcc.2, cuts_from HXX.out HCS.out⟩, by rw [HMM.out]; omega, ?_⟩, ?_⟩
              · rw [HMM.out]
                exact own_base (by omega) hO
              · exact hb1.trans ((hb7.mono (by omega)).trans (hbq.mono (by omega)))
end Go.Proofs.YtegmpfmhlpdmhaaGreat.Key

namespace Go.Proofs.YtegmpfmhlpdmhaaGreat.Draw
open Go
set_option linter.unusedVariables false
set_option linter.unusedSimpArgs false

/-- what is known of an operation, where operation d has yielded e -/
def Ve (V : Nat → Value → Value → World → Prop) (d : Nat) (e : Value) (i : Nat) (v : Value) (u : World) : Prop := (i = d → v = e) ∧ V i v e u
/-- each operation, over what it waits for -/
def eachOp2 (P : Program) (ops : Array Oper) (C : World → Prop) (R : Nat → World → World → Prop) (V : Nat → Value → Value → World → Prop) (d : Nat) (a : Act) : List Oper → List Row → Nat → Prop
  | o :: l, (_, ds, _) :: tab, k => (∀ e u, C u → giving (Ve V d e) u (fun a' => opYields P ops o a' u fun v u' => R k u u' ∧ V k v (if k = d then v else e) u') ds a) ∧ eachOp2 P ops C R V d a l tab (k + 1)
  | _, _, _ => True
theorem eachOp2_at {P : Program} {ops : Array Oper} {C : World → Prop} {R : Nat → World → World → Prop} {V : Nat → Value → Value → World → Prop} {d : Nat} {a : Act} : ∀ (l : List Oper) (tab : List Row) (k : Nat), eachOp2 P ops C R V d a l tab k → ∀ i o x, l[i]? = some o → tab[i]? = some x →
    ∀ e u, C u → giving (Ve V d e) u (fun a' => opYields P ops o a' u fun v u' => R (k + i) u u' ∧ V (k + i) v (if k + i = d then v else e) u') x.2.1 a
  | [], _, _, _, i, o, x, ho, _ => by simp at ho
  | _ :: _, [], _, _, i, o, x, _, hx => by simp at hx
  | o' :: l, (d', ds, kp) :: tab, k, h, 0, o, x, ho, hx => by
    simp only [List.getElem?_cons_zero, Option.some.injEq] at ho hx
    subst ho hx
    exact h.1
  | o' :: l, (d', ds, kp) :: tab, k, h, i + 1, o, x, ho, hx => by
    have := eachOp2_at l tab (k + 1) h.2 i o x (by simpa using ho) (by simpa using hx)
    rw [show k + (i + 1) = k + 1 + i by omega]
    exact this
/-- whatever order is drawn -/
theorem wp_region_mark {P : Program} {ops : Array Oper} {id : Nat} {Q : Exit → Act → World → Prop} {a0 : Act} {w : World}
    (tab : List Row) (d : Nat) (C : World → Prop) (R : Nat → World → World → Prop) (V : Nat → Value → Value → World → Prop)
    (hm : P.follows .mixedOrders = true) (hB : tabB ops tab = true) (hC0 : C { w with drawn := w.drawn + 1 }) (hCR : ∀ i u u', C u → R i u u' → C u') (hVR : ∀ e i j v u u', needB tab i j = true → C u → R i u u' → V j v e u → V j v e u')
    (hind : ∀ j, j ≠ d → (ancs tab tab.length j).contains d = false → ∀ v e e' u, V j v e u → V j v e' u)
    (hops : eachOp2 P ops C R V d a0 ops.toList tab 0) (hend : ∀ e u, C u → givingAll (Ve V d e) u (fun a => Q .normal a u) tab 0 a0) : (Code.region id ops true).wp P Q a0 w := by
  have T := tabOk hB
  refine wp_region_any hm ?_
  -- what must be kept: what is kept to the end, or waited for
  have main : ∀ (fuel : Nat) (listed : Array Bool) (a : Act) (u : World) (vs : Nat → Value), listed.size = ops.size → (List.range ops.size).countP (fun i => !listed.getD i true) ≤ fuel → C u → Like ops a0 (fun i => listed.getD i false = true) vs a →
      (∀ i, listed.getD i false = true → ∀ j ∈ depsOf tab i, listed.getD j false = true) →
      (∀ i, listed.getD i false = true → (keptAt tab i = true ∨ ∃ k, k < tab.length ∧ listed.getD k false = false ∧ i ∈ depsOf tab k) → V i (vs i) (vs d) u) →
      wpAny P .any ops Q fuel listed a u := by
    have fin : ∀ (listed : Array Bool) (a : Act) (u : World) (vs : Nat → Value), listed.size = ops.size → C u → Like ops a0 (fun i => listed.getD i false = true) vs a → (∀ i, listed.getD i false = true → (keptAt tab i = true ∨ ∃ k, k < tab.length ∧ listed.getD k false = false ∧ i ∈ depsOf tab k) → V i (vs i) (vs d) u) → (∀ i, i < ops.size → listed.getD i false = true) → Q .normal a u := by
      intro listed a u vs hsz hu hL hV hall
      obtain ⟨a', hL', hQ⟩ := givingAll_at T.dis tab 0 a0 (Like.start (vs := vs) (by omega)) (fun i x hx => by rw [Nat.zero_add]; exact T.dst i x hx)
        (fun i x hx hk => by rw [Nat.zero_add]; exact ⟨fun h => by rw [h], hV i (hall i (by rw [← T.len]; exact (List.getElem?_eq_some_iff.1 hx).1)) (.inl (by rw [keptAt_at hx]; exact hk))⟩) (hend (vs d) u hu)
      have hall' : ∀ j t, dstAt ops j = some t → listed.getD j false = true ∧ j < 0 + tab.length := fun j t hj => ⟨hall j (dstAt_lt hj), by rw [T.len]; have := dstAt_lt hj; omega⟩
      have e : a = a' := by
        have e1 : a.tmps = a'.tmps := by
          apply Array.ext_getElem?
          intro t
          exact hL.agree hL' fun j hj => hall' j t hj
        have e2 : a.defers = a'.defers := hL.defers.trans hL'.defers.symm
        obtain ⟨t1, d1⟩ := a
        obtain ⟨t2, d2⟩ := a'
        dsimp only at e1 e2
        rw [e1, e2]
      rw [e]
      exact hQ
    have lex : ∀ (listed : Array Bool), listed.size = ops.size → ∀ i, i < ops.size → listed.getD i true = false → listed.getD i false = false := by
      intro listed hsz i hi h
      simp [show i < listed.size by omega] at h ⊢
      exact h
    intro fuel
    induction fuel with
    | zero =>
      intro listed a u vs hsz hn hu hL _ hV
      have hall : ∀ i, i < ops.size → listed.getD i false = true := by
        intro i hi
        have h0 := List.countP_eq_zero.1 (Nat.le_zero.1 hn) i (List.mem_range.2 hi)
        simp [show i < listed.size by omega] at h0 ⊢
        exact h0
      refine ⟨?_, fin listed a u vs hsz hu hL hV hall⟩
      refine List.eq_nil_iff_forall_not_mem.2 fun i hi => ?_
      obtain ⟨h1, o, ho, _⟩ := mem_ready.1 hi
      have hlt := (Array.getElem?_eq_some_iff.1 ho).1
      have := hall i hlt
      rw [lex listed hsz i hlt h1] at this
      cases this
    | succ fuel ih =>
      intro listed a u vs hsz hn hu hL hcl hV
      refine ⟨fun hr => ?_, fun i hi => ?_⟩
      · refine fin listed a u vs hsz hu hL hV fun i => ?_
        induction i using Nat.strongRecOn with
        | _ i ihi =>
          intro hi
          cases hc : listed.getD i false with
          | true => rfl
          | false =>
            have hmem : i ∈ Region.ready .any ops listed := mem_ready.2 ⟨by simp [show i < listed.size by omega] at hc ⊢; exact hc, ops[i], Array.getElem?_eq_getElem hi, fun e he hb => ihi e.on (T.back i ops[i] (Array.getElem?_eq_getElem hi) e he hb) (by have := T.back i ops[i] (Array.getElem?_eq_getElem hi) e he hb; omega)⟩
            rw [hr] at hmem
            cases hmem
      · obtain ⟨h1, o, ho, hall⟩ := mem_ready.1 hi
        have hlt := (Array.getElem?_eq_some_iff.1 ho).1
        have hil := lex listed hsz i hlt h1
        have hx : tab[i]? = some (tab[i]'(by rw [T.len]; exact hlt)) := List.getElem?_eq_getElem _
        generalize tab[i]'(by rw [T.len]; exact hlt) = x at hx
        have hdep := T.dep i o x ho hx
        have hlist : ∀ jt ∈ x.2.1, listed.getD jt.1 false = true := fun jt hm => by
          obtain ⟨_, e, he, hb, hon⟩ := hdep jt hm
          rw [← hon]
          exact hall e he hb
        have hdl : ∀ j ∈ depsOf tab i, listed.getD j false = true := fun j hj => by
          rw [depsOf_at hx] at hj
          obtain ⟨jt, hm, rfl⟩ := List.mem_map.1 hj
          exact hlist jt hm
        have hanc : ∀ k ∈ ancs tab tab.length i, listed.getD k false = true := ancs_in (S := fun i => listed.getD i false = true) hcl tab.length i hdl
        have h2 := eachOp2_at ops.toList tab 0 hops i o x (by simpa using ho) hx (vs d) u hu
        obtain ⟨a', hL', h3⟩ := giving_at T.dis x.2.1 (fun _ => False) a0 (Like.start (vs := vs) (fun _ h => h)) (fun jt hm => (hdep jt hm).1)
          (fun jt hm => ⟨fun h => by rw [h], hV jt.1 (hlist jt hm) (.inr ⟨i, by rw [T.len]; exact hlt, hil, by rw [depsOf_at hx]; exact List.mem_map.2 ⟨jt, hm, rfl⟩⟩)⟩) h2
        have hsel := Region.noSelect_spec T.sel i o
        obtain ⟨e1, e2⟩ := same_op (ops := ops) (o := o) (a := a) (a' := a') (fun cs b => hsel cs b ho) (fun t ht => hL.agree hL' fun j hj => by
          obtain ⟨jt, hm, rfl⟩ := T.look i o x ho hx j t hj ht
          exact ⟨hlist jt hm, .inr ⟨jt, hm, rfl⟩⟩)
        refine wpOp_yields ho ?_
        unfold opYields at h3 ⊢
        rw [e1, e2]
        have step : ∀ v u', R (0 + i) u u' ∧ V (0 + i) v (if 0 + i = d then v else vs d) u' → wpAny P .any ops Q fuel (listed.setIfInBounds i true) (a.put o.dst v) u' := by
          rintro v u' ⟨hR, hv⟩
          rw [Nat.zero_add] at hv hR
          have hod : o.dst = dstAt ops i := by unfold dstAt; rw [ho]; rfl
          rw [hod]
          refine ih (listed.setIfInBounds i true) _ u' (fun j => if j = i then v else vs j) (by simpa using hsz) ?_ (hCR i u u' hu hR) (hL.more (fun j t h1 h2 => T.dis i j t h1 h2) (fun j => ?_) (by simp) (fun j hj => by simp [hj])) (fun j hj k hk => ?_) (fun j hj hneed => ?_)
          · have hc := countP_less (l := List.range ops.size) (p := fun j => !listed.getD j true) (q := fun j => !(listed.setIfInBounds i true).getD j true) (i := i) (List.mem_range.2 hlt) (by rw [h1]; rfl) (by simp [show i < listed.size by omega]) (fun j hj => by
              by_cases hji : i = j
              · subst hji; rw [h1]; rfl
              · rw [getD_set_ne true hji] at hj; exact hj)
            omega
          · by_cases hji : i = j
            · subst hji; simp [show i < listed.size by omega]
            · rw [getD_set_ne false hji]
              exact ⟨.inl, fun h => h.resolve_right (Ne.symm hji)⟩
          · by_cases hji : i = j
            · subst hji; exact getD_set_true (hdl k hk)
            · rw [getD_set_ne false hji] at hj
              exact getD_set_true (hcl j hj k hk)
          · by_cases hji : j = i
            · subst hji
              simp only [if_true]
              by_cases hdj : j = d
              · subst hdj
                simpa using hv
              · rw [if_neg hdj] at hv
                simp only [show ¬ d = j from fun e => hdj e.symm, if_false]
                exact hv
            · simp only [hji, if_false]
              rw [getD_set_ne false (Ne.symm hji)] at hj
              have hneed' : keptAt tab j = true ∨ ∃ k, k < tab.length ∧ k ≠ i ∧ listed.getD k false = false ∧ j ∈ depsOf tab k := by
                rcases hneed with h | ⟨k, hk, hkl, hkd⟩
                · exact .inl h
                · have hki : k ≠ i := by
                    rintro rfl
                    simp [show k < listed.size by omega] at hkl
                  rw [getD_set_ne false (Ne.symm hki)] at hkl
                  exact .inr ⟨k, hk, hki, hkl, hkd⟩
              have hVj : V j (vs j) (vs d) u → V j (vs j) (if d = i then v else vs d) u := by
                intro h
                by_cases hdi : d = i
                · subst hdi
                  refine hind j hji ?_ _ _ _ _ h
                  rw [Bool.eq_false_iff]
                  intro hc
                  have := ancs_in (S := fun i => listed.getD i false = true) hcl tab.length j (hcl j hj) d (by simpa using hc)
                  rw [hil] at this
                  cases this
                · simp only [hdi, if_false]
                  exact h
              refine hVR _ i j _ u u' ?_ hu hR (hVj (hV j hj ?_))
              · simp only [needB, Bool.and_eq_true, bne_iff_ne, ne_eq, Bool.or_eq_true, List.any_eq_true, List.mem_range, Bool.not_eq_true']
                refine ⟨⟨hji, ?_⟩, ?_⟩
                · rw [Bool.eq_false_iff]
                  intro hc
                  have := ancs_in (S := fun i => listed.getD i false = true) hcl tab.length j (hcl j hj) i (by simpa using hc)
                  rw [hil] at this
                  cases this
                rcases hneed' with h | ⟨k, hk, hki, hkl, hkd⟩
                · exact .inl h
                · refine .inr ⟨k, hk, ⟨hki, ?_⟩, by simpa using hkd⟩
                  rw [Bool.eq_false_iff]
                  intro hc
                  have := hanc k (by simpa using hc)
                  rw [hkl] at this
                  cases this
              · rcases hneed' with h | ⟨k, hk, _, hkl, hkd⟩
                · exact .inl h
                · exact .inr ⟨k, hk, hkl, hkd⟩
        split at h3
        · rename_i hw
          rw [if_pos hw]
          exact yieldsK_mono step h3
        · rename_i hw
          rw [if_neg hw]
          exact step _ _ h3
  have h00 : ∀ i, ¬ (Array.replicate ops.size false).getD i false = true := fun i => by by_cases h : i < ops.size <;> simp [h]
  refine main ops.size _ a0 _ (fun _ => undef) (by simp) ?_ hC0 (Like.start h00) (fun i hi => absurd hi (h00 i)) (fun i hi => absurd hi (h00 i))
  have := List.countP_le_length (p := fun i => !(Array.replicate ops.size false).getD i true) (l := List.range ops.size)
  rw [List.length_range] at this
  exact this
end Go.Proofs.YtegmpfmhlpdmhaaGreat.Draw
