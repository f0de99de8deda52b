/-
  A region that draws its order, whatever its operations make: each operation is looked at once, over what it waits for. What each yields is said by a predicate V; the others keep it, as long as somebody waits for it, or it is kept to the end.
  A law for regions that draw, whose last operation waits for all others (a store into what one of them has made). No program is named here.
  A law for regions that draw, whose last operation waits for all others, and of which each operation is told what holds as long as it has not come up (an append that spoils what those ahead of it read). No program is named here.
  The law of regions that draw their order, where what is known of an operation may name what one earlier operation (d) has yielded. No program is named here.
-/
import Derived.Orders
import Derived.Laws.AppendOwn
namespace Go.Proofs.Ytklfpoojpfomeaa.Draw
open Go

/-- an operation: its slot; those for which it waits, with their slots; whether what it yields is kept to the end -/
abbrev Row := Option Tmp × List (Nat × Tmp) × Bool
/-- what an operation comes to -/
def yieldsK (P : Program) (K : Value → World → Prop) : Result Next → Prop
  | .ok (.value v) u => K v u
  | .ok .skip u => K undef u
  | .ok (.enter f args) u => Calls P f args u fun e u' => ∃ v, e = .returned v ∧ K v u'
  | _ => False
def opYields (P : Program) (ops : Array Oper) (o : Oper) (a : Act) (u : World) (K : Value → World → Prop) : Prop :=
  if Region.wanted o (yielded ops a.tmps) = true then yieldsK P K ((execOp a.eval o).run P u) else K undef u

/-- whatever values those that are waited for have yielded -/
def giving (V : Nat → Value → World → Prop) (u : World) (G : Act → Prop) : List (Nat × Tmp) → Act → Prop
  | [], a => G a
  | (j, t) :: l, a => ∀ v, V j v u → giving V u G l (a.put (some t) v)
/-- whatever values all have yielded -/
def givingAll (V : Nat → Value → World → Prop) (u : World) (G : Act → Prop) : List Row → Nat → Act → Prop
  | [], _, a => G a
  | (d, _, true) :: l, k, a => ∀ v, V k v u → givingAll V u G l (k + 1) (a.put d v)
  | (d, _, false) :: l, k, a => ∀ v, givingAll V u G l (k + 1) (a.put d v)
/-- each operation, over what it waits for -/
def eachOp (P : Program) (ops : Array Oper) (C : World → Prop) (R : Nat → World → World → Prop) (V : Nat → Value → World → Prop) (a : Act) : List Oper → List Row → Nat → Prop
  | o :: l, (_, ds, _) :: tab, k => (∀ u, C u → giving V u (fun a' => opYields P ops o a' u fun v u' => R k u u' ∧ V k v u') ds a) ∧ eachOp P ops C R V a l tab (k + 1)
  | _, _, _ => True

def depsOf (tab : List Row) (k : Nat) : List Nat := ((tab[k]?).map fun x => x.2.1.map (·.1)).getD []
def keptAt (tab : List Row) (k : Nat) : Bool := ((tab[k]?).map fun x => x.2.2).getD true
/-- those that have come up ahead of an operation -/
def ancs (tab : List Row) : Nat → Nat → List Nat
  | 0, _ => []
  | f + 1, i => depsOf tab i ++ (depsOf tab i).flatMap (ancs tab f)
/-- must what j has yielded be kept by operation i? -/
def needB (tab : List Row) (i j : Nat) : Bool :=
  (j != i) && !(ancs tab tab.length j).contains i && (keptAt tab j || (List.range tab.length).any fun k => (k != i) && !(ancs tab tab.length i).contains k && (depsOf tab k).contains j)

/-- the table is the region's -/
def tabB (ops : Array Oper) (tab : List Row) : Bool :=
  Region.noSelect ops && (tab.length == ops.size) &&
  (List.range ops.size).all fun i =>
    match ops[i]?, tab[i]? with
    | some o, some (d, ds, _) =>
      (o.dst == d) && (o.after.all fun e => !Region.binds .any e || decide (e.on < i)) &&
      (ds.all fun jt => (((ops[jt.1]?).bind (·.dst)) == some jt.2) && o.after.any fun e => Region.binds .any e && (e.on == jt.1)) &&
      ((List.range ops.size).all fun j =>
        match (ops[j]?).bind (·.dst) with
        | some t => (!(o.looksAt ops).contains t || ds.any fun jt => jt.1 == j) && (j == i || o.dst != some t)
        | none => true)
    | _, _ => false

def dstAt (ops : Array Oper) (j : Nat) : Option Tmp := (ops[j]?).bind (·.dst)

/-- a frame in which those of S have yielded vs -/
structure Like (ops : Array Oper) (a0 : Act) (S : Nat → Prop) (vs : Nat → Value) (a : Act) : Prop where
  defers : a.defers = a0.defers
  size : a.tmps.size = a0.tmps.size
  put : ∀ i t, S i → dstAt ops i = some t → t < a0.tmps.size → a.tmps[t]? = some (vs i)
  rest : ∀ t, (∀ i, S i → dstAt ops i ≠ some t) → a.tmps[t]? = a0.tmps[t]?

theorem Like.start {ops : Array Oper} {a0 : Act} {S : Nat → Prop} {vs : Nat → Value} (h : ∀ i, ¬ S i) : Like ops a0 S vs a0 :=
  ⟨rfl, rfl, fun i _ hi => absurd hi (h i), fun _ _ => rfl⟩
theorem Like.more {ops : Array Oper} {a0 a : Act} {S S' : Nat → Prop} {vs vs' : Nat → Value} {i : Nat} {v : Value} (h : Like ops a0 S vs a)
    (hd : ∀ j t, dstAt ops i = some t → dstAt ops j = some t → j = i) (hS : ∀ j, S' j ↔ S j ∨ j = i) (hv : vs' i = v) (hvs : ∀ j, j ≠ i → vs' j = vs j) : Like ops a0 S' vs' (a.put (dstAt ops i) v) := by
  have hput : (a.put (dstAt ops i) v).defers = a.defers ∧ (a.put (dstAt ops i) v).tmps.size = a.tmps.size := by
    cases dstAt ops i <;> simp [Act.put]
  refine ⟨hput.1.trans h.defers, hput.2.trans h.size, fun j t hj ht hlt => ?_, fun t ht => ?_⟩
  · by_cases hji : j = i
    · subst hji
      rw [ht, hv]
      simp only [Act.put]
      rw [Array.getElem?_setIfInBounds_self_of_lt (by rw [h.size]; exact hlt)]
    · rw [hvs j hji]
      have hne : dstAt ops i ≠ some t := fun e => hji (hd j t e ht)
      have h0 := h.put j t (((hS j).1 hj).resolve_right hji) ht hlt
      cases hdi : dstAt ops i with
      | none => exact h0
      | some d =>
        have : d ≠ t := fun e => hne (by rw [hdi, e])
        simp only [Act.put]
        rw [Array.getElem?_setIfInBounds_ne this]
        exact h0
  · have hne : dstAt ops i ≠ some t := ht i ((hS i).2 (.inr rfl))
    have h0 := h.rest t (fun j hj => ht j ((hS j).2 (.inl hj)))
    cases hdi : dstAt ops i with
    | none => exact h0
    | some d =>
      have : d ≠ t := fun e => hne (by rw [hdi, e])
      simp only [Act.put]
      rw [Array.getElem?_setIfInBounds_ne this]
      exact h0
theorem Like.agree {ops : Array Oper} {a0 a a' : Act} {S S' : Nat → Prop} {vs : Nat → Value} (h : Like ops a0 S vs a) (h' : Like ops a0 S' vs a') {t : Tmp} (hS : ∀ j, dstAt ops j = some t → (S j ∧ S' j)) : a.tmps[t]? = a'.tmps[t]? := by
  by_cases hj : ∃ j, dstAt ops j = some t
  · obtain ⟨j, hj⟩ := hj
    obtain ⟨h1, h2⟩ := hS j hj
    by_cases hlt : t < a0.tmps.size
    · rw [h.put j t h1 hj hlt, h'.put j t h2 hj hlt]
    · rw [Array.getElem?_eq_none (Nat.le_of_not_lt (by rw [h.size]; exact hlt)), Array.getElem?_eq_none (Nat.le_of_not_lt (by rw [h'.size]; exact hlt))]
  · rw [h.rest t (fun j _ e => hj ⟨j, e⟩), h'.rest t (fun j _ e => hj ⟨j, e⟩)]

theorem giving_at {ops : Array Oper} {V : Nat → Value → World → Prop} {u : World} {G : Act → Prop} {a0 : Act} {vs : Nat → Value} (hdis : ∀ i j t, dstAt ops i = some t → dstAt ops j = some t → j = i) : ∀ (l : List (Nat × Tmp)) (S : Nat → Prop) (a : Act), Like ops a0 S vs a → (∀ jt ∈ l, dstAt ops jt.1 = some jt.2) →
    (∀ jt ∈ l, V jt.1 (vs jt.1) u) → giving V u G l a → ∃ a', Like ops a0 (fun i => S i ∨ ∃ jt ∈ l, jt.1 = i) vs a' ∧ G a'
  | [], S, a, hL, _, _, h => ⟨a, ⟨hL.defers, hL.size, fun i t hi => hL.put i t (by simpa using hi), fun t ht => hL.rest t fun i hi => ht i (.inl hi)⟩, h⟩
  | (j, t) :: l, S, a, hL, hd, hV, h => by
    have h1 := h (vs j) (hV (j, t) (List.mem_cons_self ..))
    have hdj : dstAt ops j = some t := hd (j, t) (List.mem_cons_self ..)
    rw [← hdj] at h1
    obtain ⟨a', hL', hG⟩ := giving_at hdis l (fun i => S i ∨ i = j) _ (hL.more (S' := fun i => S i ∨ i = j) (vs' := vs) (fun k t h1 h2 => hdis j k t h1 h2) (fun _ => Iff.rfl) rfl (fun _ _ => rfl)) (fun jt h => hd jt (List.mem_cons_of_mem _ h)) (fun jt h => hV jt (List.mem_cons_of_mem _ h)) h1
    refine ⟨a', ⟨hL'.defers, hL'.size, fun i t hi => hL'.put i t ?_, fun t ht => hL'.rest t fun i hi => ht i ?_⟩, hG⟩
    · rcases hi with hi | ⟨jt, hm, rfl⟩
      · exact .inl (.inl hi)
      · rcases List.mem_cons.1 hm with rfl | hm
        · exact .inl (.inr rfl)
        · exact .inr ⟨jt, hm, rfl⟩
    · rcases hi with (hi | rfl) | ⟨jt, hm, rfl⟩
      · exact .inl hi
      · exact .inr ⟨_, List.mem_cons_self .., rfl⟩
      · exact .inr ⟨jt, List.mem_cons_of_mem _ hm, rfl⟩
theorem givingAll_at {ops : Array Oper} {V : Nat → Value → World → Prop} {u : World} {G : Act → Prop} {a0 : Act} {vs : Nat → Value} (hdis : ∀ i j t, dstAt ops i = some t → dstAt ops j = some t → j = i) : ∀ (l : List Row) (k : Nat) (a : Act), Like ops a0 (fun i => i < k) vs a → (∀ i x, l[i]? = some x → dstAt ops (k + i) = x.1) →
    (∀ i x, l[i]? = some x → x.2.2 = true → V (k + i) (vs (k + i)) u) → givingAll V u G l k a → ∃ a', Like ops a0 (fun i => i < k + l.length) vs a' ∧ G a'
  | [], k, a, hL, _, _, h => ⟨a, hL, h⟩
  | (d, ds, kp) :: l, k, a, hL, hd, hV, h => by
    have h1 : givingAll V u G l (k + 1) (a.put d (vs k)) := by
      cases kp with
      | true => exact h (vs k) (hV 0 _ rfl rfl)
      | false => exact h (vs k)
    have hdk : dstAt ops k = d := hd 0 (d, ds, kp) rfl
    rw [← hdk] at h1
    obtain ⟨a', hL', hG⟩ := givingAll_at hdis l (k + 1) _ (hL.more (S' := fun i => i < k + 1) (vs' := vs) (fun j t h1 h2 => hdis k j t h1 h2) (fun j => by omega) rfl (fun _ _ => rfl))
      (fun i x hx => by rw [show k + 1 + i = k + (i + 1) by omega]; exact hd (i + 1) x (by simpa using hx)) (fun i x hx hk => by rw [show k + 1 + i = k + (i + 1) by omega]; exact hV (i + 1) x (by simpa using hx) hk) h1
    refine ⟨a', ?_, hG⟩
    rw [show k + ((d, ds, kp) :: l).length = k + 1 + l.length by simp only [List.length_cons]; omega]
    exact hL'
theorem eachOp_at {P : Program} {ops : Array Oper} {C : World → Prop} {R : Nat → World → World → Prop} {V : Nat → Value → World → Prop} {a : Act} : ∀ (l : List Oper) (tab : List Row) (k : Nat), eachOp P ops C R V a l tab k → ∀ i o x, l[i]? = some o → tab[i]? = some x →
    ∀ u, C u → giving V u (fun a' => opYields P ops o a' u fun v u' => R (k + i) u u' ∧ V (k + i) v u') x.2.1 a
  | [], _, _, _, i, o, x, ho, _ => by simp at ho
  | _ :: _, [], _, _, i, o, x, _, hx => by simp at hx
  | o' :: l, (d, ds, kp) :: tab, k, h, 0, o, x, ho, hx => by
    simp only [List.getElem?_cons_zero, Option.some.injEq] at ho hx
    subst ho hx
    exact h.1
  | o' :: l, (d, ds, kp) :: tab, k, h, i + 1, o, x, ho, hx => by
    have := eachOp_at l tab (k + 1) h.2 i o x (by simpa using ho) (by simpa using hx)
    rw [show k + (i + 1) = k + 1 + i by omega]
    exact this

structure TabOk (ops : Array Oper) (tab : List Row) : Prop where
  sel : Region.noSelect ops = true
  len : tab.length = ops.size
  dst : ∀ (i : Nat) (x : Row), tab[i]? = some x → dstAt ops i = x.1
  dep : ∀ (i : Nat) (o : Oper) (x : Row), ops[i]? = some o → tab[i]? = some x → ∀ jt ∈ x.2.1, dstAt ops jt.1 = some jt.2 ∧ ∃ e ∈ o.after, Region.binds .any e = true ∧ e.on = jt.1
  look : ∀ (i : Nat) (o : Oper) (x : Row), ops[i]? = some o → tab[i]? = some x → ∀ j t, dstAt ops j = some t → t ∈ o.looksAt ops → ∃ jt ∈ x.2.1, jt.1 = j
  back : ∀ (i : Nat) (o : Oper), ops[i]? = some o → ∀ e ∈ o.after, Region.binds .any e = true → e.on < i
  dis : ∀ i j t, dstAt ops i = some t → dstAt ops j = some t → j = i
theorem dstAt_lt {ops : Array Oper} {j : Nat} {t : Tmp} (h : dstAt ops j = some t) : j < ops.size := by
  unfold dstAt at h
  rcases Nat.lt_or_ge j ops.size with h' | h'
  · exact h'
  · rw [Array.getElem?_eq_none h'] at h
    cases h
theorem tabOk {ops : Array Oper} {tab : List Row} (h : tabB ops tab = true) : TabOk ops tab := by
  simp only [tabB, Bool.and_eq_true, beq_iff_eq, List.all_eq_true, List.mem_range] at h
  obtain ⟨⟨hs, hl⟩, hall⟩ := h
  have key : ∀ (i : Nat) (o : Oper) (x : Row), ops[i]? = some o → tab[i]? = some x → o.dst = x.1 ∧ (∀ e ∈ o.after, Region.binds .any e = true → e.on < i) ∧ (∀ jt ∈ x.2.1, dstAt ops jt.1 = some jt.2 ∧ ∃ e ∈ o.after, Region.binds .any e = true ∧ e.on = jt.1) ∧
      (∀ j t, dstAt ops j = some t → (t ∈ o.looksAt ops → ∃ jt ∈ x.2.1, jt.1 = j) ∧ (j ≠ i → o.dst ≠ some t)) := by
    intro i o x ho hx
    obtain ⟨d, ds, kp⟩ := x
    have h1 := hall i (Array.getElem?_eq_some_iff.1 ho).1
    simp only [ho, hx, Bool.and_eq_true, beq_iff_eq, List.all_eq_true] at h1
    obtain ⟨⟨⟨h1, h0⟩, h2⟩, h3⟩ := h1
    refine ⟨h1, fun e he hb => by have := Array.all_eq_true_iff_forall_mem.1 h0 e he; simpa [hb] using this, fun jt hm => ?_, fun j t hj => ?_⟩
    · obtain ⟨h4, h5⟩ := h2 jt hm
      obtain ⟨e, he, hb⟩ := Array.any_eq_true'.1 h5
      simp only [Bool.and_eq_true, beq_iff_eq] at hb
      exact ⟨h4, e, he, hb⟩
    · have h4 := h3 j (List.mem_range.2 (dstAt_lt hj))
      unfold dstAt at hj
      simp only [hj, Bool.and_eq_true, Bool.or_eq_true, Bool.not_eq_true', List.any_eq_true, beq_iff_eq, bne_iff_ne] at h4
      refine ⟨fun hm => ?_, fun hne => h4.2.resolve_left hne⟩
      rcases h4.1 with h | ⟨jt, hm', e⟩
      · simp at h
        exact absurd hm h
      · exact ⟨jt, hm', e⟩
  have getT : ∀ i o, ops[i]? = some o → ∃ x, tab[i]? = some x := fun i o ho => ⟨tab[i]'(by rw [hl]; exact (Array.getElem?_eq_some_iff.1 ho).1), List.getElem?_eq_getElem _⟩
  have getO : ∀ i x, tab[i]? = some x → ∃ o, ops[i]? = some o := fun i x hx => ⟨ops[i]'(by rw [← hl]; exact (List.getElem?_eq_some_iff.1 hx).1), Array.getElem?_eq_getElem _⟩
  refine ⟨hs, hl, fun i x hx => ?_, fun i o x ho hx => (key i o x ho hx).2.2.1, fun i o x ho hx j t hj => ((key i o x ho hx).2.2.2 j t hj).1, fun i o ho => by obtain ⟨x, hx⟩ := getT i o ho; exact (key i o x ho hx).2.1, fun i j t hi hj => ?_⟩
  · obtain ⟨o, ho⟩ := getO i x hx
    have := (key i o x ho hx).1
    unfold dstAt
    rw [ho]
    exact this
  · rcases Nat.lt_or_ge i ops.size with hlt | hge
    · have ho : ops[i]? = some ops[i] := Array.getElem?_eq_getElem hlt
      obtain ⟨x, hx⟩ := getT i _ ho
      have h1 := ((key i _ x ho hx).2.2.2 j t hj).2
      by_cases hji : j = i
      · exact hji
      · have h2 : ops[i].dst = some t := by unfold dstAt at hi; rw [ho] at hi; exact hi
        exact absurd h2 (h1 hji)
    · unfold dstAt at hi
      rw [Array.getElem?_eq_none hge] at hi
      cases hi

theorem same_op {ops : Array Oper} {o : Oper} {a a' : Act} (hs : ∀ cs b, o.op ≠ .select cs b) (h : ∀ t, t ∈ o.looksAt ops → a.tmps[t]? = a'.tmps[t]?) : execOp a.eval o = execOp a'.eval o ∧ Region.wanted o (yielded ops a.tmps) = Region.wanted o (yielded ops a'.tmps) := by
  constructor
  · refine execOp_congr o hs fun x hx => ?_
    cases x with
    | tmp t =>
      have := h t (List.mem_append_left _ (List.mem_filterMap.2 ⟨.tmp t, by simpa using hx, rfl⟩))
      simp only [Act.eval, Array.getD_eq_getD_getElem?, this]
    | _ => rfl
  · unfold Region.wanted
    cases hg : o.guard with
    | none => rfl
    | some gw =>
      obtain ⟨g, want⟩ := gw
      have hy : yielded ops a.tmps g = yielded ops a'.tmps g := by
        unfold yielded
        cases ht : (ops[g]?).bind (·.dst) with
        | none => rfl
        | some t =>
          have := h t (by simp [Oper.looksAt, hg, ht])
          simp only [Option.bind_some, this]
      simp only [hy]

theorem wpOp_yields {P : Program} {ops : Array Oper} {Q : Exit → Act → World → Prop} {i : Nat} {o : Oper} {a : Act} {u : World} {K : Act → World → Prop} (hi : ops[i]? = some o) (h : opYields P ops o a u fun v u' => K (a.put o.dst v) u') : wpOp P ops Q i K a u := by
  unfold wpOp
  simp only [hi]
  unfold opYields at h
  split
  · rename_i hw
    rw [if_pos hw] at h
    refine .inl ?_
    unfold Oper.wp
    generalize (execOp a.eval o).run P u = r at *
    cases r with
    | ok n w' =>
      cases n <;> simp only [yieldsK] at h <;> simp only [Oper.upon]
      case value v => exact h
      case skip => exact h
      case enter f args => exact h.mono fun e w'' ⟨v, he, hk⟩ => by subst he; exact hk
    | halt x w' => simp only [yieldsK] at h
  · rename_i hw
    rw [if_neg hw] at h
    exact h
theorem yieldsK_mono {P : Program} {K K' : Value → World → Prop} (h : ∀ v u, K v u → K' v u) {r : Result Next} (hr : yieldsK P K r) : yieldsK P K' r := by
  cases r with
  | ok n w' =>
    cases n <;> simp only [yieldsK] at hr ⊢
    case value v => exact h _ _ hr
    case skip => exact h _ _ hr
    case enter f args => exact hr.mono fun e w'' ⟨v, he, hk⟩ => ⟨v, he, h _ _ hk⟩
  | halt x w' => simp only [yieldsK] at hr

theorem countP_less {l : List Nat} {p q : Nat → Bool} {i : Nat} (hi : i ∈ l) (hp : p i = true) (hq : q i = false) (h : ∀ j, q j = true → p j = true) : l.countP q < l.countP p := by
  induction l with
  | nil => cases hi
  | cons x l ih =>
    have hle : l.countP q ≤ l.countP p := List.countP_mono_left fun j _ => h j
    rcases List.mem_cons.1 hi with rfl | hm
    · simp only [List.countP_cons, hp, hq]
      simp
      omega
    · have := ih hm
      simp only [List.countP_cons]
      cases hqx : q x
      · simp; omega
      · simp [h x hqx]; omega
theorem ancs_in {tab : List Row} {S : Nat → Prop} (hcl : ∀ i, S i → ∀ j ∈ depsOf tab i, S j) : ∀ (f i : Nat), (∀ j ∈ depsOf tab i, S j) → ∀ k ∈ ancs tab f i, S k
  | 0, i, _, k, hk => by cases hk
  | f + 1, i, h, k, hk => by
    rcases List.mem_append.1 hk with hk | hk
    · exact h k hk
    · obtain ⟨j, hj, hk⟩ := List.mem_flatMap.1 hk
      exact ancs_in hcl f j (hcl j (h j hj)) k hk
theorem depsOf_at {tab : List Row} {i : Nat} {x : Row} (h : tab[i]? = some x) : depsOf tab i = x.2.1.map (·.1) := by simp [depsOf, h]
theorem keptAt_at {tab : List Row} {i : Nat} {x : Row} (h : tab[i]? = some x) : keptAt tab i = x.2.2 := by simp [keptAt, h]

/-- whatever order is drawn -/
theorem wp_region_each {P : Program} {ops : Array Oper} {id : Nat} {Q : Exit → Act → World → Prop} {a0 : Act} {w : World}
    (tab : List Row) (C : World → Prop) (R : Nat → World → World → Prop) (V : Nat → Value → World → Prop)
    (hm : P.follows .mixedOrders = true) (hB : tabB ops tab = true) (hC0 : C { w with drawn := w.drawn + 1 }) (hCR : ∀ i u u', C u → R i u u' → C u') (hVR : ∀ i j v u u', needB tab i j = true → C u → R i u u' → V j v u → V j v u')
    (hops : eachOp P ops C R V a0 ops.toList tab 0) (hend : ∀ u, C u → givingAll V u (fun a => Q .normal a u) tab 0 a0) : (Code.region id ops true).wp P Q a0 w := by
  have T := tabOk hB
  refine wp_region_any hm ?_
  -- what must be kept: what is kept to the end, or waited for
  have main : ∀ (fuel : Nat) (listed : Array Bool) (a : Act) (u : World) (vs : Nat → Value), listed.size = ops.size → (List.range ops.size).countP (fun i => !listed.getD i true) ≤ fuel → C u → Like ops a0 (fun i => listed.getD i false = true) vs a →
      (∀ i, listed.getD i false = true → ∀ j ∈ depsOf tab i, listed.getD j false = true) →
      (∀ i, listed.getD i false = true → (keptAt tab i = true ∨ ∃ k, k < tab.length ∧ listed.getD k false = false ∧ i ∈ depsOf tab k) → V i (vs i) u) →
      wpAny P .any ops Q fuel listed a u := by
    have fin : ∀ (listed : Array Bool) (a : Act) (u : World) (vs : Nat → Value), listed.size = ops.size → C u → Like ops a0 (fun i => listed.getD i false = true) vs a → (∀ i, listed.getD i false = true → (keptAt tab i = true ∨ ∃ k, k < tab.length ∧ listed.getD k false = false ∧ i ∈ depsOf tab k) → V i (vs i) u) → (∀ i, i < ops.size → listed.getD i false = true) → Q .normal a u := by
      intro listed a u vs hsz hu hL hV hall
      obtain ⟨a', hL', hQ⟩ := givingAll_at T.dis tab 0 a0 (Like.start (vs := vs) (by omega)) (fun i x hx => by rw [Nat.zero_add]; exact T.dst i x hx)
        (fun i x hx hk => by rw [Nat.zero_add]; exact hV i (hall i (by rw [← T.len]; exact (List.getElem?_eq_some_iff.1 hx).1)) (.inl (by rw [keptAt_at hx]; exact hk))) (hend u hu)
      have hall' : ∀ j t, dstAt ops j = some t → listed.getD j false = true ∧ j < 0 + tab.length := fun j t hj => ⟨hall j (dstAt_lt hj), by rw [T.len]; have := dstAt_lt hj; omega⟩
      have e : a = a' := by
        have e1 : a.tmps = a'.tmps := by
          apply Array.ext_getElem?
          intro t
          exact hL.agree hL' fun j hj => hall' j t hj
        have e2 : a.defers = a'.defers := hL.defers.trans hL'.defers.symm
        obtain ⟨t1, d1⟩ := a
        obtain ⟨t2, d2⟩ := a'
        dsimp only at e1 e2
        rw [e1, e2]
      rw [e]
      exact hQ
    have lex : ∀ (listed : Array Bool), listed.size = ops.size → ∀ i, i < ops.size → listed.getD i true = false → listed.getD i false = false := by
      intro listed hsz i hi h
      simp [show i < listed.size by omega] at h ⊢
      exact h
    intro fuel
    induction fuel with
    | zero =>
      intro listed a u vs hsz hn hu hL _ hV
      have hall : ∀ i, i < ops.size → listed.getD i false = true := by
        intro i hi
        have h0 := List.countP_eq_zero.1 (Nat.le_zero.1 hn) i (List.mem_range.2 hi)
        simp [show i < listed.size by omega] at h0 ⊢
        exact h0
      refine ⟨?_, fin listed a u vs hsz hu hL hV hall⟩
      refine List.eq_nil_iff_forall_not_mem.2 fun i hi => ?_
      obtain ⟨h1, o, ho, _⟩ := mem_ready.1 hi
      have hlt := (Array.getElem?_eq_some_iff.1 ho).1
      have := hall i hlt
      rw [lex listed hsz i hlt h1] at this
      cases this
    | succ fuel ih =>
      intro listed a u vs hsz hn hu hL hcl hV
      refine ⟨fun hr => ?_, fun i hi => ?_⟩
      · refine fin listed a u vs hsz hu hL hV fun i => ?_
        induction i using Nat.strongRecOn with
        | _ i ihi =>
          intro hi
          cases hc : listed.getD i false with
          | true => rfl
          | false =>
            have hmem : i ∈ Region.ready .any ops listed := mem_ready.2 ⟨by simp [show i < listed.size by omega] at hc ⊢; exact hc, ops[i], Array.getElem?_eq_getElem hi, fun e he hb => ihi e.on (T.back i ops[i] (Array.getElem?_eq_getElem hi) e he hb) (by have := T.back i ops[i] (Array.getElem?_eq_getElem hi) e he hb; omega)⟩
            rw [hr] at hmem
            cases hmem
      · obtain ⟨h1, o, ho, hall⟩ := mem_ready.1 hi
        have hlt := (Array.getElem?_eq_some_iff.1 ho).1
        have hil := lex listed hsz i hlt h1
        have hx : tab[i]? = some (tab[i]'(by rw [T.len]; exact hlt)) := List.getElem?_eq_getElem _
        generalize tab[i]'(by rw [T.len]; exact hlt) = x at hx
        have hdep := T.dep i o x ho hx
        have hlist : ∀ jt ∈ x.2.1, listed.getD jt.1 false = true := fun jt hm => by
          obtain ⟨_, e, he, hb, hon⟩ := hdep jt hm
          rw [← hon]
          exact hall e he hb
        have hdl : ∀ j ∈ depsOf tab i, listed.getD j false = true := fun j hj => by
          rw [depsOf_at hx] at hj
          obtain ⟨jt, hm, rfl⟩ := List.mem_map.1 hj
          exact hlist jt hm
        have hanc : ∀ k ∈ ancs tab tab.length i, listed.getD k false = true := ancs_in (S := fun i => listed.getD i false = true) hcl tab.length i hdl
        have h2 := eachOp_at ops.toList tab 0 hops i o x (by simpa using ho) hx u hu
        obtain ⟨a', hL', h3⟩ := giving_at T.dis x.2.1 (fun _ => False) a0 (Like.start (vs := vs) (fun _ h => h)) (fun jt hm => (hdep jt hm).1)
          (fun jt hm => hV jt.1 (hlist jt hm) (.inr ⟨i, by rw [T.len]; exact hlt, hil, by rw [depsOf_at hx]; exact List.mem_map.2 ⟨jt, hm, rfl⟩⟩)) h2
        have hsel := Region.noSelect_spec T.sel i o
        obtain ⟨e1, e2⟩ := same_op (ops := ops) (o := o) (a := a) (a' := a') (fun cs b => hsel cs b ho) (fun t ht => hL.agree hL' fun j hj => by
          obtain ⟨jt, hm, rfl⟩ := T.look i o x ho hx j t hj ht
          exact ⟨hlist jt hm, .inr ⟨jt, hm, rfl⟩⟩)
        refine wpOp_yields ho ?_
        unfold opYields at h3 ⊢
        rw [e1, e2]
        have step : ∀ v u', R (0 + i) u u' ∧ V (0 + i) v u' → wpAny P .any ops Q fuel (listed.setIfInBounds i true) (a.put o.dst v) u' := by
          rintro v u' ⟨hR, hv⟩
          rw [Nat.zero_add] at hv hR
          have hod : o.dst = dstAt ops i := by unfold dstAt; rw [ho]; rfl
          rw [hod]
          refine ih (listed.setIfInBounds i true) _ u' (fun j => if j = i then v else vs j) (by simpa using hsz) ?_ (hCR i u u' hu hR) (hL.more (fun j t h1 h2 => T.dis i j t h1 h2) (fun j => ?_) (by simp) (fun j hj => by simp [hj])) (fun j hj k hk => ?_) (fun j hj hneed => ?_)
          · have hc := countP_less (l := List.range ops.size) (p := fun j => !listed.getD j true) (q := fun j => !(listed.setIfInBounds i true).getD j true) (i := i) (List.mem_range.2 hlt) (by rw [h1]; rfl) (by simp [show i < listed.size by omega]) (fun j hj => by
              by_cases hji : i = j
              · subst hji; rw [h1]; rfl
              · rw [getD_set_ne true hji] at hj; exact hj)
            omega
          · by_cases hji : i = j
            · subst hji; simp [show i < listed.size by omega]
            · rw [getD_set_ne false hji]
              exact ⟨.inl, fun h => h.resolve_right (Ne.symm hji)⟩
          · by_cases hji : i = j
            · subst hji; exact getD_set_true (hdl k hk)
            · rw [getD_set_ne false hji] at hj
              exact getD_set_true (hcl j hj k hk)
          · by_cases hji : j = i
            · subst hji; simpa using hv
            · simp only [hji, if_false]
              rw [getD_set_ne false (Ne.symm hji)] at hj
              have hneed' : keptAt tab j = true ∨ ∃ k, k < tab.length ∧ k ≠ i ∧ listed.getD k false = false ∧ j ∈ depsOf tab k := by
                rcases hneed with h | ⟨k, hk, hkl, hkd⟩
                · exact .inl h
                · have hki : k ≠ i := by
                    rintro rfl
                    simp [show k < listed.size by omega] at hkl
                  rw [getD_set_ne false (Ne.symm hki)] at hkl
                  exact .inr ⟨k, hk, hki, hkl, hkd⟩
              refine hVR i j _ u u' ?_ hu hR (hV j hj ?_)
              · simp only [needB, Bool.and_eq_true, bne_iff_ne, ne_eq, Bool.or_eq_true, List.any_eq_true, List.mem_range, Bool.not_eq_true']
                refine ⟨⟨hji, ?_⟩, ?_⟩
                · rw [Bool.eq_false_iff]
                  intro hc
                  have := ancs_in (S := fun i => listed.getD i false = true) hcl tab.length j (hcl j hj) i (by simpa using hc)
                  rw [hil] at this
                  cases this
                rcases hneed' with h | ⟨k, hk, hki, hkl, hkd⟩
                · exact .inl h
                · refine .inr ⟨k, hk, ⟨hki, ?_⟩, by simpa using hkd⟩
                  rw [Bool.eq_false_iff]
                  intro hc
                  have := hanc k (by simpa using hc)
                  rw [hkl] at this
                  cases this
              · rcases hneed' with h | ⟨k, hk, _, hkl, hkd⟩
                · exact .inl h
                · exact .inr ⟨k, hk, hkl, hkd⟩
        split at h3
        · rename_i hw
          rw [if_pos hw]
          exact yieldsK_mono step h3
        · rename_i hw
          rw [if_neg hw]
          exact step _ _ h3
  have h00 : ∀ i, ¬ (Array.replicate ops.size false).getD i false = true := fun i => by by_cases h : i < ops.size <;> simp [h]
  refine main ops.size _ a0 _ (fun _ => undef) (by simp) ?_ hC0 (Like.start h00) (fun i hi => absurd hi (h00 i)) (fun i hi => absurd hi (h00 i))
  have := List.countP_le_length (p := fun i => !(Array.replicate ops.size false).getD i true) (l := List.range ops.size)
  rw [List.length_range] at this
  exact this
/-- an operation that yields v -/
theorem opYields_val {P : Program} {ops : Array Oper} {o : Oper} {a : Act} {u : World} {K : Value → World → Prop} (v : Value) {u' : World} (hw : Region.wanted o (yielded ops a.tmps) = true) (hr : (execOp a.eval o).run P u = .ok (.value v) u') (h : K v u') : opYields P ops o a u K := by
  unfold opYields
  rw [if_pos hw, hr]
  exact h
/-- .. that writes -/
theorem opYields_put {P : Program} {ops : Array Oper} {o : Oper} {a : Act} {u : World} {K : Value → World → Prop} {u' : World} (hw : Region.wanted o (yielded ops a.tmps) = true) (hr : (execOp a.eval o).run P u = .ok .skip u') (h : K undef u') : opYields P ops o a u K := by
  unfold opYields
  rw [if_pos hw, hr]
  exact h
/-- .. that calls -/
theorem opYields_call {P : Program} {ops : Array Oper} {o : Oper} {a : Act} {u : World} {K : Value → World → Prop} (f : FuncId) (args : Array Value) (hw : Region.wanted o (yielded ops a.tmps) = true) (hr : (execOp a.eval o).run P u = .ok (.enter f args) u) (h : Calls P f args u fun e u' => ∃ v, e = .returned v ∧ K v u') : opYields P ops o a u K := by
  unfold opYields
  rw [if_pos hw, hr]
  exact h
/-- .. that its guard bars -/
theorem opYields_not {P : Program} {ops : Array Oper} {o : Oper} {a : Act} {u : World} {K : Value → World → Prop} (hw : Region.wanted o (yielded ops a.tmps) = false) (h : K undef u) : opYields P ops o a u K := by
  unfold opYields
  rw [if_neg (by rw [hw]; simp)]
  exact h
/-- .. by its own law -/
theorem opYields_wp {P : Program} {ops : Array Oper} {o : Oper} {a : Act} {u : World} {K : Value → World → Prop} (hw : Region.wanted o (yielded ops a.tmps) = true) (h : yieldsK P K ((execOp a.eval o).run P u)) : opYields P ops o a u K := by
  unfold opYields
  rw [if_pos hw]
  exact h
/-- .. that appends to a row of the call's own -/
theorem opYields_append {P : Program} {ops : Array Oper} {o : Oper} {a : Act} {w : World} {K : Value → World → Prop} (hw : Region.wanted o (yielded ops a.tmps) = true) (s x : Operand) (t : TypeId)
    (ho : o.op = .call { callee := .builtin .append, args := #[s, x], argTypes := #[t, t] })
    (base : Nat) (e : TypeId) (i : TypeInfo) (z : Value) (size bytes : Nat) (ht : P.underlying t = some (.slice e)) (hi : P.info? e = some i) (hz : i.zero = some z)
    (hsize : i.size = size) (hby : i.bytes = bytes) (hzs : z.cells.size = size) (hsz : 0 < size)
    (v : Value) (n : Nat) (xs : List Value) (hs : a.eval s = v) (hown : w.ownsRow base e size v n xs)
    (ad : Addr) (m c : Nat) (news : List Value) (hx : a.eval x = .slice (some ad) m c) (hl : news.length = m * size) (hnews : ∀ j u, news[j]? = some u → w.cell? (ad.add j) = some u) (h1 : ∀ u ∈ news, u.oneCell' = true)
    (h63 : n + m ≤ maxLen) (hbytes : (n + m) * bytes ≤ 140737488355328) (hbase : base ≤ w.heap.size)
    (h : ∀ v' w', w'.ownsRow base e size v' (n + m) (xs ++ news) → w.grownBy w' v.ownBlock → K v' w') : opYields P ops o a w K := by
  obtain ⟨v', w', hr, h2, h3, h4⟩ := run_append_own (P := P) w base t o.type e i z size bytes ht hi hz hsize hby hzs hsz v n xs hown ad m c news hl hnews h1 h63 hbytes hbase
  refine opYields_val v' hw ?_ (h v' w' h2 h3)
  unfold execOp
  simp only [ho, resolve, invoke, builtin, Sem.run_bind, Sem.run_pure, Result.andThen_ok, List.map_toArray, List.map_cons, List.map_nil, hs, hx, hr]
end Go.Proofs.Ytklfpoojpfomeaa.Draw

namespace Go.Proofs.Ytklfpoojpfomeaa.Draw
open Go

/-- a last operation that stores -/
def Puts (P : Program) (ops : Array Oper) (o : Oper) (a : Act) (u : World) (K : World → Prop) : Prop :=
  ∃ u' : World, Region.wanted o (yielded ops a.tmps) = true ∧ (execOp a.eval o).run P u = .ok .skip u' ∧ K u'
theorem Puts.mk {P : Program} {ops : Array Oper} {o : Oper} {a : Act} {u : World} {K : World → Prop} (u' : World) (hw : Region.wanted o (yielded ops a.tmps) = true) (hr : (execOp a.eval o).run P u = .ok .skip u') (h : K u') : Puts P ops o a u K := ⟨u', hw, hr, h⟩
theorem Puts.out {P : Program} {ops : Array Oper} {o : Oper} {a : Act} {u : World} {K : Value → World → Prop} (h : Puts P ops o a u fun u' => K undef u') : opYields P ops o a u K := by
  obtain ⟨u', hw, hr, h⟩ := h
  unfold opYields
  rw [if_pos hw, hr]
  exact h
/-- whatever order is drawn, of a region whose last operation, one without a slot, waits for all others: it is shown once, over what all of them have yielded -/
theorem wp_region_last {P : Program} {ops : Array Oper} {id : Nat} {Q : Exit → Act → World → Prop} {a0 : Act} {w : World}
    (tab : List Row) (C : World → Prop) (R : Nat → World → World → Prop) (V : Nat → Value → World → Prop)
    (hm : P.follows .mixedOrders = true) (hB : tabB ops tab = true) (hC0 : C { w with drawn := w.drawn + 1 }) (hCR : ∀ i u u', C u → R i u u' → C u') (hVR : ∀ i j v u u', needB tab i j = true → C u → R i u u' → V j v u → V j v u')
    (tabI : List Row) (L : Nat) (hI : tab.take L = tabI) (oL : Oper) (hoL : ops[L]? = some oL) (hLd : oL.dst = none) (hLs : ops.size = L + 1) (hLa : ((List.range L).all fun j => oL.after.any fun e => Region.binds .any e && (e.on == j)) = true)
    (hops : eachOp P ops C R V a0 (ops.toList.take L) (tab.take L) 0) (hend : ∀ u, C u → givingAll V u (fun a => Puts P ops oL a u fun u' => Q .normal (a.put oL.dst undef) u') tabI 0 a0) : (Code.region id ops true).wp P Q a0 w := by
  subst hI
  have T := tabOk hB
  have hLall : ∀ j, j < L → ∃ e ∈ oL.after, Region.binds .any e = true ∧ e.on = j := fun j hj => by
    have := List.all_eq_true.1 hLa j (List.mem_range.2 hj)
    obtain ⟨e, he, h⟩ := Array.any_eq_true'.1 this
    rw [Bool.and_eq_true, beq_iff_eq] at h
    exact ⟨e, he, h.1, h.2⟩
  have hLn : dstAt ops L = none := by unfold dstAt; rw [hoL]; exact hLd
  refine wp_region_any hm ?_
  -- what must be kept: what is kept to the end, or waited for
  have main : ∀ (fuel : Nat) (listed : Array Bool) (a : Act) (u : World) (vs : Nat → Value), listed.size = ops.size → (List.range ops.size).countP (fun i => !listed.getD i true) ≤ fuel → C u → listed.getD L false = false → Like ops a0 (fun i => listed.getD i false = true) vs a →
      (∀ i, listed.getD i false = true → ∀ j ∈ depsOf tab i, listed.getD j false = true) →
      (∀ i, listed.getD i false = true → (keptAt tab i = true ∨ ∃ k, k < tab.length ∧ listed.getD k false = false ∧ i ∈ depsOf tab k) → V i (vs i) u) →
      wpAny P .any ops Q fuel listed a u := by
    have fin : ∀ (listed : Array Bool) (a : Act) (u : World) (vs : Nat → Value), listed.size = ops.size → C u → Like ops a0 (fun i => listed.getD i false = true) vs a → (∀ i, listed.getD i false = true → (keptAt tab i = true ∨ ∃ k, k < tab.length ∧ listed.getD k false = false ∧ i ∈ depsOf tab k) → V i (vs i) u) → (∀ i, i < L → listed.getD i false = true) → opYields P ops oL a u fun v u' => Q .normal (a.put oL.dst v) u' := by
      intro listed a u vs hsz hu hL hV hall
      have htl : ∀ (i : Nat) (x : Row), (tab.take L)[i]? = some x → i < L ∧ tab[i]? = some x := fun i x hx => by
        have hi : i < (tab.take L).length := (List.getElem?_eq_some_iff.1 hx).1
        rw [List.length_take] at hi
        rw [List.getElem?_take_of_lt (by omega)] at hx
        exact ⟨by omega, hx⟩
      obtain ⟨a', hL', hQ⟩ := givingAll_at T.dis (tab.take L) 0 a0 (Like.start (vs := vs) (by omega)) (fun i x hx => by rw [Nat.zero_add]; exact T.dst i x (htl i x hx).2)
        (fun i x hx hk => by rw [Nat.zero_add]; exact hV i (hall i (htl i x hx).1) (.inl (by rw [keptAt_at (htl i x hx).2]; exact hk))) (hend u hu)
      have hall' : ∀ j t, dstAt ops j = some t → listed.getD j false = true ∧ j < 0 + (tab.take L).length := fun j t hj => by
        have h1 := dstAt_lt hj
        have h2 : j ≠ L := by rintro rfl; rw [hLn] at hj; cases hj
        refine ⟨hall j (by omega), ?_⟩
        rw [List.length_take, T.len]
        omega
      have e : a = a' := by
        have e1 : a.tmps = a'.tmps := by
          apply Array.ext_getElem?
          intro t
          exact hL.agree hL' fun j hj => hall' j t hj
        have e2 : a.defers = a'.defers := hL.defers.trans hL'.defers.symm
        obtain ⟨t1, d1⟩ := a
        obtain ⟨t2, d2⟩ := a'
        dsimp only at e1 e2
        rw [e1, e2]
      rw [e]
      exact hQ.out
    have done : ∀ (fuel : Nat) (listed : Array Bool) (a : Act) (u : World), (∀ i, i < ops.size → listed.getD i true = true) → Q .normal a u → wpAny P .any ops Q fuel listed a u := by
      intro fuel listed a u hall hQ
      have hno : ∀ i, i ∉ Region.ready .any ops listed := fun i hi => by
        obtain ⟨h1, o, ho, _⟩ := mem_ready.1 hi
        rw [hall i (Array.getElem?_eq_some_iff.1 ho).1] at h1
        cases h1
      cases fuel with
      | zero => exact ⟨List.eq_nil_iff_forall_not_mem.2 hno, hQ⟩
      | succ fuel => exact ⟨fun _ => hQ, fun i hi => absurd hi (hno i)⟩
    have lex : ∀ (listed : Array Bool), listed.size = ops.size → ∀ i, i < ops.size → listed.getD i true = false → listed.getD i false = false := by
      intro listed hsz i hi h
      simp [show i < listed.size by omega] at h ⊢
      exact h
    intro fuel
    induction fuel with
    | zero =>
      intro listed a u vs hsz hn hu hLf hL _ hV
      have h0 := List.countP_eq_zero.1 (Nat.le_zero.1 hn) L (List.mem_range.2 (by omega))
      simp [show L < listed.size by omega] at h0 hLf
      rw [h0] at hLf
      cases hLf
    | succ fuel ih =>
      intro listed a u vs hsz hn hu hLf hL hcl hV
      refine ⟨fun hr => ?_, fun i hi => ?_⟩
      · have hevery : ∀ i, i < ops.size → listed.getD i false = true := fun i => by
          induction i using Nat.strongRecOn with
          | _ i ihi =>
            intro hi
            cases hc : listed.getD i false with
            | true => rfl
            | false =>
              have hmem : i ∈ Region.ready .any ops listed := mem_ready.2 ⟨by simp [show i < listed.size by omega] at hc ⊢; exact hc, ops[i], Array.getElem?_eq_getElem hi, fun e he hb => ihi e.on (T.back i ops[i] (Array.getElem?_eq_getElem hi) e he hb) (by have := T.back i ops[i] (Array.getElem?_eq_getElem hi) e he hb; omega)⟩
              rw [hr] at hmem
              cases hmem
        rw [hevery L (by omega)] at hLf
        cases hLf
      · obtain ⟨h1, o, ho, hall⟩ := mem_ready.1 hi
        have hlt := (Array.getElem?_eq_some_iff.1 ho).1
        have hil := lex listed hsz i hlt h1
        by_cases hiL : i = L
        · subst hiL
          rw [hoL] at ho
          cases ho
          have hal : ∀ j, j < i → listed.getD j false = true := fun j hj => by
            obtain ⟨e, he, hb, rfl⟩ := hLall j hj
            exact hall e he hb
          have h3 := fin listed a u vs hsz hu hL hV hal
          refine wpOp_yields hoL ?_
          have step : ∀ v u', Q .normal (a.put oL.dst v) u' → wpAny P .any ops Q fuel (listed.setIfInBounds i true) (a.put oL.dst v) u' := fun v u' hQ => done fuel _ _ _ (fun j hj => by
            by_cases hji : i = j
            · subst hji; simp [show i < listed.size by omega]
            · rw [getD_set_ne true hji]
              have := hal j (by omega)
              simp [show j < listed.size by omega] at this ⊢
              exact this) hQ
          unfold opYields at h3 ⊢
          split at h3
          · rename_i hw
            rw [if_pos hw]
            exact yieldsK_mono step h3
          · rename_i hw
            rw [if_neg hw]
            exact step _ _ h3
        have hx : tab[i]? = some (tab[i]'(by rw [T.len]; exact hlt)) := List.getElem?_eq_getElem _
        generalize tab[i]'(by rw [T.len]; exact hlt) = x at hx
        have hdep := T.dep i o x ho hx
        have hlist : ∀ jt ∈ x.2.1, listed.getD jt.1 false = true := fun jt hm => by
          obtain ⟨_, e, he, hb, hon⟩ := hdep jt hm
          rw [← hon]
          exact hall e he hb
        have hdl : ∀ j ∈ depsOf tab i, listed.getD j false = true := fun j hj => by
          rw [depsOf_at hx] at hj
          obtain ⟨jt, hm, rfl⟩ := List.mem_map.1 hj
          exact hlist jt hm
        have hanc : ∀ k ∈ ancs tab tab.length i, listed.getD k false = true := ancs_in (S := fun i => listed.getD i false = true) hcl tab.length i hdl
        have h2 := eachOp_at (ops.toList.take L) (tab.take L) 0 hops i o x (by rw [List.getElem?_take_of_lt (by omega)]; simpa using ho) (by rw [List.getElem?_take_of_lt (by omega)]; exact hx) u hu
        obtain ⟨a', hL', h3⟩ := giving_at T.dis x.2.1 (fun _ => False) a0 (Like.start (vs := vs) (fun _ h => h)) (fun jt hm => (hdep jt hm).1)
          (fun jt hm => hV jt.1 (hlist jt hm) (.inr ⟨i, by rw [T.len]; exact hlt, hil, by rw [depsOf_at hx]; exact List.mem_map.2 ⟨jt, hm, rfl⟩⟩)) h2
        have hsel := Region.noSelect_spec T.sel i o
        obtain ⟨e1, e2⟩ := same_op (ops := ops) (o := o) (a := a) (a' := a') (fun cs b => hsel cs b ho) (fun t ht => hL.agree hL' fun j hj => by
          obtain ⟨jt, hm, rfl⟩ := T.look i o x ho hx j t hj ht
          exact ⟨hlist jt hm, .inr ⟨jt, hm, rfl⟩⟩)
        refine wpOp_yields ho ?_
        unfold opYields at h3 ⊢
        rw [e1, e2]
        have step : ∀ v u', R (0 + i) u u' ∧ V (0 + i) v u' → wpAny P .any ops Q fuel (listed.setIfInBounds i true) (a.put o.dst v) u' := by
          rintro v u' ⟨hR, hv⟩
          rw [Nat.zero_add] at hv hR
          have hod : o.dst = dstAt ops i := by unfold dstAt; rw [ho]; rfl
          rw [hod]
          refine ih (listed.setIfInBounds i true) _ u' (fun j => if j = i then v else vs j) (by simpa using hsz) ?_ (hCR i u u' hu hR) (by rw [getD_set_ne false hiL]; exact hLf) (hL.more (fun j t h1 h2 => T.dis i j t h1 h2) (fun j => ?_) (by simp) (fun j hj => by simp [hj])) (fun j hj k hk => ?_) (fun j hj hneed => ?_)
          · have hc := countP_less (l := List.range ops.size) (p := fun j => !listed.getD j true) (q := fun j => !(listed.setIfInBounds i true).getD j true) (i := i) (List.mem_range.2 hlt) (by rw [h1]; rfl) (by simp [show i < listed.size by omega]) (fun j hj => by
              by_cases hji : i = j
              · subst hji; rw [h1]; rfl
              · rw [getD_set_ne true hji] at hj; exact hj)
            omega
          · by_cases hji : i = j
            · subst hji; simp [show i < listed.size by omega]
            · rw [getD_set_ne false hji]
              exact ⟨.inl, fun h => h.resolve_right (Ne.symm hji)⟩
          · by_cases hji : i = j
            · subst hji; exact getD_set_true (hdl k hk)
            · rw [getD_set_ne false hji] at hj
              exact getD_set_true (hcl j hj k hk)
          · by_cases hji : j = i
            · subst hji; simpa using hv
            · simp only [hji, if_false]
              rw [getD_set_ne false (Ne.symm hji)] at hj
              have hneed' : keptAt tab j = true ∨ ∃ k, k < tab.length ∧ k ≠ i ∧ listed.getD k false = false ∧ j ∈ depsOf tab k := by
                rcases hneed with h | ⟨k, hk, hkl, hkd⟩
                · exact .inl h
                · have hki : k ≠ i := by
                    rintro rfl
                    simp [show k < listed.size by omega] at hkl
                  rw [getD_set_ne false (Ne.symm hki)] at hkl
                  exact .inr ⟨k, hk, hki, hkl, hkd⟩
              refine hVR i j _ u u' ?_ hu hR (hV j hj ?_)
              · simp only [needB, Bool.and_eq_true, bne_iff_ne, ne_eq, Bool.or_eq_true, List.any_eq_true, List.mem_range, Bool.not_eq_true']
                refine ⟨⟨hji, ?_⟩, ?_⟩
                · rw [Bool.eq_false_iff]
                  intro hc
                  have := ancs_in (S := fun i => listed.getD i false = true) hcl tab.length j (hcl j hj) i (by simpa using hc)
                  rw [hil] at this
                  cases this
                rcases hneed' with h | ⟨k, hk, hki, hkl, hkd⟩
                · exact .inl h
                · refine .inr ⟨k, hk, ⟨hki, ?_⟩, by simpa using hkd⟩
                  rw [Bool.eq_false_iff]
                  intro hc
                  have := hanc k (by simpa using hc)
                  rw [hkl] at this
                  cases this
              · rcases hneed' with h | ⟨k, hk, _, hkl, hkd⟩
                · exact .inl h
                · exact .inr ⟨k, hk, hkl, hkd⟩
        split at h3
        · rename_i hw
          rw [if_pos hw]
          exact yieldsK_mono step h3
        · rename_i hw
          rw [if_neg hw]
          exact step _ _ h3
  have h00 : ∀ i, ¬ (Array.replicate ops.size false).getD i false = true := fun i => by by_cases h : i < ops.size <;> simp [h]
  refine main ops.size _ a0 _ (fun _ => undef) (by simp) ?_ hC0 (Bool.eq_false_iff.2 (h00 L)) (Like.start h00) (fun i hi => absurd hi (h00 i)) (fun i hi => absurd hi (h00 i))
  have := List.countP_le_length (p := fun i => !(Array.replicate ops.size false).getD i true) (l := List.range ops.size)
  rw [List.length_range] at this
  exact this
end Go.Proofs.Ytklfpoojpfomeaa.Draw

namespace Go.Proofs.Ytklfpoojpfomeaa.Draw
open Go

/-- may j still have to come up behind i? -/
def laterB (tab : List Row) (i j : Nat) : Bool := (j != i) && !(ancs tab tab.length i).contains j
/-- each operation, over what holds until it comes up -/
def eachOpI (P : Program) (ops : Array Oper) (C : Nat → World → Prop) (R : Nat → World → World → Prop) (V : Nat → Value → World → Prop) (a : Act) : List Oper → List Row → Nat → Prop
  | o :: l, (_, ds, _) :: tab, k => (∀ u, C k u → giving V u (fun a' => opYields P ops o a' u fun v u' => R k u u' ∧ V k v u') ds a) ∧ eachOpI P ops C R V a l tab (k + 1)
  | _, _, _ => True
theorem eachOpI_at {P : Program} {ops : Array Oper} {C : Nat → World → Prop} {R : Nat → World → World → Prop} {V : Nat → Value → World → Prop} {a : Act} : ∀ (l : List Oper) (tab : List Row) (k : Nat), eachOpI P ops C R V a l tab k → ∀ i o x, l[i]? = some o → tab[i]? = some x →
    ∀ u, C (k + i) u → giving V u (fun a' => opYields P ops o a' u fun v u' => R (k + i) u u' ∧ V (k + i) v u') x.2.1 a
  | [], _, _, _, i, o, x, ho, _ => by simp at ho
  | _ :: _, [], _, _, i, o, x, _, hx => by simp at hx
  | o' :: l, (d, ds, b) :: tab, k, h, i, o, x, ho, hx => by
    cases i with
    | zero =>
      simp only [List.getElem?_cons_zero, Option.some.injEq] at ho hx
      subst ho hx
      exact h.1
    | succ i =>
      rw [List.getElem?_cons_succ] at ho hx
      have := eachOpI_at l tab (k + 1) h.2 i o x ho hx
      rw [show k + (i + 1) = k + 1 + i by omega]
      exact this
/-- whatever order is drawn, of a region whose last operation, one without a slot, waits for all others: it is shown once, over what all of them have yielded -/
theorem wp_region_until {P : Program} {ops : Array Oper} {id : Nat} {Q : Exit → Act → World → Prop} {a0 : Act} {w : World}
    (tab : List Row) (C : Nat → World → Prop) (R : Nat → World → World → Prop) (V : Nat → Value → World → Prop)
    (hm : P.follows .mixedOrders = true) (hB : tabB ops tab = true) (hC0 : ∀ j, C j { w with drawn := w.drawn + 1 }) (hCR : ∀ i j u u', laterB tab i j = true → C i u → C j u → R i u u' → C j u') (hVR : ∀ i j v u u', needB tab i j = true → C i u → R i u u' → V j v u → V j v u')
    (tabI : List Row) (L : Nat) (hI : tab.take L = tabI) (oL : Oper) (hoL : ops[L]? = some oL) (hLd : oL.dst = none) (hLs : ops.size = L + 1) (hLa : ((List.range L).all fun j => oL.after.any fun e => Region.binds .any e && (e.on == j)) = true)
    (hops : eachOpI P ops C R V a0 (ops.toList.take L) (tab.take L) 0) (hend : ∀ u, C L u → givingAll V u (fun a => Puts P ops oL a u fun u' => Q .normal (a.put oL.dst undef) u') tabI 0 a0) : (Code.region id ops true).wp P Q a0 w := by
  subst hI
  have T := tabOk hB
  have hLall : ∀ j, j < L → ∃ e ∈ oL.after, Region.binds .any e = true ∧ e.on = j := fun j hj => by
    have := List.all_eq_true.1 hLa j (List.mem_range.2 hj)
    obtain ⟨e, he, h⟩ := Array.any_eq_true'.1 this
    rw [Bool.and_eq_true, beq_iff_eq] at h
    exact ⟨e, he, h.1, h.2⟩
  have hLn : dstAt ops L = none := by unfold dstAt; rw [hoL]; exact hLd
  refine wp_region_any hm ?_
  -- what must be kept: what is kept to the end, or waited for
  have main : ∀ (fuel : Nat) (listed : Array Bool) (a : Act) (u : World) (vs : Nat → Value), listed.size = ops.size → (List.range ops.size).countP (fun i => !listed.getD i true) ≤ fuel → (∀ j, listed.getD j false = false → C j u) → listed.getD L false = false → Like ops a0 (fun i => listed.getD i false = true) vs a →
      (∀ i, listed.getD i false = true → ∀ j ∈ depsOf tab i, listed.getD j false = true) →
      (∀ i, listed.getD i false = true → (keptAt tab i = true ∨ ∃ k, k < tab.length ∧ listed.getD k false = false ∧ i ∈ depsOf tab k) → V i (vs i) u) →
      wpAny P .any ops Q fuel listed a u := by
    have fin : ∀ (listed : Array Bool) (a : Act) (u : World) (vs : Nat → Value), listed.size = ops.size → C L u → Like ops a0 (fun i => listed.getD i false = true) vs a → (∀ i, listed.getD i false = true → (keptAt tab i = true ∨ ∃ k, k < tab.length ∧ listed.getD k false = false ∧ i ∈ depsOf tab k) → V i (vs i) u) → (∀ i, i < L → listed.getD i false = true) → opYields P ops oL a u fun v u' => Q .normal (a.put oL.dst v) u' := by
      intro listed a u vs hsz hu hL hV hall
      have htl : ∀ (i : Nat) (x : Row), (tab.take L)[i]? = some x → i < L ∧ tab[i]? = some x := fun i x hx => by
        have hi : i < (tab.take L).length := (List.getElem?_eq_some_iff.1 hx).1
        rw [List.length_take] at hi
        rw [List.getElem?_take_of_lt (by omega)] at hx
        exact ⟨by omega, hx⟩
      obtain ⟨a', hL', hQ⟩ := givingAll_at T.dis (tab.take L) 0 a0 (Like.start (vs := vs) (by omega)) (fun i x hx => by rw [Nat.zero_add]; exact T.dst i x (htl i x hx).2)
        (fun i x hx hk => by rw [Nat.zero_add]; exact hV i (hall i (htl i x hx).1) (.inl (by rw [keptAt_at (htl i x hx).2]; exact hk))) (hend u hu)
      have hall' : ∀ j t, dstAt ops j = some t → listed.getD j false = true ∧ j < 0 + (tab.take L).length := fun j t hj => by
        have h1 := dstAt_lt hj
        have h2 : j ≠ L := by rintro rfl; rw [hLn] at hj; cases hj
        refine ⟨hall j (by omega), ?_⟩
        rw [List.length_take, T.len]
        omega
      have e : a = a' := by
        have e1 : a.tmps = a'.tmps := by
          apply Array.ext_getElem?
          intro t
          exact hL.agree hL' fun j hj => hall' j t hj
        have e2 : a.defers = a'.defers := hL.defers.trans hL'.defers.symm
        obtain ⟨t1, d1⟩ := a
        obtain ⟨t2, d2⟩ := a'
        dsimp only at e1 e2
        rw [e1, e2]
      rw [e]
      exact hQ.out
    have done : ∀ (fuel : Nat) (listed : Array Bool) (a : Act) (u : World), (∀ i, i < ops.size → listed.getD i true = true) → Q .normal a u → wpAny P .any ops Q fuel listed a u := by
      intro fuel listed a u hall hQ
      have hno : ∀ i, i ∉ Region.ready .any ops listed := fun i hi => by
        obtain ⟨h1, o, ho, _⟩ := mem_ready.1 hi
        rw [hall i (Array.getElem?_eq_some_iff.1 ho).1] at h1
        cases h1
      cases fuel with
      | zero => exact ⟨List.eq_nil_iff_forall_not_mem.2 hno, hQ⟩
      | succ fuel => exact ⟨fun _ => hQ, fun i hi => absurd hi (hno i)⟩
    have lex : ∀ (listed : Array Bool), listed.size = ops.size → ∀ i, i < ops.size → listed.getD i true = false → listed.getD i false = false := by
      intro listed hsz i hi h
      simp [show i < listed.size by omega] at h ⊢
      exact h
    intro fuel
    induction fuel with
    | zero =>
      intro listed a u vs hsz hn hu hLf hL _ hV
      have h0 := List.countP_eq_zero.1 (Nat.le_zero.1 hn) L (List.mem_range.2 (by omega))
      simp [show L < listed.size by omega] at h0 hLf
      rw [h0] at hLf
      cases hLf
    | succ fuel ih =>
      intro listed a u vs hsz hn hu hLf hL hcl hV
      refine ⟨fun hr => ?_, fun i hi => ?_⟩
      · have hevery : ∀ i, i < ops.size → listed.getD i false = true := fun i => by
          induction i using Nat.strongRecOn with
          | _ i ihi =>
            intro hi
            cases hc : listed.getD i false with
            | true => rfl
            | false =>
              have hmem : i ∈ Region.ready .any ops listed := mem_ready.2 ⟨by simp [show i < listed.size by omega] at hc ⊢; exact hc, ops[i], Array.getElem?_eq_getElem hi, fun e he hb => ihi e.on (T.back i ops[i] (Array.getElem?_eq_getElem hi) e he hb) (by have := T.back i ops[i] (Array.getElem?_eq_getElem hi) e he hb; omega)⟩
              rw [hr] at hmem
              cases hmem
        rw [hevery L (by omega)] at hLf
        cases hLf
      · obtain ⟨h1, o, ho, hall⟩ := mem_ready.1 hi
        have hlt := (Array.getElem?_eq_some_iff.1 ho).1
        have hil := lex listed hsz i hlt h1
        by_cases hiL : i = L
        · subst hiL
          rw [hoL] at ho
          cases ho
          have hal : ∀ j, j < i → listed.getD j false = true := fun j hj => by
            obtain ⟨e, he, hb, rfl⟩ := hLall j hj
            exact hall e he hb
          have h3 := fin listed a u vs hsz (hu i hLf) hL hV hal
          refine wpOp_yields hoL ?_
          have step : ∀ v u', Q .normal (a.put oL.dst v) u' → wpAny P .any ops Q fuel (listed.setIfInBounds i true) (a.put oL.dst v) u' := fun v u' hQ => done fuel _ _ _ (fun j hj => by
            by_cases hji : i = j
            · subst hji; simp [show i < listed.size by omega]
            · rw [getD_set_ne true hji]
              have := hal j (by omega)
              simp [show j < listed.size by omega] at this ⊢
              exact this) hQ
          unfold opYields at h3 ⊢
          split at h3
          · rename_i hw
            rw [if_pos hw]
            exact yieldsK_mono step h3
          · rename_i hw
            rw [if_neg hw]
            exact step _ _ h3
        have hx : tab[i]? = some (tab[i]'(by rw [T.len]; exact hlt)) := List.getElem?_eq_getElem _
        generalize tab[i]'(by rw [T.len]; exact hlt) = x at hx
        have hdep := T.dep i o x ho hx
        have hlist : ∀ jt ∈ x.2.1, listed.getD jt.1 false = true := fun jt hm => by
          obtain ⟨_, e, he, hb, hon⟩ := hdep jt hm
          rw [← hon]
          exact hall e he hb
        have hdl : ∀ j ∈ depsOf tab i, listed.getD j false = true := fun j hj => by
          rw [depsOf_at hx] at hj
          obtain ⟨jt, hm, rfl⟩ := List.mem_map.1 hj
          exact hlist jt hm
        have hanc : ∀ k ∈ ancs tab tab.length i, listed.getD k false = true := ancs_in (S := fun i => listed.getD i false = true) hcl tab.length i hdl
        have h2 := eachOpI_at (ops.toList.take L) (tab.take L) 0 hops i o x (by rw [List.getElem?_take_of_lt (by omega)]; simpa using ho) (by rw [List.getElem?_take_of_lt (by omega)]; exact hx) u (by rw [Nat.zero_add]; exact hu i hil)
        obtain ⟨a', hL', h3⟩ := giving_at T.dis x.2.1 (fun _ => False) a0 (Like.start (vs := vs) (fun _ h => h)) (fun jt hm => (hdep jt hm).1)
          (fun jt hm => hV jt.1 (hlist jt hm) (.inr ⟨i, by rw [T.len]; exact hlt, hil, by rw [depsOf_at hx]; exact List.mem_map.2 ⟨jt, hm, rfl⟩⟩)) h2
        have hsel := Region.noSelect_spec T.sel i o
        obtain ⟨e1, e2⟩ := same_op (ops := ops) (o := o) (a := a) (a' := a') (fun cs b => hsel cs b ho) (fun t ht => hL.agree hL' fun j hj => by
          obtain ⟨jt, hm, rfl⟩ := T.look i o x ho hx j t hj ht
          exact ⟨hlist jt hm, .inr ⟨jt, hm, rfl⟩⟩)
        refine wpOp_yields ho ?_
        unfold opYields at h3 ⊢
        rw [e1, e2]
        have step : ∀ v u', R (0 + i) u u' ∧ V (0 + i) v u' → wpAny P .any ops Q fuel (listed.setIfInBounds i true) (a.put o.dst v) u' := by
          rintro v u' ⟨hR, hv⟩
          rw [Nat.zero_add] at hv hR
          have hod : o.dst = dstAt ops i := by unfold dstAt; rw [ho]; rfl
          rw [hod]
          refine ih (listed.setIfInBounds i true) _ u' (fun j => if j = i then v else vs j) (by simpa using hsz) ?_ (fun j hj => ?_) (by rw [getD_set_ne false hiL]; exact hLf) (hL.more (fun j t h1 h2 => T.dis i j t h1 h2) (fun j => ?_) (by simp) (fun j hj => by simp [hj])) (fun j hj k hk => ?_) (fun j hj hneed => ?_)
          · have hc := countP_less (l := List.range ops.size) (p := fun j => !listed.getD j true) (q := fun j => !(listed.setIfInBounds i true).getD j true) (i := i) (List.mem_range.2 hlt) (by rw [h1]; rfl) (by simp [show i < listed.size by omega]) (fun j hj => by
              by_cases hji : i = j
              · subst hji; rw [h1]; rfl
              · rw [getD_set_ne true hji] at hj; exact hj)
            omega
          · by_cases hji : i = j
            · subst hji
              simp [show i < listed.size by omega] at hj
            · rw [getD_set_ne false hji] at hj
              refine hCR i j u u' ?_ (hu i hil) (hu j hj) hR
              unfold laterB
              rw [Bool.and_eq_true, bne_iff_ne, Bool.not_eq_true']
              refine ⟨fun e => hji e.symm, ?_⟩
              rw [Bool.eq_false_iff]
              intro hc
              have := hanc j (by simpa using hc)
              rw [hj] at this
              cases this
          · by_cases hji : i = j
            · subst hji; simp [show i < listed.size by omega]
            · rw [getD_set_ne false hji]
              exact ⟨.inl, fun h => h.resolve_right (Ne.symm hji)⟩
          · by_cases hji : i = j
            · subst hji; exact getD_set_true (hdl k hk)
            · rw [getD_set_ne false hji] at hj
              exact getD_set_true (hcl j hj k hk)
          · by_cases hji : j = i
            · subst hji; simpa using hv
            · simp only [hji, if_false]
              rw [getD_set_ne false (Ne.symm hji)] at hj
              have hneed' : keptAt tab j = true ∨ ∃ k, k < tab.length ∧ k ≠ i ∧ listed.getD k false = false ∧ j ∈ depsOf tab k := by
                rcases hneed with h | ⟨k, hk, hkl, hkd⟩
                · exact .inl h
                · have hki : k ≠ i := by
                    rintro rfl
                    simp [show k < listed.size by omega] at hkl
                  rw [getD_set_ne false (Ne.symm hki)] at hkl
                  exact .inr ⟨k, hk, hki, hkl, hkd⟩
              refine hVR i j _ u u' ?_ (hu i hil) hR (hV j hj ?_)
              · simp only [needB, Bool.and_eq_true, bne_iff_ne, ne_eq, Bool.or_eq_true, List.any_eq_true, List.mem_range, Bool.not_eq_true']
                refine ⟨⟨hji, ?_⟩, ?_⟩
                · rw [Bool.eq_false_iff]
                  intro hc
                  have := ancs_in (S := fun i => listed.getD i false = true) hcl tab.length j (hcl j hj) i (by simpa using hc)
                  rw [hil] at this
                  cases this
                rcases hneed' with h | ⟨k, hk, hki, hkl, hkd⟩
                · exact .inl h
                · refine .inr ⟨k, hk, ⟨hki, ?_⟩, by simpa using hkd⟩
                  rw [Bool.eq_false_iff]
                  intro hc
                  have := hanc k (by simpa using hc)
                  rw [hkl] at this
                  cases this
              · rcases hneed' with h | ⟨k, hk, _, hkl, hkd⟩
                · exact .inl h
                · exact .inr ⟨k, hk, hkl, hkd⟩
        split at h3
        · rename_i hw
          rw [if_pos hw]
          exact yieldsK_mono step h3
        · rename_i hw
          rw [if_neg hw]
          exact step _ _ h3
  have h00 : ∀ i, ¬ (Array.replicate ops.size false).getD i false = true := fun i => by by_cases h : i < ops.size <;> simp [h]
  refine main ops.size _ a0 _ (fun _ => undef) (by simp) ?_ (fun j _ => hC0 j) (Bool.eq_false_iff.2 (h00 L)) (Like.start h00) (fun i hi => absurd hi (h00 i)) (fun i hi => absurd hi (h00 i))
  have := List.countP_le_length (p := fun i => !(Array.replicate ops.size false).getD i true) (l := List.range ops.size)
  rw [List.length_range] at this
  exact this
end Go.Proofs.Ytklfpoojpfomeaa.Draw

namespace Go.Proofs.Ytklfpoojpfomeaa.Draw
open Go
set_option linter.unusedVariables false
set_option linter.unusedSimpArgs false

/-- what is known of an operation, where operation d has yielded e -/
def Ve (V : Nat → Value → Value → World → Prop) (d : Nat) (e : Value) (i : Nat) (v : Value) (u : World) : Prop := (i = d → v = e) ∧ V i v e u
/-- each operation, over what it waits for -/
def eachOp2 (P : Program) (ops : Array Oper) (C : World → Prop) (R : Nat → World → World → Prop) (V : Nat → Value → Value → World → Prop) (d : Nat) (a : Act) : List Oper → List Row → Nat → Prop
  | o :: l, (_, ds, _) :: tab, k => (∀ e u, C u → giving (Ve V d e) u (fun a' => opYields P ops o a' u fun v u' => R k u u' ∧ V k v (if k = d then v else e) u') ds a) ∧ eachOp2 P ops C R V d a l tab (k + 1)
  | _, _, _ => True
theorem eachOp2_at {P : Program} {ops : Array Oper} {C : World → Prop} {R : Nat → World → World → Prop} {V : Nat → Value → Value → World → Prop} {d : Nat} {a : Act} : ∀ (l : List Oper) (tab : List Row) (k : Nat), eachOp2 P ops C R V d a l tab k → ∀ i o x, l[i]? = some o → tab[i]? = some x →
    ∀ e u, C u → giving (Ve V d e) u (fun a' => opYields P ops o a' u fun v u' => R (k + i) u u' ∧ V (k + i) v (if k + i = d then v else e) u') x.2.1 a
  | [], _, _, _, i, o, x, ho, _ => by simp at ho
  | _ :: _, [], _, _, i, o, x, _, hx => by simp at hx
  | o' :: l, (d', ds, kp) :: tab, k, h, 0, o, x, ho, hx => by
    simp only [List.getElem?_cons_zero, Option.some.injEq] at ho hx
    subst ho hx
    exact h.1
  | o' :: l, (d', ds, kp) :: tab, k, h, i + 1, o, x, ho, hx => by
    have := eachOp2_at l tab (k + 1) h.2 i o x (by simpa using ho) (by simpa using hx)
    rw [show k + (i + 1) = k + 1 + i by omega]
    exact this
/-- whatever order is drawn -/
theorem wp_region_mark {P : Program} {ops : Array Oper} {id : Nat} {Q : Exit → Act → World → Prop} {a0 : Act} {w : World}
    (tab : List Row) (d : Nat) (C : World → Prop) (R : Nat → World → World → Prop) (V : Nat → Value → Value → World → Prop)
    (hm : P.follows .mixedOrders = true) (hB : tabB ops tab = true) (hC0 : C { w with drawn := w.drawn + 1 }) (hCR : ∀ i u u', C u → R i u u' → C u') (hVR : ∀ e i j v u u', needB tab i j = true → C u → R i u u' → V j v e u → V j v e u')
    (hind : ∀ j, j ≠ d → (ancs tab tab.length j).contains d = false → ∀ v e e' u, V j v e u → V j v e' u)
    (hops : eachOp2 P ops C R V d a0 ops.toList tab 0) (hend : ∀ e u, C u → givingAll (Ve V d e) u (fun a => Q .normal a u) tab 0 a0) : (Code.region id ops true).wp P Q a0 w := by
  have T := tabOk hB
  refine wp_region_any hm ?_
  -- what must be kept: what is kept to the end, or waited for
  have main : ∀ (fuel : Nat) (listed : Array Bool) (a : Act) (u : World) (vs : Nat → Value), listed.size = ops.size → (List.range ops.size).countP (fun i => !listed.getD i true) ≤ fuel → C u → Like ops a0 (fun i => listed.getD i false = true) vs a →
      (∀ i, listed.getD i false = true → ∀ j ∈ depsOf tab i, listed.getD j false = true) →
      (∀ i, listed.getD i false = true → (keptAt tab i = true ∨ ∃ k, k < tab.length ∧ listed.getD k false = false ∧ i ∈ depsOf tab k) → V i (vs i) (vs d) u) →
      wpAny P .any ops Q fuel listed a u := by
    have fin : ∀ (listed : Array Bool) (a : Act) (u : World) (vs : Nat → Value), listed.size = ops.size → C u → Like ops a0 (fun i => listed.getD i false = true) vs a → (∀ i, listed.getD i false = true → (keptAt tab i = true ∨ ∃ k, k < tab.length ∧ listed.getD k false = false ∧ i ∈ depsOf tab k) → V i (vs i) (vs d) u) → (∀ i, i < ops.size → listed.getD i false = true) → Q .normal a u := by
      intro listed a u vs hsz hu hL hV hall
      obtain ⟨a', hL', hQ⟩ := givingAll_at T.dis tab 0 a0 (Like.start (vs := vs) (by omega)) (fun i x hx => by rw [Nat.zero_add]; exact T.dst i x hx)
        (fun i x hx hk => by rw [Nat.zero_add]; exact ⟨fun h => by rw [h], hV i (hall i (by rw [← T.len]; exact (List.getElem?_eq_some_iff.1 hx).1)) (.inl (by rw [keptAt_at hx]; exact hk))⟩) (hend (vs d) u hu)
      have hall' : ∀ j t, dstAt ops j = some t → listed.getD j false = true ∧ j < 0 + tab.length := fun j t hj => ⟨hall j (dstAt_lt hj), by rw [T.len]; have := dstAt_lt hj; omega⟩
      have e : a = a' := by
        have e1 : a.tmps = a'.tmps := by
          apply Array.ext_getElem?
          intro t
          exact hL.agree hL' fun j hj => hall' j t hj
        have e2 : a.defers = a'.defers := hL.defers.trans hL'.defers.symm
        obtain ⟨t1, d1⟩ := a
        obtain ⟨t2, d2⟩ := a'
        dsimp only at e1 e2
        rw [e1, e2]
      rw [e]
      exact hQ
    have lex : ∀ (listed : Array Bool), listed.size = ops.size → ∀ i, i < ops.size → listed.getD i true = false → listed.getD i false = false := by
      intro listed hsz i hi h
      simp [show i < listed.size by omega] at h ⊢
      exact h
    intro fuel
    induction fuel with
    | zero =>
      intro listed a u vs hsz hn hu hL _ hV
      have hall : ∀ i, i < ops.size → listed.getD i false = true := by
        intro i hi
        have h0 := List.countP_eq_zero.1 (Nat.le_zero.1 hn) i (List.mem_range.2 hi)
        simp [show i < listed.size by omega] at h0 ⊢
        exact h0
      refine ⟨?_, fin listed a u vs hsz hu hL hV hall⟩
      refine List.eq_nil_iff_forall_not_mem.2 fun i hi => ?_
      obtain ⟨h1, o, ho, _⟩ := mem_ready.1 hi
      have hlt := (Array.getElem?_eq_some_iff.1 ho).1
      have := hall i hlt
      rw [lex listed hsz i hlt h1] at this
      cases this
    | succ fuel ih =>
      intro listed a u vs hsz hn hu hL hcl hV
      refine ⟨fun hr => ?_, fun i hi => ?_⟩
      · refine fin listed a u vs hsz hu hL hV fun i => ?_
        induction i using Nat.strongRecOn with
        | _ i ihi =>
          intro hi
          cases hc : listed.getD i false with
          | true => rfl
          | false =>
            have hmem : i ∈ Region.ready .any ops listed := mem_ready.2 ⟨by simp [show i < listed.size by omega] at hc ⊢; exact hc, ops[i], Array.getElem?_eq_getElem hi, fun e he hb => ihi e.on (T.back i ops[i] (Array.getElem?_eq_getElem hi) e he hb) (by have := T.back i ops[i] (Array.getElem?_eq_getElem hi) e he hb; omega)⟩
            rw [hr] at hmem
            cases hmem
      · obtain ⟨h1, o, ho, hall⟩ := mem_ready.1 hi
        have hlt := (Array.getElem?_eq_some_iff.1 ho).1
        have hil := lex listed hsz i hlt h1
        have hx : tab[i]? = some (tab[i]'(by rw [T.len]; exact hlt)) := List.getElem?_eq_getElem _
        generalize tab[i]'(by rw [T.len]; exact hlt) = x at hx
        have hdep := T.dep i o x ho hx
        have hlist : ∀ jt ∈ x.2.1, listed.getD jt.1 false = true := fun jt hm => by
          obtain ⟨_, e, he, hb, hon⟩ := hdep jt hm
          rw [← hon]
          exact hall e he hb
        have hdl : ∀ j ∈ depsOf tab i, listed.getD j false = true := fun j hj => by
          rw [depsOf_at hx] at hj
          obtain ⟨jt, hm, rfl⟩ := List.mem_map.1 hj
          exact hlist jt hm
        have hanc : ∀ k ∈ ancs tab tab.length i, listed.getD k false = true := ancs_in (S := fun i => listed.getD i false = true) hcl tab.length i hdl
        have h2 := eachOp2_at ops.toList tab 0 hops i o x (by simpa using ho) hx (vs d) u hu
        obtain ⟨a', hL', h3⟩ := giving_at T.dis x.2.1 (fun _ => False) a0 (Like.start (vs := vs) (fun _ h => h)) (fun jt hm => (hdep jt hm).1)
          (fun jt hm => ⟨fun h => by rw [h], hV jt.1 (hlist jt hm) (.inr ⟨i, by rw [T.len]; exact hlt, hil, by rw [depsOf_at hx]; exact List.mem_map.2 ⟨jt, hm, rfl⟩⟩)⟩) h2
        have hsel := Region.noSelect_spec T.sel i o
        obtain ⟨e1, e2⟩ := same_op (ops := ops) (o := o) (a := a) (a' := a') (fun cs b => hsel cs b ho) (fun t ht => hL.agree hL' fun j hj => by
          obtain ⟨jt, hm, rfl⟩ := T.look i o x ho hx j t hj ht
          exact ⟨hlist jt hm, .inr ⟨jt, hm, rfl⟩⟩)
        refine wpOp_yields ho ?_
        unfold opYields at h3 ⊢
        rw [e1, e2]
        have step : ∀ v u', R (0 + i) u u' ∧ V (0 + i) v (if 0 + i = d then v else vs d) u' → wpAny P .any ops Q fuel (listed.setIfInBounds i true) (a.put o.dst v) u' := by
          rintro v u' ⟨hR, hv⟩
          rw [Nat.zero_add] at hv hR
          have hod : o.dst = dstAt ops i := by unfold dstAt; rw [ho]; rfl
          rw [hod]
          refine ih (listed.setIfInBounds i true) _ u' (fun j => if j = i then v else vs j) (by simpa using hsz) ?_ (hCR i u u' hu hR) (hL.more (fun j t h1 h2 => T.dis i j t h1 h2) (fun j => ?_) (by simp) (fun j hj => by simp [hj])) (fun j hj k hk => ?_) (fun j hj hneed => ?_)
          · have hc := countP_less (l := List.range ops.size) (p := fun j => !listed.getD j true) (q := fun j => !(listed.setIfInBounds i true).getD j true) (i := i) (List.mem_range.2 hlt) (by rw [h1]; rfl) (by simp [show i < listed.size by omega]) (fun j hj => by
              by_cases hji : i = j
              · subst hji; rw [h1]; rfl
              · rw [getD_set_ne true hji] at hj; exact hj)
            omega
          · by_cases hji : i = j
            · subst hji; simp [show i < listed.size by omega]
            · rw [getD_set_ne false hji]
              exact ⟨.inl, fun h => h.resolve_right (Ne.symm hji)⟩
          · by_cases hji : i = j
            · subst hji; exact getD_set_true (hdl k hk)
            · rw [getD_set_ne false hji] at hj
              exact getD_set_true (hcl j hj k hk)
          · by_cases hji : j = i
            · subst hji
              simp only [if_true]
              by_cases hdj : j = d
              · subst hdj
                simpa using hv
              · rw [if_neg hdj] at hv
                simp only [show ¬ d = j from fun e => hdj e.symm, if_false]
                exact hv
            · simp only [hji, if_false]
              rw [getD_set_ne false (Ne.symm hji)] at hj
              have hneed' : keptAt tab j = true ∨ ∃ k, k < tab.length ∧ k ≠ i ∧ listed.getD k false = false ∧ j ∈ depsOf tab k := by
                rcases hneed with h | ⟨k, hk, hkl, hkd⟩
                · exact .inl h
                · have hki : k ≠ i := by
                    rintro rfl
                    simp [show k < listed.size by omega] at hkl
                  rw [getD_set_ne false (Ne.symm hki)] at hkl
                  exact .inr ⟨k, hk, hki, hkl, hkd⟩
              have hVj : V j (vs j) (vs d) u → V j (vs j) (if d = i then v else vs d) u := by
                intro h
                by_cases hdi : d = i
                · subst hdi
                  refine hind j hji ?_ _ _ _ _ h
                  rw [Bool.eq_false_iff]
                  intro hc
                  have := ancs_in (S := fun i => listed.getD i false = true) hcl tab.length j (hcl j hj) d (by simpa using hc)
                  rw [hil] at this
                  cases this
                · simp only [hdi, if_false]
                  exact h
              refine hVR _ i j _ u u' ?_ hu hR (hVj (hV j hj ?_))
              · simp only [needB, Bool.and_eq_true, bne_iff_ne, ne_eq, Bool.or_eq_true, List.any_eq_true, List.mem_range, Bool.not_eq_true']
                refine ⟨⟨hji, ?_⟩, ?_⟩
                · rw [Bool.eq_false_iff]
                  intro hc
                  have := ancs_in (S := fun i => listed.getD i false = true) hcl tab.length j (hcl j hj) i (by simpa using hc)
                  rw [hil] at this
                  cases this
                rcases hneed' with h | ⟨k, hk, hki, hkl, hkd⟩
                · exact .inl h
                · refine .inr ⟨k, hk, ⟨hki, ?_⟩, by simpa using hkd⟩
                  rw [Bool.eq_false_iff]
                  intro hc
                  have := hanc k (by simpa using hc)
                  rw [hkl] at this
                  cases this
              · rcases hneed' with h | ⟨k, hk, _, hkl, hkd⟩
                · exact .inl h
                · exact .inr ⟨k, hk, hkl, hkd⟩
        split at h3
        · rename_i hw
          rw [if_pos hw]
          exact yieldsK_mono step h3
        · rename_i hw
          rw [if_neg hw]
          exact step _ _ h3
  have h00 : ∀ i, ¬ (Array.replicate ops.size false).getD i false = true := fun i => by by_cases h : i < ops.size <;> simp [h]
  refine main ops.size _ a0 _ (fun _ => undef) (by simp) ?_ hC0 (Like.start h00) (fun i hi => absurd hi (h00 i)) (fun i hi => absurd hi (h00 i))
  have := List.countP_le_length (p := fun i => !(Array.replicate ops.size false).getD i true) (l := List.range ops.size)
  rw [List.length_range] at this
  exact this
end Go.Proofs.Ytklfpoojpfomeaa.Draw
