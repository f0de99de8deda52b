/-
  What is reached, plain: the least set with the roots and the targets of what it has; rising rows that hold just that. No program is named here.
-/
import Derived.Test.YtfladpnphkoeiaaFind
import Derived.Test.YtfladpnphkoeiaaKeys
namespace Go.Proofs.Ytfladpnphkoeiaa.Key
set_option linter.unusedVariables false
set_option linter.unusedSimpArgs false

/-- to which blocks a block leads -/
def succB (l : List It) (b : Int) : List Int := targetsL (foundN l b)
/-- reached from some roots -/
def Rch (l : List It) (roots : List Int) (b : Int) : Prop := ∀ S : Int → Prop, (∀ r ∈ roots, S r) → (∀ x, S x → ∀ t ∈ succB l x, S t) → S b
theorem Rch.root {l : List It} {roots : List Int} {b : Int} (h : b ∈ roots) : Rch l roots b := fun _ h1 _ => h1 b h
theorem Rch.step {l : List It} {roots : List Int} {b t : Int} (h : Rch l roots b) (ht : t ∈ succB l b) : Rch l roots t := fun S h1 h2 => h2 b (h S h1 h2) t ht
theorem Rch.mono {l : List It} {r r' : List Int} (h : ∀ x ∈ r, x ∈ r') {b : Int} (hb : Rch l r b) : Rch l r' b := fun S h1 h2 => hb S (fun x hx => h1 x (h x hx)) h2
theorem Rch.either {l : List It} {r r' : List Int} {b : Int} (h : Rch l (r ++ r') b) : Rch l r b ∨ Rch l r' b :=
  h (fun x => Rch l r x ∨ Rch l r' x) (fun x hx => (List.mem_append.1 hx).imp Rch.root Rch.root) (fun x hx t ht => hx.imp (·.step ht) (·.step ht))
/-- a rising row of just what is reached -/
structure Full (l : List It) (roots ks : List Int) : Prop where
  rise : Rising ks
  mem : ∀ b, b ∈ ks ↔ Rch l roots b
theorem rising_ext : ∀ (a b : List Int), Rising a → Rising b → (∀ x, x ∈ a ↔ x ∈ b) → a = b
  | [], [], _, _, _ => rfl
  | [], y :: b, _, _, h => by have := (h y).2 (by simp); simp at this
  | x :: a, [], _, _, h => by have := (h x).1 (by simp); simp at this
  | x :: a, y :: b, ha, hb, h => by
    obtain ⟨ha1, ha2⟩ := List.pairwise_cons.1 ha
    obtain ⟨hb1, hb2⟩ := List.pairwise_cons.1 hb
    have e : x = y := by
      rcases List.mem_cons.1 ((h x).1 (by simp)) with e | hx
      · exact e
      · rcases List.mem_cons.1 ((h y).2 (by simp)) with e | hy
        · exact e.symm
        · have := hb1 x hx
          have := ha1 y hy
          omega
    subst e
    rw [rising_ext a b ha2 hb2 fun z => ?_]
    constructor
    · intro hz
      rcases List.mem_cons.1 ((h z).1 (by simp [hz])) with e | hz'
      · have := ha1 z hz; omega
      · exact hz'
    · intro hz
      rcases List.mem_cons.1 ((h z).2 (by simp [hz])) with e | hz'
      · have := hb1 z hz; omega
      · exact hz'
theorem Full.one {l : List It} {roots a b : List Int} (h : Full l roots a) (h' : Full l roots b) : a = b :=
  rising_ext a b h.rise h'.rise fun x => (h.mem x).trans (h'.mem x).symm
theorem rising_len : ∀ (ks U : List Int), Rising ks → (∀ x ∈ ks, x ∈ U) → ks.length ≤ U.length
  | [], U, _, _ => by simp
  | k :: ks, U, hr, h => by
    obtain ⟨h1, h2⟩ := List.pairwise_cons.1 hr
    have hk := h k (by simp)
    have := rising_len ks (U.erase k) h2 (fun x hx => by
      have hne : x ≠ k := by have := h1 x hx; omega
      exact (List.mem_erase_of_ne hne).2 (h x (by simp [hx])))
    rw [List.length_erase_of_mem hk] at this
    have : 0 < U.length := List.length_pos_of_mem hk
    simp
    omega
theorem there_iff : ∀ (ks : List Int) (x : Int), Rising ks → (there ks x = true ↔ x ∈ ks)
  | [], x, _ => by simp [there]
  | k :: ks, x, hr => by
    obtain ⟨h1, h2⟩ := List.pairwise_cons.1 hr
    rw [there_cons]
    by_cases hk : k < x
    · rw [if_pos hk, there_iff ks x h2]
      rw [List.mem_cons]
      constructor
      · exact .inr
      · rintro (e | h)
        · omega
        · exact h
    · rw [if_neg hk]
      simp
      constructor
      · exact fun e => .inl e.symm
      · rintro (e | h)
        · exact e.symm
        · have := h1 x h; omega
theorem mem_insertAt {α : Type} {ss : List α} {i : Nat} {x y : α} : y ∈ insertAt ss i x ↔ y = x ∨ y ∈ ss := by
  unfold insertAt
  rw [List.mem_append, List.mem_cons]
  constructor
  · rintro (h | h | h)
    · exact .inr (List.mem_of_mem_take h)
    · exact .inl h
    · exact .inr (List.mem_of_mem_drop h)
  · rintro (h | h)
    · exact .inr (.inl h)
    · have : y ∈ ss.take i ++ ss.drop i := by rw [List.take_append_drop]; exact h
      exact (List.mem_append.1 this).imp id .inr
theorem mem_putK {ks : List Int} (hr : Rising ks) {x y : Int} : y ∈ putK ks x ↔ y = x ∨ y ∈ ks := by
  unfold putK
  split
  · rename_i h
    constructor
    · exact .inr
    · rintro (rfl | h')
      · exact (there_iff ks y hr).1 h
      · exact h'
  · exact mem_insertAt
theorem putK_new {ks : List Int} {x : Int} (h : there ks x = false) : (putK ks x).length = ks.length + 1 := by
  unfold putK
  rw [if_neg (by rw [h]; simp), insertAt_length ks _ x (pos_le ks x)]
theorem putK_old {ks : List Int} {x : Int} (h : there ks x = true) : putK ks x = ks := by
  unfold putK
  rw [if_pos h]
theorem len_putK (ks : List Int) (x : Int) : ks.length ≤ (putK ks x).length := by
  cases h : there ks x
  · rw [putK_new h]; omega
  · rw [putK_old h]; exact Nat.le_refl _
/-- all blocks that are spoken of -/
def univ (l : List It) (roots : List Int) : List Int := roots ++ l.flatMap fun x => targetsL x.nd
theorem succ_univ {l : List It} {roots : List Int} {b t : Int} (h : t ∈ succB l b) : t ∈ univ l roots := by
  unfold succB foundN at h
  cases hf : findI l b with
  | none => rw [hf] at h; simp [zeroN, targetsL, blocksL] at h
  | some x =>
    rw [hf] at h
    exact List.mem_append_right _ (List.mem_flatMap.2 ⟨x, List.mem_of_find?_eq_some hf, h⟩)
theorem Rch.univ {l : List It} {roots : List Int} {b : Int} (h : Rch l roots b) : b ∈ univ l roots :=
  h (fun x => x ∈ Key.univ l roots) (fun r hr => List.mem_append_left _ hr) (fun x _ t ht => succ_univ ht)

/-- the program's way: what is reached, what is left -/
structure Goes (l : List It) (roots ks left : List Int) : Prop where
  rise : Rising ks
  inK : ∀ b ∈ ks, Rch l roots b
  inL : ∀ b ∈ left, Rch l roots b
  rts : ∀ b ∈ roots, b ∈ ks ∨ b ∈ left
  on : ∀ b ∈ ks, ∀ t ∈ succB l b, t ∈ ks ∨ t ∈ left
theorem Goes.start (l : List It) (roots : List Int) : Goes l roots [] roots := ⟨List.Pairwise.nil, by simp, fun _ h => Rch.root h, fun _ h => .inr h, by simp⟩
theorem Goes.old {l : List It} {roots ks left : List Int} {b : Int} (h : Goes l roots ks (left ++ [b])) (hb : there ks b = true) : Goes l roots ks left := by
  have hm := (there_iff ks b h.rise).1 hb
  have hl : ∀ x, x ∈ left ++ [b] → x ∈ ks ∨ x ∈ left := fun x hx => by
    rcases List.mem_append.1 hx with hx | hx
    · exact .inr hx
    · rw [List.mem_singleton.1 hx]; exact .inl hm
  exact ⟨h.rise, h.inK, fun x hx => h.inL x (by simp [hx]), fun x hx => (h.rts x hx).elim .inl (hl x), fun x hx t ht => (h.on x hx t ht).elim .inl (hl t)⟩
theorem Goes.new {l : List It} {roots ks left : List Int} {b : Int} (h : Goes l roots ks (left ++ [b])) : Goes l roots (putK ks b) (left ++ succB l b) := by
  have hb : Rch l roots b := h.inL b (by simp)
  have hp : ∀ y, y ∈ putK ks b ↔ y = b ∨ y ∈ ks := fun y => mem_putK h.rise
  have hl : ∀ x, x ∈ ks ∨ x ∈ left ++ [b] → x ∈ putK ks b ∨ x ∈ left ++ succB l b := fun x hx => by
    rcases hx with hx | hx
    · exact .inl ((hp x).2 (.inr hx))
    · rcases List.mem_append.1 hx with hx | hx
      · exact .inr (by simp [hx])
      · exact .inl ((hp x).2 (.inl (List.mem_singleton.1 hx)))
  refine ⟨rise_put ks b h.rise, fun x hx => ?_, fun x hx => ?_, fun x hx => hl x (h.rts x hx), fun x hx t ht => ?_⟩
  · rcases (hp x).1 hx with rfl | hx
    · exact hb
    · exact h.inK x hx
  · rcases List.mem_append.1 hx with hx | hx
    · exact h.inL x (by simp [hx])
    · exact hb.step hx
  · rcases (hp x).1 hx with rfl | hx
    · exact .inr (by simp [ht])
    · exact hl t (h.on x hx t ht)
theorem Goes.full {l : List It} {roots ks : List Int} (h : Goes l roots ks []) : Full l roots ks :=
  ⟨h.rise, fun b => ⟨h.inK b, fun hb => hb (fun x => x ∈ ks) (fun r hr => (h.rts r hr).elim id (by simp)) (fun x hx t ht => (h.on x hx t ht).elim id (by simp))⟩⟩
theorem Goes.len {l : List It} {roots ks left : List Int} (h : Goes l roots ks left) : ks.length ≤ (univ l roots).length := rising_len ks _ h.rise fun x hx => (h.inK x hx).univ

/-- the document's way: all of these put -/
def putAll (ks ts : List Int) : List Int := ts.foldl putK ks
theorem putAll_nil (ks : List Int) : putAll ks [] = ks := rfl
theorem putAll_snoc (ks ts : List Int) (t : Int) : putAll ks (ts ++ [t]) = putK (putAll ks ts) t := by simp [putAll]
theorem putAll_app (ks ts us : List Int) : putAll ks (ts ++ us) = putAll (putAll ks ts) us := by simp [putAll]
theorem putAll_rise : ∀ (ts ks : List Int), Rising ks → Rising (putAll ks ts)
  | [], _, h => h
  | t :: ts, ks, h => putAll_rise ts _ (rise_put ks t h)
theorem mem_putAll : ∀ (ts ks : List Int), Rising ks → ∀ y, y ∈ putAll ks ts ↔ y ∈ ts ∨ y ∈ ks
  | [], ks, _, y => by simp [putAll]
  | t :: ts, ks, h, y => by
    have := mem_putAll ts (putK ks t) (rise_put ks t h) y
    rw [show putAll ks (t :: ts) = putAll (putK ks t) ts from rfl, this, mem_putK h]
    simp only [List.mem_cons]
    constructor
    · rintro (h | h | h)
      · exact .inl (.inr h)
      · exact .inl (.inl h)
      · exact .inr h
    · rintro ((h | h) | h)
      · exact .inr (.inl h)
      · exact .inl h
      · exact .inr (.inr h)
theorem len_putAll : ∀ (ts ks : List Int), ks.length ≤ (putAll ks ts).length
  | [], ks => Nat.le_refl _
  | t :: ts, ks => Nat.le_trans (len_putK ks t) (len_putAll ts _)
/-- where none is longer it is the same -/
theorem same_putAll : ∀ (ts ks : List Int), (putAll ks ts).length = ks.length → putAll ks ts = ks
  | [], _, _ => rfl
  | t :: ts, ks, h => by
    have h1 := len_putAll ts (putK ks t)
    have h2 : (putAll (putK ks t) ts).length = ks.length := h
    cases ht : there ks t
    · rw [putK_new ht] at h1; omega
    · have e : putK ks t = ks := putK_old ht
      show putAll (putK ks t) ts = ks
      rw [e] at h2 ⊢
      exact same_putAll ts ks h2
/-- one round of the document's way -/
def roundR (l : List It) (ks : List Int) : List Int := putAll ks (ks.flatMap (succB l))
structure GoesR (l : List It) (roots ks : List Int) : Prop where
  rise : Rising ks
  inK : ∀ b ∈ ks, Rch l roots b
  rts : ∀ b ∈ roots, b ∈ ks
theorem GoesR.start (l : List It) (roots : List Int) : GoesR l roots (putAll [] roots) :=
  ⟨putAll_rise roots [] List.Pairwise.nil, fun b hb => by rw [mem_putAll roots [] List.Pairwise.nil] at hb; simp at hb; exact Rch.root hb, fun b hb => by rw [mem_putAll roots [] List.Pairwise.nil]; exact .inl hb⟩
theorem GoesR.round {l : List It} {roots ks : List Int} (h : GoesR l roots ks) : GoesR l roots (roundR l ks) :=
  ⟨putAll_rise _ _ h.rise, fun b hb => by
    unfold roundR at hb
    rw [mem_putAll _ _ h.rise] at hb
    rcases hb with hb | hb
    · obtain ⟨x, hx, hb⟩ := List.mem_flatMap.1 hb
      exact (h.inK x hx).step hb
    · exact h.inK b hb, fun b hb => by
    unfold roundR
    rw [mem_putAll _ _ h.rise]
    exact .inr (h.rts b hb)⟩
theorem GoesR.full {l : List It} {roots ks : List Int} (h : GoesR l roots ks) (he : (roundR l ks).length = ks.length) : Full l roots ks := by
  have e := same_putAll _ _ he
  refine ⟨h.rise, fun b => ⟨h.inK b, fun hb => hb (fun x => x ∈ ks) h.rts fun x hx t ht => ?_⟩⟩
  have : t ∈ roundR l ks := by
    unfold roundR
    rw [mem_putAll _ _ h.rise]
    exact .inl (List.mem_flatMap.2 ⟨x, hx, ht⟩)
  unfold roundR at this
  rw [e] at this
  exact this
theorem GoesR.len {l : List It} {roots ks : List Int} (h : GoesR l roots ks) : ks.length ≤ (univ l roots).length := rising_len ks _ h.rise fun x hx => (h.inK x hx).univ
theorem round_len (l : List It) (ks : List Int) : ks.length ≤ (roundR l ks).length := len_putAll _ _
/-- what is reached from both is reached from one -/
theorem Full.both {l : List It} {a b x y z : List Int} (hx : Full l a x) (hy : Full l b y) (hz : Full l (a ++ b) z) : (∀ t ∈ z, t ∈ x ∨ t ∈ y) ∧ x.length ≤ z.length ∧ y.length ≤ z.length :=
  ⟨fun t ht => ((hz.mem t).1 ht).either.imp (hx.mem t).2 (hy.mem t).2,
    rising_len x z hx.rise fun t ht => (hz.mem t).2 (((hx.mem t).1 ht).mono (by simp; exact fun _ => .inl)),
    rising_len y z hy.rise fun t ht => (hz.mem t).2 (((hy.mem t).1 ht).mono (by simp; exact fun _ => .inr))⟩
end Go.Proofs.Ytfladpnphkoeiaa.Key
