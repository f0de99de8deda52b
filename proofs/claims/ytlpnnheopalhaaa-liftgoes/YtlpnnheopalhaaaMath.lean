/-
  Plain facts of keys (lists of bytes): their order, beginnings, what is above all that begin so, ranges. No program is named here.
-/
import Derived.Below
import Derived.Lib.Strings
namespace Go.Proofs.Ytlpnnheopalhaaa.Key
open Go.Op (bytesLess)

theorem u8_lt (a b : UInt8) : a < b ↔ a.toNat < b.toNat := UInt8.lt_iff_toNat_lt
theorem u8_eq (a b : UInt8) : a = b ↔ a.toNat = b.toNat := UInt8.toNat_inj.symm
theorem u8_top (a : UInt8) : a = 255 ↔ a.toNat = 255 := u8_eq a 255
theorem u8_lt256 (a : UInt8) : a.toNat < 256 := a.toNat_lt
theorem u8_succ (a : UInt8) (h : a ≠ 255) : (a + 1).toNat = a.toNat + 1 := by
  have h1 := u8_lt256 a
  have h2 : a.toNat ≠ 255 := fun e => h ((u8_top a).2 e)
  rw [UInt8.toNat_add]
  have : (1 : UInt8).toNat = 1 := rfl
  rw [this]
  omega

theorem less_nil (a : List UInt8) : bytesLess a [] = false := by cases a <;> rfl
theorem nil_less (b : UInt8) (y : List UInt8) : bytesLess [] (b :: y) = true := rfl
theorem less_cons (a b : UInt8) (x y : List UInt8) : bytesLess (a :: x) (b :: y) = true ↔ a.toNat < b.toNat ∨ (a = b ∧ bytesLess x y = true) := by
  simp [bytesLess, u8_lt]
theorem less_self (a : List UInt8) : bytesLess a a = false := by
  induction a with
  | nil => rfl
  | cons x l ih =>
    rw [Bool.eq_false_iff]
    intro h
    rcases (less_cons _ _ _ _).1 h with h | ⟨_, h⟩
    · omega
    · simp [ih] at h
theorem less_trans : ∀ {a b c : List UInt8}, bytesLess a b = true → bytesLess b c = true → bytesLess a c = true
  | _, [], _, h, _ => by simp [less_nil] at h
  | _, _, [], _, h => by simp [less_nil] at h
  | [], _ :: _, _ :: _, _, _ => rfl
  | a :: x, b :: y, c :: z, h1, h2 => by
    rw [less_cons] at *
    rcases h1 with h1 | ⟨rfl, h1⟩
    · rcases h2 with h2 | ⟨rfl, h2⟩
      · exact .inl (by omega)
      · exact .inl h1
    · rcases h2 with h2 | ⟨rfl, h2⟩
      · exact .inl h2
      · exact .inr ⟨rfl, less_trans h1 h2⟩
theorem less_asymm {a b : List UInt8} (h : bytesLess a b = true) : bytesLess b a = false := by
  rw [Bool.eq_false_iff]
  intro h'
  have := less_trans h h'
  simp [less_self] at this
theorem less_same : ∀ {a b : List UInt8}, bytesLess a b = false → bytesLess b a = false → a = b
  | [], [], _, _ => rfl
  | [], _ :: _, h, _ => by simp [nil_less] at h
  | _ :: _, [], _, h => by simp [nil_less] at h
  | a :: x, b :: y, h1, h2 => by
    rw [Bool.eq_false_iff, ne_eq, less_cons] at h1 h2
    have hab : a = b := (u8_eq a b).2 (by omega)
    subst hab
    have e1 : bytesLess x y = false := by rw [Bool.eq_false_iff]; intro h; exact h1 (.inr ⟨rfl, h⟩)
    have e2 : bytesLess y x = false := by rw [Bool.eq_false_iff]; intro h; exact h2 (.inr ⟨rfl, h⟩)
    rw [less_same e1 e2]
/-- b isn't above a, c isn't above b: c isn't above a -/
theorem less_le_trans {a b c : List UInt8} (h1 : bytesLess a b = false) (h2 : bytesLess b c = false) : bytesLess a c = false := by
  rw [Bool.eq_false_iff]
  intro h
  cases hb : bytesLess b a
  · have e := less_same h1 hb
    subst e
    rw [h] at h2
    cases h2
  · rw [less_trans hb h] at h2
    cases h2
theorem less_of_less_le {a b c : List UInt8} (h1 : bytesLess a b = true) (h2 : bytesLess c b = false) : bytesLess a c = true := by
  cases hc : bytesLess a c
  · rw [less_le_trans hc h2] at h1
    cases h1
  · rfl
theorem less_of_le_less {a b c : List UInt8} (h1 : bytesLess b a = false) (h2 : bytesLess b c = true) : bytesLess a c = true := by
  cases hc : bytesLess a c
  · rw [less_le_trans h1 hc] at h2
    cases h2
  · rfl

/-- whether a key begins so -/
def has (k p : List UInt8) : Bool := p.isPrefixOf k
theorem has_le : ∀ {k p : List UInt8}, has k p = true → bytesLess k p = false
  | _, [], _ => less_nil _
  | [], _ :: _, h => by simp [has] at h
  | a :: x, b :: y, h => by
    simp only [has, List.isPrefixOf, Bool.and_eq_true, beq_iff_eq] at h
    obtain ⟨rfl, h⟩ := h
    rw [Bool.eq_false_iff, ne_eq, less_cons]
    have := has_le h
    rintro (h | ⟨_, h⟩)
    · omega
    · simp [this] at h
theorem has_take (l : List UInt8) (n : Nat) : has l (l.take n) = true := by
  unfold has
  rw [List.isPrefixOf_iff_prefix]
  exact List.take_prefix n l

/-- the least key above all that begin so -/
def succ : List UInt8 → Option (List UInt8)
  | [] => none
  | x :: l => match succ l with
    | some s => some (x :: s)
    | none => if x = 255 then none else some [x + 1]
theorem succ_top (l : List UInt8) : succ (l ++ [255]) = succ l := by
  induction l with
  | nil => rfl
  | cons x l ih => simp [succ, ih]
theorem succ_snoc (l : List UInt8) (b : UInt8) (h : b ≠ 255) : succ (l ++ [b]) = some (l ++ [b + 1]) := by
  induction l with
  | nil => simp [succ, h]
  | cons x l ih => simp [succ, ih]
theorem succ_cons_some {x : UInt8} {l s : List UInt8} (h : succ l = some s) : succ (x :: l) = some (x :: s) := by simp [succ, h]
theorem succ_cons_none {x : UInt8} {l : List UInt8} (h : succ l = none) : succ (x :: l) = if x = 255 then none else some [x + 1] := by simp [succ, h]
theorem of_none : ∀ {p k : List UInt8}, succ p = none → bytesLess k p = false → has k p = true
  | [], _, _, _ => rfl
  | x :: l, [], _, h => by simp [nil_less] at h
  | x :: l, y :: k, hs, h => by
    cases hl : succ l with
    | some s => simp [succ, hl] at hs
    | none =>
      rw [succ_cons_none hl] at hs
      have hx : x = 255 := by
        by_cases hx : x = 255
        · exact hx
        · simp [hx] at hs
      rw [Bool.eq_false_iff, ne_eq, less_cons] at h
      have h1 := u8_lt256 y
      have h2 := (u8_top x).1 hx
      have hy : x = y := (u8_eq x y).2 (by omega)
      subst hy
      have : bytesLess k l = false := by rw [Bool.eq_false_iff]; intro h'; exact h (.inr ⟨rfl, h'⟩)
      have := of_none hl this
      simp only [has] at this
      simp [has, List.isPrefixOf, this]
theorem of_some : ∀ {p k s : List UInt8}, succ p = some s → bytesLess k p = false → bytesLess k s = true → has k p = true
  | [], _, _, _, _, _ => rfl
  | x :: l, [], _, _, h, _ => by simp [nil_less] at h
  | x :: l, y :: k, s, hs, h, h' => by
    rw [Bool.eq_false_iff, ne_eq, less_cons] at h
    cases hl : succ l with
    | some t =>
      rw [succ_cons_some hl] at hs
      simp only [Option.some.injEq] at hs
      subst hs
      rw [less_cons] at h'
      have hy : x = y := (u8_eq x y).2 (by
        rcases h' with h' | ⟨e, _⟩
        · omega
        · rw [e])
      subst hy
      have h1 : bytesLess k l = false := by rw [Bool.eq_false_iff]; intro h'; exact h (.inr ⟨rfl, h'⟩)
      have h2 : bytesLess k t = true := by
        rcases h' with h' | ⟨_, h'⟩
        · omega
        · exact h'
      have := of_some hl h1 h2
      simp only [has] at this
      simp [has, List.isPrefixOf, this]
    | none =>
      rw [succ_cons_none hl] at hs
      by_cases hx : x = 255
      · simp [hx] at hs
      · simp only [hx, if_false, Option.some.injEq] at hs
        subst hs
        rw [less_cons, u8_succ x hx, less_nil] at h'
        have hy : x = y := (u8_eq x y).2 (by
          rcases h' with h' | ⟨_, h'⟩
          · omega
          · cases h')
        subst hy
        have h1 : bytesLess k l = false := by rw [Bool.eq_false_iff]; intro h'; exact h (.inr ⟨rfl, h'⟩)
        have := of_none hl h1
        simp only [has] at this
        simp [has, List.isPrefixOf, this]
theorem has_succ : ∀ {p k s : List UInt8}, succ p = some s → has k p = true → bytesLess k s = true
  | [], _, _, h, _ => by simp [succ] at h
  | x :: l, [], _, _, h => by simp [has] at h
  | x :: l, y :: k, s, hs, h => by
    simp only [has, List.isPrefixOf, Bool.and_eq_true, beq_iff_eq] at h
    obtain ⟨rfl, h⟩ := h
    cases hl : succ l with
    | some t =>
      rw [succ_cons_some hl] at hs
      simp only [Option.some.injEq] at hs
      subst hs
      rw [less_cons]
      exact .inr ⟨rfl, has_succ hl h⟩
    | none =>
      rw [succ_cons_none hl] at hs
      by_cases hx : x = 255
      · simp [hx] at hs
      · simp only [hx, if_false, Option.some.injEq] at hs
        subst hs
        rw [less_cons, u8_succ x hx]
        exact .inl (by omega)
/-- of a key that doesn't begin so: it is ahead of what is above all that do, just if it is ahead of the beginning -/
theorem beside {p k s : List UInt8} (hs : succ p = some s) (h : has k p = false) : bytesLess k s = bytesLess k p := by
  cases h1 : bytesLess k p
  · cases h2 : bytesLess k s
    · rfl
    · rw [of_some hs h1 h2] at h
      cases h
  · exact less_trans h1 (has_succ hs (by simp [has]))

/-- a range: from lo on, and, if it has an end, ahead of hi -/
structure Rng where
  lo : List UInt8
  hi : List UInt8
  e : Bool
def inR (r : Rng) (k : List UInt8) : Bool := !bytesLess k r.lo && (!r.e || bytesLess k r.hi)
def emptyR (r : Rng) : Bool := !inR r r.lo
theorem emptyR_eq (r : Rng) : emptyR r = (r.e && !bytesLess r.lo r.hi) := by
  simp [emptyR, inR, less_self]
def ofR (p : List UInt8) : Rng := ⟨p, (succ p).getD [], (succ p).isSome⟩
theorem in_of (p k : List UInt8) : inR (ofR p) k = has k p := by
  unfold inR ofR
  cases hs : succ p with
  | none =>
    simp only [Option.isSome_none, Bool.not_false, Bool.true_or, Bool.and_true]
    cases h : has k p
    · cases h' : bytesLess k p
      · rw [of_none hs h'] at h
        cases h
      · rfl
    · rw [has_le h]; rfl
  | some s =>
    simp only [Option.isSome_some, Bool.not_true, Bool.false_or, Option.getD_some]
    cases h : has k p
    · rw [beside hs h]
      cases bytesLess k p <;> rfl
    · rw [has_le h, has_succ hs h]; rfl

/-- what two ranges have both -/
def maxL (a b : List UInt8) : List UInt8 := if bytesLess a b then b else a
def minL (a b : List UInt8) : List UInt8 := if bytesLess b a then b else a
def rawCut (a b : Rng) : Rng := ⟨maxL a.lo b.lo, if a.e then (if b.e then minL a.hi b.hi else a.hi) else if b.e then b.hi else [], a.e || b.e⟩
def none' : Rng := ⟨[], [], true⟩
def cutR (a b : Rng) : Rng := if emptyR (rawCut a b) then none' else rawCut a b
theorem max_comm (a b : List UInt8) : maxL a b = maxL b a := by
  unfold maxL
  cases h1 : bytesLess a b <;> cases h2 : bytesLess b a
  · simpa using less_same h1 h2
  · rfl
  · rfl
  · rw [less_asymm h1] at h2; cases h2
theorem min_comm (a b : List UInt8) : minL a b = minL b a := by
  unfold minL
  cases h1 : bytesLess a b <;> cases h2 : bytesLess b a
  · simpa using less_same h1 h2
  · rfl
  · rfl
  · rw [less_asymm h1] at h2; cases h2
theorem le_max (k a b : List UInt8) : bytesLess k (maxL a b) = (bytesLess k a || bytesLess k b) := by
  unfold maxL
  cases h : bytesLess a b
  · cases hk : bytesLess k b
    · simp
    · simp [less_of_less_le hk h]
  · cases hk : bytesLess k a
    · simp
    · simp [less_trans hk h]
theorem lt_min (k a b : List UInt8) : bytesLess k (minL a b) = (bytesLess k a && bytesLess k b) := by
  unfold minL
  cases h : bytesLess b a
  · cases hk : bytesLess k a
    · simp [hk]
    · simp [hk, less_of_less_le hk h]
  · cases hk : bytesLess k b
    · simp [hk]
    · simp [hk, less_trans hk h]
theorem in_raw (a b : Rng) (k : List UInt8) : inR (rawCut a b) k = (inR a k && inR b k) := by
  obtain ⟨lo1, hi1, e1⟩ := a
  obtain ⟨lo2, hi2, e2⟩ := b
  cases e1 <;> cases e2 <;> simp only [inR, rawCut, le_max, Bool.false_eq_true, if_false, if_true, Bool.not_or, Bool.not_true, Bool.not_false, Bool.or_false, Bool.or_true, Bool.and_true, Bool.true_or, Bool.false_or, lt_min] <;>
    cases bytesLess k lo1 <;> cases bytesLess k lo2 <;> cases bytesLess k hi1 <;> cases bytesLess k hi2 <;> rfl
theorem in_empty {r : Rng} (h : emptyR r = true) (k : List UInt8) : inR r k = false := by
  rw [emptyR_eq, Bool.and_eq_true, Bool.not_eq_true'] at h
  unfold inR
  rw [h.1]
  cases h1 : bytesLess k r.lo
  · cases h2 : bytesLess k r.hi
    · rfl
    · rw [less_of_le_less h1 h2] at h
      simp at h
  · rfl
theorem in_cut (a b : Rng) (k : List UInt8) : inR (cutR a b) k = (inR a k && inR b k) := by
  rw [← in_raw]
  unfold cutR
  cases h : emptyR (rawCut a b)
  · rfl
  · rw [in_empty h]
    exact in_empty (by rfl) k
theorem raw_comm (a b : Rng) : rawCut a b = rawCut b a := by
  unfold rawCut
  rw [max_comm a.lo, min_comm a.hi, Bool.or_comm]
  cases a.e <;> cases b.e <;> rfl
theorem cut_comm (a b : Rng) : cutR a b = cutR b a := by
  unfold cutR
  rw [raw_comm]
theorem cut_twice (a b : Rng) : cutR (cutR a b) a = cutR a b := by
  cases h : emptyR (rawCut a b)
  · have e : cutR a b = rawCut a b := by simp [cutR, h]
    have e2 : rawCut (rawCut a b) a = rawCut a b := by
      obtain ⟨lo1, hi1, e1⟩ := a
      obtain ⟨lo2, hi2, e2⟩ := b
      have hm : maxL (maxL lo1 lo2) lo1 = maxL lo1 lo2 := by
        have : bytesLess (maxL lo1 lo2) lo1 = false := by
          unfold maxL
          cases h1 : bytesLess lo1 lo2
          · exact less_self _
          · exact less_asymm h1
        generalize maxL lo1 lo2 = m at *
        simp [maxL, this]
      have hn : minL (minL hi1 hi2) hi1 = minL hi1 hi2 := by
        have : bytesLess hi1 (minL hi1 hi2) = false := by
          unfold minL
          cases h1 : bytesLess hi2 hi1
          · exact less_self _
          · exact less_asymm h1
        generalize minL hi1 hi2 = m at *
        simp [minL, this]
      have hs : minL hi1 hi1 = hi1 := by simp [minL]
      cases e1 <;> cases e2 <;> simp [rawCut, hm, hn, hs]
    rw [e]
    unfold cutR
    rw [e2, h]
    rfl
  · have e : cutR a b = none' := by simp [cutR, h]
    rw [e]
    unfold cutR
    have : emptyR (rawCut none' a) = true := by
      rw [emptyR_eq]
      have : minL [] a.hi = [] := by simp [minL, less_nil]
      cases he : a.e <;> simp [rawCut, none', he, this, less_nil]
    rw [this]
    rfl

end Go.Proofs.Ytlpnnheopalhaaa.Key
