/-
  Plain facts of keys (lists of bytes): their order, beginnings, what is above all that begin so, ranges. No program is named here.
-/
import Derived.Below
import Derived.Lib.Strings
namespace Go.Proofs.Ytknjemmhcjihfaa.Key
open Go.Op (bytesLess)

theorem u8_lt (a b : UInt8) : a < b ↔ a.toNat < b.toNat := UInt8.lt_iff_toNat_lt
theorem u8_eq (a b : UInt8) : a = b ↔ a.toNat = b.toNat := UInt8.toNat_inj.symm
theorem u8_top (a : UInt8) : a = 255 ↔ a.toNat = 255 := u8_eq a 255
theorem u8_lt256 (a : UInt8) : a.toNat < 256 := a.toNat_lt
theorem u8_succ (a : UInt8) (h : a ≠ 255) : (a + 1).toNat = a.toNat + 1 := by
  have h1 := u8_lt256 a
  have h2 : a.toNat ≠ 255 := fun e => h ((u8_top a).2 e)
  rw [UInt8.toNat_add]
  have : (1 : UInt8).toNat = 1 := rfl
  rw [this]
  omega

theorem less_nil (a : List UInt8) : bytesLess a [] = false := by cases a <;> rfl
theorem nil_less (b : UInt8) (y : List UInt8) : bytesLess [] (b :: y) = true := rfl
theorem less_cons (a b : UInt8) (x y : List UInt8) : bytesLess (a :: x) (b :: y) = true ↔ a.toNat < b.toNat ∨ (a = b ∧ bytesLess x y = true) := by
  simp [bytesLess, u8_lt]
theorem less_self (a : List UInt8) : bytesLess a a = false := by
  induction a with
  | nil => rfl
  | cons x l ih =>
    rw [Bool.eq_false_iff]
    intro h
    rcases (less_cons _ _ _ _).1 h with h | ⟨_, h⟩
    · omega
    · simp [ih] at h
theorem less_trans : ∀ {a b c : List UInt8}, bytesLess a b = true → bytesLess b c = true → bytesLess a c = true
  | _, [], _, h, _ => by simp [less_nil] at h
  | _, _, [], _, h => by simp [less_nil] at h
  | [], _ :: _, _ :: _, _, _ => rfl
  | a :: x, b :: y, c :: z, h1, h2 => by
    rw [less_cons] at *
    rcases h1 with h1 | ⟨rfl, h1⟩
    · rcases h2 with h2 | ⟨rfl, h2⟩
      · exact .inl (by omega)
      · exact .inl h1
    · rcases h2 with h2 | ⟨rfl, h2⟩
      · exact .inl h2
      · exact .inr ⟨rfl, less_trans h1 h2⟩
theorem less_asymm {a b : List UInt8} (h : bytesLess a b = true) : bytesLess b a = false := by
  rw [Bool.eq_false_iff]
  intro h'
  have := less_trans h h'
  simp [less_self] at this
theorem less_same : ∀ {a b : List UInt8}, bytesLess a b = false → bytesLess b a = false → a = b
  | [], [], _, _ => rfl
  | [], _ :: _, h, _ => by simp [nil_less] at h
  | _ :: _, [], _, h => by simp [nil_less] at h
  | a :: x, b :: y, h1, h2 => by
    rw [Bool.eq_false_iff, ne_eq, less_cons] at h1 h2
    have hab : a = b := (u8_eq a b).2 (by omega)
    subst hab
    have e1 : bytesLess x y = false := by rw [Bool.eq_false_iff]; intro h; exact h1 (.inr ⟨rfl, h⟩)
    have e2 : bytesLess y x = false := by rw [Bool.eq_false_iff]; intro h; exact h2 (.inr ⟨rfl, h⟩)
    rw [less_same e1 e2]
/-- b isn't above a, c isn't above b: c isn't above a -/
theorem less_le_trans {a b c : List UInt8} (h1 : bytesLess a b = false) (h2 : bytesLess b c = false) : bytesLess a c = false := by
  rw [Bool.eq_false_iff]
  intro h
  cases hb : bytesLess b a
  · have e := less_same h1 hb
    subst e
    rw [h] at h2
    cases h2
  · rw [less_trans hb h] at h2
    cases h2
theorem less_of_less_le {a b c : List UInt8} (h1 : bytesLess a b = true) (h2 : bytesLess c b = false) : bytesLess a c = true := by
  cases hc : bytesLess a c
  · rw [less_le_trans hc h2] at h1
    cases h1
  · rfl
theorem less_of_le_less {a b c : List UInt8} (h1 : bytesLess b a = false) (h2 : bytesLess b c = true) : bytesLess a c = true := by
  cases hc : bytesLess a c
  · rw [less_le_trans h1 hc] at h2
    cases h2
  · rfl

/-- whether a key begins so -/
def has (k p : List UInt8) : Bool := p.isPrefixOf k
theorem has_le : ∀ {k p : List UInt8}, has k p = true → bytesLess k p = false
  | _, [], _ => less_nil _
  | [], _ :: _, h => by simp [has] at h
  | a :: x, b :: y, h => by
    simp only [has, List.isPrefixOf, Bool.and_eq_true, beq_iff_eq] at h
    obtain ⟨rfl, h⟩ := h
    rw [Bool.eq_false_iff, ne_eq, less_cons]
    have := has_le h
    rintro (h | ⟨_, h⟩)
    · omega
    · simp [this] at h
theorem has_take (l : List UInt8) (n : Nat) : has l (l.take n) = true := by
  unfold has
  rw [List.isPrefixOf_iff_prefix]
  exact List.take_prefix n l

/-- the least key above all that begin so -/
def succ : List UInt8 → Option (List UInt8)
  | [] => none
  | x :: l => match succ l with
    | some s => some (x :: s)
    | none => if x = 255 then none else some [x + 1]
theorem succ_top (l : List UInt8) : succ (l ++ [255]) = succ l := by
  induction l with
  | nil => rfl
  | cons x l ih => simp [succ, ih]
theorem succ_snoc (l : List UInt8) (b : UInt8) (h : b ≠ 255) : succ (l ++ [b]) = some (l ++ [b + 1]) := by
  induction l with
  | nil => simp [succ, h]
  | cons x l ih => simp [succ, ih]
theorem succ_cons_some {x : UInt8} {l s : List UInt8} (h : succ l = some s) : succ (x :: l) = some (x :: s) := by simp [succ, h]
theorem succ_cons_none {x : UInt8} {l : List UInt8} (h : succ l = none) : succ (x :: l) = if x = 255 then none else some [x + 1] := by simp [succ, h]
theorem of_none : ∀ {p k : List UInt8}, succ p = none → bytesLess k p = false → has k p = true
  | [], _, _, _ => rfl
  | x :: l, [], _, h => by simp [nil_less] at h
  | x :: l, y :: k, hs, h => by
    cases hl : succ l with
    | some s => simp [succ, hl] at hs
    | none =>
      rw [succ_cons_none hl] at hs
      have hx : x = 255 := by
        by_cases hx : x = 255
        · exact hx
        · simp [hx] at hs
      rw [Bool.eq_false_iff, ne_eq, less_cons] at h
      have h1 := u8_lt256 y
      have h2 := (u8_top x).1 hx
      have hy : x = y := (u8_eq x y).2 (by omega)
      subst hy
      have : bytesLess k l = false := by rw [Bool.eq_false_iff]; intro h'; exact h (.inr ⟨rfl, h'⟩)
      have := of_none hl this
      simp only [has] at this
      simp [has, List.isPrefixOf, this]
theorem of_some : ∀ {p k s : List UInt8}, succ p = some s → bytesLess k p = false → bytesLess k s = true → has k p = true
  | [], _, _, _, _, _ => rfl
  | x :: l, [], _, _, h, _ => by simp [nil_less] at h
  | x :: l, y :: k, s, hs, h, h' => by
    rw [Bool.eq_false_iff, ne_eq, less_cons] at h
    cases hl : succ l with
    | some t =>
      rw [succ_cons_some hl] at hs
      simp only [Option.some.injEq] at hs
      subst hs
      rw [less_cons] at h'
      have hy : x = y := (u8_eq x y).2 (by
        rcases h' with h' | ⟨e, _⟩
        · omega
        · rw [e])
      subst hy
      have h1 : bytesLess k l = false := by rw [Bool.eq_false_iff]; intro h'; exact h (.inr ⟨rfl, h'⟩)
      have h2 : bytesLess k t = true := by
        rcases h' with h' | ⟨_, h'⟩
        · omega
        · exact h'
      have := of_some hl h1 h2
      simp only [has] at this
      simp [has, List.isPrefixOf, this]
    | none =>
      rw [succ_cons_none hl] at hs
      by_cases hx : x = 255
      · simp [hx] at hs
      · simp only [hx, if_false, Option.some.injEq] at hs
        subst hs
        rw [less_cons, u8_succ x hx, less_nil] at h'
        have hy : x = y := (u8_eq x y).2 (by
          rcases h' with h' | ⟨_, h'⟩
          · omega
          · cases h')
        subst hy
        have h1 : bytesLess k l = false := by rw [Bool.eq_false_iff]; intro h'; exact h (.inr ⟨rfl, h'⟩)
        have := of_none hl h1
        simp only [has] at this
        simp [has, List.isPrefixOf, this]
theorem has_succ : ∀ {p k s : List UInt8}, succ p = some s → has k p = true → bytesLess k s = true
  | [], _, _, h, _ => by simp [succ] at h
  | x :: l, [], _, _, h => by simp [has] at h
  | x :: l, y :: k, s, hs, h => by
    simp only [has, List.isPrefixOf, Bool.and_eq_true, beq_iff_eq] at h
    obtain ⟨rfl, h⟩ := h
    cases hl : succ l with
    | some t =>
      rw [succ_cons_some hl] at hs
      simp only [Option.some.injEq] at hs
      subst hs
      rw [less_cons]
      exact .inr ⟨rfl, has_succ hl h⟩
    | none =>
      rw [succ_cons_none hl] at hs
      by_cases hx : x = 255
      · simp [hx] at hs
      · simp only [hx, if_false, Option.some.injEq] at hs
        subst hs
        rw [less_cons, u8_succ x hx]
        exact .inl (by omega)
/-- of a key that doesn't begin so: it is ahead of what is above all that do, just if it is ahead of the beginning -/
theorem beside {p k s : List UInt8} (hs : succ p = some s) (h : has k p = false) : bytesLess k s = bytesLess k p := by
  cases h1 : bytesLess k p
  · cases h2 : bytesLess k s
    · rfl
    · rw [of_some hs h1 h2] at h
      cases h
  · exact less_trans h1 (has_succ hs (by simp [has]))

/-- a range: from lo on, and, if it has an end, ahead of hi -/
structure Rng where
  lo : List UInt8
  hi : List UInt8
  e : Bool
def inR (r : Rng) (k : List UInt8) : Bool := !bytesLess k r.lo && (!r.e || bytesLess k r.hi)
def emptyR (r : Rng) : Bool := !inR r r.lo
theorem emptyR_eq (r : Rng) : emptyR r = (r.e && !bytesLess r.lo r.hi) := by
  simp [emptyR, inR, less_self]
def ofR (p : List UInt8) : Rng := ⟨p, (succ p).getD [], (succ p).isSome⟩
theorem in_of (p k : List UInt8) : inR (ofR p) k = has k p := by
  unfold inR ofR
  cases hs : succ p with
  | none =>
    simp only [Option.isSome_none, Bool.not_false, Bool.true_or, Bool.and_true]
    cases h : has k p
    · cases h' : bytesLess k p
      · rw [of_none hs h'] at h
        cases h
      · rfl
    · rw [has_le h]; rfl
  | some s =>
    simp only [Option.isSome_some, Bool.not_true, Bool.false_or, Option.getD_some]
    cases h : has k p
    · rw [beside hs h]
      cases bytesLess k p <;> rfl
    · rw [has_le h, has_succ hs h]; rfl

/-- what two ranges have both -/
def maxL (a b : List UInt8) : List UInt8 := if bytesLess a b then b else a
def minL (a b : List UInt8) : List UInt8 := if bytesLess b a then b else a
def rawCut (a b : Rng) : Rng := ⟨maxL a.lo b.lo, if a.e then (if b.e then minL a.hi b.hi else a.hi) else if b.e then b.hi else [], a.e || b.e⟩
def none' : Rng := ⟨[], [], true⟩
def cutR (a b : Rng) : Rng := if emptyR (rawCut a b) then none' else rawCut a b
theorem max_comm (a b : List UInt8) : maxL a b = maxL b a := by
  unfold maxL
  cases h1 : bytesLess a b <;> cases h2 : bytesLess b a
  · simpa using less_same h1 h2
  · rfl
  · rfl
  · rw [less_asymm h1] at h2; cases h2
theorem min_comm (a b : List UInt8) : minL a b = minL b a := by
  unfold minL
  cases h1 : bytesLess a b <;> cases h2 : bytesLess b a
  · simpa using less_same h1 h2
  · rfl
  · rfl
  · rw [less_asymm h1] at h2; cases h2
theorem le_max (k a b : List UInt8) : bytesLess k (maxL a b) = (bytesLess k a || bytesLess k b) := by
  unfold maxL
  cases h : bytesLess a b
  · cases hk : bytesLess k b
    · simp
    · simp [less_of_less_le hk h]
  · cases hk : bytesLess k a
    · simp
    · simp [less_trans hk h]
theorem lt_min (k a b : List UInt8) : bytesLess k (minL a b) = (bytesLess k a && bytesLess k b) := by
  unfold minL
  cases h : bytesLess b a
  · cases hk : bytesLess k a
    · simp [hk]
    · simp [hk, less_of_less_le hk h]
  · cases hk : bytesLess k b
    · simp [hk]
    · simp [hk, less_trans hk h]
theorem in_raw (a b : Rng) (k : List UInt8) : inR (rawCut a b) k = (inR a k && inR b k) := by
  obtain ⟨lo1, hi1, e1⟩ := a
  obtain ⟨lo2, hi2, e2⟩ := b
  cases e1 <;> cases e2 <;> simp only [inR, rawCut, le_max, Bool.false_eq_true, if_false, if_true, Bool.not_or, Bool.not_true, Bool.not_false, Bool.or_false, Bool.or_true, Bool.and_true, Bool.true_or, Bool.false_or, lt_min] <;>
    cases bytesLess k lo1 <;> cases bytesLess k lo2 <;> cases bytesLess k hi1 <;> cases bytesLess k hi2 <;> rfl
theorem in_empty {r : Rng} (h : emptyR r = true) (k : List UInt8) : inR r k = false := by
  rw [emptyR_eq, Bool.and_eq_true, Bool.not_eq_true'] at h
  unfold inR
  rw [h.1]
  cases h1 : bytesLess k r.lo
  · cases h2 : bytesLess k r.hi
    · rfl
    · rw [less_of_le_less h1 h2] at h
      simp at h
  · rfl
theorem in_cut (a b : Rng) (k : List UInt8) : inR (cutR a b) k = (inR a k && inR b k) := by
  rw [← in_raw]
  unfold cutR
  cases h : emptyR (rawCut a b)
  · rfl
  · rw [in_empty h]
    exact in_empty (by rfl) k
theorem raw_comm (a b : Rng) : rawCut a b = rawCut b a := by
  unfold rawCut
  rw [max_comm a.lo, min_comm a.hi, Bool.or_comm]
  cases a.e <;> cases b.e <;> rfl
theorem cut_comm (a b : Rng) : cutR a b = cutR b a := by
  unfold cutR
  rw [raw_comm]
theorem cut_twice (a b : Rng) : cutR (cutR a b) a = cutR a b := by
  cases h : emptyR (rawCut a b)
  · have e : cutR a b = rawCut a b := by simp [cutR, h]
    have e2 : rawCut (rawCut a b) a = rawCut a b := by
      obtain ⟨lo1, hi1, e1⟩ := a
      obtain ⟨lo2, hi2, e2⟩ := b
      have hm : maxL (maxL lo1 lo2) lo1 = maxL lo1 lo2 := by
        have : bytesLess (maxL lo1 lo2) lo1 = false := by
          unfold maxL
          cases h1 : bytesLess lo1 lo2
          · exact less_self _
          · exact less_asymm h1
        generalize maxL lo1 lo2 = m at *
        simp [maxL, this]
      have hn : minL (minL hi1 hi2) hi1 = minL hi1 hi2 := by
        have : bytesLess hi1 (minL hi1 hi2) = false := by
          unfold minL
          cases h1 : bytesLess hi2 hi1
          · exact less_self _
          · exact less_asymm h1
        generalize minL hi1 hi2 = m at *
        simp [minL, this]
      have hs : minL hi1 hi1 = hi1 := by simp [minL]
      cases e1 <;> cases e2 <;> simp [rawCut, hm, hn, hs]
    rw [e]
    unfold cutR
    rw [e2, h]
    rfl
  · have e : cutR a b = none' := by simp [cutR, h]
    rw [e]
    unfold cutR
    have : emptyR (rawCut none' a) = true := by
      rw [emptyR_eq]
      have : minL [] a.hi = [] := by simp [minL, less_nil]
      cases he : a.e <;> simp [rawCut, none', he, this, less_nil]
    rw [this]
    rfl

/-- the longest beginning of both -/
def common : List UInt8 → List UInt8 → List UInt8
  | x :: a, y :: b => if x = y then x :: common a b else []
  | _, _ => []
theorem common_nil (a : List UInt8) : common a [] = [] := by cases a <;> rfl
theorem common_len : ∀ (a b : List UInt8), (common a b).length ≤ a.length ∧ (common a b).length ≤ b.length
  | [], _ => by simp [common]
  | _ :: _, [] => by simp [common]
  | x :: a, y :: b => by
    have := common_len a b
    unfold common
    split <;> simp <;> omega
theorem common_take : ∀ (a b : List UInt8), common a b = a.take (common a b).length
  | [], _ => by simp [common]
  | _ :: _, [] => by simp [common]
  | x :: a, y :: b => by
    unfold common
    split
    · simp only [List.length_cons, List.take_succ_cons]
      rw [← common_take a b]
    · rfl
theorem common_go : ∀ (n : Nat) (a b : List UInt8) (_ : n ≤ (common a b).length) (h1 : n < a.length) (h2 : n < b.length), (a[n] = b[n] → n + 1 ≤ (common a b).length) ∧ (a[n] ≠ b[n] → (common a b).length = n)
  | _, [], _, _, h1, _ => by simp at h1
  | _, _ :: _, [], _, _, h2 => by simp at h2
  | 0, x :: a, y :: b, _, _, _ => by
    simp only [List.getElem_cons_zero]
    unfold common
    refine ⟨fun h => ?_, fun h => ?_⟩ <;> simp [h]
  | n + 1, x :: a, y :: b, h, h1, h2 => by
    unfold common at h ⊢
    split at h
    · rename_i e
      simp only [e, if_true, List.length_cons, List.getElem_cons_succ] at *
      have := common_go n a b (by omega) (by simp at h1; omega) (by simp at h2; omega)
      exact ⟨fun h => by have := this.1 h; omega, fun h => by have := this.2 h; omega⟩
    · simp at h
theorem common_has : ∀ (n : Nat) (a b : List UInt8), n ≤ a.length → (has b (a.take n) = true ↔ n ≤ (common a b).length)
  | 0, _, _, _ => by simp [has]
  | n + 1, [], _, h => by simp at h
  | n + 1, x :: a, [], _ => by simp [has, common]
  | n + 1, x :: a, y :: b, h => by
    have ih := common_has n a b (by simp at h; omega)
    simp only [List.take_succ_cons, has, List.isPrefixOf, Bool.and_eq_true, beq_iff_eq]
    unfold common
    split
    · rename_i e
      simp only [e, true_and, List.length_cons]
      have := ih
      simp only [has] at this
      rw [this]
      omega
    · rename_i e
      simp [e]
/-- what is between two keys -/
def between (a b : List UInt8) : List UInt8 := if bytesLess a b then b.take ((common a b).length + 1) else []
theorem common_less : ∀ {a b : List UInt8}, bytesLess a b = true → (common a b).length < b.length ∧ bytesLess a (b.take ((common a b).length + 1)) = true
  | _, [], h => by simp [less_nil] at h
  | [], y :: b, _ => by simp [common, nil_less]
  | x :: a, y :: b, h => by
    rw [less_cons] at h
    unfold common
    rcases h with h | ⟨rfl, h⟩
    · have : x ≠ y := fun e => by subst e; omega
      simp only [this, if_false, List.length_nil, Nat.zero_add, List.take_succ_cons, List.take_zero, List.length_cons]
      exact ⟨by omega, (less_cons _ _ _ _).2 (.inl h)⟩
    · have ih := common_less h
      simp only [if_true, List.length_cons, List.take_succ_cons]
      exact ⟨by omega, (less_cons _ _ _ _).2 (.inr ⟨rfl, ih.2⟩)⟩
theorem common_part : ∀ (n : Nat) {a b : List UInt8}, n ≤ (common a b).length → bytesLess a (b.take n) = false
  | 0, _, _, _ => less_nil _
  | n + 1, [], b, h => by simp [common] at h
  | n + 1, x :: a, [], h => by simp [common] at h
  | n + 1, x :: a, y :: b, h => by
    unfold common at h
    split at h
    · rename_i e
      subst e
      have := common_part n (a := a) (b := b) (by simp at h; omega)
      rw [List.take_succ_cons, Bool.eq_false_iff, ne_eq, less_cons]
      rintro (h | ⟨_, h⟩)
      · omega
      · simp [this] at h
    · simp at h
theorem less_part {a b : List UInt8} (n : Nat) (h : bytesLess a b = false) : bytesLess a (b.take n) = false := less_le_trans h (has_le (has_take b n))
/-- nothing stands between a key and the next one -/
theorem next_above (a : List UInt8) : bytesLess a (a ++ [0]) = true := by
  induction a with
  | nil => rfl
  | cons x a ih => exact (less_cons _ _ _ _).2 (.inr ⟨rfl, ih⟩)
theorem next_least : ∀ {a b : List UInt8}, bytesLess a b = true → bytesLess b (a ++ [0]) = false
  | _, [], h => by simp [less_nil] at h
  | [], y :: b, _ => by
    rw [Bool.eq_false_iff, ne_eq, List.nil_append, less_cons, less_nil]
    rintro (h | ⟨_, h⟩)
    · simp at h
    · cases h
  | x :: a, y :: b, h => by
    rw [less_cons] at h
    rw [Bool.eq_false_iff, ne_eq, List.cons_append, less_cons]
    rcases h with h | ⟨rfl, h⟩
    · rintro (h' | ⟨rfl, _⟩) <;> omega
    · rintro (h' | ⟨_, h'⟩)
      · omega
      · rw [next_least h] at h'
        cases h'

/-- of how many bytes what all keys of a range begin with is: of one without an end, and of one with an end -/
def tops : List UInt8 → Nat
  | [] => 0
  | x :: l => if x = 255 then tops l + 1 else 0
def und : List UInt8 → List UInt8 → Nat
  | x :: lo, y :: hi => if x = y then und lo hi + 1 else if x + 1 = y ∧ hi = [] then tops lo + 1 else 0
  | _, _ => 0
def underN (r : Rng) : Nat := if emptyR r then 0 else if r.e then und r.lo r.hi else tops r.lo
def under (r : Rng) : List UInt8 := r.lo.take (underN r)
/-- whether all keys of a range begin with so many bytes of its first key -/
def allN (r : Rng) (n : Nat) : Bool := match succ (r.lo.take n) with
  | none => true
  | some s => r.e && !bytesLess s r.hi
theorem tops_le : ∀ l : List UInt8, tops l ≤ l.length
  | [] => Nat.le_refl _
  | x :: l => by
    have := tops_le l
    unfold tops
    split <;> simp <;> omega
theorem tops_none : ∀ (l : List UInt8) (n : Nat), n ≤ l.length → (succ (l.take n) = none ↔ n ≤ tops l)
  | _, 0, _ => by simp [succ]
  | [], _ + 1, h => by simp at h
  | x :: l, n + 1, h => by
    have ih := tops_none l n (by simp at h; omega)
    rw [List.take_succ_cons]
    unfold tops
    cases hs : succ (l.take n) with
    | some s =>
      rw [succ_cons_some hs]
      have : ¬ n ≤ tops l := fun h => by rw [ih.2 h] at hs; cases hs
      split <;> simp <;> omega
    | none =>
      rw [succ_cons_none hs]
      have := ih.1 hs
      split
      · simp; omega
      · simp
theorem und_le : ∀ lo hi : List UInt8, und lo hi ≤ lo.length
  | [], _ => by simp [und]
  | _ :: _, [] => by simp [und]
  | x :: lo, y :: hi => by
    have h1 := und_le lo hi
    have h2 := tops_le lo
    unfold und
    split
    · simp; omega
    · split <;> simp <;> omega
theorem und_all : ∀ (lo hi : List UInt8) (n : Nat), bytesLess lo hi = true → n ≤ lo.length → (allN ⟨lo, hi, true⟩ n = true ↔ n ≤ und lo hi)
  | _, _, 0, _, _ => by simp [allN, succ]
  | _, [], _, h, _ => by simp [less_nil] at h
  | [], _, _ + 1, _, h => by simp at h
  | x :: lo, y :: hi, n + 1, h, hn => by
    rw [less_cons] at h
    have hn' : n ≤ lo.length := by simp at hn; omega
    have ht := tops_none lo n hn'
    unfold allN
    simp only [List.take_succ_cons, Bool.true_and]
    unfold und
    by_cases hxy : x = y
    · subst hxy
      have h' : bytesLess lo hi = true := by
        rcases h with h | ⟨_, h⟩
        · omega
        · exact h
      have ih := und_all lo hi n h' hn'
      unfold allN at ih
      simp only [if_true, Nat.add_le_add_iff_right]
      rw [← ih]
      simp only [Bool.true_and]
      cases hs : succ (lo.take n) with
      | none =>
        rw [succ_cons_none hs]
        by_cases hx : x = 255
        · simp [hx]
        · simp only [hx, if_false, iff_true, Bool.not_eq_true']
          rw [Bool.eq_false_iff, ne_eq, less_cons, u8_succ x hx]
          rintro (h | ⟨h, _⟩)
          · omega
          · have := congrArg UInt8.toNat h
            rw [u8_succ x hx] at this
            omega
      | some s =>
        rw [succ_cons_some hs]
        simp only [Bool.not_eq_true']
        rw [Bool.eq_false_iff, Bool.eq_false_iff, ne_eq, ne_eq, less_cons]
        simp
    · have hlt : x.toNat < y.toNat := by
        rcases h with h | ⟨h, _⟩
        · exact h
        · exact absurd h hxy
      have hy := u8_lt256 y
      have hx : x ≠ 255 := fun e => by have := (u8_top x).1 e; omega
      simp only [hxy, if_false]
      cases hs : succ (lo.take n) with
      | none =>
        have hnt := ht.1 hs
        rw [succ_cons_none hs]
        simp only [hx, if_false, Bool.not_eq_true']
        rw [Bool.eq_false_iff, ne_eq, less_cons, u8_succ x hx]
        by_cases hc : x + 1 = y ∧ hi = []
        · rw [if_pos hc]
          obtain ⟨rfl, rfl⟩ := hc
          rw [u8_succ x hx]
          simp [less_nil]
          omega
        · rw [if_neg hc]
          simp only [Nat.le_zero_eq, Nat.add_one_ne_zero, iff_false, Classical.not_not]
          by_cases he : x + 1 = y
          · refine .inr ⟨he, ?_⟩
            cases hi with
            | nil => exact absurd ⟨he, rfl⟩ hc
            | cons _ _ => rfl
          · refine .inl ?_
            have : x.toNat + 1 ≠ y.toNat := fun e => he ((u8_eq _ _).2 (by rw [u8_succ x hx]; exact e))
            omega
      | some s =>
        have hnt : ¬ n ≤ tops lo := fun h => by rw [ht.2 h] at hs; cases hs
        rw [succ_cons_some hs]
        simp only [Bool.not_eq_true']
        rw [Bool.eq_false_iff, ne_eq, less_cons]
        split <;> simp [hlt] <;> omega
theorem underN_le (r : Rng) : underN r ≤ r.lo.length := by
  unfold underN
  split
  · omega
  · split
    · exact und_le _ _
    · exact tops_le _
/-- just those beginnings of the first key are what all keys of a range begin with that aren't longer -/
theorem under_all (r : Rng) (h : emptyR r = false) (n : Nat) (hn : n ≤ r.lo.length) : allN r n = true ↔ n ≤ underN r := by
  unfold underN
  rw [h]
  obtain ⟨lo, hi, e⟩ := r
  rw [emptyR_eq] at h
  simp only [Bool.false_eq_true, if_false]
  cases e
  · simp only [Bool.false_eq_true, if_false]
    rw [← tops_none lo n hn]
    unfold allN
    simp only [Bool.false_and]
    cases succ (lo.take n) <;> simp
  · simp only [Bool.true_and, Bool.not_eq_false'] at h
    simp only [if_true]
    exact und_all lo hi n h hn
/-- the greatest number up to n at which all keys of a range begin so -/
def bestN (r : Rng) : Nat → Nat
  | 0 => 0
  | n + 1 => if allN r (n + 1) then n + 1 else bestN r n
theorem best_under (r : Rng) (h : emptyR r = false) : bestN r r.lo.length = underN r := by
  have key : ∀ n, n ≤ r.lo.length → bestN r n = min n (underN r) := by
    intro n
    induction n with
    | zero => intro _; simp [bestN]
    | succ n ih =>
      intro hn
      have := under_all r h (n + 1) hn
      unfold bestN
      split
      · rename_i e
        have := this.1 e
        omega
      · rename_i e
        have h' : ¬ n + 1 ≤ underN r := fun h => e (this.2 h)
        rw [ih (by omega)]
        omega
  have := underN_le r
  rw [key _ (Nat.le_refl _)]
  omega
/-- each key of a range begins with what is said of all of them -/
theorem under_in {r : Rng} {k : List UInt8} (h : inR r k = true) : has k (under r) = true := by
  cases he : emptyR r
  · have ha := (under_all r he (underN r) (underN_le r)).2 (Nat.le_refl _)
    rw [← in_of]
    unfold under
    unfold allN at ha
    unfold inR at h ⊢
    simp only [Bool.and_eq_true, Bool.not_eq_true'] at h
    have h1 : bytesLess k (r.lo.take (underN r)) = false := less_le_trans h.1 (has_le (has_take _ _))
    simp only [ofR, h1, Bool.not_false, Bool.true_and]
    cases hs : succ (r.lo.take (underN r)) with
    | none => simp
    | some s =>
      rw [hs] at ha
      simp only [Bool.and_eq_true, Bool.not_eq_true'] at ha
      have h2 := h.2
      rw [ha.1] at h2
      simp only [Bool.not_true, Bool.false_or] at h2
      simp [less_of_less_le h2 ha.2]
  · rw [in_empty he] at h
    cases h
theorem under_empty {r : Rng} (h : emptyR r = true) : under r = [] := by simp [under, underN, h]
/-- where that is shorter than the first key, not all begin with one byte more -/
theorem under_less {r : Rng} (h : emptyR r = false) (hl : underN r < r.lo.length) : ∃ s, succ (r.lo.take (underN r + 1)) = some s ∧ inR r s = true := by
  have ha : ¬ allN r (underN r + 1) = true := fun e => by have := (under_all r h (underN r + 1) (by omega)).1 e; omega
  unfold allN at ha
  cases hs : succ (r.lo.take (underN r + 1)) with
  | none => rw [hs] at ha; simp at ha
  | some s =>
    rw [hs] at ha
    refine ⟨s, rfl, ?_⟩
    have h1 := less_asymm (has_succ hs (has_take r.lo (underN r + 1)))
    unfold inR
    rw [h1]
    simp only [Bool.and_eq_true, Bool.not_eq_true'] at ha
    cases he : r.e
    · rfl
    · cases hx : bytesLess s r.hi
      · exact absurd ⟨he, hx⟩ ha
      · rfl
/-- what the loop over greatest bytes meets -/
theorem tops_at : ∀ (l : List UInt8) (j : Nat) (h : j < l.length), (j < tops l → l[j] = 255) ∧ (j = tops l → l[j] ≠ 255)
  | [], _, h => by simp at h
  | x :: l, 0, _ => by
    unfold tops
    split
    · rename_i e
      exact ⟨fun _ => e, fun h => by omega⟩
    · rename_i e
      exact ⟨fun h => by omega, fun _ => e⟩
  | x :: l, j + 1, h => by
    have ih := tops_at l j (by simp at h; omega)
    unfold tops
    rw [List.getElem_cons_succ]
    split
    · exact ⟨fun h => ih.1 (by omega), fun h => ih.2 (by omega)⟩
    · exact ⟨fun h => by omega, fun h => by omega⟩
/-- how the program comes to it: the first key is a beginning of the end .. -/
theorem und_whole : ∀ {lo hi : List UInt8}, bytesLess lo hi = true → (common lo hi).length = lo.length → und lo hi = lo.length
  | [], _, _, _ => by simp [und]
  | _ :: _, [], h, _ => by simp [less_nil] at h
  | x :: lo, y :: hi, h, hc => by
    unfold common at hc
    split at hc
    · rename_i e
      subst e
      have h' : bytesLess lo hi = true := by
        rcases (less_cons _ _ _ _).1 h with h | ⟨_, h⟩
        · omega
        · exact h
      have := und_whole h' (by simpa using hc)
      simp [und, this]
    · simp at hc
/-- .. or they part -/
theorem und_part : ∀ {lo hi : List UInt8}, bytesLess lo hi = true → (common lo hi).length < lo.length →
    ∃ s, succ (lo.take ((common lo hi).length + 1)) = some s ∧ (s = hi → und lo hi = (common lo hi).length + 1 + tops (lo.drop ((common lo hi).length + 1))) ∧ (s ≠ hi → und lo hi = (common lo hi).length)
  | [], _, _, h => by simp at h
  | _ :: _, [], h, _ => by simp [less_nil] at h
  | x :: lo, y :: hi, h, hc => by
    by_cases hxy : x = y
    · subst hxy
      have h' : bytesLess lo hi = true := by
        rcases (less_cons _ _ _ _).1 h with h | ⟨_, h⟩
        · omega
        · exact h
      have e : common (x :: lo) (x :: hi) = x :: common lo hi := by simp [common]
      rw [e] at hc ⊢
      simp only [List.length_cons] at hc ⊢
      obtain ⟨s, h1, h2, h3⟩ := und_part h' (by omega)
      refine ⟨x :: s, ?_, fun hs => ?_, fun hs => ?_⟩
      · rw [List.take_succ_cons]
        exact succ_cons_some h1
      · simp only [List.cons.injEq, true_and] at hs
        have := h2 hs
        simp only [und, if_true, List.drop_succ_cons, this]
        omega
      · have hs' : s ≠ hi := fun e => hs (by rw [e])
        simp [und, h3 hs']
    · have e : common (x :: lo) (y :: hi) = [] := by simp [common, hxy]
      have hlt : x.toNat < y.toNat := by
        rcases (less_cons _ _ _ _).1 h with h | ⟨h, _⟩
        · exact h
        · exact absurd h hxy
      have hy := u8_lt256 y
      have hx : x ≠ 255 := fun e => by have := (u8_top x).1 e; omega
      rw [e]
      refine ⟨[x + 1], ?_, fun hs => ?_, fun hs => ?_⟩
      · simp [succ, hx]
      · simp only [List.cons.injEq] at hs
        simp only [und, hxy, if_false, hs.1, ← hs.2, and_self, if_true, List.length_nil, Nat.zero_add, List.drop_succ_cons, List.drop_zero]
        omega
      · have : ¬ (x + 1 = y ∧ hi = []) := fun h => hs (by rw [h.1, h.2])
        simp [und, hxy, this]
end Go.Proofs.Ytknjemmhcjihfaa.Key
