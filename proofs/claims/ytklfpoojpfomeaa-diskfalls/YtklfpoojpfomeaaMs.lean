/-
  Plain facts of keys (lists of bytes): their order, beginnings, what is above all that begin so, ranges. No program is named here.
  Bytes in memory ('Bytes'), rows of bytes of the call's own ('Own'), and what an append to such a row leaves; strings made of bytes.
  Contracts of Has and Next, the program's and the document's.
  Contracts of Succ, the program's.
  Contracts of In and Of, the program's and the document's.
  Messages: as values, in blocks, in slices that came in, and in rows of the call's own.
  Contracts of About and Speaks, the program's and the document's.
  Rows of messages of the call's own; contract of choose: the messages of which something holds, in order.
  Contract of Last, the document's.
  Contract of Last, the program's: it goes back through a slice by the library's slices.Backward.
-/
import Derived.Below
import Derived.Lib.Strings
import Derived.Test.YtklfpoojpfomeaaRows
import Derived.WalkKit
import Derived.WalkSpells
import Derived.WalkLawsBesides
import Derived.Lib.SlBytesConst
import Derived.Lib.AppendStr
import Derived.Laws.AppendOwnNone
import Derived.Laws.BytesArg
import Derived.Lib.IndexBytes
import Derived.Deep.QuietTactic
import Derived.BigQuiet
import Derived.Deep.Slices
import Derived.ChangeArms
import Derived.Deep.RegionWith
import Derived.RangeFuncNested
import Derived.RangeFuncBound
import Derived.RangeFuncCalls
import Derived.RangeFuncLeaves
import Derived.Shelf.Abstract
import Derived.Shelf.RegionOpen
import Derived.OwnWalkIn
import Derived.TacticsInMore
import Derived.LoopNIn
import Derived.LoopIn
namespace Go.Proofs.Ytklfpoojpfomeaa.Key
open Go.Op (bytesLess)

theorem u8_lt (a b : UInt8) : a < b ↔ a.toNat < b.toNat := UInt8.lt_iff_toNat_lt
theorem u8_eq (a b : UInt8) : a = b ↔ a.toNat = b.toNat := UInt8.toNat_inj.symm
theorem u8_top (a : UInt8) : a = 255 ↔ a.toNat = 255 := u8_eq a 255
theorem u8_lt256 (a : UInt8) : a.toNat < 256 := a.toNat_lt
theorem u8_succ (a : UInt8) (h : a ≠ 255) : (a + 1).toNat = a.toNat + 1 := by
  have h1 := u8_lt256 a
  have h2 : a.toNat ≠ 255 := fun e => h ((u8_top a).2 e)
  rw [UInt8.toNat_add]
  have : (1 : UInt8).toNat = 1 := rfl
  rw [this]
  omega

theorem less_nil (a : List UInt8) : bytesLess a [] = false := by cases a <;> rfl
theorem nil_less (b : UInt8) (y : List UInt8) : bytesLess [] (b :: y) = true := rfl
theorem less_cons (a b : UInt8) (x y : List UInt8) : bytesLess (a :: x) (b :: y) = true ↔ a.toNat < b.toNat ∨ (a = b ∧ bytesLess x y = true) := by
  simp [bytesLess, u8_lt]
theorem less_self (a : List UInt8) : bytesLess a a = false := by
  induction a with
  | nil => rfl
  | cons x l ih =>
    rw [Bool.eq_false_iff]
    intro h
    rcases (less_cons _ _ _ _).1 h with h | ⟨_, h⟩
    · omega
    · simp [ih] at h
theorem less_trans : ∀ {a b c : List UInt8}, bytesLess a b = true → bytesLess b c = true → bytesLess a c = true
  | _, [], _, h, _ => by simp [less_nil] at h
  | _, _, [], _, h => by simp [less_nil] at h
  | [], _ :: _, _ :: _, _, _ => rfl
  | a :: x, b :: y, c :: z, h1, h2 => by
    rw [less_cons] at *
    rcases h1 with h1 | ⟨rfl, h1⟩
    · rcases h2 with h2 | ⟨rfl, h2⟩
      · exact .inl (by omega)
      · exact .inl h1
    · rcases h2 with h2 | ⟨rfl, h2⟩
      · exact .inl h2
      · exact .inr ⟨rfl, less_trans h1 h2⟩
theorem less_asymm {a b : List UInt8} (h : bytesLess a b = true) : bytesLess b a = false := by
  rw [Bool.eq_false_iff]
  intro h'
  have := less_trans h h'
  simp [less_self] at this
theorem less_same : ∀ {a b : List UInt8}, bytesLess a b = false → bytesLess b a = false → a = b
  | [], [], _, _ => rfl
  | [], _ :: _, h, _ => by simp [nil_less] at h
  | _ :: _, [], _, h => by simp [nil_less] at h
  | a :: x, b :: y, h1, h2 => by
    rw [Bool.eq_false_iff, ne_eq, less_cons] at h1 h2
    have hab : a = b := (u8_eq a b).2 (by omega)
    subst hab
    have e1 : bytesLess x y = false := by rw [Bool.eq_false_iff]; intro h; exact h1 (.inr ⟨rfl, h⟩)
    have e2 : bytesLess y x = false := by rw [Bool.eq_false_iff]; intro h; exact h2 (.inr ⟨rfl, h⟩)
    rw [less_same e1 e2]
/-- b isn't above a, c isn't above b: c isn't above a -/
theorem less_le_trans {a b c : List UInt8} (h1 : bytesLess a b = false) (h2 : bytesLess b c = false) : bytesLess a c = false := by
  rw [Bool.eq_false_iff]
  intro h
  cases hb : bytesLess b a
  · have e := less_same h1 hb
    subst e
    rw [h] at h2
    cases h2
  · rw [less_trans hb h] at h2
    cases h2
theorem less_of_less_le {a b c : List UInt8} (h1 : bytesLess a b = true) (h2 : bytesLess c b = false) : bytesLess a c = true := by
  cases hc : bytesLess a c
  · rw [less_le_trans hc h2] at h1
    cases h1
  · rfl
theorem less_of_le_less {a b c : List UInt8} (h1 : bytesLess b a = false) (h2 : bytesLess b c = true) : bytesLess a c = true := by
  cases hc : bytesLess a c
  · rw [less_le_trans h1 hc] at h2
    cases h2
  · rfl

/-- whether a key begins so -/
def has (k p : List UInt8) : Bool := p.isPrefixOf k
theorem has_le : ∀ {k p : List UInt8}, has k p = true → bytesLess k p = false
  | _, [], _ => less_nil _
  | [], _ :: _, h => by simp [has] at h
  | a :: x, b :: y, h => by
    simp only [has, List.isPrefixOf, Bool.and_eq_true, beq_iff_eq] at h
    obtain ⟨rfl, h⟩ := h
    rw [Bool.eq_false_iff, ne_eq, less_cons]
    have := has_le h
    rintro (h | ⟨_, h⟩)
    · omega
    · simp [this] at h
theorem has_take (l : List UInt8) (n : Nat) : has l (l.take n) = true := by
  unfold has
  rw [List.isPrefixOf_iff_prefix]
  exact List.take_prefix n l

/-- the least key above all that begin so -/
def succ : List UInt8 → Option (List UInt8)
  | [] => none
  | x :: l => match succ l with
    | some s => some (x :: s)
    | none => if x = 255 then none else some [x + 1]
theorem succ_top (l : List UInt8) : succ (l ++ [255]) = succ l := by
  induction l with
  | nil => rfl
  | cons x l ih => simp [succ, ih]
theorem succ_snoc (l : List UInt8) (b : UInt8) (h : b ≠ 255) : succ (l ++ [b]) = some (l ++ [b + 1]) := by
  induction l with
  | nil => simp [succ, h]
  | cons x l ih => simp [succ, ih]
theorem succ_cons_some {x : UInt8} {l s : List UInt8} (h : succ l = some s) : succ (x :: l) = some (x :: s) := by simp [succ, h]
theorem succ_cons_none {x : UInt8} {l : List UInt8} (h : succ l = none) : succ (x :: l) = if x = 255 then none else some [x + 1] := by simp [succ, h]
theorem of_none : ∀ {p k : List UInt8}, succ p = none → bytesLess k p = false → has k p = true
  | [], _, _, _ => rfl
  | x :: l, [], _, h => by simp [nil_less] at h
  | x :: l, y :: k, hs, h => by
    cases hl : succ l with
    | some s => simp [succ, hl] at hs
    | none =>
      rw [succ_cons_none hl] at hs
      have hx : x = 255 := by
        by_cases hx : x = 255
        · exact hx
        · simp [hx] at hs
      rw [Bool.eq_false_iff, ne_eq, less_cons] at h
      have h1 := u8_lt256 y
      have h2 := (u8_top x).1 hx
      have hy : x = y := (u8_eq x y).2 (by omega)
      subst hy
      have : bytesLess k l = false := by rw [Bool.eq_false_iff]; intro h'; exact h (.inr ⟨rfl, h'⟩)
      have := of_none hl this
      simp only [has] at this
      simp [has, List.isPrefixOf, this]
theorem of_some : ∀ {p k s : List UInt8}, succ p = some s → bytesLess k p = false → bytesLess k s = true → has k p = true
  | [], _, _, _, _, _ => rfl
  | x :: l, [], _, _, h, _ => by simp [nil_less] at h
  | x :: l, y :: k, s, hs, h, h' => by
    rw [Bool.eq_false_iff, ne_eq, less_cons] at h
    cases hl : succ l with
    | some t =>
      rw [succ_cons_some hl] at hs
      simp only [Option.some.injEq] at hs
      subst hs
      rw [less_cons] at h'
      have hy : x = y := (u8_eq x y).2 (by
        rcases h' with h' | ⟨e, _⟩
        · omega
        · rw [e])
      subst hy
      have h1 : bytesLess k l = false := by rw [Bool.eq_false_iff]; intro h'; exact h (.inr ⟨rfl, h'⟩)
      have h2 : bytesLess k t = true := by
        rcases h' with h' | ⟨_, h'⟩
        · omega
        · exact h'
      have := of_some hl h1 h2
      simp only [has] at this
      simp [has, List.isPrefixOf, this]
    | none =>
      rw [succ_cons_none hl] at hs
      by_cases hx : x = 255
      · simp [hx] at hs
      · simp only [hx, if_false, Option.some.injEq] at hs
        subst hs
        rw [less_cons, u8_succ x hx, less_nil] at h'
        have hy : x = y := (u8_eq x y).2 (by
          rcases h' with h' | ⟨_, h'⟩
          · omega
          · cases h')
        subst hy
        have h1 : bytesLess k l = false := by rw [Bool.eq_false_iff]; intro h'; exact h (.inr ⟨rfl, h'⟩)
        have := of_none hl h1
        simp only [has] at this
        simp [has, List.isPrefixOf, this]
theorem has_succ : ∀ {p k s : List UInt8}, succ p = some s → has k p = true → bytesLess k s = true
  | [], _, _, h, _ => by simp [succ] at h
  | x :: l, [], _, _, h => by simp [has] at h
  | x :: l, y :: k, s, hs, h => by
    simp only [has, List.isPrefixOf, Bool.and_eq_true, beq_iff_eq] at h
    obtain ⟨rfl, h⟩ := h
    cases hl : succ l with
    | some t =>
      rw [succ_cons_some hl] at hs
      simp only [Option.some.injEq] at hs
      subst hs
      rw [less_cons]
      exact .inr ⟨rfl, has_succ hl h⟩
    | none =>
      rw [succ_cons_none hl] at hs
      by_cases hx : x = 255
      · simp [hx] at hs
      · simp only [hx, if_false, Option.some.injEq] at hs
        subst hs
        rw [less_cons, u8_succ x hx]
        exact .inl (by omega)
/-- of a key that doesn't begin so: it is ahead of what is above all that do, just if it is ahead of the beginning -/
theorem beside {p k s : List UInt8} (hs : succ p = some s) (h : has k p = false) : bytesLess k s = bytesLess k p := by
  cases h1 : bytesLess k p
  · cases h2 : bytesLess k s
    · rfl
    · rw [of_some hs h1 h2] at h
      cases h
  · exact less_trans h1 (has_succ hs (by simp [has]))

/-- a range: from lo on, and, if it has an end, ahead of hi -/
structure Rng where
  lo : List UInt8
  hi : List UInt8
  e : Bool
def inR (r : Rng) (k : List UInt8) : Bool := !bytesLess k r.lo && (!r.e || bytesLess k r.hi)
def emptyR (r : Rng) : Bool := !inR r r.lo
theorem emptyR_eq (r : Rng) : emptyR r = (r.e && !bytesLess r.lo r.hi) := by
  simp [emptyR, inR, less_self]
def ofR (p : List UInt8) : Rng := ⟨p, (succ p).getD [], (succ p).isSome⟩
theorem in_of (p k : List UInt8) : inR (ofR p) k = has k p := by
  unfold inR ofR
  cases hs : succ p with
  | none =>
    simp only [Option.isSome_none, Bool.not_false, Bool.true_or, Bool.and_true]
    cases h : has k p
    · cases h' : bytesLess k p
      · rw [of_none hs h'] at h
        cases h
      · rfl
    · rw [has_le h]; rfl
  | some s =>
    simp only [Option.isSome_some, Bool.not_true, Bool.false_or, Option.getD_some]
    cases h : has k p
    · rw [beside hs h]
      cases bytesLess k p <;> rfl
    · rw [has_le h, has_succ hs h]; rfl

/-- what two ranges have both -/
def maxL (a b : List UInt8) : List UInt8 := if bytesLess a b then b else a
def minL (a b : List UInt8) : List UInt8 := if bytesLess b a then b else a
def rawCut (a b : Rng) : Rng := ⟨maxL a.lo b.lo, if a.e then (if b.e then minL a.hi b.hi else a.hi) else if b.e then b.hi else [], a.e || b.e⟩
def none' : Rng := ⟨[], [], true⟩
def cutR (a b : Rng) : Rng := if emptyR (rawCut a b) then none' else rawCut a b
theorem max_comm (a b : List UInt8) : maxL a b = maxL b a := by
  unfold maxL
  cases h1 : bytesLess a b <;> cases h2 : bytesLess b a
  · simpa using less_same h1 h2
  · rfl
  · rfl
  · rw [less_asymm h1] at h2; cases h2
theorem min_comm (a b : List UInt8) : minL a b = minL b a := by
  unfold minL
  cases h1 : bytesLess a b <;> cases h2 : bytesLess b a
  · simpa using less_same h1 h2
  · rfl
  · rfl
  · rw [less_asymm h1] at h2; cases h2
theorem le_max (k a b : List UInt8) : bytesLess k (maxL a b) = (bytesLess k a || bytesLess k b) := by
  unfold maxL
  cases h : bytesLess a b
  · cases hk : bytesLess k b
    · simp
    · simp [less_of_less_le hk h]
  · cases hk : bytesLess k a
    · simp
    · simp [less_trans hk h]
theorem lt_min (k a b : List UInt8) : bytesLess k (minL a b) = (bytesLess k a && bytesLess k b) := by
  unfold minL
  cases h : bytesLess b a
  · cases hk : bytesLess k a
    · simp [hk]
    · simp [hk, less_of_less_le hk h]
  · cases hk : bytesLess k b
    · simp [hk]
    · simp [hk, less_trans hk h]
theorem in_raw (a b : Rng) (k : List UInt8) : inR (rawCut a b) k = (inR a k && inR b k) := by
  obtain ⟨lo1, hi1, e1⟩ := a
  obtain ⟨lo2, hi2, e2⟩ := b
  cases e1 <;> cases e2 <;> simp only [inR, rawCut, le_max, Bool.false_eq_true, if_false, if_true, Bool.not_or, Bool.not_true, Bool.not_false, Bool.or_false, Bool.or_true, Bool.and_true, Bool.true_or, Bool.false_or, lt_min] <;>
    cases bytesLess k lo1 <;> cases bytesLess k lo2 <;> cases bytesLess k hi1 <;> cases bytesLess k hi2 <;> rfl
theorem in_empty {r : Rng} (h : emptyR r = true) (k : List UInt8) : inR r k = false := by
  rw [emptyR_eq, Bool.and_eq_true, Bool.not_eq_true'] at h
  unfold inR
  rw [h.1]
  cases h1 : bytesLess k r.lo
  · cases h2 : bytesLess k r.hi
    · rfl
    · rw [less_of_le_less h1 h2] at h
      simp at h
  · rfl
theorem in_cut (a b : Rng) (k : List UInt8) : inR (cutR a b) k = (inR a k && inR b k) := by
  rw [← in_raw]
  unfold cutR
  cases h : emptyR (rawCut a b)
  · rfl
  · rw [in_empty h]
    exact in_empty (by rfl) k
theorem raw_comm (a b : Rng) : rawCut a b = rawCut b a := by
  unfold rawCut
  rw [max_comm a.lo, min_comm a.hi, Bool.or_comm]
  cases a.e <;> cases b.e <;> rfl
theorem cut_comm (a b : Rng) : cutR a b = cutR b a := by
  unfold cutR
  rw [raw_comm]
theorem cut_twice (a b : Rng) : cutR (cutR a b) a = cutR a b := by
  cases h : emptyR (rawCut a b)
  · have e : cutR a b = rawCut a b := by simp [cutR, h]
    have e2 : rawCut (rawCut a b) a = rawCut a b := by
      obtain ⟨lo1, hi1, e1⟩ := a
      obtain ⟨lo2, hi2, e2⟩ := b
      have hm : maxL (maxL lo1 lo2) lo1 = maxL lo1 lo2 := by
        have : bytesLess (maxL lo1 lo2) lo1 = false := by
          unfold maxL
          cases h1 : bytesLess lo1 lo2
          · exact less_self _
          · exact less_asymm h1
        generalize maxL lo1 lo2 = m at *
        simp [maxL, this]
      have hn : minL (minL hi1 hi2) hi1 = minL hi1 hi2 := by
        have : bytesLess hi1 (minL hi1 hi2) = false := by
          unfold minL
          cases h1 : bytesLess hi2 hi1
          · exact less_self _
          · exact less_asymm h1
        generalize minL hi1 hi2 = m at *
        simp [minL, this]
      have hs : minL hi1 hi1 = hi1 := by simp [minL]
      cases e1 <;> cases e2 <;> simp [rawCut, hm, hn, hs]
    rw [e]
    unfold cutR
    rw [e2, h]
    rfl
  · have e : cutR a b = none' := by simp [cutR, h]
    rw [e]
    unfold cutR
    have : emptyR (rawCut none' a) = true := by
      rw [emptyR_eq]
      have : minL [] a.hi = [] := by simp [minL, less_nil]
      cases he : a.e <;> simp [rawCut, none', he, this, less_nil]
    rw [this]
    rfl

/-- the longest beginning of both -/
def common : List UInt8 → List UInt8 → List UInt8
  | x :: a, y :: b => if x = y then x :: common a b else []
  | _, _ => []
theorem common_nil (a : List UInt8) : common a [] = [] := by cases a <;> rfl
theorem common_len : ∀ (a b : List UInt8), (common a b).length ≤ a.length ∧ (common a b).length ≤ b.length
  | [], _ => by simp [common]
  | _ :: _, [] => by simp [common]
  | x :: a, y :: b => by
    have := common_len a b
    unfold common
    split <;> simp <;> omega
theorem common_take : ∀ (a b : List UInt8), common a b = a.take (common a b).length
  | [], _ => by simp [common]
  | _ :: _, [] => by simp [common]
  | x :: a, y :: b => by
    unfold common
    split
    · simp only [List.length_cons, List.take_succ_cons]
      rw [← common_take a b]
    · rfl
theorem common_go : ∀ (n : Nat) (a b : List UInt8) (_ : n ≤ (common a b).length) (h1 : n < a.length) (h2 : n < b.length), (a[n] = b[n] → n + 1 ≤ (common a b).length) ∧ (a[n] ≠ b[n] → (common a b).length = n)
  | _, [], _, _, h1, _ => by simp at h1
  | _, _ :: _, [], _, _, h2 => by simp at h2
  | 0, x :: a, y :: b, _, _, _ => by
    simp only [List.getElem_cons_zero]
    unfold common
    refine ⟨fun h => ?_, fun h => ?_⟩ <;> simp [h]
  | n + 1, x :: a, y :: b, h, h1, h2 => by
    unfold common at h ⊢
    split at h
    · rename_i e
      simp only [e, if_true, List.length_cons, List.getElem_cons_succ] at *
      have := common_go n a b (by omega) (by simp at h1; omega) (by simp at h2; omega)
      exact ⟨fun h => by have := this.1 h; omega, fun h => by have := this.2 h; omega⟩
    · simp at h
theorem common_has : ∀ (n : Nat) (a b : List UInt8), n ≤ a.length → (has b (a.take n) = true ↔ n ≤ (common a b).length)
  | 0, _, _, _ => by simp [has]
  | n + 1, [], _, h => by simp at h
  | n + 1, x :: a, [], _ => by simp [has, common]
  | n + 1, x :: a, y :: b, h => by
    have ih := common_has n a b (by simp at h; omega)
    simp only [List.take_succ_cons, has, List.isPrefixOf, Bool.and_eq_true, beq_iff_eq]
    unfold common
    split
    · rename_i e
      simp only [e, true_and, List.length_cons]
      have := ih
      simp only [has] at this
      rw [this]
      omega
    · rename_i e
      simp [e]
/-- what is between two keys -/
def between (a b : List UInt8) : List UInt8 := if bytesLess a b then b.take ((common a b).length + 1) else []
theorem common_less : ∀ {a b : List UInt8}, bytesLess a b = true → (common a b).length < b.length ∧ bytesLess a (b.take ((common a b).length + 1)) = true
  | _, [], h => by simp [less_nil] at h
  | [], y :: b, _ => by simp [common, nil_less]
  | x :: a, y :: b, h => by
    rw [less_cons] at h
    unfold common
    rcases h with h | ⟨rfl, h⟩
    · have : x ≠ y := fun e => by subst e; omega
      simp only [this, if_false, List.length_nil, Nat.zero_add, List.take_succ_cons, List.take_zero, List.length_cons]
      exact ⟨by omega, (less_cons _ _ _ _).2 (.inl h)⟩
    · have ih := common_less h
      simp only [if_true, List.length_cons, List.take_succ_cons]
      exact ⟨by omega, (less_cons _ _ _ _).2 (.inr ⟨rfl, ih.2⟩)⟩
theorem common_part : ∀ (n : Nat) {a b : List UInt8}, n ≤ (common a b).length → bytesLess a (b.take n) = false
  | 0, _, _, _ => less_nil _
  | n + 1, [], b, h => by simp [common] at h
  | n + 1, x :: a, [], h => by simp [common] at h
  | n + 1, x :: a, y :: b, h => by
    unfold common at h
    split at h
    · rename_i e
      subst e
      have := common_part n (a := a) (b := b) (by simp at h; omega)
      rw [List.take_succ_cons, Bool.eq_false_iff, ne_eq, less_cons]
      rintro (h | ⟨_, h⟩)
      · omega
      · simp [this] at h
    · simp at h
theorem less_part {a b : List UInt8} (n : Nat) (h : bytesLess a b = false) : bytesLess a (b.take n) = false := less_le_trans h (has_le (has_take b n))
/-- nothing stands between a key and the next one -/
theorem next_above (a : List UInt8) : bytesLess a (a ++ [0]) = true := by
  induction a with
  | nil => rfl
  | cons x a ih => exact (less_cons _ _ _ _).2 (.inr ⟨rfl, ih⟩)
theorem next_least : ∀ {a b : List UInt8}, bytesLess a b = true → bytesLess b (a ++ [0]) = false
  | _, [], h => by simp [less_nil] at h
  | [], y :: b, _ => by
    rw [Bool.eq_false_iff, ne_eq, List.nil_append, less_cons, less_nil]
    rintro (h | ⟨_, h⟩)
    · simp at h
    · cases h
  | x :: a, y :: b, h => by
    rw [less_cons] at h
    rw [Bool.eq_false_iff, ne_eq, List.cons_append, less_cons]
    rcases h with h | ⟨rfl, h⟩
    · rintro (h' | ⟨rfl, _⟩) <;> omega
    · rintro (h' | ⟨_, h'⟩)
      · omega
      · rw [next_least h] at h'
        cases h'

/-- of how many bytes what all keys of a range begin with is: of one without an end, and of one with an end -/
def tops : List UInt8 → Nat
  | [] => 0
  | x :: l => if x = 255 then tops l + 1 else 0
def und : List UInt8 → List UInt8 → Nat
  | x :: lo, y :: hi => if x = y then und lo hi + 1 else if x + 1 = y ∧ hi = [] then tops lo + 1 else 0
  | _, _ => 0
def underN (r : Rng) : Nat := if emptyR r then 0 else if r.e then und r.lo r.hi else tops r.lo
def under (r : Rng) : List UInt8 := r.lo.take (underN r)
/-- whether all keys of a range begin with so many bytes of its first key -/
def allN (r : Rng) (n : Nat) : Bool := match succ (r.lo.take n) with
  | none => true
  | some s => r.e && !bytesLess s r.hi
theorem tops_le : ∀ l : List UInt8, tops l ≤ l.length
  | [] => Nat.le_refl _
  | x :: l => by
    have := tops_le l
    unfold tops
    split <;> simp <;> omega
theorem tops_none : ∀ (l : List UInt8) (n : Nat), n ≤ l.length → (succ (l.take n) = none ↔ n ≤ tops l)
  | _, 0, _ => by simp [succ]
  | [], _ + 1, h => by simp at h
  | x :: l, n + 1, h => by
    have ih := tops_none l n (by simp at h; omega)
    rw [List.take_succ_cons]
    unfold tops
    cases hs : succ (l.take n) with
    | some s =>
      rw [succ_cons_some hs]
      have : ¬ n ≤ tops l := fun h => by rw [ih.2 h] at hs; cases hs
      split <;> simp <;> omega
    | none =>
      rw [succ_cons_none hs]
      have := ih.1 hs
      split
      · simp; omega
      · simp
theorem und_le : ∀ lo hi : List UInt8, und lo hi ≤ lo.length
  | [], _ => by simp [und]
  | _ :: _, [] => by simp [und]
  | x :: lo, y :: hi => by
    have h1 := und_le lo hi
    have h2 := tops_le lo
    unfold und
    split
    · simp; omega
    · split <;> simp <;> omega
theorem und_all : ∀ (lo hi : List UInt8) (n : Nat), bytesLess lo hi = true → n ≤ lo.length → (allN ⟨lo, hi, true⟩ n = true ↔ n ≤ und lo hi)
  | _, _, 0, _, _ => by simp [allN, succ]
  | _, [], _, h, _ => by simp [less_nil] at h
  | [], _, _ + 1, _, h => by simp at h
  | x :: lo, y :: hi, n + 1, h, hn => by
    rw [less_cons] at h
    have hn' : n ≤ lo.length := by simp at hn; omega
    have ht := tops_none lo n hn'
    unfold allN
    simp only [List.take_succ_cons, Bool.true_and]
    unfold und
    by_cases hxy : x = y
    · subst hxy
      have h' : bytesLess lo hi = true := by
        rcases h with h | ⟨_, h⟩
        · omega
        · exact h
      have ih := und_all lo hi n h' hn'
      unfold allN at ih
      simp only [if_true, Nat.add_le_add_iff_right]
      rw [← ih]
      simp only [Bool.true_and]
      cases hs : succ (lo.take n) with
      | none =>
        rw [succ_cons_none hs]
        by_cases hx : x = 255
        · simp [hx]
        · simp only [hx, if_false, iff_true, Bool.not_eq_true']
          rw [Bool.eq_false_iff, ne_eq, less_cons, u8_succ x hx]
          rintro (h | ⟨h, _⟩)
          · omega
          · have := congrArg UInt8.toNat h
            rw [u8_succ x hx] at this
            omega
      | some s =>
        rw [succ_cons_some hs]
        simp only [Bool.not_eq_true']
        rw [Bool.eq_false_iff, Bool.eq_false_iff, ne_eq, ne_eq, less_cons]
        simp
    · have hlt : x.toNat < y.toNat := by
        rcases h with h | ⟨h, _⟩
        · exact h
        · exact absurd h hxy
      have hy := u8_lt256 y
      have hx : x ≠ 255 := fun e => by have := (u8_top x).1 e; omega
      simp only [hxy, if_false]
      cases hs : succ (lo.take n) with
      | none =>
        have hnt := ht.1 hs
        rw [succ_cons_none hs]
        simp only [hx, if_false, Bool.not_eq_true']
        rw [Bool.eq_false_iff, ne_eq, less_cons, u8_succ x hx]
        by_cases hc : x + 1 = y ∧ hi = []
        · rw [if_pos hc]
          obtain ⟨rfl, rfl⟩ := hc
          rw [u8_succ x hx]
          simp [less_nil]
          omega
        · rw [if_neg hc]
          simp only [Nat.le_zero_eq, Nat.add_one_ne_zero, iff_false, Classical.not_not]
          by_cases he : x + 1 = y
          · refine .inr ⟨he, ?_⟩
            cases hi with
            | nil => exact absurd ⟨he, rfl⟩ hc
            | cons _ _ => rfl
          · refine .inl ?_
            have : x.toNat + 1 ≠ y.toNat := fun e => he ((u8_eq _ _).2 (by rw [u8_succ x hx]; exact e))
            omega
      | some s =>
        have hnt : ¬ n ≤ tops lo := fun h => by rw [ht.2 h] at hs; cases hs
        rw [succ_cons_some hs]
        simp only [Bool.not_eq_true']
        rw [Bool.eq_false_iff, ne_eq, less_cons]
        split <;> simp [hlt] <;> omega
theorem underN_le (r : Rng) : underN r ≤ r.lo.length := by
  unfold underN
  split
  · omega
  · split
    · exact und_le _ _
    · exact tops_le _
/-- just those beginnings of the first key are what all keys of a range begin with that aren't longer -/
theorem under_all (r : Rng) (h : emptyR r = false) (n : Nat) (hn : n ≤ r.lo.length) : allN r n = true ↔ n ≤ underN r := by
  unfold underN
  rw [h]
  obtain ⟨lo, hi, e⟩ := r
  rw [emptyR_eq] at h
  simp only [Bool.false_eq_true, if_false]
  cases e
  · simp only [Bool.false_eq_true, if_false]
    rw [← tops_none lo n hn]
    unfold allN
    simp only [Bool.false_and]
    cases succ (lo.take n) <;> simp
  · simp only [Bool.true_and, Bool.not_eq_false'] at h
    simp only [if_true]
    exact und_all lo hi n h hn
/-- the greatest number up to n at which all keys of a range begin so -/
def bestN (r : Rng) : Nat → Nat
  | 0 => 0
  | n + 1 => if allN r (n + 1) then n + 1 else bestN r n
theorem best_under (r : Rng) (h : emptyR r = false) : bestN r r.lo.length = underN r := by
  have key : ∀ n, n ≤ r.lo.length → bestN r n = min n (underN r) := by
    intro n
    induction n with
    | zero => intro _; simp [bestN]
    | succ n ih =>
      intro hn
      have := under_all r h (n + 1) hn
      unfold bestN
      split
      · rename_i e
        have := this.1 e
        omega
      · rename_i e
        have h' : ¬ n + 1 ≤ underN r := fun h => e (this.2 h)
        rw [ih (by omega)]
        omega
  have := underN_le r
  rw [key _ (Nat.le_refl _)]
  omega
/-- each key of a range begins with what is said of all of them -/
theorem under_in {r : Rng} {k : List UInt8} (h : inR r k = true) : has k (under r) = true := by
  cases he : emptyR r
  · have ha := (under_all r he (underN r) (underN_le r)).2 (Nat.le_refl _)
    rw [← in_of]
    unfold under
    unfold allN at ha
    unfold inR at h ⊢
    simp only [Bool.and_eq_true, Bool.not_eq_true'] at h
    have h1 : bytesLess k (r.lo.take (underN r)) = false := less_le_trans h.1 (has_le (has_take _ _))
    simp only [ofR, h1, Bool.not_false, Bool.true_and]
    cases hs : succ (r.lo.take (underN r)) with
    | none => simp
    | some s =>
      rw [hs] at ha
      simp only [Bool.and_eq_true, Bool.not_eq_true'] at ha
      have h2 := h.2
      rw [ha.1] at h2
      simp only [Bool.not_true, Bool.false_or] at h2
      simp [less_of_less_le h2 ha.2]
  · rw [in_empty he] at h
    cases h
theorem under_empty {r : Rng} (h : emptyR r = true) : under r = [] := by simp [under, underN, h]
/-- where that is shorter than the first key, not all begin with one byte more -/
theorem under_less {r : Rng} (h : emptyR r = false) (hl : underN r < r.lo.length) : ∃ s, succ (r.lo.take (underN r + 1)) = some s ∧ inR r s = true := by
  have ha : ¬ allN r (underN r + 1) = true := fun e => by have := (under_all r h (underN r + 1) (by omega)).1 e; omega
  unfold allN at ha
  cases hs : succ (r.lo.take (underN r + 1)) with
  | none => rw [hs] at ha; simp at ha
  | some s =>
    rw [hs] at ha
    refine ⟨s, rfl, ?_⟩
    have h1 := less_asymm (has_succ hs (has_take r.lo (underN r + 1)))
    unfold inR
    rw [h1]
    simp only [Bool.and_eq_true, Bool.not_eq_true'] at ha
    cases he : r.e
    · rfl
    · cases hx : bytesLess s r.hi
      · exact absurd ⟨he, hx⟩ ha
      · rfl
/-- what the loop over greatest bytes meets -/
theorem tops_at : ∀ (l : List UInt8) (j : Nat) (h : j < l.length), (j < tops l → l[j] = 255) ∧ (j = tops l → l[j] ≠ 255)
  | [], _, h => by simp at h
  | x :: l, 0, _ => by
    unfold tops
    split
    · rename_i e
      exact ⟨fun _ => e, fun h => by omega⟩
    · rename_i e
      exact ⟨fun h => by omega, fun _ => e⟩
  | x :: l, j + 1, h => by
    have ih := tops_at l j (by simp at h; omega)
    unfold tops
    rw [List.getElem_cons_succ]
    split
    · exact ⟨fun h => ih.1 (by omega), fun h => ih.2 (by omega)⟩
    · exact ⟨fun h => by omega, fun h => by omega⟩
/-- how the program comes to it: the first key is a beginning of the end .. -/
theorem und_whole : ∀ {lo hi : List UInt8}, bytesLess lo hi = true → (common lo hi).length = lo.length → und lo hi = lo.length
  | [], _, _, _ => by simp [und]
  | _ :: _, [], h, _ => by simp [less_nil] at h
  | x :: lo, y :: hi, h, hc => by
    unfold common at hc
    split at hc
    · rename_i e
      subst e
      have h' : bytesLess lo hi = true := by
        rcases (less_cons _ _ _ _).1 h with h | ⟨_, h⟩
        · omega
        · exact h
      have := und_whole h' (by simpa using hc)
      simp [und, this]
    · simp at hc
/-- .. or they part -/
theorem und_part : ∀ {lo hi : List UInt8}, bytesLess lo hi = true → (common lo hi).length < lo.length →
    ∃ s, succ (lo.take ((common lo hi).length + 1)) = some s ∧ (s = hi → und lo hi = (common lo hi).length + 1 + tops (lo.drop ((common lo hi).length + 1))) ∧ (s ≠ hi → und lo hi = (common lo hi).length)
  | [], _, _, h => by simp at h
  | _ :: _, [], h, _ => by simp [less_nil] at h
  | x :: lo, y :: hi, h, hc => by
    by_cases hxy : x = y
    · subst hxy
      have h' : bytesLess lo hi = true := by
        rcases (less_cons _ _ _ _).1 h with h | ⟨_, h⟩
        · omega
        · exact h
      have e : common (x :: lo) (x :: hi) = x :: common lo hi := by simp [common]
      rw [e] at hc ⊢
      simp only [List.length_cons] at hc ⊢
      obtain ⟨s, h1, h2, h3⟩ := und_part h' (by omega)
      refine ⟨x :: s, ?_, fun hs => ?_, fun hs => ?_⟩
      · rw [List.take_succ_cons]
        exact succ_cons_some h1
      · simp only [List.cons.injEq, true_and] at hs
        have := h2 hs
        simp only [und, if_true, List.drop_succ_cons, this]
        omega
      · have hs' : s ≠ hi := fun e => hs (by rw [e])
        simp [und, h3 hs']
    · have e : common (x :: lo) (y :: hi) = [] := by simp [common, hxy]
      have hlt : x.toNat < y.toNat := by
        rcases (less_cons _ _ _ _).1 h with h | ⟨h, _⟩
        · exact h
        · exact absurd h hxy
      have hy := u8_lt256 y
      have hx : x ≠ 255 := fun e => by have := (u8_top x).1 e; omega
      rw [e]
      refine ⟨[x + 1], ?_, fun hs => ?_, fun hs => ?_⟩
      · simp [succ, hx]
      · simp only [List.cons.injEq] at hs
        simp only [und, hxy, if_false, hs.1, ← hs.2, and_self, if_true, List.length_nil, Nat.zero_add, List.drop_succ_cons, List.drop_zero]
        omega
      · have : ¬ (x + 1 = y ∧ hi = []) := fun h => hs (by rw [h.1, h.2])
        simp [und, hxy, this]
end Go.Proofs.Ytklfpoojpfomeaa.Key

namespace Go.Proofs.Ytklfpoojpfomeaa.Key
open Go.RowKit

theorem hid {p : Prop} (h : p) : Hid p := h
/-- a text of these bytes -/
def str (l : List UInt8) : ByteArray := ⟨l.toArray⟩
theorem str_data (l : List UInt8) : (str l).data.toList = l := rfl
theorem str_size (l : List UInt8) : (str l).size = l.length := by rw [Lib.size_eq, str_data]
theorem str_eq (s : ByteArray) : str s.data.toList = s := by
  obtain ⟨⟨l⟩⟩ := s
  rfl
theorem str_append (a b : ByteArray) : a ++ b = str (a.data.toList ++ b.data.toList) := by
  obtain ⟨⟨a⟩⟩ := a
  obtain ⟨⟨b⟩⟩ := b
  apply ByteArray.ext
  simp [str]
theorem cut_eq (s : ByteArray) (n : Nat) : s.extract 0 n = str (s.data.toList.take n) := by
  rw [Lib.extract_eq]
  simp [str]
theorem cut_data (s : ByteArray) (n : Nat) : (s.extract 0 n).data.toList = s.data.toList.take n := by rw [cut_eq, str_data]
theorem byte_at (s : ByteArray) (n : Nat) (h : n < s.size) : s[n] = s.data.toList[n]'(by rw [← Lib.size_eq]; exact h) := by
  obtain ⟨⟨l⟩⟩ := s
  rfl
theorem ret_bool {a b : Bool} (h : a = b) : Ending.returned (.bool a) = .returned (.bool b) := by rw [h]
theorem ret_str {a b : ByteArray} (h : a = b) : Ending.returned (.string a) = .returned (.string b) := by rw [h]
theorem ret_two {a b : ByteArray} {c d : Bool} (h : a = b) (h' : c = d) : Ending.returned (.tuple #[.string a, .bool c]) = .returned (.tuple #[.string b, .bool d]) := by rw [h, h']
/-- what a slice of bytes holds -/
def Bytes (w : World) (a : Option Addr) (zs : List Int) : Prop :=
  zs = [] ∨ ∃ b off, a = some ⟨b, off, none⟩ ∧ ∀ i, i < zs.length → w.cell? ⟨b, off + i, none⟩ = some (.int .u8 (zs.getD i 0))
theorem digits_lie (w : World) (C : Array Value) (fr : Nat × Nat) (zs : List Int) (h : C = (zs.map (Value.int .u8)).toArray) : Bytes (w.alloc (.cells C 5 fr)) (some ⟨w.heap.size, 0, none⟩) zs := by
  refine .inr ⟨w.heap.size, 0, rfl, fun i hi => ?_⟩
  rw [Nat.zero_add, World.cell?_alloc_mark, h]
  simp [List.getD, List.getElem?_eq_getElem hi]
theorem info5 : (Try.prog.info? 5).map (fun i => (i.zero, i.size, i.bytes)) = some (some (.int .u8 0), 1, 1) := by kernel_rfl

/-- a row of bytes of the call's own -/
def Own (w : World) (base : Nat) (v : Value) (zs : List Int) : Prop := w.ownsRow base 5 1 v zs.length (zs.map (Value.int .u8))

theorem add_plain (b off j : Nat) : (⟨b, off, none⟩ : Addr).add j = ⟨b, off + j, none⟩ := by unfold Addr.add; split <;> simp_all
theorem Bytes.news {w : World} {ad : Addr} {zs : List Int} (h : Bytes w (some ad) zs) : ∀ j u, (zs.map (Value.int .u8))[j]? = some u → w.cell? (ad.add j) = some u := by
  intro j u hu
  rcases h with rfl | ⟨b, off, he, hc⟩
  · simp at hu
  · have hj : j < zs.length := by
      rcases Nat.lt_or_ge j zs.length with h | h
      · exact h
      · simp [List.getElem?_eq_none h] at hu
    simp only [Option.some.injEq] at he
    subst he
    have := hc j hj
    simp [List.getElem?_eq_getElem hj] at hu
    subst hu
    rw [add_plain]
    simpa [List.getD, List.getElem?_eq_getElem hj] using this

/-- 'out = append(out, src...)', out of the call's own, src whatever bytes -/
theorem app {w : World} {ops : Array Oper} {rest : List Oper} {o : Oper} {a : Act} {Q : Exit → Act → World → Prop} (hgd : o.guard = none) (s x : Operand)
    (ho : o.op = .call { callee := .builtin .append, args := #[s, x], argTypes := #[34, 34] })
    (base : Nat) (v : Value) (zs : List Int) (hs : a.eval s = v) (hown : Own w base v zs)
    (ad : Option Addr) (m c : Nat) (ys : List Int) (hx : a.eval x = .slice ad m c) (hnil : ad = none → m = 0 ∧ c = 0) (hl : ys.length = m) (hb : Bytes w ad ys) (hsz : zs.length + m ≤ 1000000) (hbase : base ≤ w.heap.size)
    (h : ∀ v' w', Own w' base v' (zs ++ ys) → w.grownBy w' v.ownBlock → wpList Try.prog ops Q rest (a.put o.dst v') w') : wpList Try.prog ops Q (o :: rest) a w := by
  obtain ⟨i0, hi, hz0, hz1, hz2⟩ := info_parts info5
  cases ad with
  | none =>
    obtain ⟨rfl, rfl⟩ := hnil rfl
    have hy : ys = [] := List.eq_nil_of_length_eq_zero hl
    subst hy
    refine wpList_append_own_none hgd s x 34 ho base 5 i0 1 Try.underlying34 hi v _ _ hs hown hx ?_
    exact h v w (by simpa using hown) ⟨rfl, rfl, rfl, Nat.le_refl _, fun _ _ _ => rfl⟩
  | some ad =>
    refine wpList_append_own _ hgd s x 34 ho base 5 i0 (.int .u8 0) 1 1 Try.underlying34 hi hz0 hz1 hz2 rfl (by decide) v _ _ hs hown ad m c (ys.map (Value.int .u8)) hx (by simp [hl]) hb.news (by intro u hu; simp at hu; obtain ⟨_, _, rfl⟩ := hu; rfl)
      (by unfold maxLen; omega) (by omega) hbase ?_
    intro v' w' h1 h2 _
    refine h v' w' ?_ h2
    unfold Own
    rw [List.map_append, List.length_append, hl]
    exact h1

theorem Own.form {w : World} {base : Nat} {v : Value} {zs : List Int} (h : Own w base v zs) : ∃ a cap, v = .slice a zs.length cap ∧ Bytes w a zs ∧ (a = none → zs.length = 0 ∧ cap = 0) ∧ (∀ k, v.ownBlock = some k → base ≤ k ∧ k < w.heap.size) ∧ zs.length ≤ cap := by
  have hlt := World.ownsRow.lt h
  have hc := fun g hg => World.ownsRow.cells h (g := g) hg
  rcases h.2 with ⟨rfl, h0⟩ | ⟨g, cap, cur, rfl, _, _, hcap, _, _, _⟩
  · have hy : zs = [] := List.eq_nil_of_length_eq_zero h0
    subst hy
    exact ⟨none, 0, rfl, .inl rfl, fun _ => ⟨rfl, rfl⟩, hlt, Nat.le_refl _⟩
  · refine ⟨_, cap, rfl, .inr ⟨g, 0, rfl, fun i hi => ?_⟩, (fun h => by cases h), hlt, hcap⟩
    have := hc g rfl i (.int .u8 (zs.getD i 0)) (by simp [List.getD, List.getElem?_eq_getElem hi])
    rw [add_plain] at this
    exact this

theorem Bytes.below {w w' : World} {B : Nat} {a : Option Addr} {zs : List Int} (h : Bytes w a zs) (hlt : ∀ ad, a = some ad → zs ≠ [] → ad.block < B) (hb : Below B w w') : Bytes w' a zs := by
  rcases h with rfl | ⟨b, off, rfl, hc⟩
  · exact .inl rfl
  · by_cases hz : zs = []
    · exact .inl hz
    · have := hlt _ rfl hz
      exact .inr ⟨b, off, rfl, fun i hi => (hb.cell (p := ⟨b, off + i, none⟩) this).trans (hc i hi)⟩
/-- what bytes lie in memory lie below its end -/
theorem Bytes.lt {w : World} {a : Option Addr} {zs : List Int} (h : Bytes w a zs) : ∀ ad, a = some ad → zs ≠ [] → ad.block < w.heap.size := by
  rintro ad rfl hz
  rcases h with rfl | ⟨b, off, he, hc⟩
  · exact absurd rfl hz
  · simp only [Option.some.injEq] at he
    subst he
    have h0 := hc 0 (List.length_pos_iff.2 hz)
    rcases Nat.lt_or_ge b w.heap.size with h | h
    · exact h
    · simp [World.cell?, Array.getElem?_eq_none h] at h0
theorem Bytes.later {w w' : World} {a : Option Addr} {zs : List Int} (h : Bytes w a zs) (hb : Below w.heap.size w w') : Bytes w' a zs := h.below h.lt hb
theorem Bytes.grown {w w' : World} {row : Option Nat} {a : Option Addr} {zs : List Int} (h : Bytes w a zs) (hg : w.grownBy w' row) (hne : ∀ ad, a = some ad → zs ≠ [] → some ad.block ≠ row) : Bytes w' a zs := by
  have hlt := h.lt
  rcases h with rfl | ⟨b, off, rfl, hc⟩
  · exact .inl rfl
  · by_cases hz : zs = []
    · exact .inl hz
    · exact .inr ⟨b, off, rfl, fun i hi => (World.cell?_of_block (w := w) (hg.block b (hlt _ rfl hz) (hne _ rfl hz))).trans (hc i hi)⟩

theorem Own.made (w : World) : Own (w.alloc (.cells #[] 5)) w.heap.size (.slice (some ⟨w.heap.size, 0, none⟩) 0 0) [] :=
  World.ownsRow_made (size := 1) w #[] 0 (Nat.le_refl _) (Nat.zero_le _) (by simp)
theorem Own.below {B base : Nat} {w wa w1 : World} {v : Value} {zs : List Int} (ho : Own wa base v zs) (h : Below B w wa) (hB : B ≤ base) (hs : B ≤ wa.heap.size) (hg : wa.grownBy w1 v.ownBlock) : Below B w w1 :=
  h.grown hg hs fun k hk => Nat.le_trans hB (World.ownsRow.lt ho k hk).1

/-- string(b) -/
theorem conv_str {w : World} {a : Option Addr} {zs : List Int} (h : Bytes w a zs) (n c : Nat) (hn : zs.length = n) (hnil : a = none → n = 0 ∧ c = 0) :
    (convert 34 9 (.slice a n c)).run Try.prog w = .ok (.string (strOfNums zs)) w := by
  subst hn
  cases a with
  | none =>
    have hy : zs = [] := List.eq_nil_of_length_eq_zero (hnil rfl).1
    subst hy
    exact run_convert_bytes_nil w 34 5 Try.underlying34 Try.underlying5 _ _ 9 Try.underlying9
  | some ad =>
    have hl : (loadCells ad zs.length).run Try.prog w = .ok (zs.map (Value.int .u8)).toArray w := by
      have := run_loadCells_list (P := Try.prog) w ad (zs.map (Value.int .u8)) h.news
      simpa using this
    rw [run_convert_bytes_string w 34 9 5 _ _ c Try.underlying34 Try.underlying5 Try.underlying9, run_bytesToString w _ _ c zs hl, foldl_push_bytes]
    simp [strOfNums, ByteArray.empty, ByteArray.emptyWithCapacity]
    rfl

theorem Own.later {w w' : World} {base : Nat} {v : Value} {zs : List Int} (h : Own w base v zs) (hb : Below w.heap.size w w') : Own w' base v zs :=
  World.ownsRow.kept (row := none) h ⟨hb.os, hb.tape, hb.output, hb.size, fun k hk _ => hb.block k hk⟩ (by cases hv : v.ownBlock <;> simp)
/-- 'out = append(out, b)', out of the call's own -/
theorem app1 {w0 w : World} {ops : Array Oper} {rest : List Oper} {o : Oper} {a : Act} {Q : Exit → Act → World → Prop} (hgd : o.guard = none) (s x : Operand)
    (ho : o.op = .call { callee := .builtin .append, args := #[s, x], argTypes := #[34, 34] })
    (B : Nat) (v : Value) (zs : List Int) (hs : a.eval s = v) (hown : Own w B v zs) (b : Int) (hx : a.eval x = .slice (some ⟨w.heap.size, 0, none⟩) 1 1) (hsz : zs.length ≤ 900000) (hB : B ≤ w0.heap.size) (hbel : Below B w0 w)
    (h : ∀ v' w', Own w' B v' (zs ++ [b]) → Below B w0 w' → wpList Try.prog ops Q rest (a.put o.dst v') w') : wpList Try.prog ops Q (o :: rest) a (w.alloc (.cells #[.int .u8 b] 5)) := by
  have hBw : B ≤ w.heap.size := Nat.le_trans hB hbel.size
  have hown' : Own (w.alloc (.cells #[.int .u8 b] 5)) B v zs := World.ownsRow.alloc hown _
  have hbel' : Below B w0 (w.alloc (.cells #[.int .u8 b] 5)) := hbel.alloc hBw _
  refine app hgd s x ho B v zs hs hown' (some ⟨w.heap.size, 0, none⟩) 1 1 [b] hx (fun h => by cases h) rfl (digits_lie w _ _ [b] rfl) (by omega) (by simp; omega) ?_
  intro v' w' h1 h2
  exact h v' w' h1 (hown'.below hbel' (Nat.le_refl _) (by simp; omega) h2)


def nums (s : ByteArray) : List Int := s.data.toList.map fun b => (b.toNat : Int)
theorem nums_length (s : ByteArray) : (nums s).length = s.size := by simp [nums]
theorem nums_cells (s : ByteArray) : Lib.strCells s = (nums s).map (Value.int .u8) := by simp [Lib.strCells, nums]
theorem str_nums (s : ByteArray) : strOfNums (nums s) = s := by
  obtain ⟨⟨l⟩⟩ := s
  have h : ((fun n : Int => UInt8.ofNat n.toNat) ∘ fun b : UInt8 => (b.toNat : Int)) = id := by funext b; simp
  simp [strOfNums, nums, h]
theorem Own.mono {w : World} {B B' : Nat} {v : Value} {zs : List Int} (h : Own w B v zs) (hB : B' ≤ B) : Own w B' v zs := by
  refine ⟨h.1, ?_⟩
  rcases h.2 with h | ⟨g, cap, cur, hv, hb, r⟩
  · exact .inl h
  · exact .inr ⟨g, cap, cur, hv, by omega, r⟩
/-- a row that isn't empty -/
theorem Own.row {w : World} {B : Nat} {v : Value} {zs : List Int} (h : Own w B v zs) (hz : 0 < zs.length) : ∃ g cap, v = .slice (some ⟨g, 0, none⟩) zs.length cap ∧ B ≤ g ∧ g < w.heap.size ∧ zs.length ≤ cap ∧ cap ≤ maxLen ∧ Bytes w (some ⟨g, 0, none⟩) zs := by
  have hc := fun g hg => World.ownsRow.cells h (g := g) hg
  rcases h.2 with ⟨_, h0⟩ | ⟨g, cap, cur, rfl, hb, hg, hcap, hm, _, _⟩
  · omega
  · refine ⟨g, cap, rfl, hb, (Array.getElem?_eq_some_iff.1 hg).1, hcap, hm, .inr ⟨g, 0, rfl, fun i hi => ?_⟩⟩
    have := hc g rfl i (.int .u8 (zs.getD i 0)) (by simp [List.getD, List.getElem?_eq_getElem hi])
    rw [add_plain] at this
    exact this
theorem Own.rowAt {w : World} {B : Nat} {v : Value} {zs : List Int} {k : Nat} (h : Own w B v zs) (hk : zs.length = k) (hz : 0 < k) : ∃ g cap, v = .slice (some ⟨g, 0, none⟩) k cap ∧ B ≤ g ∧ g < w.heap.size ∧ k ≤ cap ∧ cap ≤ maxLen ∧ Bytes w (some ⟨g, 0, none⟩) zs := by
  subst hk
  exact h.row hz
theorem Bytes.drop {w : World} {b off : Nat} {zs : List Int} (h : Bytes w (some ⟨b, off, none⟩) zs) (k : Nat) : Bytes w (some ⟨b, off + k, none⟩) (zs.drop k) := by
  rcases h with rfl | ⟨b', off', he, hc⟩
  · exact .inl (by simp)
  · simp only [Option.some.injEq, Addr.mk.injEq, and_true] at he
    obtain ⟨rfl, rfl⟩ := he
    refine .inr ⟨b, off + k, rfl, fun i hi => ?_⟩
    have hi' : k + i < zs.length := by simp at hi; omega
    have := hc (k + i) hi'
    rw [show off + k + i = off + (k + i) by omega, this]
    simp [List.getD, List.getElem?_drop]
theorem Bytes.take {w : World} {a : Option Addr} {zs : List Int} (h : Bytes w a zs) (k : Nat) : Bytes w a (zs.take k) := by
  rcases h with rfl | ⟨b, off, rfl, hc⟩
  · exact .inl (by simp)
  · refine .inr ⟨b, off, rfl, fun i hi => ?_⟩
    have hi' : i < zs.length := by simp at hi; omega
    have hk : i < k := by simp at hi; omega
    rw [hc i hi']
    simp [List.getD, hk]
theorem Bytes.drew {w : World} {a : Option Addr} {zs : List Int} (h : Bytes w a zs) : Bytes w.drew a zs := h
theorem Own.drew {w : World} {B : Nat} {v : Value} {zs : List Int} (h : Own w B v zs) : Own w.drew B v zs := h

/-- 'out = append(out, s...)', s a string -/
theorem appS {w0 w : World} {ops : Array Oper} {rest : List Oper} {o : Oper} {a : Act} {Q : Exit → Act → World → Prop} (hgd : o.guard = none) (sl x : Operand)
    (ho : o.op = .call { callee := .builtin .append, args := #[sl, x], argTypes := #[34, 9] })
    (B : Nat) (v : Value) (zs : List Int) (hs : a.eval sl = v) (hown : Own w B v zs) (s : ByteArray) (hx : a.eval x = .string s) (hsz : zs.length + s.size ≤ 1000000) (hB : B ≤ w0.heap.size) (hbel : Below B w0 w)
    (h : ∀ v' w', Own w' B v' (zs ++ nums s) → Below B w0 w' → wpList Try.prog ops Q rest (a.put o.dst v') w') : wpList Try.prog ops Q (o :: rest) a w := by
  obtain ⟨i0, hi, hz0, hz1, hz2⟩ := info_parts info5
  have hBw : B ≤ w.heap.size := Nat.le_trans hB hbel.size
  refine Lib.wpList_append_own_string w hgd sl x 34 9 ho B 5 i0 Try.underlying34 Try.underlying9 hi hz0 hz1 hz2 v _ _ hs hown s hx (by unfold maxLen; omega) (by omega) hBw ?_
  intro v' w' h1 h2 _
  refine h v' w' ?_ (hown.below hbel (Nat.le_refl _) hBw h2)
  unfold Own
  rw [List.map_append, List.length_append, nums_length, ← nums_cells]
  exact h1

end Go.Proofs.Ytklfpoojpfomeaa.Key

namespace Go.Proofs.Ytklfpoojpfomeaa.Key
open Go.RowKit
open Go.Op (bytesLess)

end Go.Proofs.Ytklfpoojpfomeaa.Key

namespace Go.Proofs.Ytklfpoojpfomeaa.Key
open Go.RowKit
open Go.Op (bytesLess)

theorem top_byte {x : UInt8} (h : (((x.toNat : Nat) : Int) == 255) = true) : x = 255 := by
  rw [u8_top]
  have := eq_of_beq h
  omega
theorem low_byte {x : UInt8} (h : (((x.toNat : Nat) : Int) == 255) = false) : x ≠ 255 := by
  rintro rfl
  simp at h
theorem take_last (l : List UInt8) (m : Nat) (h : m < l.length) : l.take (m + 1) = l.take m ++ [l[m]] := List.take_succ_eq_append_getElem h

/-- what Succ answers -/
def sucS (l : List UInt8) : ByteArray := str ((succ l).getD [])
def sucO (l : List UInt8) : Bool := (succ l).isSome

theorem one_more (x : UInt8) (h : x ≠ 255) : UInt8.ofNat (((x.toNat : Nat) : Int) + 1).toNat = x + 1 := by
  rw [u8_eq, u8_succ x h]
  have := u8_lt256 x
  have : x.toNat ≠ 255 := fun e => h ((u8_top x).2 e)
  simp only [UInt8.toNat_ofNat']
  omega

theorem less_str (a b : ByteArray) : bytesLess a.toList b.toList = bytesLess a.data.toList b.data.toList := by rw [Lib.toList_data, Lib.toList_data]
end Go.Proofs.Ytklfpoojpfomeaa.Key

namespace Go.Proofs.Ytklfpoojpfomeaa.Key
open Go.RowKit
open Go.Op (bytesLess)

/-- a range that is handed in -/
def rg (lo hi : ByteArray) (e : Bool) : Rng := ⟨lo.data.toList, hi.data.toList, e⟩
/-- a range as a value -/
def rv (r : Rng) : Value := .agg #[.string (str r.lo), .string (str r.hi), .bool r.e]
theorem rv_rg (lo hi : ByteArray) (e : Bool) : rv (rg lo hi e) = .agg #[.string lo, .string hi, .bool e] := by simp [rv, rg, str_eq]
theorem in_less (lo hi k : ByteArray) (e : Bool) : inR (rg lo hi e) k.data.toList = (!bytesLess k.toList lo.toList && (!e || bytesLess k.toList hi.toList)) := by
  rw [less_str, less_str]; rfl
theorem empty_less (lo hi : ByteArray) (e : Bool) : emptyR (rg lo hi e) = (e && !bytesLess lo.toList hi.toList) := by
  rw [less_str, emptyR_eq]; rfl

/-- a block that holds a range -/
def Box (w : World) (k : Nat) (v0 v1 v2 : Value) : Prop := w.heap[k]? = some (.cells #[v0, v1, v2] 55 (0, 0))
theorem Box.new (w : World) (v0 v1 v2 : Value) : Box (w.alloc (.cells #[v0, v1, v2] 55)) w.heap.size v0 v1 v2 := Go.heap_alloc_new _ _
theorem Box.lt {w : World} {k : Nat} {v0 v1 v2 : Value} (h : Box w k v0 v1 v2) : k < w.heap.size := (Array.getElem?_eq_some_iff.1 h).1
theorem Box.later {w w' : World} {k : Nat} {v0 v1 v2 : Value} (h : Box w k v0 v1 v2) (hb : Below w.heap.size w w') : Box w' k v0 v1 v2 := (hb.block k h.lt).trans h
theorem Box.alloc {w : World} {k : Nat} {v0 v1 v2 : Value} (h : Box w k v0 v1 v2) (o : Obj) : Box (w.alloc o) k v0 v1 v2 := h.later ((Below.refl _ _).alloc (Nat.le_refl _) o)
theorem Box.cells {w : World} {k : Nat} {v0 v1 v2 : Value} (h : Box w k v0 v1 v2) : w.cell? ⟨k, 0, none⟩ = some v0 ∧ w.cell? ⟨k, 1, none⟩ = some v1 ∧ w.cell? ⟨k, 2, none⟩ = some v2 :=
  ⟨cell_of_row _ _ 0 _ _ _ h, cell_of_row _ _ 1 _ _ _ h, cell_of_row _ _ 2 _ _ _ h⟩
theorem Box.free {w : World} {k : Nat} {v0 v1 v2 : Value} (h : Box w k v0 v1 v2) : w.frozen? ⟨k, 0, none⟩ = false ∧ w.frozen? ⟨k, 1, none⟩ = false ∧ w.frozen? ⟨k, 2, none⟩ = false :=
  ⟨frozen_of_row _ _ 0 _ _ h, frozen_of_row _ _ 1 _ _ h, frozen_of_row _ _ 2 _ _ h⟩
theorem below_box (w : World) (o : Obj) : Below w.heap.size w (w.alloc o) := (Below.refl _ _).alloc (Nat.le_refl _) o

/-- whether a range is a part of another one -/
def insideR (a b : Rng) : Bool := emptyR a || (!bytesLess a.lo b.lo && (!b.e || (a.e && !bytesLess b.hi a.hi)))
theorem le_not (x y : List UInt8) : (bytesLess x y || x == y) = !bytesLess y x := by
  cases h : bytesLess y x
  · cases h' : bytesLess x y
    · have := less_same h h'
      subst this
      simp
    · rfl
  · rw [less_asymm h]
    cases hb : (x == y)
    · rfl
    · have := eq_of_beq hb
      subst this
      rw [less_self] at h
      cases h
theorem le_str (x y : ByteArray) : (bytesLess x.toList y.toList || x.toList == y.toList) = !bytesLess y.data.toList x.data.toList := by
  rw [Lib.toList_data, Lib.toList_data, le_not]
/-- a range as a value, of texts -/
abbrev av (lo hi : ByteArray) (e : Bool) : Value := .agg #[.string lo, .string hi, .bool e]
end Go.Proofs.Ytklfpoojpfomeaa.Key

namespace Go.Proofs.Ytklfpoojpfomeaa.Key
open Go.RowKit
open Go.Op (bytesLess)

/-- a message -/
structure M where
  kind : Int
  key : ByteArray
  val : ByteArray
  blk : Int
  deep : Int
  add : ByteArray
def M.nil : M := ⟨0, ⟨#[]⟩, ⟨#[]⟩, 0, 0, ⟨#[]⟩⟩
def M.cells (m : M) : List Value := [.int .u8 m.kind, .string m.key, .string m.val, .int .u32 m.blk, .int .u16 m.deep, .string m.add]
/-- .. as a value -/
abbrev mv (m : M) : Value := .agg #[.int .u8 m.kind, .string m.key, .string m.val, .int .u32 m.blk, .int .u16 m.deep, .string m.add]

/-- six cells that hold a message -/
structure Six (w : World) (b o : Nat) (m : M) : Prop where
  c0 : w.cell? ⟨b, o, none⟩ = some (.int .u8 m.kind)
  c1 : w.cell? ⟨b, o + 1, none⟩ = some (.string m.key)
  c2 : w.cell? ⟨b, o + 2, none⟩ = some (.string m.val)
  c3 : w.cell? ⟨b, o + 3, none⟩ = some (.int .u32 m.blk)
  c4 : w.cell? ⟨b, o + 4, none⟩ = some (.int .u16 m.deep)
  c5 : w.cell? ⟨b, o + 5, none⟩ = some (.string m.add)
theorem Six.lt {w : World} {b o : Nat} {m : M} (h : Six w b o m) : b < w.heap.size := World.block_lt_of_cell? w _ h.c0
theorem Six.below {w w' : World} {b o B : Nat} {m : M} (h : Six w b o m) (hb : Below B w w') (hB : b < B) : Six w' b o m :=
  ⟨(hb.cell (p := ⟨b, o, none⟩) hB).trans h.c0, (hb.cell (p := ⟨b, o + 1, none⟩) hB).trans h.c1, (hb.cell (p := ⟨b, o + 2, none⟩) hB).trans h.c2, (hb.cell (p := ⟨b, o + 3, none⟩) hB).trans h.c3, (hb.cell (p := ⟨b, o + 4, none⟩) hB).trans h.c4, (hb.cell (p := ⟨b, o + 5, none⟩) hB).trans h.c5⟩
theorem Six.later {w w' : World} {b o : Nat} {m : M} (h : Six w b o m) (hb : Below w.heap.size w w') : Six w' b o m := h.below hb h.lt

/-- a block that holds a message -/
def MBox (w : World) (k : Nat) (m : M) : Prop := w.heap[k]? = some (.cells #[.int .u8 m.kind, .string m.key, .string m.val, .int .u32 m.blk, .int .u16 m.deep, .string m.add] 48 (0, 0))
theorem MBox.new (w : World) (m : M) : MBox (w.alloc (.cells #[.int .u8 m.kind, .string m.key, .string m.val, .int .u32 m.blk, .int .u16 m.deep, .string m.add] 48)) w.heap.size m := Go.heap_alloc_new _ _
theorem MBox.lt {w : World} {k : Nat} {m : M} (h : MBox w k m) : k < w.heap.size := (Array.getElem?_eq_some_iff.1 h).1
theorem MBox.below {w w' : World} {k B : Nat} {m : M} (h : MBox w k m) (hb : Below B w w') (hB : k < B) : MBox w' k m := (hb.block k hB).trans h
theorem MBox.later {w w' : World} {k : Nat} {m : M} (h : MBox w k m) (hb : Below w.heap.size w w') : MBox w' k m := h.below hb h.lt
theorem MBox.alloc {w : World} {k : Nat} {m : M} (h : MBox w k m) (o : Obj) : MBox (w.alloc o) k m := h.later ((Below.refl _ _).alloc (Nat.le_refl _) o)
theorem MBox.six {w : World} {k : Nat} {m : M} (h : MBox w k m) : Six w k 0 m :=
  ⟨cell_of_row _ _ 0 _ _ _ h, cell_of_row _ _ 1 _ _ _ h, cell_of_row _ _ 2 _ _ _ h, cell_of_row _ _ 3 _ _ _ h, cell_of_row _ _ 4 _ _ _ h, cell_of_row _ _ 5 _ _ _ h⟩
theorem MBox.free {w : World} {k : Nat} {m : M} (h : MBox w k m) (i : Nat) : w.frozen? ⟨k, i, none⟩ = false := frozen_of_row _ _ i _ _ h

/-- a slice of messages -/
def Msgs (w : World) (a : Option Addr) (l : List M) : Prop :=
  l = [] ∨ ∃ b off, a = some ⟨b, off, none⟩ ∧ ∀ i (h : i < l.length), Six w b (off + i * 6) l[i]
theorem Msgs.at {w : World} {a : Option Addr} {l : List M} (h : Msgs w a l) {i : Nat} (hi : i < l.length) : ∃ b off, a = some ⟨b, off, none⟩ ∧ Six w b (off + i * 6) l[i] := by
  rcases h with rfl | ⟨b, off, rfl, hc⟩
  · simp at hi
  · exact ⟨b, off, rfl, hc i hi⟩
theorem Msgs.below {w w' : World} {B : Nat} {a : Option Addr} {l : List M} (h : Msgs w a l) (hb : Below B w w') (hB : ∀ ad, a = some ad → l ≠ [] → ad.block < B) : Msgs w' a l := by
  rcases h with rfl | ⟨b, off, rfl, hc⟩
  · exact .inl rfl
  · by_cases hl : l = []
    · exact .inl hl
    · exact .inr ⟨b, off, rfl, fun i hi => (hc i hi).below hb (hB _ rfl hl)⟩
theorem Msgs.lt {w : World} {a : Option Addr} {l : List M} (h : Msgs w a l) : ∀ ad, a = some ad → l ≠ [] → ad.block < w.heap.size := by
  rintro ad rfl hl
  obtain ⟨b, off, he, h6⟩ := h.at (List.length_pos_iff.2 hl)
  simp only [Option.some.injEq] at he
  subst he
  exact h6.lt
theorem Msgs.later {w w' : World} {a : Option Addr} {l : List M} (h : Msgs w a l) (hb : Below w.heap.size w w') : Msgs w' a l := h.below hb h.lt

/-- more than is gone through? -/
def greatM (m : M) : Bool := decide (100 < m.key.size) || (decide (100 < m.val.size) || decide (100 < m.add.size))
def greatL (l : List M) : Bool := decide (60 < l.length) || l.any greatM
theorem any_take_succ {α : Type} (l : List α) (p : α → Bool) {j : Nat} (h : j < l.length) : (l.take (j + 1)).any p = ((l.take j).any p || p l[j]) := by
  rw [List.take_succ_eq_append_getElem h, List.any_append]
  simp only [List.any_cons, List.any_nil, Bool.or_false]
theorem any_at {α : Type} (l : List α) (p : α → Bool) {j : Nat} (h : j < l.length) (hp : p l[j] = true) : l.any p = true := List.any_eq_true.2 ⟨l[j], List.getElem_mem h, hp⟩
theorem gr_int {n : Nat} {b : Bool} (h : decide (100 < n) = b) : decide ((100 : Int) < (n : Int)) = b := by rw [← h]; exact decide_eq_decide.2 (by omega)

end Go.Proofs.Ytklfpoojpfomeaa.Key

namespace Go.Proofs.Ytklfpoojpfomeaa.Key
open Go.RowKit
open Go.Op (bytesLess)

/-- the range of the keys of which a message speaks -/
def aboutR (m : M) : Rng :=
  if m.kind = 1 ∨ m.kind = 2 then ⟨m.key.data.toList, m.key.data.toList ++ [0], true⟩ else if m.kind = 3 then ofR m.key.data.toList else none'
/-- does a message speak of a key? -/
def speaks (m : M) (k : List UInt8) : Bool :=
  if m.kind = 3 then has k m.key.data.toList else if m.kind = 1 ∨ m.kind = 2 then k == m.key.data.toList else false
theorem in_one (a k : List UInt8) : inR ⟨a, a ++ [0], true⟩ k = (k == a) := by
  unfold inR
  simp only [Bool.not_true, Bool.false_or]
  cases h1 : bytesLess k a
  · cases h2 : bytesLess a k
    · have := less_same h1 h2
      subst this
      simp [next_above]
    · rw [next_least h2]
      have : k ≠ a := by rintro rfl; rw [less_self] at h2; cases h2
      simp [this]
  · have : k ≠ a := by rintro rfl; rw [less_self] at h1; cases h1
    simp [this]
theorem in_about (m : M) (k : List UInt8) : inR (aboutR m) k = speaks m k := by
  unfold aboutR speaks
  by_cases h3 : m.kind = 3
  · have h : ¬ (m.kind = 1 ∨ m.kind = 2) := by omega
    rw [if_neg h, if_pos h3, if_pos h3, in_of]
  · rw [if_neg h3, if_neg h3]
    by_cases h : m.kind = 1 ∨ m.kind = 2
    · rw [if_pos h, if_pos h, in_one]
    · rw [if_neg h, if_neg h]
      exact in_empty (by decide) k

end Go.Proofs.Ytklfpoojpfomeaa.Key

namespace Go.Proofs.Ytklfpoojpfomeaa.Key
open Go.RowKit
open Go.Op (bytesLess)

def cellsM (l : List M) : List Value := l.flatMap M.cells
theorem cellsM_length (l : List M) : (cellsM l).length = l.length * 6 := by
  induction l with
  | nil => rfl
  | cons m l ih =>
    rw [cellsM, List.flatMap_cons, List.length_append, show (l.flatMap M.cells).length = l.length * 6 from ih]
    simp [M.cells]
    omega
theorem cellsM_append (l l' : List M) : cellsM (l ++ l') = cellsM l ++ cellsM l' := by simp [cellsM]
theorem cellsM_one (m : M) : cellsM [m] = m.cells := by simp [cellsM]
theorem cellsM_at : ∀ (l : List M) (i : Nat) (h : i < l.length) (q : Nat), q < 6 → (cellsM l)[i * 6 + q]? = l[i].cells[q]?
  | [], i, h, _, _ => by simp at h
  | m :: l, 0, _, q, hq => by
    rw [cellsM, List.flatMap_cons, List.getElem?_append_left (by simp [M.cells]; omega)]
    simp
  | m :: l, i + 1, h, q, hq => by
    have h' : i < l.length := by simpa using h
    rw [cellsM, List.flatMap_cons, List.getElem?_append_right (by simp [M.cells]; omega), show (i + 1) * 6 + q - m.cells.length = i * 6 + q by simp [M.cells]; omega]
    exact cellsM_at l i h' q hq
/-- a row of messages of the call's own -/
def OwnM (w : World) (base : Nat) (v : Value) (l : List M) : Prop := w.ownsRow base 48 6 v l.length (cellsM l)
theorem OwnM.later {w w' : World} {base : Nat} {v : Value} {l : List M} (h : OwnM w base v l) (hb : Below w.heap.size w w') : OwnM w' base v l :=
  World.ownsRow.kept (row := none) h ⟨hb.os, hb.tape, hb.output, hb.size, fun k hk _ => hb.block k hk⟩ (by cases hv : v.ownBlock <;> simp)
theorem OwnM.nil (w : World) (base : Nat) : OwnM w base (.slice none 0 0) [] := World.ownsRow_nil _ _ _ _
theorem OwnM.form {w : World} {base : Nat} {v : Value} {l : List M} (h : OwnM w base v l) : ∃ a cap, v = .slice a l.length cap ∧ Msgs w a l ∧ (a = none → l = [] ∧ cap = 0) ∧ (∀ ad, a = some ad → base ≤ ad.block ∧ ad.block < w.heap.size ∧ ad.off = 0 ∧ ad.spot = none) ∧ l.length ≤ cap := by
  have hlt := World.ownsRow.lt h
  have hc := fun g hg => World.ownsRow.cells h (g := g) hg
  rcases h.2 with ⟨rfl, h0⟩ | ⟨g, cap, cur, rfl, _, _, hcap, _, _, _⟩
  · have hy : l = [] := List.eq_nil_of_length_eq_zero h0
    subst hy
    exact ⟨none, 0, rfl, .inl rfl, fun _ => ⟨rfl, rfl⟩, (fun _ h => by cases h), Nat.le_refl _⟩
  · refine ⟨_, cap, rfl, .inr ⟨g, 0, rfl, fun i hi => ?_⟩, (fun h => by cases h), (fun ad h => by cases h; have := hlt g rfl; exact ⟨this.1, this.2, rfl, rfl⟩), hcap⟩
    have e := fun q (hq : q < 6) u hu => hc g rfl (i * 6 + q) u ((cellsM_at l i hi q hq).trans hu)
    refine ⟨?_, ?_, ?_, ?_, ?_, ?_⟩
    · have := e 0 (by omega) _ rfl; rw [add_plain] at this; exact this
    · have := e 1 (by omega) _ rfl; rw [add_plain] at this; exact this
    · have := e 2 (by omega) _ rfl; rw [add_plain] at this; exact this
    · have := e 3 (by omega) _ rfl; rw [add_plain] at this; exact this
    · have := e 4 (by omega) _ rfl; rw [add_plain] at this; exact this
    · have := e 5 (by omega) _ rfl; rw [add_plain] at this; exact this
theorem one_cell (m : M) : ∀ u ∈ m.cells, u.oneCell' = true := by
  intro u hu
  simp only [M.cells, List.mem_cons, List.not_mem_nil, or_false] at hu
  rcases hu with rfl | rfl | rfl | rfl | rfl | rfl <;> rfl
theorem MBox.news {w : World} {k : Nat} {m : M} (h : MBox w k m) : ∀ j u, m.cells[j]? = some u → w.cell? ((⟨k, 0, none⟩ : Addr).add j) = some u := by
  intro j u hu
  rw [add_plain, Nat.zero_add, cell_of_row _ _ _ _ _ _ h]
  simpa [M.cells] using hu
end Go.Proofs.Ytklfpoojpfomeaa.Key

namespace Go.Proofs.Ytklfpoojpfomeaa.Key
open Go.RowKit
open Go.Op (bytesLess)

/-- the place of the newest one of the first n that speaks of a key; -1 -/
def lastP (l : List M) (k : List UInt8) : Nat → Int
  | 0 => -1
  | n + 1 => if speaks (l[n]?.getD M.nil) k then (n : Int) else lastP l k n
def lastI (l : List M) (k : List UInt8) : Int := lastP l k l.length
theorem lastP_succ {l : List M} {k : List UInt8} {j : Nat} (h : j < l.length) : lastP l k (j + 1) = if speaks l[j] k then (j : Int) else lastP l k j := by
  rw [lastP, List.getElem?_eq_getElem h]
  rfl

end Go.Proofs.Ytklfpoojpfomeaa.Key

namespace Go.Proofs.Ytklfpoojpfomeaa.Key
open Go.RowKit Go.Shelf
open Go.Op (bytesLess)
attribute [local go_sem] Oper.semAt_some

/-- messages whose keys aren't too long -/
abbrev MK := { m : M // m.key.size ≤ 1000 }
def MK.nil : MK := ⟨M.nil, by decide⟩
/-- what has come when k rounds are over -/
def back (l : List MK) (k : Nat) : List (Nat × MK) := (List.range k).map fun j => (l.length - 1 - j, l[l.length - 1 - j]?.getD MK.nil)
theorem back_succ (l : List MK) (k : Nat) : back l (k + 1) = back l k ++ [(l.length - 1 - k, l[l.length - 1 - k]?.getD MK.nil)] := by simp [back, List.range_succ]
theorem back_at {l : List MK} {j k : Nat} (h : j + 1 + k = l.length) (hj : j < l.length) : back l (k + 1) = back l k ++ [(j, l[j])] := by
  rw [back_succ, show l.length - 1 - k = j by omega, List.getElem?_eq_getElem hj]
  rfl
theorem back_length (l : List MK) (k : Nat) : (back l k).length = k := by simp [back]
/-- one less, down to -1 -/
def toI : Nat → Int | 0 => -1 | n + 1 => n
theorem toI_len (n : Nat) : (n : Int) - 1 = toI n := by
  cases n with
  | zero => rfl
  | succ n => simp [toI]
def msOf (l : List MK) : List M := l.map (·.1)
theorem msOf_length (l : List MK) : (msOf l).length = l.length := by simp [msOf]
theorem msOf_at (l : List MK) (j : Nat) (h : j < l.length) (h' : j < (msOf l).length) : (msOf l)[j] = l[j].1 := by simp [msOf]
theorem msOf_of (l : List M) (h : ∀ m ∈ l, m.key.size ≤ 1000) : ∃ lk, l = msOf lk := by
  induction l with
  | nil => exact ⟨[], rfl⟩
  | cons m l ih =>
    obtain ⟨lk, rfl⟩ := ih fun x hx => h x (List.mem_cons_of_mem _ hx)
    exact ⟨⟨m, h m (List.mem_cons_self ..)⟩ :: lk, rfl⟩

theorem mbox_own {β : Type} (B : Nat) (f : β → M) : Go.Own (fun s W => MBox W B (f s)) := fun s X Y row hs hg hrow => by
  refine (hg.block B hs.lt (fun e => ?_)).trans hs
  obtain ⟨o, ho, hc⟩ := hrow B e.symm
  rw [show X.heap[B]? = _ from hs] at ho
  cases ho
  cases hc
theorem keeps_below {W W' : World} (h : Below W.heap.size W W') : KeepsOthers W W' := ⟨h.size, fun k _ hk _ => (h.block k (Array.getElem?_eq_some_iff.1 hk).1).trans hk⟩
theorem boxed_later {W W' : World} {B : Nat} {t : TypeId} {v : Value} (h : Boxed W B t v) (hb : Below W.heap.size W W') : Boxed W' B t v := (hb.block B h.lt).trans h

/-- nothing of what came speaks -/
theorem back_none {l : List MK} {k : List UInt8} : ∀ {n : Nat}, n ≤ l.length → (∀ p ∈ back l n, speaks p.2.1 k = false) → lastI (msOf l) k = lastP (msOf l) k (l.length - n) := by
  intro n
  induction n with
  | zero => intro _ _; unfold lastI; rw [msOf_length]; rfl
  | succ n ih =>
    intro hn h
    rw [back_succ] at h
    rw [ih (by omega) (fun p hp => h p (List.mem_append_left _ hp)), show l.length - n = (l.length - (n + 1)) + 1 by omega]
    have hlt : l.length - (n + 1) < l.length := by omega
    have hs := h (l.length - 1 - n, l[l.length - 1 - n]?.getD MK.nil) (List.mem_append_right _ (List.mem_cons_self ..))
    dsimp only at hs
    rw [show l.length - 1 - n = l.length - (n + 1) by omega, List.getElem?_eq_getElem hlt] at hs
    rw [lastP_succ (by rw [msOf_length]; exact hlt), msOf_at l _ hlt]
    simp only [Option.getD_some] at hs
    rw [hs]
    rfl
theorem back_some {l : List MK} {k : List UInt8} {j n : Nat} (hj : j + 1 + n = l.length) (h : ∀ p ∈ back l n, speaks p.2.1 k = false) (hs : speaks (l[j]'(by omega)).1 k = true) : lastI (msOf l) k = j := by
  rw [back_none (by omega) h, show l.length - n = j + 1 by omega, lastP_succ (by rw [msOf_length]; omega), msOf_at l j (by omega), hs]
  rfl

end Go.Proofs.Ytklfpoojpfomeaa.Key
