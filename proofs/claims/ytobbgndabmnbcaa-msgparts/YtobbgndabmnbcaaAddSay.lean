/-
  Plain facts: what Add leaves, the program's and the document's, is the same; what is said last of each key stays.
-/
import Derived.Test.YtobbgndabmnbcaaAddRef
import Derived.Test.YtobbgndabmnbcaaKeep
namespace Go.Proofs.Ytobbgndabmnbcaa.Key
open Go.RowKit
open Go.Op (bytesLess)

/-- what a message speaks of has no Hi without an end; it has a key, or is the empty range -/
theorem about_form (m : M) : ((aboutR m).e = false → (aboutR m).hi = []) ∧ (emptyR (aboutR m) = false ∨ aboutR m = none') := by
  unfold aboutR
  by_cases h12 : m.kind = 1 ∨ m.kind = 2
  · rw [if_pos h12]
    refine ⟨(fun h => by cases h), .inl ?_⟩
    unfold emptyR
    rw [in_one]
    simp
  · rw [if_neg h12]
    by_cases h3 : m.kind = 3
    · rw [if_pos h3]
      refine ⟨fun h => ?_, .inl ?_⟩
      · unfold ofR at h ⊢
        cases hs : succ m.key.data.toList with
        | none => rfl
        | some s => rw [hs] at h; cases h
      · unfold emptyR
        rw [in_of]
        have := has_mk m.key.data.toList []
        rw [List.append_nil] at this
        rw [show (ofR m.key.data.toList).lo = m.key.data.toList from rfl, this]
        rfl
    · rw [if_neg h3]
      exact ⟨(fun h => by cases h), .inr rfl⟩
theorem cut_none (b : Rng) : cutR none' b = none' := by
  unfold cutR
  rw [if_pos]
  cases h : emptyR (rawCut none' b) with
  | true => rfl
  | false =>
    unfold emptyR at h
    rw [in_raw] at h
    have := in_empty (r := none') (by decide) (rawCut none' b).lo
    rw [this] at h
    cases h
theorem inside_cut (x m : M) : sameR (cutR (aboutR x) (aboutR m)) (aboutR x) = insideR (aboutR x) (aboutR m) := by
  obtain ⟨f1, f2⟩ := about_form x
  generalize aboutR x = A at *
  generalize aboutR m = B at *
  rw [Bool.eq_iff_iff, sameR_iff]
  rcases f2 with he | rfl
  · unfold insideR
    rw [he, Bool.false_or]
    constructor
    · intro h
      have hraw : rawCut A B = A := by
        unfold cutR at h
        split at h
        · rw [← h] at he
          exact absurd he (by decide)
        · exact h
      obtain ⟨lo, hi, e⟩ := A
      obtain ⟨lo', hi', e'⟩ := B
      simp only [rawCut, Rng.mk.injEq] at hraw
      obtain ⟨r1, r2, r3⟩ := hraw
      have h1 : bytesLess lo lo' = false := by
        cases hb : bytesLess lo lo' with
        | false => rfl
        | true => unfold maxL at r1; rw [if_pos hb] at r1; subst r1; rw [less_self] at hb; cases hb
      dsimp only
      rw [h1]
      cases e' with
      | false => rfl
      | true =>
        cases e with
        | false => cases r3
        | true =>
          have h2 : bytesLess hi' hi = false := by
            cases hb : bytesLess hi' hi with
            | false => rfl
            | true => simp only [if_true] at r2; unfold minL at r2; rw [if_pos hb] at r2; subst r2; rw [less_self] at hb; cases hb
          rw [h2]
          rfl
    · intro h
      have hraw : rawCut A B = A := by
        obtain ⟨lo, hi, e⟩ := A
        obtain ⟨lo', hi', e'⟩ := B
        dsimp only at h f1
        simp only [Bool.and_eq_true, Bool.not_eq_true', Bool.or_eq_true] at h
        obtain ⟨h1, h2⟩ := h
        simp only [rawCut, Rng.mk.injEq]
        refine ⟨by unfold maxL; rw [if_neg (by rw [h1]; simp)], ?_, ?_⟩
        · cases e with
          | false =>
            cases e' with
            | false => simpa using (f1 rfl).symm
            | true => rcases h2 with h2 | h2 <;> simp at h2
          | true =>
            cases e' with
            | false => rfl
            | true =>
              rcases h2 with h2 | h2
              · cases h2
              · simp only [if_true]
                unfold minL
                rw [if_neg (by rw [h2.2]; simp)]
        · cases e with
          | true => rfl
          | false =>
            cases e' with
            | false => rfl
            | true => rcases h2 with h2 | h2 <;> simp at h2
      unfold cutR
      rw [hraw, if_neg (by rw [he]; simp)]
  · rw [cut_none]
    exact ⟨fun _ => rfl, fun _ => rfl⟩
theorem add_same (l : List M) (m : M) : addL l m = addD l m := by
  unfold addL addD left'
  simp only [inside_cut]
theorem in_inside {a b : Rng} {k : List UInt8} (h : insideR a b = true) (hk : inR a k = true) : inR b k = true := by
  unfold insideR at h
  cases he : emptyR a with
  | true => rw [in_empty he k] at hk; cases hk
  | false =>
    rw [he, Bool.false_or] at h
    unfold inR at hk ⊢
    simp only [Bool.and_eq_true, Bool.not_eq_true', Bool.or_eq_true] at h hk ⊢
    refine ⟨less_le_trans hk.1 h.1, ?_⟩
    rcases h.2 with h2 | h2
    · exact .inl h2
    · rcases hk.2 with h3 | h3
      · rw [h2.1] at h3; cases h3
      · exact .inr (less_of_less_le h3 h2.2)
/-- what is said last -/
theorem adds (l : List M) (m : M) (k : List UInt8) : (speaks m k = true → lastI (addL l m) k = ((addL l m).length : Int) - 1) ∧
    (speaks m k = false → (lastI (addL l m) k = -1 ∧ lastI l k = -1) ∨ ∃ (i n : Nat) (hi : i < (addL l m).length) (hn : n < l.length), lastI (addL l m) k = i ∧ lastI l k = n ∧ (addL l m)[i] = l[n]) := by
  unfold addL
  refine ⟨fun h => ?_, fun h => ?_⟩
  · rw [lastI_snoc, if_pos h, List.length_append, List.length_singleton]
    omega
  · have e : (l.filter fun x => left' x (aboutR m)) = ((l.filter fun x => left' x (aboutR m)).map id) := by simp
    rw [lastI_snoc, if_neg (by rw [h]; simp)]
    rcases last_kept (fun x => left' x (aboutR m)) id k k l (fun _ _ _ => rfl) (fun x _ hs => by
      unfold left'
      rw [inside_cut]
      cases hi : insideR (aboutR x) (aboutR m) with
      | false => rfl
      | true =>
        have := in_inside hi (k := k) (by rw [in_about]; exact hs)
        rw [in_about, h] at this
        cases this) with h1 | ⟨i, n, hi, hn, a1, a2, a3, _, _⟩
    · exact .inl (by simpa using h1)
    · rw [← e] at a1
      refine .inr ⟨i, n, ?_, hn, a1, a2, ?_⟩
      · rw [List.length_append]
        rw [List.length_map] at hi
        omega
      · rw [List.getElem_append_left (by simpa using hi)]
        simpa using a3
/-- .. told by places -/
theorem adds' (l : List M) (m : M) (k : List UInt8) : (speaks m k = true → lastI (addL l m) k = ((addL l m).length : Int) - 1) ∧
    (speaks m k = false → (lastI (addL l m) k = -1 ∧ lastI l k = -1) ∨ ∃ (i n : Nat) (x : M), lastI (addL l m) k = i ∧ lastI l k = n ∧ (addL l m)[i]? = some x ∧ l[n]? = some x) := by
  refine ⟨(adds l m k).1, fun h => ?_⟩
  rcases (adds l m k).2 h with h | ⟨i, n, hi, hn, a1, a2, a3⟩
  · exact .inl h
  · exact .inr ⟨i, n, l[n], a1, a2, by rw [List.getElem?_eq_getElem hi, a3], List.getElem?_eq_getElem hn⟩
theorem Msgs.place {w : World} {a : Option Addr} {l : List M} (h : Msgs w a l) {i : Nat} {x : M} (hx : l[i]? = some x) : ∃ b off, a = some ⟨b, off, none⟩ ∧ Six w b (off + i * 6) x := by
  obtain ⟨hi, rfl⟩ := List.getElem?_eq_some_iff.1 hx
  exact h.at hi
end Go.Proofs.Ytobbgndabmnbcaa.Key
