/-
  Contracts of Over, the program's and the document's: the range to which a range goes.
-/
import Derived.Test.YtmnngfbcgpholaaLOverRef
namespace Go.Proofs.Ytmnngfbcgpholaa.Key
open Go.RowKit
open Go.Op (bytesLess)

theorem succ_len : ∀ {p t : List UInt8}, succ p = some t → t.length ≤ p.length
  | [], _, h => by simp [succ] at h
  | x :: l, t, h => by
    cases hl : succ l with
    | some s =>
      rw [succ_cons_some hl] at h
      cases h
      have := succ_len hl
      simpa using this
    | none =>
      rw [succ_cons_none hl] at h
      split at h
      · cases h
      · cases h
        simp
theorem ofR_len (p : List UInt8) : (ofR p).hi.length ≤ p.length := by
  unfold ofR
  cases h : succ p with
  | none => simp
  | some s => simpa using succ_len h
theorem maxL_len {a b : List UInt8} {n : Nat} (ha : a.length ≤ n) (hb : b.length ≤ n) : (maxL a b).length ≤ n := by
  unfold maxL
  split
  · exact hb
  · exact ha
theorem minL_len {a b : List UInt8} {n : Nat} (ha : a.length ≤ n) (hb : b.length ≤ n) : (minL a b).length ≤ n := by
  unfold minL
  split
  · exact hb
  · exact ha
theorem cut_len {a b : Rng} {n : Nat} (h1 : a.lo.length ≤ n) (h2 : a.hi.length ≤ n) (h3 : b.lo.length ≤ n) (h4 : b.hi.length ≤ n) : (cutR a b).lo.length ≤ n ∧ (cutR a b).hi.length ≤ n := by
  unfold cutR
  split
  · exact ⟨Nat.zero_le _, Nat.zero_le _⟩
  · refine ⟨maxL_len h1 h3, ?_⟩
    unfold rawCut
    simp only
    split
    · split
      · exact minL_len h2 h4
      · exact h2
    · split
      · exact h4
      · exact Nat.zero_le _
theorem upB_has (l : Lft) (k : List UInt8) : upB l k = has k l.strip := up_has l k
theorem upS_has {l : Lft} {k : List UInt8} (h : has k l.strip = true) : upS l k = str (l.add ++ k.drop l.strip.length) := by
  unfold upS up
  rw [h]
  rfl
/-- the answer, by what Cut answers -/
theorem over_eq (s a : ByteArray) (r C : Rng) (hC : cutR r (ofR s.data.toList) = C) (v1 : Value) (T T2 : ByteArray) (h1 : emptyR C = true → v1 = av ⟨#[]⟩ ⟨#[]⟩ true) (h2 : emptyR C = false → T = str (a.data.toList ++ C.lo.drop s.data.toList.length))
    (h3 : has C.hi s.data.toList = true → T2 = str (a.data.toList ++ C.hi.drop s.data.toList.length)) :
    overV (emptyR C) C.e (has C.hi s.data.toList) v1 (av T T2 true) (av T (sucS a.data.toList) (sucO a.data.toList)) = rv (overR (lf s a) r) := by
  unfold overV overR
  rw [show (lf s a).strip = s.data.toList from rfl, hC]
  cases hE : emptyR C
  · rw [h2 hE]
    simp only [Bool.false_eq_true, if_false]
    cases hh : (C.e && has C.hi s.data.toList)
    · rfl
    · simp only [if_true]
      rw [h3 (Bool.and_eq_true _ _ ▸ hh).2]
      rfl
  · rw [h1 hE]
    rfl

end Go.Proofs.Ytmnngfbcgpholaa.Key
