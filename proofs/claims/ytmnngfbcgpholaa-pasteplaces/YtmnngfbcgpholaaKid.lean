/-
  Contracts of Kid, the program's and the document's, and of the document's Range; that they are one where the node may be.
-/
import Derived.Test.YtmnngfbcgpholaaPiv
namespace Go.Proofs.Ytmnngfbcgpholaa.Key
open Go.RowKit
open Go.Op (bytesLess)

/-- is a pivot not above a key? -/
def leK (k : List UInt8) (s : ByteArray) : Bool := !bytesLess k s.data.toList
def kidC (pv : List ByteArray) (k : List UInt8) : Nat := pv.countP (leK k)
def kidI (pv : List ByteArray) (n3 : Nat) (k : List UInt8) : Int := if ((n3 : Int) - 1) < (kidC pv k : Int) then (n3 : Int) - 1 else (kidC pv k : Int)
theorem count_succ {pv : List ByteArray} {k : List UInt8} {j : Nat} (h : j < pv.length) : kidC (pv.take (j + 1)) k = kidC (pv.take j) k + if leK k pv[j] then 1 else 0 := by
  unfold kidC
  rw [List.take_succ_eq_append_getElem h, List.countP_append]
  congr 1
  cases q : leK k pv[j] <;> simp [q]
theorem count_le (pv : List ByteArray) (k : List UInt8) : kidC pv k ≤ pv.length := List.countP_le_length
/-- the range of a kid, as the document has it -/
def loOf (pv : List ByteArray) (j : Nat) : ByteArray := if j ≤ pv.length then ahead pv j else ⟨#[]⟩
def hiOf (pv : List ByteArray) (j : Nat) : ByteArray := if j < pv.length then pv.getD j default else ⟨#[]⟩
def endOf (pv : List ByteArray) (j : Nat) : Bool := decide (j < pv.length)
def kidR (pv : List ByteArray) (k : List UInt8) : Nat → Int
  | 0 => -1
  | j + 1 => if inR (rg (loOf pv j) (hiOf pv j) (endOf pv j)) k then (j : Int) else kidR pv k j

/-- pivots that rise: those not above a key stand ahead of the others -/
theorem rise_le {pv : List ByteArray} {k : List UInt8} {n : Nat} (h : upTo (pivAt pv) n = true) (_hn : n ≤ pv.length) : ∀ {i j : Nat}, i ≤ j → j < n → ∀ (hi : i < pv.length) (hj : j < pv.length), leK k pv[j] = true → leK k pv[i] = true := by
  intro i j hij hjn hi hj hk
  induction j with
  | zero =>
    obtain rfl : i = 0 := by omega
    exact hk
  | succ j ih =>
    by_cases e : i = j + 1
    · subst e; exact hk
    · have hp := upTo_at h hjn
      rw [pivAt_at hj, ahead_at (by omega), Bool.and_eq_true] at hp
      refine ih (by omega) (by omega) (by omega) ?_
      unfold leK at hk ⊢
      rw [Bool.not_eq_true'] at hk ⊢
      cases hq : bytesLess k (pv[j]'(by omega)).data.toList
      · rfl
      · rw [less_trans hq hp.1] at hk; cases hk
theorem count_at {pv : List ByteArray} {k : List UInt8} (h : upTo (pivAt pv) pv.length = true) : ∀ (n : Nat), n ≤ pv.length → ∀ i (hi : i < pv.length), i < n → (leK k pv[i] = decide (i < kidC (pv.take n) k)) := by
  intro n
  induction n with
  | zero => intro _ i _ hi; omega
  | succ n ih =>
    intro hn i hi hin
    rw [count_succ (by omega)]
    cases q : leK k (pv[n]'(by omega))
    · rw [if_neg (by simp), Nat.add_zero]
      by_cases e : i = n
      · subst e
        rw [q]
        have : kidC (pv.take i) k ≤ i := by have := count_le (pv.take i) k; rw [List.length_take] at this; omega
        symm; simp; omega
      · exact ih (by omega) i hi (by omega)
    · rw [if_pos rfl]
      have hall : kidC (pv.take n) k = n := by
        unfold kidC
        have hl : (pv.take n).length = n := by rw [List.length_take]; omega
        have hc : (pv.take n).countP (leK k) = (pv.take n).length := by
          rw [List.countP_eq_length]
          intro s hs
          obtain ⟨m, hm, rfl⟩ := List.getElem_of_mem hs
          rw [hl] at hm
          rw [List.getElem_take]
          exact rise_le h (Nat.le_refl _) (show m ≤ n by omega) (by omega) (by omega) (by omega) q
        rw [hc, hl]
      rw [hall]
      have hi' : leK k pv[i] = true := rise_le h (Nat.le_refl _) (show i ≤ n by omega) (by omega) hi (by omega) q
      rw [hi']
      symm; simp; omega
/-- .. of a node that may be each key is in the range of just one kid -/
theorem in_kid {pv : List ByteArray} {k : List UInt8} (h : upTo (pivAt pv) pv.length = true) (j : Nat) (hj : j ≤ pv.length) : inR (rg (loOf pv j) (hiOf pv j) (endOf pv j)) k = decide (j = kidC pv k) := by
  have hc := fun i hi => count_at (k := k) h pv.length (Nat.le_refl _) i hi hi
  rw [List.take_length] at hc
  have hle := count_le pv k
  have h1 : (!bytesLess k (loOf pv j).data.toList) = decide (j ≤ kidC pv k) := by
    unfold loOf
    rw [if_pos hj]
    cases j with
    | zero => rw [show (ahead pv 0).data.toList = [] from rfl, less_nil]; simp
    | succ j =>
      rw [ahead_at (by omega)]
      exact hc j (by omega)
  have h2 : (!endOf pv j || bytesLess k (hiOf pv j).data.toList) = decide (kidC pv k ≤ j) := by
    unfold endOf hiOf
    by_cases e : j < pv.length
    · have := hc j e
      unfold leK at this
      rw [if_pos e, getD_at e, decide_eq_true e, Bool.not_true, Bool.false_or, ← Bool.not_not (b := bytesLess k pv[j].data.toList), this]
      by_cases e' : j < kidC pv k
      · rw [decide_eq_true e', decide_eq_false (p := kidC pv k ≤ j) (by omega)]; rfl
      · rw [decide_eq_false e', decide_eq_true (p := kidC pv k ≤ j) (by omega)]; rfl
    · rw [decide_eq_false e]
      symm; simp; omega
  unfold inR
  show (!bytesLess k (loOf pv j).data.toList && (!endOf pv j || bytesLess k (hiOf pv j).data.toList)) = _
  rw [h1, h2]
  by_cases e : j = kidC pv k
  · rw [decide_eq_true e, decide_eq_true (by omega), decide_eq_true (by omega)]; rfl
  · rw [decide_eq_false e]
    by_cases e' : j ≤ kidC pv k
    · rw [decide_eq_false (p := kidC pv k ≤ j) (by omega), Bool.and_false]
    · rw [decide_eq_false e', Bool.false_and]
theorem kidR_at {pv : List ByteArray} {k : List UInt8} (h : upTo (pivAt pv) pv.length = true) : ∀ (n : Nat), n ≤ pv.length + 1 → kidR pv k n = if kidC pv k < n then (kidC pv k : Int) else -1 := by
  intro n
  induction n with
  | zero => intro _; rfl
  | succ n ih =>
    intro hn
    rw [kidR, in_kid h n (by omega)]
    by_cases e : n = kidC pv k
    · rw [decide_eq_true e, if_pos rfl, if_pos (by omega), ← e]
    · rw [decide_eq_false e, if_neg (by simp), ih (by omega)]
      by_cases e' : kidC pv k < n
      · rw [if_pos e', if_pos (by omega)]
      · rw [if_neg e', if_neg (by omega)]
theorem kid_same {pv : List ByteArray} {k : List UInt8} {n3 : Nat} (h : upTo (pivAt pv) pv.length = true) (hn : pv.length + 1 = n3) : kidI pv n3 k = (kidC pv k : Int) ∧ kidR pv k n3 = (kidC pv k : Int) ∧ kidC pv k < n3 := by
  have hle := count_le pv k
  refine ⟨?_, ?_, by omega⟩
  · unfold kidI
    rw [if_neg (by omega)]
  · rw [kidR_at h n3 (by omega), if_pos (by omega)]

theorem le_leK (s k : ByteArray) : (bytesLess s.toList k.toList || s.toList == k.toList) = leK k.data.toList s := le_str s k

end Go.Proofs.Ytmnngfbcgpholaa.Key
