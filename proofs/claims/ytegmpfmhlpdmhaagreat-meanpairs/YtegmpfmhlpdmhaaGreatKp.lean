/-
  Where a key leads in a node, plain (out of node's texts By, Kid, Step).
  Where a key leads on, it is to a target, less deep than the node.
  What nodes mean, plain: pairs that are put, kept, gone through by an edge; what a node has by its kids and messages; that a key has among a block's pairs what it is led to. No program is named here.
  What a block of a right graph means, plain: rising pairs, each key's value that to which its steps lead; ways; sizes; parts of a range. No program is named here.
  Ways and sizes, plain: how many pairs a block has at most, how long keys are, how deep a graph is; ways that are reckoned by depth. No program is named here.
-/
import Derived.Test.YtegmpfmhlpdmhaaGreatGra
import Derived.Test.YtegmpfmhlpdmhaaGreatWg
namespace Go.Proofs.YtegmpfmhlpdmhaaGreat.Key
open Go.Op (bytesLess)
set_option linter.unusedVariables false
/-- where a key leads by an edge -/
def byE (e : E) (k : List UInt8) : Wy := if upB (lf e.strip e.add) k then ⟨2, ⟨#[]⟩, e.blk, e.deep, upS (lf e.strip e.add) k⟩ else noWay
/-- .. by a message -/
def byM (m : M) (k : List UInt8) : Wy := if m.kind = 1 then toVal m.val else if m.kind = 3 then byE ⟨m.blk, m.deep, m.key, m.add⟩ k else noWay

/-- the pair of a key -/
def isK (k : List UInt8) (p : Pr) : Bool := p.key.data.toList == k
def getP (ps : List Pr) (k : List UInt8) : Option Pr := ps.find? (isK k)
def getV (ps : List Pr) (k : List UInt8) : ByteArray := ((getP ps k).map (·.val)).getD ⟨#[]⟩
def getB (ps : List Pr) (k : List UInt8) : Bool := (getP ps k).isSome
def pairW (ps : List Pr) (k : List UInt8) : Wy := if getB ps k then toVal (getV ps k) else noWay
theorem find_at {α : Type} (p : α → Bool) : ∀ (l : List α) (j : Nat) (h : j < l.length), (l.take j).any p = false → p l[j] = true → l.find? p = some l[j]
  | [], j, h, _, _ => by simp at h
  | x :: l, 0, _, _, hp => by simp at hp; simp [hp]
  | x :: l, j + 1, h, ha, hp => by
    rw [List.take_succ_cons, List.any_cons, Bool.or_eq_false_iff] at ha
    rw [List.find?_cons, ha.1]
    exact find_at p l j (by simpa using h) ha.2 (by simpa using hp)
theorem found_at {ps : List Pr} {k : List UInt8} {j : Nat} {x : Pr} (hx : ps[j]? = some x) (h1 : (ps.take j).any (isK k) = false) (h2 : isK k x = true) : ps.find? (isK k) = some x := by
  obtain ⟨hj, rfl⟩ := List.getElem?_eq_some_iff.1 hx
  exact find_at (isK k) ps j hj h1 h2
theorem find_no {α : Type} (p : α → Bool) (l : List α) (h : l.any p = false) : l.find? p = none := by
  rw [List.find?_eq_none]
  intro x hx hp
  rw [List.any_eq_true.2 ⟨x, hx, hp⟩] at h
  cases h
theorem isK_str (k : ByteArray) (p : Pr) : (p.key.toList == k.toList) = isK k.data.toList p := by rw [isK, Lib.toList_data, Lib.toList_data]

/-- is a pivot not above a key? -/
def leK (k : List UInt8) (s : ByteArray) : Bool := !bytesLess k s.data.toList
def kidC (pv : List ByteArray) (k : List UInt8) : Nat := pv.countP (leK k)
def kidI (pv : List ByteArray) (n3 : Nat) (k : List UInt8) : Int := if ((n3 : Int) - 1) < (kidC pv k : Int) then (n3 : Int) - 1 else (kidC pv k : Int)
theorem count_succ {pv : List ByteArray} {k : List UInt8} {j : Nat} (h : j < pv.length) : kidC (pv.take (j + 1)) k = kidC (pv.take j) k + if leK k pv[j] then 1 else 0 := by
  unfold kidC
  rw [List.take_succ_eq_append_getElem h, List.countP_append]
  congr 1
  cases q : leK k pv[j] <;> simp [q]
theorem count_le (pv : List ByteArray) (k : List UInt8) : kidC pv k ≤ pv.length := List.countP_le_length
/-- the range of a kid, as the document has it -/
def loOf (pv : List ByteArray) (j : Nat) : ByteArray := if j ≤ pv.length then ahead pv j else ⟨#[]⟩
def hiOf (pv : List ByteArray) (j : Nat) : ByteArray := if j < pv.length then pv.getD j default else ⟨#[]⟩
def endOf (pv : List ByteArray) (j : Nat) : Bool := decide (j < pv.length)
def kidR (pv : List ByteArray) (k : List UInt8) : Nat → Int
  | 0 => -1
  | j + 1 => if inR (rg (loOf pv j) (hiOf pv j) (endOf pv j)) k then (j : Int) else kidR pv k j

/-- pivots that rise: those not above a key stand ahead of the others -/
theorem rise_le {pv : List ByteArray} {k : List UInt8} {n : Nat} (h : upTo (pivAt pv) n = true) (_hn : n ≤ pv.length) : ∀ {i j : Nat}, i ≤ j → j < n → ∀ (hi : i < pv.length) (hj : j < pv.length), leK k pv[j] = true → leK k pv[i] = true := by
  intro i j hij hjn hi hj hk
  induction j with
  | zero =>
    obtain rfl : i = 0 := by omega
    exact hk
  | succ j ih =>
    by_cases e : i = j + 1
    · subst e; exact hk
    · have hp := upTo_at h hjn
      rw [pivAt_at hj, ahead_at (by omega), Bool.and_eq_true] at hp
      refine ih (by omega) (by omega) (by omega) ?_
      unfold leK at hk ⊢
      rw [Bool.not_eq_true'] at hk ⊢
      cases hq : bytesLess k (pv[j]'(by omega)).data.toList
      · rfl
      · rw [less_trans hq hp.1] at hk; cases hk
theorem count_at {pv : List ByteArray} {k : List UInt8} (h : upTo (pivAt pv) pv.length = true) : ∀ (n : Nat), n ≤ pv.length → ∀ i (hi : i < pv.length), i < n → (leK k pv[i] = decide (i < kidC (pv.take n) k)) := by
  intro n
  induction n with
  | zero => intro _ i _ hi; omega
  | succ n ih =>
    intro hn i hi hin
    rw [count_succ (by omega)]
    cases q : leK k (pv[n]'(by omega))
    · rw [if_neg (by simp), Nat.add_zero]
      by_cases e : i = n
      · subst e
        rw [q]
        have : kidC (pv.take i) k ≤ i := by have := count_le (pv.take i) k; rw [List.length_take] at this; omega
        symm; simp; omega
      · exact ih (by omega) i hi (by omega)
    · rw [if_pos rfl]
      have hall : kidC (pv.take n) k = n := by
        unfold kidC
        have hl : (pv.take n).length = n := by rw [List.length_take]; omega
        have hc : (pv.take n).countP (leK k) = (pv.take n).length := by
          rw [List.countP_eq_length]
          intro s hs
          obtain ⟨m, hm, rfl⟩ := List.getElem_of_mem hs
          rw [hl] at hm
          rw [List.getElem_take]
          exact rise_le h (Nat.le_refl _) (show m ≤ n by omega) (by omega) (by omega) (by omega) q
        rw [hc, hl]
      rw [hall]
      have hi' : leK k pv[i] = true := rise_le h (Nat.le_refl _) (show i ≤ n by omega) (by omega) hi (by omega) q
      rw [hi']
      symm; simp; omega
/-- .. of a node that may be each key is in the range of just one kid -/
theorem in_kid {pv : List ByteArray} {k : List UInt8} (h : upTo (pivAt pv) pv.length = true) (j : Nat) (hj : j ≤ pv.length) : inR (rg (loOf pv j) (hiOf pv j) (endOf pv j)) k = decide (j = kidC pv k) := by
  have hc := fun i hi => count_at (k := k) h pv.length (Nat.le_refl _) i hi hi
  rw [List.take_length] at hc
  have hle := count_le pv k
  have h1 : (!bytesLess k (loOf pv j).data.toList) = decide (j ≤ kidC pv k) := by
    unfold loOf
    rw [if_pos hj]
    cases j with
    | zero => rw [show (ahead pv 0).data.toList = [] from rfl, less_nil]; simp
    | succ j =>
      rw [ahead_at (by omega)]
      exact hc j (by omega)
  have h2 : (!endOf pv j || bytesLess k (hiOf pv j).data.toList) = decide (kidC pv k ≤ j) := by
    unfold endOf hiOf
    by_cases e : j < pv.length
    · have := hc j e
      unfold leK at this
      rw [if_pos e, getD_at e, decide_eq_true e, Bool.not_true, Bool.false_or, ← Bool.not_not (b := bytesLess k pv[j].data.toList), this]
      by_cases e' : j < kidC pv k
      · rw [decide_eq_true e', decide_eq_false (p := kidC pv k ≤ j) (by omega)]; rfl
      · rw [decide_eq_false e', decide_eq_true (p := kidC pv k ≤ j) (by omega)]; rfl
    · rw [decide_eq_false e]
      symm; simp; omega
  unfold inR
  show (!bytesLess k (loOf pv j).data.toList && (!endOf pv j || bytesLess k (hiOf pv j).data.toList)) = _
  rw [h1, h2]
  by_cases e : j = kidC pv k
  · rw [decide_eq_true e, decide_eq_true (by omega), decide_eq_true (by omega)]; rfl
  · rw [decide_eq_false e]
    by_cases e' : j ≤ kidC pv k
    · rw [decide_eq_false (p := kidC pv k ≤ j) (by omega), Bool.and_false]
    · rw [decide_eq_false e', Bool.false_and]
theorem kidR_at {pv : List ByteArray} {k : List UInt8} (h : upTo (pivAt pv) pv.length = true) : ∀ (n : Nat), n ≤ pv.length + 1 → kidR pv k n = if kidC pv k < n then (kidC pv k : Int) else -1 := by
  intro n
  induction n with
  | zero => intro _; rfl
  | succ n ih =>
    intro hn
    rw [kidR, in_kid h n (by omega)]
    by_cases e : n = kidC pv k
    · rw [decide_eq_true e, if_pos rfl, if_pos (by omega), ← e]
    · rw [decide_eq_false e, if_neg (by simp), ih (by omega)]
      by_cases e' : kidC pv k < n
      · rw [if_pos e', if_pos (by omega)]
      · rw [if_neg e', if_neg (by omega)]
theorem kid_same {pv : List ByteArray} {k : List UInt8} {n3 : Nat} (h : upTo (pivAt pv) pv.length = true) (hn : pv.length + 1 = n3) : kidI pv n3 k = (kidC pv k : Int) ∧ kidR pv k n3 = (kidC pv k : Int) ∧ kidC pv k < n3 := by
  have hle := count_le pv k
  refine ⟨?_, ?_, by omega⟩
  · unfold kidI
    rw [if_neg (by omega)]
  · rw [kidR_at h n3 (by omega), if_pos (by omega)]

/-- where a key leads -/
def stepW (n : Nd) (k : List UInt8) : Wy :=
  if mayI n = 0 then
    if n.leaf then pairW n.ps k
    else if 0 ≤ lastI n.bf k then byM (n.bf.getD (lastI n.bf k).toNat M.nil) k
    else byE (n.ks.getD (kidC n.pv k) E.nil) k
  else noWay
theorem may_zero {n : Nd} (h : mayI n = 0) : fineB n = true := by
  unfold mayI at h
  cases hm : manyB n
  · rw [hm] at h
    cases hf : fineB n
    · rw [hf] at h; cases h
    · rfl
  · rw [hm] at h; cases h
theorem may_fork {n : Nd} (h : mayI n = 0) (hl : n.leaf = false) : n.pv.length + 1 = n.ks.length ∧ upTo (pivAt n.pv) n.pv.length = true := by
  have := may_zero h
  unfold fineB forkB at this
  rw [hl] at this
  simp only [Bool.false_eq_true, if_false, Bool.and_eq_true, beq_iff_eq] at this
  exact ⟨this.2.1, this.2.2.1⟩
theorem lastP_lt (l : List M) (k : List UInt8) : ∀ n, lastP l k n < (n : Int) ∧ -1 ≤ lastP l k n
  | 0 => by simp [lastP]
  | n + 1 => by
    have := lastP_lt l k n
    rw [lastP]
    split
    · omega
    · omega
theorem lastI_cases (l : List M) (k : List UInt8) : (∃ i : Nat, lastI l k = i ∧ i < l.length) ∨ lastI l k = -1 := by
  have h := lastP_lt l k l.length
  unfold lastI
  by_cases h0 : lastP l k l.length < 0
  · right; omega
  · left; exact ⟨(lastP l k l.length).toNat, by omega, by omega⟩
end Go.Proofs.YtegmpfmhlpdmhaaGreat.Key

namespace Go.Proofs.YtegmpfmhlpdmhaaGreat.Key
open Go.RowKit

theorem up2_left (a b : Int) : a ≤ up2 a b := by unfold up2; split <;> omega
theorem up2_right (a b : Int) : b ≤ up2 a b := by unfold up2; split <;> omega
theorem le_kidD {ks : List E} {j : Nat} (hj : j < ks.length) : ∀ m, j < m → m ≤ ks.length → ks[j].deep ≤ kidD ks m := by
  intro m
  induction m with
  | zero => intro h; omega
  | succ m ih =>
    intro h hm
    rw [kidD_at (by omega)]
    by_cases e : j = m
    · subst e; exact up2_right _ _
    · exact Int.le_trans (ih (by omega) (by omega)) (up2_left _ _)
theorem bufD_mono {s : Int} {bf : List M} : ∀ m, m ≤ bf.length → s ≤ bufD s bf m := by
  intro m
  induction m with
  | zero => intro _; exact Int.le_refl _
  | succ m ih =>
    intro hm
    rw [bufD_at (by omega)]
    split
    · exact Int.le_trans (ih (by omega)) (up2_left _ _)
    · exact ih (by omega)
theorem le_bufD {s : Int} {bf : List M} {j : Nat} (hj : j < bf.length) (h3 : bf[j].kind = 3) : ∀ m, j < m → m ≤ bf.length → bf[j].deep ≤ bufD s bf m := by
  intro m
  induction m with
  | zero => intro h; omega
  | succ m ih =>
    intro h hm
    rw [bufD_at (by omega)]
    by_cases e : j = m
    · subst e
      rw [if_pos h3]
      exact up2_right _ _
    · split
      · exact Int.le_trans (ih (by omega) (by omega)) (up2_left _ _)
      · exact ih (by omega) (by omega)
theorem deep_less {n : Nd} (hl : n.leaf = false) {d : Int} (h : d ≤ deepM n) : d < deepI n ∨ deepI n = 65535 := by
  unfold deepI
  rw [hl, if_neg (by simp)]
  by_cases e : deepM n = 65535
  · right; rw [if_pos e]
  · left; rw [if_neg e]; omega
theorem byE_cases (e : E) (k : List UInt8) : byE e k = noWay ∨ ∃ key, byE e k = ⟨2, ⟨#[]⟩, e.blk, e.deep, key⟩ := by
  unfold byE
  split
  · exact .inr ⟨_, rfl⟩
  · exact .inl rfl
theorem step_cases (n : Nd) (k : List UInt8) : stepW n k = noWay ∨ (∃ v, stepW n k = toVal v) ∨ ∃ b d key, stepW n k = ⟨2, ⟨#[]⟩, b, d, key⟩ ∧ b ∈ targetsL n ∧ (d < deepI n ∨ deepI n = 65535) := by
  unfold stepW
  by_cases hr : mayI n = 0
  · rw [if_pos hr]
    cases hl : n.leaf
    · rw [if_neg (by simp)]
      obtain ⟨hlen, hup⟩ := may_fork hr hl
      rcases lastI_cases n.bf k with ⟨i, hi, hil⟩ | hi
      · rw [hi, if_pos (by omega), Int.toNat_natCast, getD_at hil]
        unfold byM
        by_cases h1 : n.bf[i].kind = 1
        · rw [if_pos h1]; exact .inr (.inl ⟨_, rfl⟩)
        · rw [if_neg h1]
          by_cases h3 : n.bf[i].kind = 3
          · rw [if_pos h3]
            rcases byE_cases ⟨n.bf[i].blk, n.bf[i].deep, n.bf[i].key, n.bf[i].add⟩ k with h | ⟨key, h⟩
            · exact .inl h
            · refine .inr (.inr ⟨_, _, key, h, ?_, ?_⟩)
              · unfold targetsL blocksL
                exact List.mem_append_right _ (List.mem_map.2 ⟨n.bf[i], List.mem_filter.2 ⟨List.getElem_mem hil, by simp [h3]⟩, rfl⟩)
              · exact deep_less hl (le_bufD hil h3 _ hil (Nat.le_refl _))
          · rw [if_neg h3]; exact .inl rfl
      · rw [hi, if_neg (by omega)]
        obtain ⟨_, _, hk3⟩ := kid_same (k := k) hup hlen
        rw [getD_at hk3]
        rcases byE_cases (n.ks[kidC n.pv k]) k with h | ⟨key, h⟩
        · exact .inl h
        · refine .inr (.inr ⟨_, _, key, h, ?_, ?_⟩)
          · unfold targetsL
            exact List.mem_append_left _ (List.mem_map.2 ⟨_, List.getElem_mem hk3, rfl⟩)
          · exact deep_less hl (Int.le_trans (le_kidD hk3 _ hk3 (Nat.le_refl _)) (bufD_mono _ (Nat.le_refl _)))
    · rw [if_pos rfl]
      unfold pairW
      split
      · exact .inr (.inl ⟨_, rfl⟩)
      · exact .inl rfl
  · rw [if_neg hr]; exact .inl rfl
end Go.Proofs.YtegmpfmhlpdmhaaGreat.Key

namespace Go.Proofs.YtegmpfmhlpdmhaaGreat.Key
open Go.Op (bytesLess)
set_option linter.unusedVariables false
set_option linter.unusedSimpArgs false

/-- a pair's key, as bytes -/
def kOf (p : Pr) : List UInt8 := p.key.data.toList
/-- what a key has -/
def lookP (ps : List Pr) (k : List UInt8) : Option ByteArray := (getP ps k).map (·.val)
/-- keys that rise -/
def RiseP (ps : List Pr) : Prop := ps.Pairwise fun a b => bytesLess (kOf a) (kOf b) = true
theorem lookP_nil (k : List UInt8) : lookP [] k = none := rfl
theorem lookP_cons (p : Pr) (ps : List Pr) (k : List UInt8) : lookP (p :: ps) k = if kOf p = k then some p.val else lookP ps k := by
  unfold lookP getP isK kOf
  rw [List.find?_cons]
  by_cases h : p.key.data.toList = k
  · simp [h]
  · simp [h, beq_eq_false_iff_ne.2 h]
theorem lookP_none {ps : List Pr} {k : List UInt8} (h : ∀ p ∈ ps, kOf p ≠ k) : lookP ps k = none := by
  induction ps with
  | nil => rfl
  | cons p ps ih =>
    rw [lookP_cons, if_neg (h p (by simp))]
    exact ih fun q hq => h q (by simp [hq])
theorem lookP_mem {ps : List Pr} {k : List UInt8} {v : ByteArray} (h : lookP ps k = some v) : ∃ p ∈ ps, kOf p = k ∧ p.val = v := by
  induction ps with
  | nil => cases h
  | cons p ps ih =>
    rw [lookP_cons] at h
    split at h
    · rename_i e; exact ⟨p, by simp, e, Option.some.inj h⟩
    · obtain ⟨q, hq, h1, h2⟩ := ih h; exact ⟨q, by simp [hq], h1, h2⟩
theorem lookP_filter (f : List UInt8 → Bool) (ps : List Pr) (k : List UInt8) : lookP (ps.filter fun q => f (kOf q)) k = if f k then lookP ps k else none := by
  induction ps with
  | nil => simp [lookP_nil]
  | cons p ps ih =>
    rw [List.filter_cons]
    cases hf : f (kOf p)
    · simp only [Bool.false_eq_true, if_false]
      rw [ih, lookP_cons]
      by_cases e : kOf p = k
      · subst e; simp [hf]
      · simp [e]
    · simp only [if_true]
      rw [lookP_cons, ih, lookP_cons]
      by_cases e : kOf p = k
      · subst e; simp [hf]
      · simp [e]
theorem less_neq {a b : List UInt8} (h : bytesLess a b = true) : a ≠ b := by rintro rfl; rw [less_self] at h; cases h
theorem RiseP.of_mem {p : Pr} {ps : List Pr} (h : RiseP (p :: ps)) : ∀ q ∈ ps, bytesLess (kOf p) (kOf q) = true := (List.pairwise_cons.1 h).1
theorem RiseP.tail {p : Pr} {ps : List Pr} (h : RiseP (p :: ps)) : RiseP ps := (List.pairwise_cons.1 h).2
theorem RiseP.head {p : Pr} {ps : List Pr} (h : RiseP (p :: ps)) : lookP ps (kOf p) = none := lookP_none fun q hq e => less_neq (h.of_mem q hq) e.symm
theorem RiseP.filter {ps : List Pr} (h : RiseP ps) (f : Pr → Bool) : RiseP (ps.filter f) := List.Pairwise.filter f h
theorem RiseP.mem {ps : List Pr} (h : RiseP ps) {p : Pr} (hp : p ∈ ps) : lookP ps (kOf p) = some p.val := by
  induction ps with
  | nil => cases hp
  | cons q ps ih =>
    rw [lookP_cons]
    rcases List.mem_cons.1 hp with rfl | hp
    · rw [if_pos rfl]
    · rw [if_neg (less_neq (h.of_mem p hp))]
      exact ih h.tail hp
/-- rows that rise, of which each key has the same, are the same -/
theorem rise_ext : ∀ {a b : List Pr}, RiseP a → RiseP b → (∀ k, lookP a k = lookP b k) → a = b
  | [], [], _, _, _ => rfl
  | [], p :: b, _, _, h => by have := h (kOf p); rw [lookP_cons, if_pos rfl] at this; cases this
  | p :: a, [], _, _, h => by have := h (kOf p); rw [lookP_cons, if_pos rfl] at this; cases this
  | p :: a, q :: b, ha, hb, h => by
    have hk : kOf p = kOf q := by
      refine Classical.byContradiction fun hne => ?_
      cases hl : bytesLess (kOf p) (kOf q)
      · have hl2 : bytesLess (kOf q) (kOf p) = true := by
          cases hc : bytesLess (kOf q) (kOf p)
          · exact absurd (less_same hl hc) hne
          · rfl
        have e := h (kOf q)
        rw [lookP_none (ps := p :: a), lookP_cons, if_pos rfl] at e
        · cases e
        · intro r hr
          rcases List.mem_cons.1 hr with rfl | hr
          · exact hne
          · exact fun e => less_neq (less_trans hl2 (ha.of_mem r hr)) e.symm
      · have e := h (kOf p)
        rw [lookP_none (ps := q :: b), lookP_cons, if_pos rfl] at e
        · cases e
        · intro r hr
          rcases List.mem_cons.1 hr with rfl | hr
          · exact fun e => hne e.symm
          · exact fun e => less_neq (less_trans hl (hb.of_mem r hr)) e.symm
    have hv : p = q := by
      have e := h (kOf p)
      rw [lookP_cons, if_pos rfl, lookP_cons, if_pos hk.symm] at e
      obtain ⟨pk, pv⟩ := p
      obtain ⟨qk, qv⟩ := q
      simp only [Option.some.injEq] at e
      have : pk = qk := by rw [← str_eq pk, ← str_eq qk]; exact congrArg str hk
      rw [this, e]
    subst hv
    rw [rise_ext ha.tail hb.tail fun k => ?_]
    have e := h k
    rw [lookP_cons, lookP_cons] at e
    by_cases hpk : kOf p = k
    · subst hpk; rw [ha.head, hb.head]
    · simpa [hpk] using e

/-- without a key -/
def woP (ps : List Pr) (k : List UInt8) : List Pr := ps.filter fun q => !(kOf q == k)
/-- without those that begin so -/
def woB (ps : List Pr) (p : List UInt8) : List Pr := ps.filter fun q => !has (kOf q) p
/-- ahead of the first greater one -/
def insP : List Pr → Pr → List Pr
  | [], p => [p]
  | q :: l, p => if bytesLess (kOf p) (kOf q) then p :: q :: l else q :: insP l p
def putP (ps : List Pr) (p : Pr) : List Pr := insP (woP ps (kOf p)) p
theorem look_wo (ps : List Pr) (x k : List UInt8) : lookP (woP ps x) k = if k = x then none else lookP ps k := by
  unfold woP
  rw [lookP_filter (fun y => !(y == x))]
  by_cases e : k = x <;> simp [e]
theorem look_woB (ps : List Pr) (p k : List UInt8) : lookP (woB ps p) k = if has k p then none else lookP ps k := by
  unfold woB
  rw [lookP_filter (fun y => !has y p)]
  cases has k p <;> simp
theorem look_ins (l : List Pr) (p : Pr) (k : List UInt8) (h : lookP l (kOf p) = none) : lookP (insP l p) k = if kOf p = k then some p.val else lookP l k := by
  induction l with
  | nil => rw [insP, lookP_cons]
  | cons q l ih =>
    have hq : kOf q ≠ kOf p := by intro e; rw [lookP_cons, if_pos e] at h; cases h
    rw [lookP_cons, if_neg hq] at h
    rw [insP]
    split
    · rw [lookP_cons]
    · rw [lookP_cons, ih h, lookP_cons]
      by_cases e : kOf q = k
      · rw [if_pos e, if_pos e, if_neg (fun e2 => hq (e.trans e2.symm))]
      · rw [if_neg e, if_neg e]
theorem look_put (ps : List Pr) (p : Pr) (k : List UInt8) : lookP (putP ps p) k = if kOf p = k then some p.val else lookP ps k := by
  unfold putP
  rw [look_ins _ _ _ (by rw [look_wo, if_pos rfl]), look_wo]
  by_cases e : kOf p = k
  · rw [if_pos e, if_pos e]
  · rw [if_neg e, if_neg e, if_neg (fun e2 => e e2.symm)]
theorem mem_ins {l : List Pr} {p q : Pr} : q ∈ insP l p ↔ q = p ∨ q ∈ l := by
  induction l with
  | nil => simp [insP]
  | cons x l ih =>
    rw [insP]
    split
    · simp
    · simp [ih]
      constructor
      · rintro (h | h | h) <;> simp [h]
      · rintro (h | h | h) <;> simp [h]
theorem rise_ins {l : List Pr} {p : Pr} (h : RiseP l) (hn : ∀ q ∈ l, kOf q ≠ kOf p) : RiseP (insP l p) := by
  induction l with
  | nil => exact List.pairwise_singleton _ _
  | cons x l ih =>
    rw [insP]
    split
    · rename_i hl
      refine List.pairwise_cons.2 ⟨fun q hq => ?_, h⟩
      rcases List.mem_cons.1 hq with rfl | hq
      · exact hl
      · exact less_trans hl (h.of_mem q hq)
    · rename_i hl
      have hl : bytesLess (kOf p) (kOf x) = false := by simpa using hl
      refine List.pairwise_cons.2 ⟨fun q hq => ?_, ih h.tail fun q hq => hn q (by simp [hq])⟩
      rcases mem_ins.1 hq with rfl | hq
      · cases hc : bytesLess (kOf x) (kOf q)
        · exact absurd (less_same hc hl) (hn x (by simp))
        · rfl
      · exact h.of_mem q hq
theorem RiseP.put {ps : List Pr} (h : RiseP ps) (p : Pr) : RiseP (putP ps p) := by
  unfold putP
  refine rise_ins (h.filter _) fun q hq => ?_
  have := (List.mem_filter.1 hq).2
  simpa using this
theorem RiseP.wo {ps : List Pr} (h : RiseP ps) (k : List UInt8) : RiseP (woP ps k) := h.filter _
theorem RiseP.woB {ps : List Pr} (h : RiseP ps) (p : List UInt8) : RiseP (woB ps p) := h.filter _

/-- a pair that an edge leads to, put where it comes from, if that is in the range -/
def addOne (way : Lft) (r : Rng) (out : List Pr) (f : Pr) : List Pr :=
  match up (turn way) (kOf f) with
  | some k => if inR r k then putP out ⟨str k, f.val⟩ else out
  | none => out
def addL (way : Lft) (r : Rng) (far out : List Pr) : List Pr := far.foldl (addOne way r) out
theorem RiseP.one {out : List Pr} (h : RiseP out) (way : Lft) (r : Rng) (f : Pr) : RiseP (addOne way r out f) := by
  unfold addOne
  split
  · split
    · exact h.put _
    · exact h
  · exact h
theorem RiseP.add {way : Lft} {r : Rng} : ∀ {far out : List Pr}, RiseP out → RiseP (addL way r far out)
  | [], _, h => h
  | f :: far, _, h => RiseP.add (far := far) (h.one way r f)
theorem look_one (way : Lft) (r : Rng) (out : List Pr) (f : Pr) (k : List UInt8) : lookP (addOne way r out f) k = if inR r k = true ∧ up way k = some (kOf f) then some f.val else lookP out k := by
  unfold addOne
  cases h : up (turn way) (kOf f) with
  | none =>
    rw [if_neg]
    rintro ⟨_, h2⟩
    rw [up_back h2] at h
    cases h
  | some x =>
    have hx : up way x = some (kOf f) := up_back (l := turn way) h
    show lookP (if inR r x then putP out ⟨str x, f.val⟩ else out) k = _
    cases hr : inR r x
    · simp only [Bool.false_eq_true, if_false]
      rw [if_neg]
      rintro ⟨h1, h2⟩
      have := up_back h2
      rw [h] at this
      obtain rfl := Option.some.inj this
      rw [h1] at hr
      cases hr
    · simp only [if_true]
      rw [look_put]
      show (if x = k then _ else _) = _
      by_cases e : x = k
      · subst e; rw [if_pos rfl, if_pos ⟨hr, hx⟩]
      · rw [if_neg e, if_neg]
        rintro ⟨_, h2⟩
        have := up_back h2
        rw [h] at this
        exact e (Option.some.inj this)
/-- what a key has behind all that an edge leads to -/
theorem look_add (way : Lft) (r : Rng) : ∀ (far out : List Pr) (k : List UInt8), RiseP far → lookP (addL way r far out) k = if inR r k then ((up way k).bind (lookP far)).or (lookP out k) else lookP out k
  | [], out, k, _ => by
    show lookP out k = _
    cases up way k <;> simp [lookP_nil]
  | f :: far, out, k, h => by
    show lookP (addL way r far (addOne way r out f)) k = _
    rw [look_add way r far _ k h.tail, look_one]
    cases hr : inR r k
    · simp
    · simp only [if_true, true_and]
      cases hu : up way k with
      | none => simp
      | some g =>
        simp only [Option.bind_some, Option.some.injEq]
        rw [lookP_cons]
        by_cases e : g = kOf f
        · subst e; rw [h.head]; simp
        · rw [if_neg e, if_neg (fun e2 => e e2.symm)]

/-- the range of a node's kid -/
def rgK (pv : List ByteArray) (j : Nat) : Rng := rg (loOf pv j) (hiOf pv j) (endOf pv j)
/-- what the first j kids have -/
def kidsC (f : Int → List Pr) (n : Nd) : Nat → List Pr
  | 0 => []
  | j + 1 => addL (lf (n.ks.getD j E.nil).strip (n.ks.getD j E.nil).add) (rgK n.pv j) (f (n.ks.getD j E.nil).blk) (kidsC f n j)
/-- .. with a message behind -/
def msgC (f : Int → List Pr) (out : List Pr) (m : M) : List Pr :=
  if m.kind = 3 then addL (lf m.key m.add) (ofR m.key.data.toList) (f m.blk) (woB out m.key.data.toList)
  else if m.kind = 1 then putP out ⟨m.key, m.val⟩ else if m.kind = 2 then woP out m.key.data.toList else []
/-- what a node has -/
def nodeC (f : Int → List Pr) (n : Nd) : List Pr := if n.leaf then n.ps else n.bf.foldl (msgC f) (kidsC f n n.ks.length)
/-- all pairs of a block, to a depth -/
def contF (l : List It) : Nat → Int → List Pr
  | 0, _ => []
  | d + 1, b => match findI l b with
    | none => []
    | some x => nodeC (contF l d) x.nd
/-- what a way has -/
def wayC (f : Int → List Pr) (w : Wy) : Option ByteArray := if w.kind = 2 then lookP (f w.blk) w.key.data.toList else if w.kind = 1 then some w.val else none
/-- a key's value, to a depth -/
def getF (l : List It) : Nat → Int → List UInt8 → Option ByteArray
  | 0, _, _ => none
  | d + 1, b, k => match findI l b with
    | none => none
    | some x => if (stepW x.nd k).kind = 2 then getF l d (stepW x.nd k).blk (stepW x.nd k).key.data.toList else if (stepW x.nd k).kind = 1 then some (stepW x.nd k).val else none

theorem RiseP.nil : RiseP [] := List.Pairwise.nil
theorem rise_kids (f : Int → List Pr) (n : Nd) : ∀ j, RiseP (kidsC f n j)
  | 0 => RiseP.nil
  | j + 1 => (rise_kids f n j).add
theorem RiseP.msg {out : List Pr} (h : RiseP out) (f : Int → List Pr) (m : M) : RiseP (msgC f out m) := by
  unfold msgC
  split
  · exact (h.woB _).add
  · split
    · exact h.put _
    · split
      · exact h.wo _
      · exact RiseP.nil
theorem RiseP.msgs {f : Int → List Pr} : ∀ {l : List M} {out : List Pr}, RiseP out → RiseP (l.foldl (msgC f) out)
  | [], _, h => h
  | m :: l, _, h => RiseP.msgs (l := l) (h.msg f m)
theorem wayE (f : Int → List Pr) (e : E) (k : List UInt8) : wayC f (byE e k) = (up (lf e.strip e.add) k).bind (lookP (f e.blk)) := by
  unfold byE upB upS
  cases h : up (lf e.strip e.add) k with
  | none => simp [wayC, noWay]
  | some g => simp [wayC, str_data]
theorem look_kids {f : Int → List Pr} {n : Nd} {k : List UInt8} (hp : upTo (pivAt n.pv) n.pv.length = true) (hn : n.pv.length + 1 = n.ks.length) (hf : ∀ e ∈ n.ks, RiseP (f e.blk)) : ∀ j, j ≤ n.ks.length → lookP (kidsC f n j) k = if kidC n.pv k < j then wayC f (byE (n.ks.getD (kidC n.pv k) E.nil) k) else none
  | 0, _ => by rw [if_neg (by omega)]; rfl
  | j + 1, hj => by
    have hj' : j < n.ks.length := by omega
    have hm : n.ks.getD j E.nil ∈ n.ks := by rw [getD_at hj']; exact List.getElem_mem hj'
    rw [kidsC, look_add _ _ _ _ _ (hf _ hm), look_kids hp hn hf j (by omega)]
    have hi : inR (rgK n.pv j) k = decide (j = kidC n.pv k) := in_kid hp j (by omega)
    rw [hi]
    by_cases e : j = kidC n.pv k
    · rw [decide_eq_true e, if_pos rfl, if_neg (by omega), if_pos (by omega), wayE, ← e]
      simp
    · rw [decide_eq_false e]
      simp only [Bool.false_eq_true, if_false]
      by_cases e' : kidC n.pv k < j
      · rw [if_pos e', if_pos (by omega)]
      · rw [if_neg e', if_neg (by omega)]
theorem look_msg {f : Int → List Pr} {out : List Pr} {m : M} {k : List UInt8} (hk : m.kind = 1 ∨ m.kind = 2 ∨ m.kind = 3) (hf : m.kind = 3 → RiseP (f m.blk)) : lookP (msgC f out m) k = if speaks m k then wayC f (byM m k) else lookP out k := by
  unfold msgC speaks byM
  rcases hk with h | h | h
  · have h3 : ¬ m.kind = 3 := by omega
    simp only [h3, h, if_false, if_true, true_or]
    simp only [if_false, if_true, show ¬ (1 : Int) = 3 by omega, look_put]
    show (if m.key.data.toList = k then some m.val else _) = _
    by_cases e : k = m.key.data.toList
    · subst e; simp [wayC, toVal]
    · rw [if_neg (fun h => e h.symm)]; simp [e]
  · have h3 : ¬ m.kind = 3 := by omega
    have h1 : ¬ m.kind = 1 := by omega
    simp only [h3, h1, if_false, if_true, false_or, h, look_wo]
    by_cases e : k = m.key.data.toList
    · subst e; simp [look_wo, wayC, noWay]
    · simp [look_wo, e]
  · have h1 : ¬ m.kind = 1 := by omega
    simp only [h, h1, if_true, if_false]
    rw [look_add _ _ _ _ _ (hf h), in_of, look_woB]
    simp only [show ¬ (3 : Int) = 1 by omega, if_false]
    rw [wayE]
    cases hh : has k m.key.data.toList
    · simp
    · simp
theorem foldl_take {α β : Type} (g : β → α → β) (b : β) (l : List α) (j : Nat) (h : j < l.length) : (l.take (j + 1)).foldl g b = g ((l.take j).foldl g b) l[j] := by
  rw [List.take_succ_eq_append_getElem h, List.foldl_append]
  rfl
theorem look_msgs {f : Int → List Pr} {bf : List M} {out : List Pr} {k : List UInt8} (hk : ∀ m ∈ bf, m.kind = 1 ∨ m.kind = 2 ∨ m.kind = 3) (hf : ∀ m ∈ bf, m.kind = 3 → RiseP (f m.blk)) : ∀ j, j ≤ bf.length → lookP ((bf.take j).foldl (msgC f) out) k = if 0 ≤ lastP bf k j then wayC f (byM (bf.getD (lastP bf k j).toNat M.nil) k) else lookP out k
  | 0, _ => by rw [if_neg (by simp [lastP])]; rfl
  | j + 1, hj => by
    have hj' : j < bf.length := by omega
    rw [foldl_take _ _ _ _ hj', look_msg (hk _ (List.getElem_mem hj')) (hf _ (List.getElem_mem hj')), look_msgs hk hf j (by omega), lastP_succ hj']
    cases hs : speaks bf[j] k
    · simp only [Bool.false_eq_true, if_false]
    · simp only [if_true]
      rw [if_pos (by omega), show ((j : Int)).toNat = j by omega, getD_at hj']
/-- what a node has is what its keys are led to -/
theorem look_node {f : Int → List Pr} {n : Nd} (hm : mayI n = 0) (hk : ∀ m ∈ n.bf, m.kind = 1 ∨ m.kind = 2 ∨ m.kind = 3) (hfe : ∀ e ∈ n.ks, RiseP (f e.blk)) (hfm : ∀ m ∈ n.bf, m.kind = 3 → RiseP (f m.blk)) (k : List UInt8) : lookP (nodeC f n) k = wayC f (stepW n k) := by
  unfold nodeC stepW
  rw [if_pos hm]
  cases hl : n.leaf
  · simp only [Bool.false_eq_true, if_false]
    obtain ⟨h1, h2⟩ := may_fork hm hl
    have := look_msgs (f := f) (out := kidsC f n n.ks.length) (k := k) hk hfm n.bf.length (Nat.le_refl _)
    rw [List.take_length] at this
    rw [this]
    unfold lastI
    split
    · rfl
    · rw [look_kids h2 h1 hfe _ (Nat.le_refl _), if_pos (by have := count_le n.pv k; omega)]
  · simp only [if_true]
    unfold pairW getB getV lookP
    cases getP n.ps k with
    | none => simp [wayC, noWay]
    | some p => simp [wayC, toVal]
end Go.Proofs.YtegmpfmhlpdmhaaGreat.Key

namespace Go.Proofs.YtegmpfmhlpdmhaaGreat.Key
open Go.Op (bytesLess)
set_option linter.unusedVariables false
set_option linter.unusedSimpArgs false

theorem may_kinds {n : Nd} (h : mayI n = 0) : ∀ m ∈ n.bf, m.kind = 1 ∨ m.kind = 2 ∨ m.kind = 3 := by
  intro m hm
  have h1 := may_zero h
  unfold fineB at h1
  cases hl : n.leaf
  · rw [hl] at h1
    unfold forkB at h1
    simp only [Bool.false_eq_true, if_false, Bool.and_eq_true] at h1
    obtain ⟨i, hi, rfl⟩ := List.getElem_of_mem hm
    have := upTo_at h1.2.2.2.2 hi
    rw [msgAt_at hi] at this
    unfold mayB at this
    by_cases e1 : n.bf[i].kind = 1
    · exact .inl e1
    · by_cases e2 : n.bf[i].kind = 2
      · exact .inr (.inl e2)
      · by_cases e3 : n.bf[i].kind = 3
        · exact .inr (.inr e3)
        · simp [e1, e2, e3] at this
  · obtain ⟨_, e⟩ := leaf_bare hl h
    rw [e] at hm
    cases hm
theorem rise_adj : ∀ {ps : List Pr}, upTo (riseAt ps) ps.length = true → RiseP ps
  | [], _ => RiseP.nil
  | [p], _ => List.pairwise_singleton _ _
  | p :: q :: ps, h => by
    have hq : RiseP (q :: ps) := by
      refine rise_adj (ps := q :: ps) ?_
      have : ∀ i, i ≤ (q :: ps).length → upTo (riseAt (q :: ps)) i = true := by
        intro i
        induction i with
        | zero => intro _; rfl
        | succ i ih =>
          intro hi
          have h2 := ih (by omega)
          have h3 : riseAt (q :: ps) i = true := by
            cases i with
            | zero => rfl
            | succ i =>
              rw [riseAt_at (by omega)]
              have := upTo_at h (j := i + 2) (by simp at hi ⊢; omega)
              rw [riseAt_at (by simp at hi ⊢; omega)] at this
              simpa using this
          unfold upTo
          simp [h2, h3]
      exact this _ (Nat.le_refl _)
    have h0 : bytesLess (kOf p) (kOf q) = true := by
      have := upTo_at h (j := 1) (by simp)
      rw [riseAt_at (by simp)] at this
      exact this
    refine List.pairwise_cons.2 ⟨fun x hx => ?_, hq⟩
    rcases List.mem_cons.1 hx with rfl | hx
    · exact h0
    · exact less_trans h0 (hq.of_mem x hx)
theorem may_rise {n : Nd} (h : mayI n = 0) (hl : n.leaf = true) : RiseP n.ps := by
  have h1 := may_zero h
  unfold fineB at h1
  rw [hl] at h1
  unfold leafB at h1
  simp only [if_true, Bool.and_eq_true] at h1
  have := h1.2.2.2
  rw [upTo_and] at this
  simp only [Bool.and_eq_true] at this
  exact rise_adj this.2
theorem right_may {l : List It} (h : rightB l = true) {x : It} (hx : x ∈ l) : mayI x.nd = 0 := by
  unfold rightB at h
  simp only [Bool.and_eq_true] at h
  obtain ⟨i, hi, rfl⟩ := List.getElem_of_mem hx
  exact stepB_may hi (upTo_at h.1 hi)
theorem targ_kid {n : Nd} {e : E} (h : e ∈ n.ks) : e.blk ∈ targetsL n := List.mem_append.2 (.inl (List.mem_map.2 ⟨e, h, rfl⟩))
theorem targ_goto {n : Nd} {m : M} (h : m ∈ n.bf) (h3 : m.kind = 3) : m.blk ∈ targetsL n := by
  refine List.mem_append.2 (.inr ?_)
  unfold blocksL
  exact List.mem_map.2 ⟨m, List.mem_filter.2 ⟨h, by simp [h3]⟩, rfl⟩
theorem find_in {l : List It} {b : Int} {y : It} (h : findI l b = some y) : y ∈ l := List.mem_of_find?_eq_some h
theorem kidD_nn (ks : List E) : ∀ j, 0 ≤ kidD ks j
  | 0 => Int.le_refl _
  | j + 1 => by
    have := kidD_nn ks j
    unfold kidD up2
    split <;> omega
theorem deep_pos {n : Nd} (h : mayI n = 0) : 1 ≤ deepI n := by
  unfold deepI
  split
  · omega
  · rename_i hl
    have : 0 ≤ deepM n := Int.le_trans (kidD_nn n.ks _) (bufD_ge _ _ _ (Nat.le_refl _))
    split <;> omega
/-- of a right graph: pairs rise, and a key has what its steps lead to -/
theorem cont_ok {l : List It} (h : rightB l = true) : ∀ (d : Nat) (b : Int) (x : It), findI l b = some x → deepI x.nd ≤ d → RiseP (contF l d b) ∧ ∀ k, lookP (contF l d b) k = getF l d b k
  | 0, b, x, hx, hd => by have := deep_pos (right_may h (find_in hx)); omega
  | d + 1, b, x, hx, hd => by
    have hm := right_may h (find_in hx)
    have ht : ∀ t ∈ targetsL x.nd, RiseP (contF l d t) ∧ ∀ k, lookP (contF l d t) k = getF l d t k := by
      intro t ht
      obtain ⟨y, hy, hlt⟩ := right_deep h (find_in hx) ht
      exact cont_ok h d t y hy (by omega)
    have e : contF l (d + 1) b = nodeC (contF l d) x.nd := by rw [contF, hx]
    rw [e]
    refine ⟨?_, fun k => ?_⟩
    · unfold nodeC
      cases hl : x.nd.leaf
      · simp only [Bool.false_eq_true, if_false]
        exact (rise_kids _ _ _).msgs
      · simp only [if_true]
        exact may_rise hm hl
    · rw [look_node hm (may_kinds hm) (fun e he => (ht _ (targ_kid he)).1) (fun m hm' h3 => (ht _ (targ_goto hm' h3)).1), getF, hx]
      unfold wayC
      by_cases h2 : (stepW x.nd k).kind = 2
      · simp only [h2, if_true]
        rcases step_cases x.nd k with e | ⟨v, e⟩ | ⟨t, dp, key, e, hmem, _⟩
        · rw [e] at h2; cases h2
        · rw [e] at h2; cases h2
        · rw [e]
          exact (ht t hmem).2 _
      · simp only [h2, if_false]
/-- the value of a key in a block -/
def valL (l : List It) (root : Int) (k : List UInt8) : Option ByteArray := if rightB l then getF l 65535 root k else none
def restL (ps : List Pr) (r : Rng) : List Pr := ps.filter fun p => inR r (kOf p)
def firstL (most : Int) (ps : List Pr) : List Pr := if most < 0 then ps else ps.take most.toNat
/-- the pairs of a range, so many of them -/
def pairsL (l : List It) (root : Int) (r : Rng) (most : Int) : List Pr := if rightB l then firstL most (restL (contF l 65535 root) r) else []
theorem right_le {l : List It} (h : rightB l = true) {x : It} (hx : x ∈ l) : deepI x.nd ≤ 65535 := by
  unfold deepI
  have hm := right_may h hx
  have h2 : deepM x.nd ≤ 65534 := by
    have hl : ∀ e ∈ x.nd.ks, e.deep ≤ 65534 := by
      intro e he
      unfold rightB leadsB at h
      simp only [Bool.and_eq_true] at h
      have := List.all_eq_true.1 h.2 x hx
      simp only [Bool.and_eq_true] at this
      obtain ⟨_, _, _, h3⟩ := fits_some (List.all_eq_true.1 this.1 e he)
      omega
    have hg : ∀ m ∈ x.nd.bf, m.kind = 3 → m.deep ≤ 65534 := by
      intro m hm h3
      unfold rightB leadsB at h
      simp only [Bool.and_eq_true] at h
      have := List.all_eq_true.1 h.2 x hx
      simp only [Bool.and_eq_true] at this
      have := List.all_eq_true.1 this.2 m hm
      unfold gotoB at this
      rw [if_pos h3] at this
      obtain ⟨_, _, _, h3⟩ := fits_some this
      omega
    have hk : ∀ j, j ≤ x.nd.ks.length → kidD x.nd.ks j ≤ 65534 := by
      intro j
      induction j with
      | zero => intro _; show (0 : Int) ≤ 65534; omega
      | succ j ih =>
        intro hj
        rw [kidD_at (by omega)]
        have h1 := ih (by omega)
        have h2 := hl _ (List.getElem_mem (show j < x.nd.ks.length by omega))
        unfold up2
        split <;> omega
    have hb : ∀ j, j ≤ x.nd.bf.length → bufD (kidD x.nd.ks x.nd.ks.length) x.nd.bf j ≤ 65534 := by
      intro j
      induction j with
      | zero => intro _; exact hk _ (Nat.le_refl _)
      | succ j ih =>
        intro hj
        rw [bufD_at (by omega)]
        have h1 := ih (by omega)
        split
        · rename_i h3
          have h2 := hg _ (List.getElem_mem (show j < x.nd.bf.length by omega)) h3
          unfold up2
          split <;> omega
        · exact h1
    exact hb _ (Nat.le_refl _)
  split
  · omega
  · split <;> omega
theorem cont_out {l : List It} {b : Int} (hx : findI l b = none) : ∀ d, contF l d b = [] ∧ ∀ k, getF l d b k = none
  | 0 => ⟨rfl, fun _ => rfl⟩
  | d + 1 => ⟨by rw [contF, hx], fun k => by rw [getF, hx]⟩
theorem cont_all {l : List It} (h : rightB l = true) (b : Int) : RiseP (contF l 65535 b) ∧ ∀ k, lookP (contF l 65535 b) k = getF l 65535 b k := by
  cases hx : findI l b with
  | none => rw [(cont_out hx _).1]; exact ⟨RiseP.nil, fun k => by rw [(cont_out hx _).2]; rfl⟩
  | some x => exact cont_ok h 65535 b x hx (right_le h (find_in hx))
theorem rise_rest {ps : List Pr} (h : RiseP ps) (r : Rng) : RiseP (restL ps r) := h.filter _
theorem rise_first {ps : List Pr} (h : RiseP ps) (most : Int) : RiseP (firstL most ps) := by
  unfold firstL
  split
  · exact h
  · exact h.sublist (List.take_sublist _ _)
theorem pairs_rise (l : List It) (root : Int) (r : Rng) (most : Int) : RiseP (pairsL l root r most) := by
  unfold pairsL
  cases h : rightB l
  · exact RiseP.nil
  · exact rise_first (rise_rest (cont_all h root).1 r) most
/-- a key is among the pairs of a range just if it is in the range and has a value, and with that value -/
theorem pairs_look (l : List It) (root : Int) (r : Rng) (k : List UInt8) : lookP (pairsL l root r (-1)) k = if inR r k then valL l root k else none := by
  unfold pairsL valL
  cases h : rightB l
  · simp [lookP_nil]
  · simp only [if_true]
    show lookP (restL _ r) k = _
    unfold restL
    rw [lookP_filter (fun y => inR r y), (cont_all h root).2]
theorem pairs_each {l : List It} {root : Int} {r : Rng} {p : Pr} (hp : p ∈ pairsL l root r (-1)) : valL l root (kOf p) = some p.val ∧ inR r (kOf p) = true := by
  have h := (pairs_rise l root r (-1)).mem hp
  rw [pairs_look] at h
  cases hr : inR r (kOf p)
  · rw [hr] at h; cases h
  · rw [hr] at h; exact ⟨h, rfl⟩
theorem rest_cut (ps : List Pr) (r s : Rng) : restL ps (cutR r s) = restL (restL ps r) s := by
  unfold restL
  rw [List.filter_filter]
  congr 1
  funext p
  rw [in_cut, Bool.and_comm]
theorem rest_parts : ∀ {ps : List Pr} (h : RiseP ps) (k : List UInt8), restL ps ⟨[], k, true⟩ ++ restL ps ⟨k, [], false⟩ = ps
  | [], _, _ => rfl
  | p :: ps, h, k => by
    have ih := rest_parts h.tail k
    have e1 : ∀ q : Pr, inR ⟨[], k, true⟩ (kOf q) = bytesLess (kOf q) k := fun q => by simp [inR, less_nil]
    have e2 : ∀ q : Pr, inR ⟨k, [], false⟩ (kOf q) = !bytesLess (kOf q) k := fun q => by simp [inR]
    unfold restL at ih ⊢
    simp only [e1, e2] at ih ⊢
    rw [List.filter_cons, List.filter_cons]
    cases hl : bytesLess (kOf p) k
    · have h0 : ps.filter (fun q => bytesLess (kOf q) k) = [] := by
        rw [List.filter_eq_nil_iff]
        intro q hq hc
        rw [less_trans (h.of_mem q hq) hc] at hl
        cases hl
      rw [h0] at ih ⊢
      simp only [Bool.false_eq_true, if_false, Bool.not_false, if_true, List.nil_append] at ih ⊢
      rw [ih]
    · simp only [if_true, Bool.not_true, Bool.false_eq_true, if_false, List.cons_append]
      rw [ih]
/-- what a range has is what its part ahead of a key, and that from it on, have -/
theorem pairs_parts (l : List It) (root : Int) (r : Rng) (k : List UInt8) : pairsL l root (cutR r ⟨[], k, true⟩) (-1) ++ pairsL l root (cutR r ⟨k, [], false⟩) (-1) = pairsL l root r (-1) := by
  unfold pairsL
  cases h : rightB l
  · rfl
  · simp only [if_true]
    show restL _ _ ++ restL _ _ = restL _ _
    rw [rest_cut, rest_cut]
    exact rest_parts (rise_rest (cont_all h root).1 r) k
theorem pairs_first (l : List It) (root : Int) (r : Rng) (most : Int) (h : 0 ≤ most) : pairsL l root r most = (pairsL l root r (-1)).take most.toNat := by
  unfold pairsL
  cases rightB l
  · simp
  · simp only [if_true]
    unfold firstL
    rw [if_neg (by omega), if_pos (by omega)]
end Go.Proofs.YtegmpfmhlpdmhaaGreat.Key

namespace Go.Proofs.YtegmpfmhlpdmhaaGreat.Key
open Go.Op (bytesLess)
set_option linter.unusedVariables false
set_option linter.unusedSimpArgs false

/-- how many nodes are gone through, to a depth -/
def waysF (l : List It) : Nat → Int → Nat
  | 0, _ => 0
  | d + 1, b => match findI l b with
    | none => 0
    | some x => 1 + ((targetsL x.nd).map (waysF l d)).sum
theorem ways_some {l : List It} {b : Int} {x : It} (h : findI l b = some x) (d : Nat) : waysF l (d + 1) b = 1 + ((targetsL x.nd).map (waysF l d)).sum := by rw [waysF, h]
theorem ways_none {l : List It} {b : Int} (h : findI l b = none) : ∀ d, waysF l d b = 0
  | 0 => rfl
  | d + 1 => by rw [waysF, h]
theorem targets_split (n : Nd) (f : Int → Nat) : ((targetsL n).map f).sum = (n.ks.map fun e => f e.blk).sum + ((blocksL n.bf).map f).sum := by
  unfold targetsL
  rw [List.map_append, List.sum_append, List.map_map]
  rfl
/-- deep enough is deep enough -/
theorem ways_deep {l : List It} (h : rightB l = true) : ∀ (d e : Nat) (b : Int) (x : It), findI l b = some x → deepI x.nd ≤ d → deepI x.nd ≤ e → waysF l d b = waysF l e b
  | 0, e, b, x, hx, hd, _ => by have := deep_pos (right_may h (find_in hx)); omega
  | d + 1, 0, b, x, hx, _, he => by have := deep_pos (right_may h (find_in hx)); omega
  | d + 1, e + 1, b, x, hx, hd, he => by
    rw [ways_some hx, ways_some hx]
    congr 2
    refine List.map_congr_left fun t ht => ?_
    obtain ⟨y, hy, hlt⟩ := right_deep h (find_in hx) ht
    exact ways_deep h d e t y hy (by omega) (by omega)

theorem len_wo (ps : List Pr) (k : List UInt8) : (woP ps k).length ≤ ps.length := List.length_filter_le _ _
theorem len_woB (ps : List Pr) (k : List UInt8) : (woB ps k).length ≤ ps.length := List.length_filter_le _ _
theorem len_ins (l : List Pr) (p : Pr) : (insP l p).length = l.length + 1 := by
  induction l with
  | nil => rfl
  | cons q l ih => rw [insP]; split <;> simp [ih]
theorem len_put (ps : List Pr) (p : Pr) : (putP ps p).length ≤ ps.length + 1 := by
  unfold putP
  rw [len_ins]
  have := len_wo ps (kOf p)
  omega
theorem len_one (way : Lft) (r : Rng) (out : List Pr) (f : Pr) : (addOne way r out f).length ≤ out.length + 1 := by
  unfold addOne
  split
  · split
    · exact len_put _ _
    · omega
  · omega
theorem len_add (way : Lft) (r : Rng) : ∀ (far out : List Pr), (addL way r far out).length ≤ out.length + far.length
  | [], out => by show out.length ≤ _; simp
  | f :: far, out => by
    have h1 := len_one way r out f
    have h2 := len_add way r far (addOne way r out f)
    show (addL way r far (addOne way r out f)).length ≤ _
    simp only [List.length_cons]
    omega
theorem len_kids {f : Int → List Pr} {g : Int → Nat} {n : Nd} (hf : ∀ e ∈ n.ks, (f e.blk).length ≤ 16 * g e.blk) : ∀ j, j ≤ n.ks.length → (kidsC f n j).length ≤ 16 * ((n.ks.take j).map fun e => g e.blk).sum
  | 0, _ => by simp [kidsC]
  | j + 1, hj => by
    have hj' : j < n.ks.length := by omega
    have h1 := len_kids hf j (by omega)
    rw [kidsC, getD_at hj', List.take_succ_eq_append_getElem hj', List.map_append, List.sum_append]
    have h2 := len_add (lf n.ks[j].strip n.ks[j].add) (rgK n.pv j) (f n.ks[j].blk) (kidsC f n j)
    have h3 := hf _ (List.getElem_mem hj')
    simp only [List.map_cons, List.map_nil, List.sum_cons, List.sum_nil]
    omega
theorem len_msgs {f : Int → List Pr} {g : Int → Nat} {bf : List M} {out : List Pr} (hf : ∀ m ∈ bf, m.kind = 3 → (f m.blk).length ≤ 16 * g m.blk) : ∀ j, j ≤ bf.length → ((bf.take j).foldl (msgC f) out).length ≤ out.length + j + 16 * ((blocksL (bf.take j)).map g).sum
  | 0, _ => by simp
  | j + 1, hj => by
    have hj' : j < bf.length := by omega
    have h1 := len_msgs (out := out) hf j (by omega)
    rw [foldl_take _ _ _ _ hj', blocksL_succ hj', List.map_append, List.sum_append]
    unfold msgC
    by_cases h3 : bf[j].kind = 3
    · have h2 := hf _ (List.getElem_mem hj') h3
      simp only [h3, if_true, List.map_cons, List.map_nil, List.sum_cons, List.sum_nil]
      have h4 := len_add (lf bf[j].key bf[j].add) (ofR bf[j].key.data.toList) (f bf[j].blk) (woB ((bf.take j).foldl (msgC f) out) bf[j].key.data.toList)
      have h5 := len_woB ((bf.take j).foldl (msgC f) out) bf[j].key.data.toList
      unfold msgC at h1 h4 h5
      omega
    · simp only [h3, if_false, List.map_nil, List.sum_nil]
      unfold msgC at h1
      split
      · have := len_put ((bf.take j).foldl (msgC f) out) ⟨bf[j].key, bf[j].val⟩
        unfold msgC at this
        omega
      · split
        · have := len_wo ((bf.take j).foldl (msgC f) out) bf[j].key.data.toList
          unfold msgC at this
          omega
        · simp
theorem may_few {n : Nd} (h : mayI n = 0) : n.ps.length ≤ 16 ∧ n.ks.length ≤ 8 ∧ n.bf.length ≤ 16 := by
  unfold mayI at h
  split at h
  · cases h
  · rename_i hm
    unfold manyB at hm
    simp only [Bool.not_eq_true, Bool.or_eq_false_iff, decide_eq_false_iff_not] at hm
    omega
/-- a block has at most 16 pairs for each way -/
theorem cont_len {l : List It} (h : rightB l = true) : ∀ (d : Nat) (b : Int), (contF l d b).length ≤ 16 * waysF l d b
  | 0, b => by simp [contF]
  | d + 1, b => by
    cases hx : findI l b with
    | none => rw [contF, hx]; simp
    | some x =>
      have hm := right_may h (find_in hx)
      obtain ⟨f1, f2, f3⟩ := may_few hm
      rw [ways_some hx, targets_split, contF, hx]
      show (nodeC (contF l d) x.nd).length ≤ _
      unfold nodeC
      cases hl : x.nd.leaf
      · simp only [Bool.false_eq_true, if_false]
        have h1 := len_kids (f := contF l d) (g := waysF l d) (n := x.nd) (fun e _ => cont_len h d e.blk) _ (Nat.le_refl _)
        have h2 := len_msgs (f := contF l d) (g := waysF l d) (bf := x.nd.bf) (out := kidsC (contF l d) x.nd x.nd.ks.length) (fun m _ _ => cont_len h d m.blk) _ (Nat.le_refl _)
        rw [List.take_length] at h1 h2
        omega
      · simp only [if_true]
        omega

/-- all of them -/
theorem kidD_is (ks : List E) : ∀ j, j ≤ ks.length → kidD ks j = 0 ∨ ∃ e ∈ ks, e.deep = kidD ks j
  | 0, _ => .inl rfl
  | j + 1, hj => by
    rw [kidD_at (by omega)]
    unfold up2
    split
    · exact .inr ⟨_, List.getElem_mem (by omega), rfl⟩
    · exact kidD_is ks j (by omega)
theorem bufD_is (s : Int) (bf : List M) : ∀ j, j ≤ bf.length → bufD s bf j = s ∨ ∃ m ∈ bf, m.kind = 3 ∧ m.deep = bufD s bf j
  | 0, _ => .inl rfl
  | j + 1, hj => by
    rw [bufD_at (by omega)]
    split
    · rename_i h3
      unfold up2
      split
      · exact .inr ⟨_, List.getElem_mem (by omega), h3, rfl⟩
      · exact bufD_is s bf j (by omega)
    · exact bufD_is s bf j (by omega)
/-- in a right graph one step down from a node is another one, if it is no leaf's depth -/
theorem one_down {l : List It} (h : rightB l = true) {x : It} (hx : x ∈ l) (hd : 1 < deepI x.nd) : ∃ y ∈ l, deepI y.nd = deepI x.nd - 1 := by
  have hr := h
  unfold rightB at h
  simp only [Bool.and_eq_true] at h
  have hl := List.all_eq_true.1 h.2 x hx
  unfold leadsB at hl
  simp only [Bool.and_eq_true] at hl
  have h5 := right_le hr hx
  have hlf : x.nd.leaf = false := by
    cases e : x.nd.leaf
    · rfl
    · unfold deepI at hd; rw [e] at hd; simp at hd
  have hdm : deepM x.nd = deepI x.nd - 1 ∧ 0 < deepM x.nd ∨ deepM x.nd = 65535 := by
    unfold deepI at hd ⊢
    rw [hlf] at hd ⊢
    simp only [Bool.false_eq_true, if_false] at hd ⊢
    split
    · exact .inr (by assumption)
    · rename_i e; rw [if_neg e] at hd; exact .inl ⟨by omega, by omega⟩
  have hat : deepM x.nd = 0 ∨ (∃ e ∈ x.nd.ks, e.deep = deepM x.nd) ∨ ∃ m ∈ x.nd.bf, m.kind = 3 ∧ m.deep = deepM x.nd := by
    have e : deepM x.nd = bufD (kidD x.nd.ks x.nd.ks.length) x.nd.bf x.nd.bf.length := rfl
    rw [e]
    rcases bufD_is (kidD x.nd.ks x.nd.ks.length) x.nd.bf _ (Nat.le_refl _) with h1 | h1
    · rw [h1]
      rcases kidD_is x.nd.ks _ (Nat.le_refl _) with h2 | h2
      · exact .inl h2
      · exact .inr (.inl h2)
    · exact .inr (.inr h1)
  have key : ∀ b, fitsB l b (deepM x.nd) = true → ∃ y ∈ l, deepI y.nd = deepI x.nd - 1 := by
    intro b hb
    obtain ⟨y, hy, h1, h2⟩ := fits_some hb
    refine ⟨y, find_in hy, ?_⟩
    rw [h1]
    rcases hdm with h3 | h3 <;> omega
  rcases hat with h1 | ⟨e, he, h1⟩ | ⟨m, hm, h3, h1⟩
  · rcases hdm with h2 | h2 <;> omega
  · have := List.all_eq_true.1 hl.1 e he
    rw [h1] at this
    exact key _ this
  · have := List.all_eq_true.1 hl.2 m hm
    unfold gotoB at this
    rw [if_pos h3, h1] at this
    exact key _ this
theorem all_down {l : List It} (h : rightB l = true) : ∀ (d : Nat) (x : It), x ∈ l → deepI x.nd = d → ∀ e : Nat, 1 ≤ e → e ≤ d → (e : Int) ∈ l.map fun y => deepI y.nd
  | 0, x, hx, hd, e, h1, h2 => by omega
  | d + 1, x, hx, hd, e, h1, h2 => by
    by_cases he : e = d + 1
    · subst he
      exact List.mem_map.2 ⟨x, hx, by omega⟩
    · obtain ⟨y, hy, hyd⟩ := one_down h hx (by omega)
      exact all_down h d y hy (by omega) e h1 (by omega)
theorem all_in : ∀ (d : Nat) (L : List Int), (∀ e : Nat, 1 ≤ e → e ≤ d → (e : Int) ∈ L) → d ≤ L.length
  | 0, _, _ => Nat.zero_le _
  | d + 1, L, h => by
    have hd := h (d + 1) (by omega) (Nat.le_refl _)
    have := all_in d (L.erase ((d + 1 : Nat) : Int)) fun e h1 h2 => (List.mem_erase_of_ne (by omega)).2 (h e h1 (by omega))
    rw [List.length_erase_of_mem hd] at this
    have := List.length_pos_of_mem hd
    omega
/-- no right graph is deeper than it has nodes -/
theorem right_len {l : List It} (h : rightB l = true) {x : It} (hx : x ∈ l) : deepI x.nd ≤ l.length := by
  have hp := deep_pos (right_may h hx)
  have := all_in (deepI x.nd).toNat (l.map fun y => deepI y.nd) (all_down h _ x hx (by omega))
  rw [List.length_map] at this
  omega
end Go.Proofs.YtegmpfmhlpdmhaaGreat.Key
