/-
  Graphs, plain: items, what is found, what is right, what is deeper. No program is named here.
-/
import Derived.Test.YtegmpfmhlpdmhaaGreatDeep
import Derived.Test.YtegmpfmhlpdmhaaGreatTargets
import Derived.Test.YtegmpfmhlpdmhaaGreatKi
namespace Go.Proofs.YtegmpfmhlpdmhaaGreat.Key
set_option linter.unusedVariables false
set_option linter.unusedSimpArgs false

/-- an item: a node in a block, and where its lists lie -/
structure It where
  blk : Int
  nd : Nd
  pl : Pl
/-- the node in a block -/
def findI (l : List It) (b : Int) : Option It := l.find? fun x => x.blk == b
/-- is there a node so deep? -/
def fitsB (l : List It) (b d : Int) : Bool :=
  match findI l b with
  | some x => decide (deepI x.nd = d) && decide (d < 65535)
  | none => false
def gotoB (l : List It) (m : M) : Bool := if m.kind = 3 then fitsB l m.blk m.deep else true
def leadsB (l : List It) (n : Nd) : Bool := n.ks.all (fun e => fitsB l e.blk e.deep) && n.bf.all (gotoB l)
/-- may an item be behind the one ahead of it? -/
def stepB (l : List It) (i : Nat) : Bool := (match i with | 0 => true | j + 1 => decide ((l.getD j ⟨0, ⟨false, [], [], [], []⟩, ⟨none, 0, none, 0, none, 0, none, 0⟩⟩).blk < (l.getD (j + 1) ⟨0, ⟨false, [], [], [], []⟩, ⟨none, 0, none, 0, none, 0, none, 0⟩⟩).blk)) && decide (mayI (l.getD i ⟨0, ⟨false, [], [], [], []⟩, ⟨none, 0, none, 0, none, 0, none, 0⟩⟩).nd = 0)
def rightB (l : List It) : Bool := upTo (stepB l) l.length && l.all fun x => leadsB l x.nd

theorem stepB_zero {l : List It} (h : 0 < l.length) : stepB l 0 = decide (mayI l[0].nd = 0) := by
  unfold stepB
  rw [getD_at h]
  rfl
theorem stepB_at {l : List It} {j : Nat} (h : j + 1 < l.length) : stepB l (j + 1) = (decide ((l[j]'(by omega)).blk < l[j + 1].blk) && decide (mayI l[j + 1].nd = 0)) := by
  unfold stepB
  simp only [getD_at (show j < l.length by omega), getD_at h]
theorem stepB_may {l : List It} {j : Nat} (h : j < l.length) (hs : stepB l j = true) : mayI l[j].nd = 0 := by
  cases j with
  | zero => rw [stepB_zero h] at hs; simpa using hs
  | succ j => rw [stepB_at h] at hs; simp at hs; exact hs.2
theorem rises {l : List It} (h : upTo (stepB l) l.length = true) : ∀ i j (hi : i < j) (hj : j < l.length), (l[i]'(by omega)).blk < l[j].blk := by
  intro i j
  induction j with
  | zero => omega
  | succ j ih =>
    intro hi hj
    have h1 := upTo_at h hj
    rw [stepB_at hj] at h1
    simp at h1
    by_cases e : i = j
    · subst e; exact h1.1
    · exact Int.lt_trans (ih (by omega) (by omega)) h1.1
/-- of rising blocks each is found at its place -/
theorem find_place {l : List It} (hr : ∀ i j (hi : i < j) (hj : j < l.length), (l[i]'(by omega)).blk < l[j].blk) {j : Nat} (hj : j < l.length) : findI l l[j].blk = some l[j] := by
  unfold findI
  rw [List.find?_eq_some_iff_getElem]
  refine ⟨by simp, j, hj, rfl, fun i hi => ?_⟩
  have := hr i j hi hj
  simp only [Bool.not_eq_true', beq_eq_false_iff_ne]
  omega
/-- what a map holds that each item was stored into, the last one of a block standing -/
def lastD (l : List It) (b : Int) : Option Int := (findI l.reverse b).map fun x => deepI x.nd
theorem lastD_nil (b : Int) : lastD [] b = none := rfl
theorem lastD_snoc (l : List It) (x : It) (b : Int) : lastD (l ++ [x]) b = if x.blk = b then some (deepI x.nd) else lastD l b := by
  unfold lastD findI
  rw [List.reverse_append, List.reverse_singleton, List.singleton_append, List.find?_cons]
  by_cases e : x.blk = b
  · simp [e]
  · simp [e, beq_eq_false_iff_ne.2 e]
theorem find_unique {l : List It} (hr : ∀ i j (hi : i < j) (hj : j < l.length), (l[i]'(by omega)).blk < l[j].blk) (b : Int) : findI l.reverse b = findI l b := by
  cases h : findI l b with
  | none =>
    unfold findI at *
    rw [List.find?_eq_none] at *
    intro x hx
    exact h x (List.mem_reverse.1 hx)
  | some x =>
    have hx := List.mem_of_find?_eq_some h
    have hb : x.blk = b := by simpa using List.find?_some h
    cases h' : findI l.reverse b with
    | none =>
      unfold findI at h'
      rw [List.find?_eq_none] at h'
      exact absurd (by simpa using hb) (h' x (List.mem_reverse.2 hx))
    | some y =>
      have hy := List.mem_reverse.1 (List.mem_of_find?_eq_some h')
      have hyb : y.blk = b := by simpa using List.find?_some h'
      obtain ⟨i, hi, rfl⟩ := List.getElem_of_mem hx
      obtain ⟨j, hj, rfl⟩ := List.getElem_of_mem hy
      by_cases e : i = j
      · subst e; rfl
      · rcases Nat.lt_or_gt_of_ne e with e | e
        · have := hr i j e hj; omega
        · have := hr j i e hi; omega
theorem fits_last {l : List It} (hr : upTo (stepB l) l.length = true) (b d : Int) : fitsB l b d = match lastD l b with | some t => decide (t = d) && decide (d < 65535) | none => false := by
  unfold fitsB lastD
  rw [find_unique (rises hr)]
  cases findI l b <;> rfl

theorem le_up2 (a b : Int) : a ≤ up2 a b ∧ b ≤ up2 a b := by unfold up2; split <;> omega
theorem kidD_le (ks : List E) : ∀ j, j ≤ ks.length → ∀ i (h : i < j) (hk : i < ks.length), ks[i].deep ≤ kidD ks j
  | 0, _, i, h, _ => by omega
  | j + 1, hj, i, h, hk => by
    rw [kidD_at (show j < ks.length by omega)]
    by_cases e : i = j
    · subst e; exact (le_up2 _ _).2
    · exact Int.le_trans (kidD_le ks j (by omega) i (by omega) hk) (le_up2 _ _).1
theorem bufD_ge (s : Int) (bf : List M) : ∀ j, j ≤ bf.length → s ≤ bufD s bf j
  | 0, _ => Int.le_refl _
  | j + 1, hj => by
    rw [bufD_at (show j < bf.length by omega)]
    split
    · exact Int.le_trans (bufD_ge s bf j (by omega)) (le_up2 _ _).1
    · exact bufD_ge s bf j (by omega)
theorem bufD_le (s : Int) (bf : List M) : ∀ j, j ≤ bf.length → ∀ i (h : i < j) (hk : i < bf.length), bf[i].kind = 3 → bf[i].deep ≤ bufD s bf j
  | 0, _, i, h, _, _ => by omega
  | j + 1, hj, i, h, hk, h3 => by
    rw [bufD_at (show j < bf.length by omega)]
    by_cases e : i = j
    · subst e; rw [if_pos h3]; exact (le_up2 _ _).2
    · have := bufD_le s bf j (by omega) i (by omega) hk h3
      split
      · exact Int.le_trans this (le_up2 _ _).1
      · exact this
theorem deepM_kid {n : Nd} {e : E} (h : e ∈ n.ks) : e.deep ≤ deepM n := by
  obtain ⟨i, hi, rfl⟩ := List.getElem_of_mem h
  unfold deepM
  exact Int.le_trans (kidD_le n.ks _ (Nat.le_refl _) i hi hi) (bufD_ge _ _ _ (Nat.le_refl _))
theorem deepM_goto {n : Nd} {m : M} (h : m ∈ n.bf) (h3 : m.kind = 3) : m.deep ≤ deepM n := by
  obtain ⟨i, hi, rfl⟩ := List.getElem_of_mem h
  exact bufD_le _ _ _ (Nat.le_refl _) i hi hi h3
theorem fits_some {l : List It} {b d : Int} (h : fitsB l b d = true) : ∃ x, findI l b = some x ∧ deepI x.nd = d ∧ d < 65535 := by
  unfold fitsB at h
  cases hf : findI l b with
  | none => rw [hf] at h; cases h
  | some x => rw [hf] at h; simp at h; exact ⟨x, rfl, h.1, h.2⟩
theorem leaf_bare {n : Nd} (hl : n.leaf = true) (hm : mayI n = 0) : n.ks = [] ∧ n.bf = [] := by
  unfold mayI at hm
  split at hm
  · cases hm
  · unfold ans fineB at hm
    rw [if_pos hl] at hm
    split at hm
    · rename_i h
      unfold leafB at h
      simp at h
      exact ⟨h.2.1, h.2.2.1⟩
    · cases hm
/-- in a right graph whoever leads to a node is deeper than it -/
theorem right_deep {l : List It} (h : rightB l = true) {x : It} (hx : x ∈ l) {t : Int} (ht : t ∈ targetsL x.nd) : ∃ y, findI l t = some y ∧ deepI y.nd < deepI x.nd := by
  unfold rightB at h
  simp only [Bool.and_eq_true] at h
  have hmay : mayI x.nd = 0 := by
    obtain ⟨i, hi, rfl⟩ := List.getElem_of_mem hx
    exact stepB_may hi (upTo_at h.1 hi)
  have hl := List.all_eq_true.1 h.2 x hx
  unfold leadsB at hl
  simp only [Bool.and_eq_true] at hl
  have key : ∀ d : Int, d < 65535 → d ≤ deepM x.nd → (x.nd.ks ≠ [] ∨ x.nd.bf ≠ []) → d < deepI x.nd := by
    intro d h1 h2 h3
    have hlf : x.nd.leaf = false := by
      cases hf : x.nd.leaf with
      | false => rfl
      | true => obtain ⟨e1, e2⟩ := leaf_bare hf hmay; rcases h3 with h3 | h3 <;> contradiction
    unfold deepI
    rw [hlf]
    simp only [Bool.false_eq_true, if_false]
    split <;> omega
  unfold targetsL at ht
  rcases List.mem_append.1 ht with ht | ht
  · obtain ⟨e, he, rfl⟩ := List.mem_map.1 ht
    obtain ⟨y, h1, h2, h3⟩ := fits_some (List.all_eq_true.1 hl.1 e he)
    exact ⟨y, h1, by rw [h2]; exact key _ h3 (deepM_kid he) (.inl (List.ne_nil_of_mem he))⟩
  · unfold blocksL at ht
    obtain ⟨m, hm, rfl⟩ := List.mem_map.1 ht
    obtain ⟨hm1, hm2⟩ := List.mem_filter.1 hm
    have h3' : m.kind = 3 := by simpa using hm2
    have := List.all_eq_true.1 hl.2 m hm1
    unfold gotoB at this
    rw [if_pos h3'] at this
    obtain ⟨y, h1, h2, h3⟩ := fits_some this
    exact ⟨y, h1, by rw [h2]; exact key _ h3 (deepM_goto hm1 h3') (.inr (List.ne_nil_of_mem hm1))⟩
end Go.Proofs.YtegmpfmhlpdmhaaGreat.Key
