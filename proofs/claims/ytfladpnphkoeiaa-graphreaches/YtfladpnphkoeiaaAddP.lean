/-
  How often blocks are named, the document's way: a row of refs, one more put into it. No program is named here.
-/
import Derived.Test.YtfladpnphkoeiaaNames
import Derived.Test.YtfladpnphkoeiaaCounts
namespace Go.Proofs.Ytfladpnphkoeiaa.Key
set_option linter.unusedVariables false
set_option linter.unusedSimpArgs false

/-- a ref, as it goes into the new row -/
def upR (b n : Int) (x : Rf) : Rf := if x.blk = b then ⟨x.blk, upC x.n n⟩ else x
def stepR (b n : Int) (st : List Rf × Bool) (x : Rf) : List Rf × Bool :=
  if (st.2 || decide (x.blk = b)) = false ∧ b < x.blk then (st.1 ++ [⟨b, n⟩] ++ [upR b n x], true) else (st.1 ++ [upR b n x], st.2 || decide (x.blk = b))
def endR (b n : Int) (st : List Rf × Bool) : List Rf := if st.2 then st.1 else st.1 ++ [⟨b, n⟩]
def addR (l : List Rf) (b n : Int) : List Rf := if n = 0 then l else endR b n (l.foldl (stepR b n) ([], false))
/-- .. into a rising row -/
def insR : List Rf → Int → Int → List Rf
  | [], b, n => [⟨b, n⟩]
  | x :: l, b, n => if x.blk = b then ⟨x.blk, upC x.n n⟩ :: l else if b < x.blk then ⟨b, n⟩ :: x :: l else x :: insR l b n
theorem fold_done (b n : Int) : ∀ (l : List Rf) (out : List Rf), (∀ x ∈ l, x.blk ≠ b) → l.foldl (stepR b n) (out, true) = (out ++ l, true)
  | [], out, _ => by simp
  | x :: l, out, h => by
    have hx := h x (by simp)
    rw [List.foldl_cons]
    have e : stepR b n (out, true) x = (out ++ [x], true) := by simp [stepR, upR, hx]
    rw [e, fold_done b n l _ (fun y hy => h y (by simp [hy]))]
    simp
theorem fold_ins (b n : Int) : ∀ (l : List Rf) (out : List Rf), (l.map (·.blk)).Pairwise (· < ·) → endR b n (l.foldl (stepR b n) (out, false)) = out ++ insR l b n
  | [], out, _ => by simp [endR, insR]
  | x :: l, out, h => by
    rw [List.map_cons] at h
    obtain ⟨h1, h2⟩ := List.pairwise_cons.1 h
    have hgt : ∀ y ∈ l, x.blk < y.blk := fun y hy => h1 _ (List.mem_map.2 ⟨y, hy, rfl⟩)
    rw [List.foldl_cons, insR]
    by_cases e : x.blk = b
    · have e1 : stepR b n (out, false) x = (out ++ [⟨x.blk, upC x.n n⟩], true) := by simp [stepR, upR, e]
      rw [e1, fold_done b n l _ (fun y hy => by have := hgt y hy; omega), if_pos e]
      simp [endR]
    · by_cases hl : b < x.blk
      · have e1 : stepR b n (out, false) x = (out ++ [⟨b, n⟩] ++ [x], true) := by simp [stepR, upR, e, hl]
        rw [e1, fold_done b n l _ (fun y hy => by have := hgt y hy; omega), if_neg e, if_pos hl]
        simp [endR]
      · have e1 : stepR b n (out, false) x = (out ++ [x], false) := by simp [stepR, upR, e, hl]
        rw [e1, fold_ins b n l _ h2, if_neg e, if_neg hl]
        simp
theorem blks_of (ks vs : List Int) (h : vs.length = ks.length) : (refsOf (ks, vs)).map (·.blk) = ks := by
  unfold refsOf
  rw [List.map_map]
  have : ((fun x => x.blk) ∘ fun x : Int × Int => (⟨x.1, x.2⟩ : Rf)) = Prod.fst := rfl
  rw [this]
  exact List.map_fst_zip (by dsimp only; omega)
theorem refs_put (b n : Int) (hn : 0 ≤ n ∧ n ≤ 4294967295) : ∀ (ks vs : List Int), vs.length = ks.length → refsOf (putK ks b, putV ks vs b (upC (getV ks vs b) n)) = insR (refsOf (ks, vs)) b n
  | [], [], _ => by
    have : upC 0 n = n := by unfold upC; split <;> omega
    simp [refsOf, putK, putV, getV, there, pos, insertAt, insR, this]
  | [], v :: vs, h => by simp at h
  | k :: ks, [], h => by simp at h
  | k :: ks, v :: vs, h => by
    have ih := refs_put b n hn ks vs (by simpa using h)
    have hc : refsOf (k :: ks, v :: vs) = ⟨k, v⟩ :: refsOf (ks, vs) := rfl
    rw [hc, insR]
    dsimp only
    by_cases hkb : k < b
    · rw [if_neg (by omega), if_neg (by omega), ← ih]
      have e1 : there (k :: ks) b = there ks b := by rw [there_cons, if_pos hkb]
      have e2 : pos (k :: ks) b = pos ks b + 1 := by rw [pos_cons, if_pos hkb]
      have eK : putK (k :: ks) b = k :: putK ks b := by
        unfold putK
        rw [e1, e2]
        split
        · rfl
        · simp [insertAt]
      have eG : getV (k :: ks) (v :: vs) b = getV ks vs b := by
        unfold getV
        rw [e1, e2]
        simp [List.getD]
      have eV : ∀ u, putV (k :: ks) (v :: vs) b u = v :: putV ks vs b u := fun u => by
        unfold putV
        rw [e1, e2]
        split
        · simp
        · simp [insertAt]
      rw [eK, eG, eV]
      rfl
    · have e1 : there (k :: ks) b = decide (k = b) := by rw [there_cons, if_neg hkb]
      have e2 : pos (k :: ks) b = 0 := by rw [pos_cons, if_neg hkb]
      by_cases hk : k = b
      · rw [if_pos hk]
        unfold putK putV getV
        rw [e1, e2, decide_eq_true hk]
        simp [refsOf, List.getD]
      · rw [if_neg hk, if_pos (by omega)]
        have : upC 0 n = n := by unfold upC; split <;> omega
        unfold putK putV getV
        rw [e1, e2, decide_eq_false hk]
        simp [refsOf, insertAt, this]
theorem addR_same (s : St) (b n : Int) (hv : s.2.length = s.1.length) (hr : Rising s.1) (hn : 0 ≤ n ∧ n ≤ 4294967295) : addR (refsOf s) b n = refsOf (addC s b n) := by
  obtain ⟨ks, vs⟩ := s
  unfold addR addC
  by_cases h0 : n = 0
  · rw [if_pos h0, if_neg (by omega)]
  · rw [if_neg h0, if_pos (by omega)]
    dsimp only at *
    rw [fold_ins b n _ [] (by rw [blks_of ks vs hv]; exact hr), List.nil_append, refs_put b n hn ks vs hv]
theorem addC_rise {s : St} (h : Rising s.1) (b t : Int) : Rising (addC s b t).1 := by
  unfold addC
  split
  · exact rise_put _ _ h
  · exact h
theorem fold_rise : ∀ (p : List (Int × Int)) (s : St), Rising s.1 → Rising (p.foldl (fun s x => addC s x.1 x.2) s).1
  | [], s, h => h
  | x :: p, s, h => fold_rise p _ (addC_rise h _ _)
theorem cnt_rise (p : List (Int × Int)) : Rising (cnt p).1 := fold_rise p _ List.Pairwise.nil
/-- so many refs as are counted the document's way -/
theorem cntR_snoc (p : List (Int × Int)) (x : Int × Int) (hp : ∀ y ∈ p, 0 ≤ y.2) (hx : 0 ≤ x.2 ∧ x.2 ≤ 4294967295) : refsOf (cnt (p ++ [x])) = addR (refsOf (cnt p)) x.1 x.2 := by
  rw [cnt_snoc, addR_same (cnt p) x.1 x.2 (cnt_ok p hp).1 (cnt_rise p) hx]
theorem refsOf_len (s : St) (h : s.2.length = s.1.length) : (refsOf s).length = s.1.length := by
  unfold refsOf
  rw [List.length_map, List.length_zip]
  omega
end Go.Proofs.Ytfladpnphkoeiaa.Key
