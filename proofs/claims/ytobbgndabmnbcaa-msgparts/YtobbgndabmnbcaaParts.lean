/-
  Plain facts: maps told by what a key has; messages done in two parts; those that Add leaves.
-/
import Derived.Test.YtobbgndabmnbcaaApply
import Derived.Test.YtobbgndabmnbcaaAddSay
namespace Go.Proofs.Ytobbgndabmnbcaa.Key
open Go.RowKit
open Go.Op (bytesLess)

theorem putK_cons (k : ByteArray) (ks : List ByteArray) (x : ByteArray) : putK (k :: ks) x = if lessS k x then k :: putK ks x else if k = x then k :: ks else x :: k :: ks := by
  unfold putK
  rw [there_cons, pos_cons]
  cases h : lessS k x with
  | true => simp only [if_true]; split <;> simp [insertAt]
  | false => simp only [Bool.false_eq_true, if_false]; by_cases hk : k = x <;> simp [hk, insertAt]
theorem putV_cons (k : ByteArray) (ks : List ByteArray) (v : ByteArray) (vs : List ByteArray) (x y : ByteArray) : putV (k :: ks) (v :: vs) x y = if lessS k x then v :: putV ks vs x y else if k = x then y :: vs else y :: v :: vs := by
  unfold putV
  rw [there_cons, pos_cons]
  cases h : lessS k x with
  | true => simp only [if_true]; split <;> simp [insertAt]
  | false => simp only [Bool.false_eq_true, if_false]; by_cases hk : k = x <;> simp [hk, insertAt]
theorem delK_cons (k : ByteArray) (ks : List ByteArray) (x : ByteArray) : delK (k :: ks) x = if lessS k x then k :: delK ks x else if k = x then ks else k :: ks := by
  unfold delK
  rw [there_cons, pos_cons]
  cases h : lessS k x with
  | true => simp only [if_true]; split <;> simp
  | false => simp only [Bool.false_eq_true, if_false]; by_cases hk : k = x <;> simp [hk]
theorem delV_cons (k : ByteArray) (ks : List ByteArray) (v : ByteArray) (vs : List ByteArray) (x : ByteArray) : delV (k :: ks) (v :: vs) x = if lessS k x then v :: delV ks vs x else if k = x then vs else v :: vs := by
  unfold delV
  rw [there_cons, pos_cons]
  cases h : lessS k x with
  | true => simp only [if_true]; split <;> simp
  | false => simp only [Bool.false_eq_true, if_false]; by_cases hk : k = x <;> simp [hk]
/-- what a key has -/
def look : List ByteArray → List ByteArray → ByteArray → Option ByteArray
  | k :: ks, v :: vs, x => if k = x then some v else look ks vs x
  | _, _, _ => none
theorem look_above : ∀ (ks vs : List ByteArray) (x : ByteArray), (∀ k ∈ ks, lessS x k = true) → look ks vs x = none
  | [], _, _, _ => rfl
  | k :: ks, [], _, _ => rfl
  | k :: ks, v :: vs, x, h => by
    have hk := h k (List.mem_cons_self ..)
    have hne : k ≠ x := by rintro rfl; rw [lessS_self] at hk; cases hk
    rw [look, if_neg hne]
    exact look_above ks vs x fun y hy => h y (List.mem_cons_of_mem _ hy)
theorem less_ne {a b : ByteArray} (h : lessS a b = true) : a ≠ b := by rintro rfl; rw [lessS_self] at h; cases h
theorem look_put : ∀ (ks vs : List ByteArray) (x y k : ByteArray), vs.length = ks.length → look (putK ks x) (putV ks vs x y) k = if x = k then some y else look ks vs k
  | [], [], x, y, k, _ => by
    have e1 : putK [] x = [x] := by simp [putK, there, pos, insertAt]
    have e2 : putV [] [] x y = [y] := by simp [putV, there, pos, insertAt]
    rw [e1, e2]
    rfl
  | [], _ :: _, _, _, _, h => by simp at h
  | _ :: _, [], _, _, _, h => by simp at h
  | a :: ks, v :: vs, x, y, k, h => by
    rw [putK_cons, putV_cons]
    cases hl : lessS a x with
    | true =>
      simp only [if_true, look]
      rw [look_put ks vs x y k (by simpa using h)]
      by_cases hak : a = k
      · subst hak
        rw [if_pos rfl, if_pos rfl, if_neg (Ne.symm (less_ne hl))]
      · rw [if_neg hak, if_neg hak]
    | false =>
      simp only [Bool.false_eq_true, if_false]
      by_cases hax : a = x
      · subst hax
        simp only [if_true, look]
        by_cases hak : a = k <;> simp [hak]
      · rw [if_neg hax, if_neg hax]
        simp only [look]
theorem look_del : ∀ (ks vs : List ByteArray) (x k : ByteArray), Rising ks → vs.length = ks.length → look (delK ks x) (delV ks vs x) k = if x = k then none else look ks vs k
  | [], [], x, k, _, _ => by
    have e1 : delK [] x = [] := by simp [delK]
    have e2 : delV [] [] x = [] := by simp [delV]
    rw [e1, e2]
    simp [look]
  | [], _ :: _, _, _, _, h => by simp at h
  | _ :: _, [], _, _, _, h => by simp at h
  | a :: ks, v :: vs, x, k, hr, h => by
    obtain ⟨h1, h2⟩ := List.pairwise_cons.1 hr
    rw [delK_cons, delV_cons]
    cases hl : lessS a x with
    | true =>
      simp only [if_true, look]
      rw [look_del ks vs x k h2 (by simpa using h)]
      by_cases hak : a = k
      · subst hak
        rw [if_pos rfl, if_pos rfl, if_neg (Ne.symm (less_ne hl))]
      · rw [if_neg hak, if_neg hak]
    | false =>
      simp only [Bool.false_eq_true, if_false]
      by_cases hax : a = x
      · subst hax
        simp only [if_true, look]
        by_cases hak : a = k
        · subst hak
          rw [if_pos rfl]
          exact look_above ks vs a h1
        · rw [if_neg hak, if_neg hak]
      · rw [if_neg hax, if_neg hax]
        by_cases hxk : x = k
        · subst hxk
          rw [if_pos rfl]
          have hxa : lessS x a = true := by
            cases hb : lessS x a with
            | true => rfl
            | false => exact absurd (lessS_same hl hb) hax
          refine look_above (a :: ks) (v :: vs) x fun y hy => ?_
          rcases List.mem_cons.1 hy with rfl | hy
          · exact hxa
          · exact lessS_trans hxa (h1 y hy)
        · rw [if_neg hxk]
/-- maps of which each key has the same are the same -/
theorem look_ext : ∀ (ks vs ks' vs' : List ByteArray), Rising ks → Rising ks' → vs.length = ks.length → vs'.length = ks'.length → (∀ x, look ks vs x = look ks' vs' x) → ks = ks' ∧ vs = vs'
  | [], [], [], [], _, _, _, _, _ => ⟨rfl, rfl⟩
  | [], [], k :: ks, v :: vs, _, _, _, _, h => by have := h k; simp [look] at this
  | k :: ks, v :: vs, [], [], _, _, _, _, h => by have := h k; simp [look] at this
  | [], _ :: _, _, _, _, _, h, _, _ => by simp at h
  | _ :: _, [], _, _, _, _, h, _, _ => by simp at h
  | _, _, [], _ :: _, _, _, _, h, _ => by simp at h
  | _, _, _ :: _, [], _, _, _, h, _ => by simp at h
  | k :: ks, v :: vs, k' :: ks', v' :: vs', hr, hr', hl, hl', h => by
    obtain ⟨h1, h2⟩ := List.pairwise_cons.1 hr
    obtain ⟨h1', h2'⟩ := List.pairwise_cons.1 hr'
    have hk : k = k' := by
      refine Classical.byContradiction fun hne => ?_
      cases hb : lessS k k' with
      | true =>
        have e := h k
        rw [look_above (k' :: ks') (v' :: vs') k fun y hy => by
          rcases List.mem_cons.1 hy with rfl | hy
          · exact hb
          · exact lessS_trans hb (h1' y hy)] at e
        simp [look] at e
      | false =>
        have hb' : lessS k' k = true := by
          cases hc : lessS k' k with
          | true => rfl
          | false => exact absurd (lessS_same hb hc) hne
        have e := h k'
        rw [look_above (k :: ks) (v :: vs) k' fun y hy => by
          rcases List.mem_cons.1 hy with rfl | hy
          · exact hb'
          · exact lessS_trans hb' (h1 y hy)] at e
        simp [look] at e
    subst hk
    have hv : v = v' := by have := h k; simpa [look] using this
    subst hv
    obtain ⟨rfl, rfl⟩ := look_ext ks vs ks' vs' h2 h2' (by simpa using hl) (by simpa using hl') fun x => by
      by_cases hx : k = x
      · subst hx
        rw [look_above ks vs k h1, look_above ks' vs' k h1']
      · have := h x
        simpa [look, hx] using this
    exact ⟨rfl, rfl⟩
end Go.Proofs.Ytobbgndabmnbcaa.Key
