/-
  Rows of rising numbers: where one stands, whether it is there, what putting one leaves. No program is named here.
-/
import Derived.Test.YtfladpnphkoeiaaMs
namespace Go.Proofs.Ytfladpnphkoeiaa.Key
set_option linter.unusedVariables false
set_option linter.unusedSimpArgs false

def Rising (ks : List Int) : Prop := ks.Pairwise (· < ·)
def pos (ks : List Int) (x : Int) : Nat := (ks.takeWhile fun k => decide (k < x)).length
def there (ks : List Int) (x : Int) : Bool := decide (pos ks x < ks.length ∧ ks.getD (pos ks x) 0 = x)
theorem pos_le (ks : List Int) (x : Int) : pos ks x ≤ ks.length := (List.takeWhile_prefix _).length_le
theorem pos_cons (k : Int) (ks : List Int) (x : Int) : pos (k :: ks) x = if k < x then pos ks x + 1 else 0 := by
  unfold pos
  rw [List.takeWhile_cons]
  by_cases h : k < x <;> simp [h]
theorem pos_low : ∀ (ks : List Int) (x : Int) (t : Nat), t < pos ks x → ks.getD t 0 < x
  | [], x, t, h => by simp [pos] at h
  | k :: ks, x, t, h => by
    rw [pos_cons] at h
    split at h
    · rename_i hk
      cases t with
      | zero => simpa using hk
      | succ t => simpa using pos_low ks x t (by omega)
    · omega
theorem pos_high : ∀ (ks : List Int) (x : Int) (t : Nat), Rising ks → pos ks x ≤ t → t < ks.length → ¬ ks.getD t 0 < x
  | [], x, t, _, _, h => by simp at h
  | k :: ks, x, t, hr, h, hl => by
    rw [pos_cons] at h
    obtain ⟨h1, h2⟩ := List.pairwise_cons.1 hr
    split at h
    · cases t with
      | zero => omega
      | succ t => simpa using pos_high ks x t h2 (by omega) (by simpa using hl)
    · rename_i hk
      cases t with
      | zero => simpa using hk
      | succ t =>
        have ht : t < ks.length := by simpa using hl
        have e : (k :: ks).getD (t + 1) 0 = ks[t] := by simp [List.getD, List.getElem?_eq_getElem ht]
        rw [e]
        have := h1 _ (List.getElem_mem ht)
        omega
/-- halves -/
theorem half_low {ks : List Int} {x : Int} {h : Nat} (hr : Rising ks) (hl : h < ks.length) (hx : ks.getD h 0 < x) : h + 1 ≤ pos ks x := by
  by_cases hp : h < pos ks x
  · omega
  · exact absurd hx (pos_high ks x h hr (by omega) hl)
theorem half_high {ks : List Int} {x : Int} {h : Nat} (hx : ¬ ks.getD h 0 < x) : pos ks x ≤ h := by
  by_cases hp : h < pos ks x
  · exact absurd (pos_low ks x h hp) hx
  · omega
def insertAt {α : Type} (ss : List α) (i : Nat) (x : α) : List α := ss.take i ++ x :: ss.drop i
theorem insertAt_length {α : Type} (ss : List α) (i : Nat) (x : α) (hi : i ≤ ss.length) : (insertAt ss i x).length = ss.length + 1 := by
  unfold insertAt
  rw [List.length_append, List.length_cons, List.length_take, List.length_drop]
  omega
theorem insertAt_mem {α : Type} {ss : List α} {i : Nat} {x y : α} (h : y ∈ insertAt ss i x) : y ∈ ss ∨ y = x := by
  unfold insertAt at h
  rcases List.mem_append.1 h with h | h
  · exact .inl (List.mem_of_mem_take h)
  · rcases List.mem_cons.1 h with h | h
    · exact .inr h
    · exact .inl (List.mem_of_mem_drop h)
def putK (ks : List Int) (x : Int) : List Int := if there ks x then ks else insertAt ks (pos ks x) x
def putV {α : Type} (ks : List Int) (vs : List α) (x : Int) (v : α) : List α := if there ks x then vs.set (pos ks x) v else insertAt vs (pos ks x) v
def getV (ks vs : List Int) (x : Int) : Int := if there ks x then vs.getD (pos ks x) 0 else 0
theorem there_cons (k : Int) (ks : List Int) (x : Int) : there (k :: ks) x = if k < x then there ks x else decide (k = x) := by
  unfold there
  rw [pos_cons]
  split
  · exact decide_eq_decide.2 (by simp [List.getD])
  · exact decide_eq_decide.2 (by simp [List.getD])
theorem rise_insert : ∀ (ks : List Int) (x : Int), Rising ks → there ks x = false → Rising (insertAt ks (pos ks x) x)
  | [], x, _, _ => by simp [insertAt, pos, Rising]
  | k :: ks, x, hr, ht => by
    obtain ⟨h1, h2⟩ := List.pairwise_cons.1 hr
    rw [there_cons] at ht
    rw [pos_cons]
    split
    · rename_i hk
      rw [if_pos hk] at ht
      have ih := rise_insert ks x h2 ht
      have e : insertAt (k :: ks) (pos ks x + 1) x = k :: insertAt ks (pos ks x) x := by simp [insertAt]
      rw [e]
      refine List.pairwise_cons.2 ⟨fun y hy => ?_, ih⟩
      rcases insertAt_mem hy with hy | rfl
      · exact h1 y hy
      · exact hk
    · rename_i hk
      rw [if_neg hk] at ht
      have hkx : x < k := by
        have : k ≠ x := by simpa using ht
        omega
      have e : insertAt (k :: ks) 0 x = x :: k :: ks := by simp [insertAt]
      rw [e]
      refine List.pairwise_cons.2 ⟨fun y hy => ?_, hr⟩
      rcases List.mem_cons.1 hy with rfl | hy
      · exact hkx
      · exact Int.lt_trans hkx (h1 y hy)
theorem rise_put (ks : List Int) (x : Int) (hr : Rising ks) : Rising (putK ks x) := by
  unfold putK
  split
  · exact hr
  · rename_i h; exact rise_insert ks x hr (by simpa using h)
theorem putK_len (ks : List Int) (x : Int) : (putK ks x).length ≤ ks.length + 1 := by
  unfold putK
  split
  · omega
  · rw [insertAt_length ks _ x (pos_le ks x)]
    exact Nat.le_refl _
theorem there_lt {ks : List Int} {x : Int} (h : there ks x = true) : pos ks x < ks.length := by unfold there at h; simp at h; exact h.1
/-- cells that are shifted -/
theorem shift_list {α : Type} {i : Nat} (cs cur : List α) (x : α) (hi : i < cs.length) (hc : 0 < cur.length) :
    ((((cs ++ cur).take (i + 1) ++ cs.drop i ++ (cs ++ cur).drop (i + 1 + (cs.drop i).length)).take i) ++ [x] ++ (((cs ++ cur).take (i + 1) ++ cs.drop i ++ (cs ++ cur).drop (i + 1 + (cs.drop i).length)).drop (i + [x].length))) = cs.take i ++ x :: cs.drop i ++ cur.drop 1 := by
  have hl : ((cs ++ cur).take (i + 1)).length = i + 1 := by rw [List.length_take, List.length_append]; omega
  have e1 : (cs ++ cur).drop (i + 1 + (cs.drop i).length) = cur.drop 1 := by
    rw [List.length_drop, show i + 1 + (cs.length - i) = cs.length + 1 by omega, ← List.drop_drop, List.drop_left]
  simp only [e1, List.length_singleton, List.append_assoc]
  rw [List.take_append_of_le_length (by rw [hl]; omega), List.take_take, Nat.min_eq_left (by omega), List.take_append_of_le_length (by omega), List.drop_left' hl]
  simp
theorem grow_list {α : Type} {i : Nat} (cs Z : List α) (x : α) (hi : i < cs.length) {Z1 Z2 : List α} (hZ : Z1 ++ Z2 = Z := by rfl) :
    ((((cs.take i ++ Z1 ++ Z2).take i ++ [x] ++ (cs.take i ++ Z1 ++ Z2).drop (i + [x].length)).take (i + 1)) ++ cs.drop i ++ (((cs.take i ++ Z1 ++ Z2).take i ++ [x] ++ (cs.take i ++ Z1 ++ Z2).drop (i + [x].length)).drop (i + 1 + (cs.drop i).length))) = cs.take i ++ x :: cs.drop i ++ Z.drop (cs.length + 1 - i) := by
  subst hZ
  have hl : (cs.take i).length = i := by rw [List.length_take]; omega
  have hl1 : (cs.take i ++ [x]).length = i + 1 := by rw [List.length_append, hl]; rfl
  have e0 : (cs.take i ++ Z1 ++ Z2).take i = cs.take i := by rw [List.append_assoc]; exact List.take_left' hl
  have e1 : (cs.take i ++ Z1 ++ Z2).drop (i + [x].length) = (Z1 ++ Z2).drop 1 := by
    rw [List.append_assoc, List.length_singleton, ← List.drop_drop, List.drop_left' hl]
  rw [e0, e1, List.take_left' hl1]
  have e2 : (cs.take i ++ [x] ++ (Z1 ++ Z2).drop 1).drop (i + 1 + (cs.drop i).length) = (Z1 ++ Z2).drop (cs.length + 1 - i) := by
    rw [← List.drop_drop, List.drop_left' hl1, List.drop_drop, List.length_drop]
    congr 1
    omega
  rw [e2]
  simp
end Go.Proofs.Ytfladpnphkoeiaa.Key
