/-
  Plain facts: messages done in two parts.
-/
import Derived.Test.YtobbgndabmnbcaaParts
namespace Go.Proofs.Ytobbgndabmnbcaa.Key
open Go.RowKit
open Go.Op (bytesLess)

/-- a map in order: keys rise, a value for each -/
def Fit (s : St) : Prop := Rising s.1 ∧ s.2.length = s.1.length
theorem fit_put {s : St} (h : Fit s) (x v : ByteArray) : Fit (putS s x v) := by
  unfold putS putK putV Fit
  have hp := pos_le s.1 x
  cases ht : there s.1 x with
  | true => exact ⟨h.1, by simp [h.2]⟩
  | false => exact ⟨rise_insert s.1 x h.1 ht, by simp only [Bool.false_eq_true, if_false]; rw [insertAt_length _ _ _ hp, insertAt_length _ _ _ (by rw [h.2]; exact hp), h.2]⟩
theorem fit_del {s : St} (h : Fit s) (x : ByteArray) : Fit (delS s x) := by
  unfold delS delK delV Fit
  cases ht : there s.1 x with
  | true => exact ⟨rise_erase _ h.1, by simp only [if_true]; rw [List.length_eraseIdx, List.length_eraseIdx, h.2]⟩
  | false => exact h
theorem fit_doM {s : St} (h : Fit s) (m : M) : Fit (doM s m) := by
  unfold doM
  split
  · exact fit_put h _ _
  · exact fit_del h _
theorem fit_doP {s : St} (h : Fit s) (p : Pr) : Fit (doP s p) := fit_put h _ _
theorem fit_nil : Fit ([], []) := ⟨List.Pairwise.nil, rfl⟩
theorem fit_foldM : ∀ (l : List M) (s : St), Fit s → Fit (l.foldl doM s)
  | [], _, h => h
  | m :: l, s, h => fit_foldM l (doM s m) (fit_doM h m)
theorem fit_foldP : ∀ (l : List Pr) (s : St), Fit s → Fit (l.foldl doP s)
  | [], _, h => h
  | m :: l, s, h => fit_foldP l (doP s m) (fit_doP h m)
theorem fit_after (ps : List Pr) (l : List M) : Fit (afterS ps l) := fit_foldM l _ (fit_foldP ps _ fit_nil)

/-- what a key has in a map -/
def tells (s : St) (k : ByteArray) : Option ByteArray := look s.1 s.2 k
/-- what a message gives its key -/
def gives (m : M) : Option ByteArray := if m.kind = 1 then some m.val else none
theorem tells_doM {s : St} (h : Fit s) (m : M) (k : ByteArray) : tells (doM s m) k = if m.key = k then gives m else tells s k := by
  unfold doM gives tells
  by_cases h1 : m.kind = 1
  · rw [if_pos h1, if_pos h1]
    exact look_put s.1 s.2 m.key m.val k h.2
  · rw [if_neg h1, if_neg h1]
    exact look_del s.1 s.2 m.key k h.1 h.2
theorem fit_ext {s t : St} (hs : Fit s) (ht : Fit t) (h : ∀ k, tells s k = tells t k) : s = t := by
  obtain ⟨h1, h2⟩ := look_ext s.1 s.2 t.1 t.2 hs.1 ht.1 hs.2 ht.2 h
  exact Prod.ext h1 h2

theorem put_end : ∀ (us bs : List ByteArray) (x y : ByteArray), bs.length = us.length → (∀ a ∈ us, lessS a x = true) → putK us x = us ++ [x] ∧ putV us bs x y = bs ++ [y]
  | [], [], x, y, _, _ => ⟨by simp [putK, there, pos, insertAt], by simp [putV, there, pos, insertAt]⟩
  | [], _ :: _, _, _, h, _ => by simp at h
  | _ :: _, [], _, _, h, _ => by simp at h
  | a :: us, b :: bs, x, y, h, hl => by
    obtain ⟨e1, e2⟩ := put_end us bs x y (by simpa using h) fun c hc => hl c (List.mem_cons_of_mem _ hc)
    have ha := hl a (List.mem_cons_self ..)
    rw [putK_cons, putV_cons, ha, if_pos rfl, if_pos rfl, e1, e2]
    exact ⟨rfl, rfl⟩
theorem build : ∀ (ks vs us bs : List ByteArray), vs.length = ks.length → bs.length = us.length → Rising (us ++ ks) → ((ks.zip vs).map fun x => (⟨x.1, x.2⟩ : Pr)).foldl doP (us, bs) = (us ++ ks, bs ++ vs)
  | [], [], us, bs, _, _, _ => by simp
  | [], _ :: _, _, _, h, _, _ => by simp at h
  | _ :: _, [], _, _, h, _, _ => by simp at h
  | k :: ks, v :: vs, us, bs, h, hb, hr => by
    have ha : ∀ a ∈ us, lessS a k = true := fun a hm => (List.pairwise_append.1 hr).2.2 a hm k (List.mem_cons_self ..)
    obtain ⟨e1, e2⟩ := put_end us bs k v hb ha
    rw [List.zip_cons_cons, List.map_cons, List.foldl_cons]
    have e : doP (us, bs) ⟨k, v⟩ = (us ++ [k], bs ++ [v]) := by unfold doP putS; rw [e1, e2]
    rw [e, build ks vs (us ++ [k]) (bs ++ [v]) (by simpa using h) (by simp [hb]) (by simpa using hr)]
    simp
theorem rebuilt {s : St} (h : Fit s) : ((s.1.zip s.2).map fun x => (⟨x.1, x.2⟩ : Pr)).foldl doP ([], []) = s := by
  rw [build s.1 s.2 [] [] h.2 rfl (by simpa using h.1)]
  rfl
/-- in two parts or at once: the same -/
theorem apply_two (ps : List Pr) (l1 l2 : List M) : applyL (applyL ps l1) l2 = applyL ps (l1 ++ l2) := by
  have e : afterS (applyL ps l1) l2 = afterS ps (l1 ++ l2) := by
    show l2.foldl doM ((((afterS ps l1).1.zip (afterS ps l1).2).map fun x => (⟨x.1, x.2⟩ : Pr)).foldl doP ([], [])) = (l1 ++ l2).foldl doM _
    rw [rebuilt (fit_after ps l1), List.foldl_append]
    rfl
  unfold applyL at e ⊢
  rw [e]
theorem apply_parts (ps : List Pr) (l : List M) (n : Nat) : applyL (applyL ps (l.take n)) (l.drop n) = applyL ps l := by
  rw [apply_two, List.take_append_drop]
theorem rise_all {l : List Pr} (h : Rising (l.map Pr.key)) : riseB l = true := by
  unfold riseB
  refine List.all_eq_true.2 fun i hi => ?_
  have hi := List.mem_range.1 hi
  have h1 : i < l.length := by omega
  have h2 : i + 1 < l.length := by omega
  have := List.pairwise_iff_getElem.1 h i (i + 1) (by simpa using h1) (by simpa using h2) (by omega)
  simpa [List.getD_eq_getElem?_getD, h1, h2] using this
theorem rise_apply (ps : List Pr) (l : List M) : riseB (applyL ps l) = true := by
  refine rise_all ?_
  have h := fit_after ps l
  have e : (applyL ps l).map Pr.key = (afterS ps l).1 := by
    unfold applyL
    rw [List.map_map]
    exact List.map_fst_zip (by rw [h.2]; exact Nat.le_refl _)
  rw [e]
  exact h.1
theorem other_take {l : List M} (h : anyOther l = false) (n : Nat) : anyOther (l.take n) = false := by
  unfold anyOther at *
  rw [List.any_eq_false] at *
  exact fun x hx => h x (List.mem_of_mem_take hx)
theorem other_drop {l : List M} (h : anyOther l = false) (n : Nat) : anyOther (l.drop n) = false := by
  unfold anyOther at *
  rw [List.any_eq_false] at *
  exact fun x hx => h x (List.mem_of_mem_drop hx)
/-- a Put or a Delete -/
def Sole (m : M) : Prop := m.kind = 1 ∨ m.kind = 2
theorem sole_all {l : List M} (h : anyOther l = false) : ∀ m ∈ l, Sole m := by
  unfold anyOther at h
  rw [List.any_eq_false] at h
  intro m hm
  have := h m hm
  unfold Sole
  by_cases h1 : m.kind = 1
  · exact .inl h1
  · by_cases h2 : m.kind = 2
    · exact .inr h2
    · exact absurd (by simp [otherB, h1, h2]) this
theorem all_sole {l : List M} (h : ∀ m ∈ l, Sole m) : anyOther l = false := by
  unfold anyOther
  rw [List.any_eq_false]
  intro m hm
  rcases h m hm with h1 | h1 <;> simp [otherB, h1]
theorem inside_self (r : Rng) : insideR r r = true := by
  unfold insideR
  simp [less_self]
theorem left_sole {x m : M} (hx : Sole x) (hm : Sole m) : left' x (aboutR m) = !decide (x.key = m.key) := by
  unfold left'
  rw [inside_cut]
  have ex : aboutR x = ⟨x.key.data.toList, x.key.data.toList ++ [0], true⟩ := if_pos hx
  have em : aboutR m = ⟨m.key.data.toList, m.key.data.toList ++ [0], true⟩ := if_pos hm
  rw [ex, em]
  by_cases h : x.key = m.key
  · rw [h, inside_self]
    simp
  · have : insideR ⟨x.key.data.toList, x.key.data.toList ++ [0], true⟩ ⟨m.key.data.toList, m.key.data.toList ++ [0], true⟩ = false := by
      refine Bool.eq_false_iff.2 fun hi => h ?_
      have hk := in_inside (k := x.key.data.toList) hi (by rw [in_one]; simp)
      rw [in_one] at hk
      exact ByteArray.ext (Array.toList_inj.1 (eq_of_beq hk))
    rw [this]
    simp [h]
theorem tells_left {m : M} (hm : Sole m) (k : ByteArray) (hk : m.key ≠ k) : ∀ (l : List M) (s t : St), Fit s → Fit t → (∀ x ∈ l, Sole x) → tells s k = tells t k → tells ((l.filter fun x => left' x (aboutR m)).foldl doM s) k = tells (l.foldl doM t) k
  | [], _, _, _, _, _, h => h
  | x :: l, s, t, hs, ht, hl, h => by
    have hx := hl x (List.mem_cons_self ..)
    have hl' : ∀ y ∈ l, Sole y := fun y hy => hl y (List.mem_cons_of_mem _ hy)
    rw [List.filter_cons, left_sole hx hm, List.foldl_cons]
    by_cases hxm : x.key = m.key
    · rw [if_neg (by simp [hxm])]
      refine tells_left hm k hk l s (doM t x) hs (fit_doM ht x) hl' ?_
      rw [tells_doM ht, if_neg (by rw [hxm]; exact hk)]
      exact h
    · rw [if_pos (by simp [hxm]), List.foldl_cons]
      refine tells_left hm k hk l (doM s x) (doM t x) (fit_doM hs x) (fit_doM ht x) hl' ?_
      rw [tells_doM ht, tells_doM hs, h]
theorem add_fold {m : M} (hm : Sole m) (l : List M) (s : St) (hs : Fit s) (hl : ∀ x ∈ l, Sole x) : (addL l m).foldl doM s = (l ++ [m]).foldl doM s := by
  unfold addL
  rw [List.foldl_append, List.foldl_append]
  refine fit_ext (fit_foldM _ _ (fit_foldM _ _ hs)) (fit_foldM _ _ (fit_foldM _ _ hs)) fun k => ?_
  rw [List.foldl_cons, List.foldl_nil, List.foldl_cons, List.foldl_nil, tells_doM (fit_foldM _ _ hs), tells_doM (fit_foldM _ _ hs)]
  by_cases hk : m.key = k
  · rw [if_pos hk, if_pos hk]
  · rw [if_neg hk, if_neg hk]
    exact tells_left hm k hk l s s hs hs hl rfl
/-- what Add leaves of a row, one behind the other -/
def addedL (l : List M) : List M := l.foldl addL []
theorem added_snoc (l : List M) (m : M) : addedL (l ++ [m]) = addL (addedL l) m := by
  unfold addedL
  rw [List.foldl_append]
  rfl
theorem add_mem {l : List M} {m x : M} (h : x ∈ addL l m) : x ∈ l ∨ x = m := by
  unfold addL at h
  rcases List.mem_append.1 h with h | h
  · exact .inl (List.mem_filter.1 h).1
  · exact .inr (by simpa using h)
theorem add_len (l : List M) (m : M) : (addL l m).length ≤ l.length + 1 := by
  unfold addL
  have := List.length_filter_le (fun x => left' x (aboutR m)) l
  simp only [List.length_append, List.length_cons, List.length_nil]
  omega
theorem fold_sub : ∀ (l acc : List M) (x : M), x ∈ l.foldl addL acc → x ∈ acc ∨ x ∈ l
  | [], _, _, h => .inl h
  | m :: l, acc, x, h => by
    rcases fold_sub l (addL acc m) x h with h | h
    · rcases add_mem h with h | h
      · exact .inl h
      · exact .inr (by rw [h]; exact List.mem_cons_self ..)
    · exact .inr (List.mem_cons_of_mem _ h)
theorem added_mem {l : List M} {x : M} (h : x ∈ addedL l) : x ∈ l := by
  rcases fold_sub l [] x h with h | h
  · cases h
  · exact h
theorem fold_len : ∀ (l acc : List M), (l.foldl addL acc).length ≤ acc.length + l.length
  | [], _ => Nat.le_refl _
  | m :: l, acc => by
    have h1 := fold_len l (addL acc m)
    have h2 := add_len acc m
    simp only [List.foldl_cons, List.length_cons]
    omega
theorem added_len (l : List M) : (addedL l).length ≤ l.length := by
  have : (addedL l).length ≤ 0 + l.length := fold_len l []
  omega
theorem added_fold (s : St) (hs : Fit s) : ∀ (n : Nat) (l : List M), l.length = n → (∀ x ∈ l, Sole x) → (addedL l).foldl doM s = l.foldl doM s
  | 0, l, hn, _ => by
    have : l = [] := List.length_eq_zero_iff.1 hn
    subst this
    rfl
  | n + 1, l, hn, hl => by
    have hne : l ≠ [] := by rintro rfl; simp at hn
    obtain ⟨l0, m, rfl⟩ : ∃ l0 m, l = l0 ++ [m] := ⟨l.dropLast, l.getLast hne, (List.dropLast_concat_getLast hne).symm⟩
    have h0 : ∀ x ∈ l0, Sole x := fun x hx => hl x (List.mem_append_left _ hx)
    rw [added_snoc, add_fold (hl m (by simp)) _ s hs (fun x hx => h0 x (added_mem hx)), List.foldl_append, List.foldl_append, added_fold s hs n l0 (by simpa using hn) h0]
theorem other_added {l : List M} (h : anyOther l = false) : anyOther (addedL l) = false := all_sole fun m hm => sole_all h m (added_mem hm)
/-- what Add leaves comes to the same -/
theorem apply_added (ps : List Pr) (l : List M) (h : anyOther l = false) : applyL ps (addedL l) = applyL ps l := by
  have e : afterS ps (addedL l) = afterS ps l := added_fold _ (fit_foldP ps _ fit_nil) l.length l rfl (sole_all h)
  unfold applyL
  rw [e]
end Go.Proofs.Ytobbgndabmnbcaa.Key
