/-
  Contract of the function that Trim hands on: does a message speak of a key of a range? Steps through a region that draws.
  Contract of shorten: a message with a beginning taken away.
  Contract of Trim, the program's.
  Plain facts: what trimmed messages say is what they said.
-/
import Derived.Test.YtmnngfbcgpholaaMs
import Derived.Test.YtmnngfbcgpholaaLCutRef
import Derived.Test.YtmnngfbcgpholaaQt
import Derived.Deep.Quiet
import Derived.Deep.CutRange
namespace Go.Proofs.Ytmnngfbcgpholaa.Key
open Go.RowKit
open Go.Op (bytesLess)

/-- does a message speak of a key of a range? -/
def touch (m : M) (r : Rng) : Bool := !emptyR (cutR (aboutR m) r)

end Go.Proofs.Ytmnngfbcgpholaa.Key

namespace Go.Proofs.Ytmnngfbcgpholaa.Key
open Go.RowKit
open Go.Op (bytesLess)

/-- a message that says of keys what m says of them with a ahead; whether it may be -/
def shortM (m : M) (a : ByteArray) : M :=
  if has m.key.data.toList a.data.toList then ⟨m.kind, m.key.extract a.size m.key.size, m.val, m.blk, m.deep, m.add⟩
  else if m.kind = 3 ∧ has a.data.toList m.key.data.toList = true then ⟨m.kind, ⟨#[]⟩, m.val, m.blk, m.deep, m.add ++ a.extract m.key.size a.size⟩
  else M.nil
def shortB (m : M) (a : ByteArray) : Bool :=
  if has m.key.data.toList a.data.toList then decide (m.add.size ≤ 16)
  else if m.kind = 3 ∧ has a.data.toList m.key.data.toList = true then decide ((m.add ++ a.extract m.key.size a.size).size ≤ 16)
  else false
theorem le_int {n : Nat} {b : Bool} (h : decide (n ≤ 16) = b) : decide ((n : Int) ≤ (16 : Int)) = b := by rw [← h]; exact decide_eq_decide.2 (by omega)

end Go.Proofs.Ytmnngfbcgpholaa.Key

namespace Go.Proofs.Ytmnngfbcgpholaa.Key
open Go.RowKit
open Go.Op (bytesLess)

theorem cellsM_cons (m : M) (l : List M) : cellsM (m :: l) = .int .u8 m.kind :: .string m.key :: .string m.val :: .int .u32 m.blk :: .int .u16 m.deep :: .string m.add :: cellsM l := by simp [cellsM, M.cells]
/-- a message put in another one's place -/
def put6 (c : List Value) (o : Nat) (m : M) : List Value := (((((c.set o (.int .u8 m.kind)).set (o + 1) (.string m.key)).set (o + 2) (.string m.val)).set (o + 3) (.int .u32 m.blk)).set (o + 4) (.int .u16 m.deep)).set (o + 5) (.string m.add)
theorem put6_cons (v0 v1 v2 v3 v4 v5 : Value) (c : List Value) (o : Nat) (m : M) : put6 (v0 :: v1 :: v2 :: v3 :: v4 :: v5 :: c) (o + 6) m = v0 :: v1 :: v2 :: v3 :: v4 :: v5 :: put6 c o m := rfl
theorem cellsM_set (m : M) : ∀ (l : List M) (i : Nat), i < l.length → cellsM (l.set i m) = put6 (cellsM l) (i * 6) m
  | [], i, h => by simp at h
  | x :: l, 0, _ => by rw [List.set_cons_zero, cellsM_cons, cellsM_cons]; rfl
  | x :: l, i + 1, h => by
    rw [List.set_cons_succ, cellsM_cons, cellsM_cons, cellsM_set m l i (by simpa using h), show (i + 1) * 6 = i * 6 + 6 by omega, put6_cons]
/-- .. in memory -/
def World.put6 (w : World) (g o : Nat) (m : M) : World :=
  (((((w.setCell ⟨g, o, none⟩ (.int .u8 m.kind)).setCell ⟨g, o + 1, none⟩ (.string m.key)).setCell ⟨g, o + 2, none⟩ (.string m.val)).setCell ⟨g, o + 3, none⟩ (.int .u32 m.blk)).setCell ⟨g, o + 4, none⟩ (.int .u16 m.deep)).setCell ⟨g, o + 5, none⟩ (.string m.add)
theorem OwnM.stored {w : World} {B g n c : Nat} {l : List M} (h : OwnM w B (.slice (some ⟨g, 0, none⟩) n c) l) (hn : l.length = n) {i : Nat} (hi : i < n) (m : M) : OwnM (World.put6 w g (i * 6) m) B (.slice (some ⟨g, 0, none⟩) n c) (l.set i m) := by
  subst hn
  have h1 := (World.ownsRow.stored h (i * 6) (.int .u8 m.kind)).1
  have h2 := (World.ownsRow.stored h1 (i * 6 + 1) (.string m.key)).1
  have h3 := (World.ownsRow.stored h2 (i * 6 + 2) (.string m.val)).1
  have h4 := (World.ownsRow.stored h3 (i * 6 + 3) (.int .u32 m.blk)).1
  have h5 := (World.ownsRow.stored h4 (i * 6 + 4) (.int .u16 m.deep)).1
  have h6 := (World.ownsRow.stored h5 (i * 6 + 5) (.string m.add)).1
  unfold OwnM
  rw [cellsM_set m l i hi, List.length_set]
  exact h6
theorem OwnM.frozen {w : World} {B g n c : Nat} {l : List M} (h : OwnM w B (.slice (some ⟨g, 0, none⟩) n c) l) (hn : l.length = n) (j : Nat) : w.frozen? ⟨g, j, none⟩ = false := by
  subst hn
  exact World.ownsRow.frozenAt h j
theorem Below.put6 {B : Nat} {a w : World} (h : Below B a w) {g : Nat} (hg : B ≤ g) (o : Nat) (m : M) : Below B a (World.put6 w g o m) :=
  (((((h.setCell (p := ⟨g, o, none⟩) hg _).setCell (p := ⟨g, o + 1, none⟩) hg _).setCell (p := ⟨g, o + 2, none⟩) hg _).setCell (p := ⟨g, o + 3, none⟩) hg _).setCell (p := ⟨g, o + 4, none⟩) hg _).setCell (p := ⟨g, o + 5, none⟩) hg _

/-- what is left of messages -/
def some' (l : List M) (r : Rng) : List M := l.filter fun m => touch m r
def trimL (l : List M) (r : Rng) (a : ByteArray) : List M := (some' l r).map fun m => shortM m a
def trimB (l : List M) (r : Rng) (a : ByteArray) : Bool := (some' l r).all fun m => shortB m a
/-- .. half way -/
def half (f : List M) (a : ByteArray) (j : Nat) : List M := (f.take j).map (fun m => shortM m a) ++ f.drop j
theorem half_length (f : List M) (a : ByteArray) (j : Nat) : (half f a j).length = f.length := by
  simp [half]; omega
theorem half_at {f : List M} {a : ByteArray} {j : Nat} (h : j < f.length) (h' : j < (half f a j).length) : (half f a j)[j] = f[j] := by
  have e : (half f a j)[j]? = some f[j] := by
    unfold half
    rw [List.getElem?_append_right (by simp; omega)]
    simp [Nat.min_eq_left (Nat.le_of_lt h)]
  rw [List.getElem?_eq_getElem h'] at e
  exact Option.some.inj e
theorem half_set {f : List M} {a : ByteArray} {j : Nat} (h : j < f.length) : (half f a j).set j (shortM f[j] a) = half f a (j + 1) := by
  unfold half
  have hl : ((f.take j).map (fun m => shortM m a)).length = j := by simp; omega
  rw [List.set_append_right _ _ (by omega), hl, Nat.sub_self, List.drop_eq_getElem_cons h, List.set_cons_zero, List.take_succ_eq_append_getElem h, List.map_append, List.append_assoc]
  rfl
theorem all_take_succ {α : Type} (l : List α) (p : α → Bool) {j : Nat} (h : j < l.length) : (l.take (j + 1)).all p = ((l.take j).all p && p l[j]) := by
  rw [List.take_succ_eq_append_getElem h, List.all_append]
  simp only [List.all_cons, List.all_nil, Bool.and_true]
theorem all_not {α : Type} (l : List α) (p : α → Bool) {j : Nat} (h : j < l.length) (hp : p l[j] = false) : l.all p = false := by
  rw [Bool.eq_false_iff]
  intro h'
  rw [List.all_eq_true.1 h' _ (List.getElem_mem h)] at hp
  cases hp

/-- what Trim answers -/
def TrimPost (w w' : World) (x : Ending) (L : List M) (b : Bool) : Prop :=
  (b = true → ∃ v, x = .returned (.tuple #[v, .int .i64 0]) ∧ OwnM w' w.heap.size v L) ∧ (b = false → x = .returned (.tuple #[.slice none 0 0, .int .i64 1]))

end Go.Proofs.Ytmnngfbcgpholaa.Key

namespace Go.Proofs.Ytmnngfbcgpholaa.Key
open Go.RowKit
open Go.Op (bytesLess)

theorem lastP_append {l l' : List M} {k : List UInt8} : ∀ {n : Nat}, n ≤ l.length → lastP (l ++ l') k n = lastP l k n
  | 0, _ => rfl
  | n + 1, h => by
    have h' : n < l.length := h
    rw [lastP, lastP, List.getElem?_append_left h', lastP_append (by omega)]
theorem lastI_snoc (l : List M) (m : M) (k : List UInt8) : lastI (l ++ [m]) k = if speaks m k then (l.length : Int) else lastI l k := by
  unfold lastI
  rw [List.length_append, List.length_singleton, lastP, List.getElem?_append_right (Nat.le_refl _), Nat.sub_self, lastP_append (Nat.le_refl _)]
  rfl
/-- the newest one that speaks: none, or the one at that place -/
theorem lastP_is (l : List M) (k : List UInt8) : ∀ n, n ≤ l.length → lastP l k n = -1 ∨ ∃ (j : Nat) (h : j < l.length), lastP l k n = j ∧ speaks l[j] k = true
  | 0, _ => .inl rfl
  | n + 1, h => by
    rw [lastP_succ (by omega)]
    cases hs : speaks (l[n]'(by omega)) k with
    | true => exact .inr ⟨n, by omega, rfl, hs⟩
    | false => exact lastP_is l k n (by omega)
theorem lastI_is (l : List M) (k : List UInt8) : lastI l k = -1 ∨ ∃ (n : Nat) (h : n < l.length), lastI l k = n ∧ speaks l[n] k = true := lastP_is l k _ (Nat.le_refl _)
theorem snoc_rec {α : Type} {p : List α → Prop} (h0 : p []) (h1 : ∀ l m, p l → p (l ++ [m])) (l : List α) : p l := by
  have h : ∀ r : List α, p r.reverse := fun r => by
    induction r with
    | nil => exact h0
    | cons x r ih => rw [List.reverse_cons]; exact h1 _ _ ih
  have := h l.reverse
  rwa [List.reverse_reverse] at this

/-- messages of which some are left, and changed: the newest one of a key is that one, changed -/
theorem last_kept (t : M → Bool) (g : M → M) (k k' : List UInt8) (l : List M) : (∀ m ∈ l, t m = true → speaks (g m) k = speaks m k') → (∀ m ∈ l, speaks m k' = true → t m = true) →
    (lastI ((l.filter t).map g) k = -1 ∧ lastI l k' = -1) ∨ ∃ (i n : Nat) (hi : i < ((l.filter t).map g).length) (hn : n < l.length), lastI ((l.filter t).map g) k = i ∧ lastI l k' = n ∧ ((l.filter t).map g)[i] = g l[n] ∧ speaks l[n] k' = true ∧ t l[n] = true := by
  induction l using snoc_rec with
  | h0 => intro _ _; exact .inl ⟨rfl, rfl⟩
  | h1 l m ih =>
    intro h1 h2
    have ih' := ih (fun x hx => h1 x (List.mem_append_left _ hx)) (fun x hx => h2 x (List.mem_append_left _ hx))
    have hm : m ∈ l ++ [m] := List.mem_append_right _ (List.mem_singleton.2 rfl)
    rw [lastI_snoc l m k', List.filter_append, List.map_append]
    cases hs : speaks m k' with
    | true =>
      have ht := h2 m hm hs
      have e : (List.filter t [m]).map g = [g m] := by simp [ht]
      rw [e, lastI_snoc, h1 m hm ht, hs]
      refine .inr ⟨((l.filter t).map g).length, l.length, by simp, by simp, rfl, rfl, ?_, ?_, ?_⟩
      · rw [List.getElem_append_right (Nat.le_refl _), List.getElem_append_right (Nat.le_refl _)]
        simp
      · rw [List.getElem_append_right (Nat.le_refl _)]; simpa using hs
      · rw [List.getElem_append_right (Nat.le_refl _)]; simpa using ht
    | false =>
      have e : lastI ((l.filter t).map g ++ (List.filter t [m]).map g) k = lastI ((l.filter t).map g) k := by
        cases ht : t m with
        | true =>
          have e : (List.filter t [m]).map g = [g m] := by simp [ht]
          rw [e, lastI_snoc, h1 m hm ht, hs]
          rfl
        | false =>
          have e : (List.filter t [m]).map g = [] := by simp [ht]
          rw [e, List.append_nil]
      rw [e]
      simp only [Bool.false_eq_true, if_false]
      rcases ih' with h | ⟨i, n, hi, hn, a1, a2, a3, a4, a5⟩
      · exact .inl h
      · refine .inr ⟨i, n, by rw [List.length_append]; omega, by rw [List.length_append]; omega, a1, a2, ?_, ?_, ?_⟩
        · rw [List.getElem_append_left hi, List.getElem_append_left hn]; exact a3
        · rw [List.getElem_append_left hn]; exact a4
        · rw [List.getElem_append_left hn]; exact a5

theorem has_split {k p : List UInt8} (h : has k p = true) : k = p ++ k.drop p.length := by
  obtain ⟨t, rfl⟩ := List.isPrefixOf_iff_prefix.1 h
  simp
theorem has_mk (p t : List UInt8) : has (p ++ t) p = true := List.isPrefixOf_iff_prefix.2 ⟨t, rfl⟩
theorem ext_data (s : ByteArray) (n : Nat) : (s.extract n s.size).data.toList = s.data.toList.drop n := by
  have e : s.size = s.data.toList.length := Lib.size_eq s
  rw [Lib.extract_eq, e]
  exact List.take_of_length_le (by rw [List.length_drop]; exact Nat.le_refl _)
theorem app_data (a b : ByteArray) : (a ++ b).data.toList = a.data.toList ++ b.data.toList := by rw [str_append, str_data]
/-- trimmed, a message speaks of a key just if it spoke of it with the beginning ahead -/
theorem speaks_short {m : M} {a : ByteArray} (k : List UInt8) (h : shortB m a = true) : speaks (shortM m a) k = speaks m (a.data.toList ++ k) := by
  unfold shortB at h
  unfold shortM speaks
  split at h
  · rename_i h1
    rw [if_pos h1]
    have hs := has_split h1
    have e : (m.key.extract a.size m.key.size).data.toList = m.key.data.toList.drop a.data.toList.length := by rw [ext_data, Lib.size_eq]
    dsimp only
    rw [e]
    generalize m.key.data.toList.drop a.data.toList.length = x at *
    rw [hs, has_two]
    by_cases h3 : m.kind = 3
    · rw [if_pos h3, if_pos h3]
    · rw [if_neg h3, if_neg h3]
      by_cases h12 : m.kind = 1 ∨ m.kind = 2
      · rw [if_pos h12, if_pos h12, Bool.eq_iff_iff]
        simp
      · rw [if_neg h12, if_neg h12]
  · rename_i h1
    split at h
    · rename_i h2
      rw [if_neg h1, if_pos h2]
      dsimp only
      rw [if_pos h2.1, if_pos h2.1]
      have hs := has_split h2.2
      have : has (a.data.toList ++ k) m.key.data.toList = true := by
        rw [hs, List.append_assoc]
        exact has_mk _ _
      rw [this]
      exact List.isPrefixOf_iff_prefix.2 ⟨k, rfl⟩
    · cases h
theorem touch_of {m : M} {r : Rng} {k : List UInt8} (hr : inR r k = true) (hs : speaks m k = true) : touch m r = true := by
  unfold touch
  cases he : emptyR (cutR (aboutR m) r) with
  | false => rfl
  | true =>
    have := in_empty he k
    rw [in_cut, in_about, hs, hr] at this
    cases this
/-- what the newest one says: the same -/
theorem keeps (l : List M) (r : Rng) (a : ByteArray) (k : List UInt8) (hr : inR r (a.data.toList ++ k) = true) (hB : trimB l r a = true) :
    (lastI (trimL l r a) k = -1 ∧ lastI l (a.data.toList ++ k) = -1) ∨ ∃ (i n : Nat) (hi : i < (trimL l r a).length) (hn : n < l.length), lastI (trimL l r a) k = i ∧ lastI l (a.data.toList ++ k) = n ∧ (trimL l r a)[i] = shortM l[n] a ∧ speaks l[n] (a.data.toList ++ k) = true ∧ shortB l[n] a = true := by
  have hall : ∀ m ∈ l, touch m r = true → shortB m a = true := fun m hm ht => List.all_eq_true.1 hB m (List.mem_filter.2 ⟨hm, ht⟩)
  rcases last_kept (fun m => touch m r) (fun m => shortM m a) k (a.data.toList ++ k) l (fun m hm ht => speaks_short k (hall m hm ht)) (fun m _ hs => touch_of hr hs) with h | ⟨i, n, hi, hn, a1, a2, a3, a4, a5⟩
  · exact .inl h
  · exact .inr ⟨i, n, hi, hn, a1, a2, a3, a4, hall _ (List.getElem_mem hn) a5⟩
/-- its fields -/
theorem short_fields {m : M} {a : ByteArray} (h : shortB m a = true) : (shortM m a).kind = m.kind ∧ (shortM m a).val = m.val ∧ (shortM m a).blk = m.blk ∧ (shortM m a).deep = m.deep := by
  unfold shortB at h
  unfold shortM
  split at h
  · rename_i h1; rw [if_pos h1]; exact ⟨rfl, rfl, rfl, rfl⟩
  · rename_i h1
    split at h
    · rename_i h2; rw [if_neg h1, if_pos h2]; exact ⟨rfl, rfl, rfl, rfl⟩
    · cases h
theorem short_size (m : M) (a : ByteArray) : (shortM m a).key.size ≤ m.key.size := by
  unfold shortM
  split
  · dsimp only
    rw [ByteArray.size_extract]
    omega
  · split
    · exact Nat.zero_le _
    · exact Nat.zero_le _
theorem short_add {m : M} {a : ByteArray} (h : shortB m a = true) : (shortM m a).add.size ≤ 16 := by
  unfold shortB at h
  unfold shortM
  split at h
  · rename_i h1
    rw [if_pos h1]
    simpa using h
  · rename_i h1
    split at h
    · rename_i h2
      rw [if_neg h1, if_pos h2]
      exact of_decide_eq_true h
    · cases h
theorem trim_sizes {l : List M} {r : Rng} {a : ByteArray} {n : Nat} (h : ∀ m ∈ l, m.key.size ≤ n) : ∀ m ∈ trimL l r a, m.key.size ≤ n := by
  intro m hm
  obtain ⟨x, hx, rfl⟩ := List.mem_map.1 hm
  exact Nat.le_trans (short_size x a) (h x (List.mem_filter.1 hx).1)
theorem trim_length (l : List M) (r : Rng) (a : ByteArray) : (trimL l r a).length ≤ l.length := by
  unfold trimL some'
  rw [List.length_map]
  exact List.length_filter_le _ _
/-- its key, where it is no Goto -/
theorem short_key {m : M} {a : ByteArray} (h : shortB m a = true) (h3 : m.kind ≠ 3) : a ++ (shortM m a).key = m.key := by
  unfold shortB at h
  unfold shortM
  split at h
  · rename_i h1
    rw [if_pos h1, ← str_eq (a ++ _), app_data]
    dsimp only
    rw [ext_data, Lib.size_eq, ← has_split h1, str_eq]
  · rename_i h1
    split at h
    · rename_i h2; exact absurd h2.1 h3
    · cases h
/-- where a Goto leads -/
theorem short_goto {m : M} {a k : ByteArray} (h : shortB m a = true) (h3 : m.kind = 3) (hs : speaks m (a.data.toList ++ k.data.toList) = true) :
    has k.data.toList (shortM m a).key.data.toList = true ∧ m.key.size ≤ (a ++ k).size ∧
      (shortM m a).add ++ k.extract (shortM m a).key.size k.size = m.add ++ (a ++ k).extract m.key.size (a ++ k).size := by
  have hs' := speaks_short k.data.toList h
  rw [hs] at hs'
  have hk : has k.data.toList (shortM m a).key.data.toList = true := by
    unfold speaks at hs'
    rw [if_pos ((short_fields h).1.trans h3)] at hs'
    exact hs'
  have hm : has (a.data.toList ++ k.data.toList) m.key.data.toList = true := by
    unfold speaks at hs
    rw [if_pos h3] at hs
    exact hs
  refine ⟨hk, ?_, ?_⟩
  · have := (List.isPrefixOf_iff_prefix.1 hm).length_le
    rw [Lib.size_eq, Lib.size_eq, app_data]
    exact this
  · rw [← str_eq (_ ++ _), ← str_eq (m.add ++ _)]
    congr 1
    rw [app_data, app_data, ext_data, ext_data, app_data, Lib.size_eq, Lib.size_eq]
    unfold shortB at h
    unfold shortM at hk ⊢
    split at h
    · rename_i h1
      rw [if_pos h1] at hk ⊢
      dsimp only at hk ⊢
      have hs := has_split h1
      rw [ext_data, Lib.size_eq] at *
      generalize m.key.data.toList.drop a.data.toList.length = x at *
      rw [hs, List.length_append, ← List.drop_drop, List.drop_left]
    · rename_i h1
      split at h
      · rename_i h2
        rw [if_neg h1, if_pos h2] at hk ⊢
        dsimp only at hk ⊢
        have hs := has_split h2.2
        rw [app_data, ext_data, Lib.size_eq]
        have hl : m.key.data.toList.length ≤ a.data.toList.length := (List.isPrefixOf_iff_prefix.1 h2.2).length_le
        rw [List.drop_append_of_le_length hl]
        simp
      · cases h
end Go.Proofs.Ytmnngfbcgpholaa.Key
