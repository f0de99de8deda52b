/-
  Plain facts of lifts (one beginning in place of another one): going and going back, joined lifts, ranges that go. No program is named here.
  Contracts of Up, the program's and the document's; blocks that hold a lift.
-/
import Derived.Test.YtegmpfmhlpdmhaaGreatMs
namespace Go.Proofs.YtegmpfmhlpdmhaaGreat.Key
open Go.Op (bytesLess)

theorem has_iff {k p : List UInt8} : has k p = true ↔ ∃ t, k = p ++ t := by
  unfold has
  rw [List.isPrefixOf_iff_prefix]
  exact ⟨fun ⟨t, h⟩ => ⟨t, h.symm⟩, fun ⟨t, h⟩ => ⟨t, h.symm⟩⟩
theorem has_app (p t : List UInt8) : has (p ++ t) p = true := has_iff.2 ⟨t, rfl⟩
theorem has_two (p u t : List UInt8) : has (p ++ u) (p ++ t) = has u t := by
  cases h : has u t
  · rw [Bool.eq_false_iff]
    intro h'
    obtain ⟨v, hv⟩ := has_iff.1 h'
    rw [List.append_assoc, List.append_cancel_left_eq] at hv
    rw [has_iff.2 ⟨v, hv⟩] at h
    cases h
  · obtain ⟨v, rfl⟩ := has_iff.1 h
    rw [← List.append_assoc]
    exact has_app _ _
theorem less_app : ∀ (p a b : List UInt8), bytesLess (p ++ a) (p ++ b) = bytesLess a b
  | [], _, _ => rfl
  | x :: p, a, b => by
    rw [← less_app p a b]
    simp [bytesLess]

/-- a lift: strip is taken away in front, and add put there -/
structure Lft where
  strip : List UInt8
  add : List UInt8
def up (l : Lft) (k : List UInt8) : Option (List UInt8) := if has k l.strip then some (l.add ++ k.drop l.strip.length) else none
def turn (l : Lft) : Lft := ⟨l.add, l.strip⟩
theorem up_app (l : Lft) (t : List UInt8) : up l (l.strip ++ t) = some (l.add ++ t) := by
  unfold up
  rw [has_app]
  simp
theorem up_none {l : Lft} {k : List UInt8} (h : has k l.strip = false) : up l k = none := by simp [up, h]
theorem up_some {l : Lft} {k x : List UInt8} (h : up l k = some x) : ∃ t, k = l.strip ++ t ∧ x = l.add ++ t := by
  cases hk : has k l.strip
  · rw [up_none hk] at h
    cases h
  · obtain ⟨t, rfl⟩ := has_iff.1 hk
    rw [up_app] at h
    exact ⟨t, rfl, (Option.some.inj h).symm⟩
theorem up_has (l : Lft) (k : List UInt8) : (up l k).isSome = has k l.strip := by
  unfold up
  cases has k l.strip <;> rfl
/-- a key to which a lift goes goes back to where it came from -/
theorem up_back {l : Lft} {k x : List UInt8} (h : up l k = some x) : up (turn l) x = some k := by
  obtain ⟨t, rfl, rfl⟩ := up_some h
  exact up_app (turn l) t
/-- the order of two keys stays -/
theorem up_less {l : Lft} {a b x y : List UInt8} (h : up l a = some x) (h' : up l b = some y) : bytesLess x y = bytesLess a b := by
  obtain ⟨t, rfl, rfl⟩ := up_some h
  obtain ⟨u, rfl, rfl⟩ := up_some h'
  rw [less_app, less_app]

/-- one lift, and another one behind it -/
def joinO (a b : Lft) : Option Lft :=
  if has a.add b.strip then some ⟨a.strip, b.add ++ a.add.drop b.strip.length⟩
  else if has b.strip a.add then some ⟨a.strip ++ b.strip.drop a.add.length, b.add⟩ else none
def upO (l : Option Lft) (k : List UInt8) : Option (List UInt8) := l.bind (up · k)
theorem up_join (a b : Lft) (k : List UInt8) : upO (joinO a b) k = (up a k).bind (up b) := by
  obtain ⟨s, p⟩ := a
  obtain ⟨q, d⟩ := b
  unfold joinO
  simp only
  cases h1 : has p q
  · cases h2 : has q p
    · simp only [Bool.false_eq_true, if_false]
      cases hk : has k s
      · rw [up_none (l := ⟨s, p⟩) hk]; rfl
      · obtain ⟨u, rfl⟩ := has_iff.1 hk
        rw [up_app ⟨s, p⟩ u]
        show none = up ⟨q, d⟩ (p ++ u)
        rw [up_none]
        rw [Bool.eq_false_iff]
        intro h
        obtain ⟨v, hv⟩ := has_iff.1 h
        have c1 : p <+: p ++ u := ⟨u, rfl⟩
        have c2 : q <+: p ++ u := ⟨v, hv.symm⟩
        rcases List.prefix_or_prefix_of_prefix c1 c2 with ⟨t, ht⟩ | ⟨t, ht⟩
        · rw [has_iff.2 ⟨t, ht.symm⟩] at h2; cases h2
        · rw [has_iff.2 ⟨t, ht.symm⟩] at h1; cases h1
    · obtain ⟨t, rfl⟩ := has_iff.1 h2
      simp only [Bool.false_eq_true, if_false, if_true, List.drop_left]
      show up ⟨s ++ t, d⟩ k = _
      cases hk : has k s
      · rw [up_none (l := ⟨s, p⟩) hk, up_none]
        · rfl
        · rw [Bool.eq_false_iff]
          intro h
          obtain ⟨v, hv⟩ := has_iff.1 h
          rw [List.append_assoc] at hv
          rw [has_iff.2 ⟨_, hv⟩] at hk
          cases hk
      · obtain ⟨u, rfl⟩ := has_iff.1 hk
        rw [up_app ⟨s, p⟩ u]
        show _ = up ⟨p ++ t, d⟩ (p ++ u)
        cases hu : has u t
        · rw [up_none (l := ⟨s ++ t, d⟩) (by rw [has_two]; exact hu), up_none (l := ⟨p ++ t, d⟩) (by rw [has_two]; exact hu)]
        · obtain ⟨v, rfl⟩ := has_iff.1 hu
          have e1 := up_app ⟨s ++ t, d⟩ v
          have e2 := up_app ⟨p ++ t, d⟩ v
          simp only [List.append_assoc] at e1 e2
          rw [e1, e2]
  · obtain ⟨t, rfl⟩ := has_iff.1 h1
    simp only [if_true, List.drop_left]
    show up ⟨s, d ++ t⟩ k = _
    cases hk : has k s
    · rw [up_none (l := ⟨s, q ++ t⟩) hk, up_none (l := ⟨s, d ++ t⟩) hk]; rfl
    · obtain ⟨u, rfl⟩ := has_iff.1 hk
      have e1 := up_app ⟨s, q ++ t⟩ u
      have e2 := up_app ⟨s, d ++ t⟩ u
      have e3 := up_app ⟨q, d⟩ (t ++ u)
      simp only [List.append_assoc] at e1 e2 e3 ⊢
      rw [e1, e2]
      exact e3.symm
/-- lifts that go the same are the same -/
theorem upO_inj : ∀ {x y : Option Lft}, (∀ k, upO x k = upO y k) → x = y
  | none, none, _ => rfl
  | some l, none, h => by
    have e := h l.strip
    have := up_app l []
    rw [List.append_nil] at this
    simp only [upO, Option.bind_some, Option.bind_none, this] at e
    cases e
  | none, some l, h => by
    have e := h l.strip
    have := up_app l []
    rw [List.append_nil] at this
    simp only [upO, Option.bind_some, Option.bind_none, this] at e
    cases e
  | some l, some m, h => by
    have e1 := h l.strip
    have e2 := h m.strip
    have a1 := up_app l []
    have a2 := up_app m []
    simp only [List.append_nil] at a1 a2
    simp only [upO, Option.bind_some, a1, a2] at e1 e2
    obtain ⟨t, ht, hx⟩ := up_some e1.symm
    obtain ⟨u, hu, hy⟩ := up_some e2
    have hl : t.length = 0 := by
      have q1 := congrArg List.length ht
      have q2 := congrArg List.length hu
      simp only [List.length_append] at q1 q2
      omega
    have ht0 := List.eq_nil_of_length_eq_zero hl
    subst ht0
    rw [List.append_nil] at ht hx
    obtain ⟨s, p⟩ := l
    obtain ⟨q, d⟩ := m
    simp only at ht hx
    rw [ht, hx]
/-- three lifts are the same, in whichever order they are joined -/
theorem join_three (a b c : Lft) : (joinO a b).bind (joinO · c) = (joinO b c).bind (joinO a) := by
  apply upO_inj
  intro k
  have e1 : upO ((joinO a b).bind (joinO · c)) k = (upO (joinO a b) k).bind (up c) := by
    cases h : joinO a b with
    | none => rfl
    | some l => exact up_join l c k
  have e2 : upO ((joinO b c).bind (joinO a)) k = (up a k).bind (upO (joinO b c)) := by
    cases h : joinO b c with
    | none => cases up a k <;> rfl
    | some l => exact up_join a l k
  have e3 : upO (joinO b c) = fun x => (up b x).bind (up c) := by
    funext x
    exact up_join b c x
  rw [e1, e2, e3, up_join]
  cases up a k <;> rfl
/-- how the document comes to it -/
theorem join_min (a b : Lft) : (a.add.take (min a.add.length b.strip.length) = b.strip.take (min a.add.length b.strip.length) →
      joinO a b = some ⟨a.strip ++ b.strip.drop (min a.add.length b.strip.length), b.add ++ a.add.drop (min a.add.length b.strip.length)⟩) ∧
    (a.add.take (min a.add.length b.strip.length) ≠ b.strip.take (min a.add.length b.strip.length) → joinO a b = none) := by
  obtain ⟨s, p⟩ := a
  obtain ⟨q, d⟩ := b
  simp only
  unfold joinO
  simp only
  cases h1 : has p q
  · cases h2 : has q p
    · simp only [Bool.false_eq_true, if_false, implies_true, and_true]
      intro h
      exfalso
      rcases Nat.le_total p.length q.length with hl | hl
      · rw [Nat.min_eq_left hl, List.take_length] at h
        have := has_take q p.length
        rw [← h, h2] at this
        cases this
      · rw [Nat.min_eq_right hl, List.take_length] at h
        have := has_take p q.length
        rw [h, h1] at this
        cases this
    · obtain ⟨t, rfl⟩ := has_iff.1 h2
      have hm : min p.length (p ++ t).length = p.length := by simp
      rw [hm]
      simp
  · obtain ⟨t, rfl⟩ := has_iff.1 h1
    have hm : min (q ++ t).length q.length = q.length := by simp
    rw [hm]
    simp

/-- the range to which a range goes -/
def overR (l : Lft) (r : Rng) : Rng :=
  if emptyR (cutR r (ofR l.strip)) then none'
  else if (cutR r (ofR l.strip)).e && has (cutR r (ofR l.strip)).hi l.strip then ⟨l.add ++ (cutR r (ofR l.strip)).lo.drop l.strip.length, l.add ++ (cutR r (ofR l.strip)).hi.drop l.strip.length, true⟩
  else ⟨l.add ++ (cutR r (ofR l.strip)).lo.drop l.strip.length, (ofR l.add).hi, (ofR l.add).e⟩
theorem cut_none {a b : Rng} (h : emptyR (cutR a b) = true) : cutR a b = none' := by
  cases h' : emptyR (rawCut a b)
  · have e : cutR a b = rawCut a b := by simp [cutR, h']
    rw [e, h'] at h
    cases h
  · simp [cutR, h']
/-- a range that isn't empty has its first key -/
theorem cut_first {r : Rng} {s : List UInt8} (h : emptyR (cutR r (ofR s)) = false) : has (cutR r (ofR s)).lo s = true := by
  have h1 : inR (cutR r (ofR s)) (cutR r (ofR s)).lo = true := by
    unfold emptyR at h
    simpa using h
  rw [in_cut, in_of, Bool.and_eq_true] at h1
  exact h1.2
/-- what stands between two keys that begin so begins so -/
theorem has_mid {p a b k : List UInt8} (ha : has a p = true) (hb : has b p = true) (h1 : bytesLess k a = false) (h2 : bytesLess b k = false) : has k p = true := by
  have h3 : bytesLess k p = false := less_le_trans h1 (has_le ha)
  cases hs : succ p with
  | none => exact of_none hs h3
  | some s => exact of_some hs h3 (less_of_le_less h2 (has_succ hs hb))
theorem in_over (l : Lft) (r : Rng) (k : List UInt8) : inR (overR l r) k = ((up (turn l) k).isSome && inR r ((up (turn l) k).getD [])) := by
  obtain ⟨s, p⟩ := l
  have key : ∀ t, inR (cutR r (ofR s)) (s ++ t) = inR r (s ++ t) := by
    intro t
    rw [in_cut, in_of, has_app, Bool.and_true]
  have hU : ∀ t, up (turn ⟨s, p⟩) (p ++ t) = some (s ++ t) := fun t => up_app (turn ⟨s, p⟩) t
  have hN : has k p = false → up (turn ⟨s, p⟩) k = none := fun h => up_none (l := turn ⟨s, p⟩) h
  unfold overR
  simp only
  cases hE : emptyR (cutR r (ofR s))
  · have hf := cut_first hE
    simp only [Bool.false_eq_true, if_false]
    generalize cutR r (ofR s) = c at *
    obtain ⟨lo, hi, e⟩ := c
    simp only at hf ⊢
    obtain ⟨t0, rfl⟩ := has_iff.1 hf
    rw [List.drop_left]
    cases hh : (e && has hi s)
    · simp only [Bool.false_eq_true, if_false]
      have hall : ∀ t, inR ⟨s ++ t0, hi, e⟩ (s ++ t) = !bytesLess t t0 := by
        intro t
        unfold inR
        simp only [less_app]
        cases e
        · simp
        · simp only [Bool.true_and] at hh
          have : bytesLess (s ++ t) hi = true := by
            cases hc : bytesLess (s ++ t) hi
            · have h0 : bytesLess hi (s ++ t0) = false := by
                rw [emptyR_eq] at hE
                simp at hE
                exact less_asymm hE
              have := has_mid (has_app s t0) (has_app s t) h0 hc
              rw [this] at hh
              cases hh
            · rfl
          rw [this]
          simp
      have hin : inR ⟨p ++ t0, (ofR p).hi, (ofR p).e⟩ k = (!bytesLess k (p ++ t0) && has k p) := by
        rw [← in_of]
        unfold inR
        simp only
        cases hk : bytesLess k (p ++ t0)
        · have : bytesLess k p = false := less_le_trans hk (has_le (has_app p t0))
          have e3 : (ofR p).lo = p := rfl
          rw [e3, this]
          simp
        · rfl
      rw [hin]
      cases hk : has k p
      · rw [hN hk]
        simp
      · obtain ⟨t, rfl⟩ := has_iff.1 hk
        rw [hU]
        simp only [Option.isSome_some, Option.getD_some, Bool.true_and, Bool.and_true]
        rw [← key t, hall, less_app]
    · simp only [if_true]
      rw [Bool.and_eq_true] at hh
      obtain ⟨rfl, hh⟩ := hh
      obtain ⟨t1, rfl⟩ := has_iff.1 hh
      rw [List.drop_left]
      cases hk : has k p
      · rw [hN hk]
        simp only [Option.isSome_none, Bool.false_and]
        rw [Bool.eq_false_iff]
        intro h
        unfold inR at h
        simp only [Bool.not_true, Bool.false_or, Bool.and_eq_true, Bool.not_eq_true'] at h
        rw [has_mid (has_app p t0) (has_app p t1) h.1 (less_asymm h.2)] at hk
        cases hk
      · obtain ⟨t, rfl⟩ := has_iff.1 hk
        rw [hU]
        simp only [Option.isSome_some, Option.getD_some, Bool.true_and]
        rw [← key t]
        unfold inR
        simp only [less_app]
  · simp only [if_true]
    have h0 : inR none' k = false := in_empty (by rfl) k
    rw [h0]
    cases hk : has k p
    · rw [hN hk]
      rfl
    · obtain ⟨t, rfl⟩ := has_iff.1 hk
      rw [hU]
      simp only [Option.isSome_some, Option.getD_some, Bool.true_and]
      rw [← key t, in_empty hE]
end Go.Proofs.YtegmpfmhlpdmhaaGreat.Key

namespace Go.Proofs.YtegmpfmhlpdmhaaGreat.Key
open Go.RowKit
open Go.Op (bytesLess)

/-- a lift that is handed in -/
def lf (s a : ByteArray) : Lft := ⟨s.data.toList, a.data.toList⟩
/-- a lift as a value -/
abbrev lv (s a : ByteArray) : Value := .agg #[.string s, .string a]
/-- a block that holds a lift -/
def Pair (w : World) (k : Nat) (v0 v1 : Value) : Prop := w.heap[k]? = some (.cells #[v0, v1] 37 (0, 0))
theorem Pair.new (w : World) (v0 v1 : Value) : Pair (w.alloc (.cells #[v0, v1] 37)) w.heap.size v0 v1 := Go.heap_alloc_new _ _
theorem Pair.lt {w : World} {k : Nat} {v0 v1 : Value} (h : Pair w k v0 v1) : k < w.heap.size := (Array.getElem?_eq_some_iff.1 h).1
theorem Pair.later {w w' : World} {k : Nat} {v0 v1 : Value} (h : Pair w k v0 v1) (hb : Below w.heap.size w w') : Pair w' k v0 v1 := (hb.block k h.lt).trans h
theorem Pair.alloc {w : World} {k : Nat} {v0 v1 : Value} (h : Pair w k v0 v1) (o : Obj) : Pair (w.alloc o) k v0 v1 := h.later ((Below.refl _ _).alloc (Nat.le_refl _) o)
theorem Pair.cells {w : World} {k : Nat} {v0 v1 : Value} (h : Pair w k v0 v1) : w.cell? ⟨k, 0, none⟩ = some v0 ∧ w.cell? ⟨k, 1, none⟩ = some v1 :=
  ⟨cell_of_row _ _ 0 _ _ _ h, cell_of_row _ _ 1 _ _ _ h⟩
theorem Pair.free {w : World} {k : Nat} {v0 v1 : Value} (h : Pair w k v0 v1) : w.frozen? ⟨k, 0, none⟩ = false ∧ w.frozen? ⟨k, 1, none⟩ = false :=
  ⟨frozen_of_row _ _ 0 _ _ h, frozen_of_row _ _ 1 _ _ h⟩
theorem below_one (w : World) (o : Obj) : Below w.heap.size w (w.alloc o) := (Below.refl _ _).alloc (Nat.le_refl _) o
theorem below_drew {B : Nat} {w w' : World} (h : Below B w w') (n : Nat) : Below B w (w'.drewN n) := ⟨h.os, h.tape, h.output, h.size, h.block⟩
theorem below_two (w : World) (o o' : Obj) : Below w.heap.size w ((w.alloc o).alloc o') := (below_one w o).alloc (by simp) _

/-- what Up answers -/
def upS (l : Lft) (k : List UInt8) : ByteArray := str ((up l k).getD [])
def upB (l : Lft) (k : List UInt8) : Bool := (up l k).isSome
theorem drop_eq (s : ByteArray) (n : Nat) : s.extract n s.size = str (s.data.toList.drop n) := by
  rw [Lib.extract_eq]
  obtain ⟨⟨l⟩⟩ := s
  simp [str, ByteArray.size]
  exact List.take_of_length_le (by simp)
theorem drop_data (s : ByteArray) (n : Nat) : (s.extract n s.size).data.toList = s.data.toList.drop n := by rw [drop_eq, str_data]
theorem upS_yes {s a k : ByteArray} (h : has k.data.toList s.data.toList = true) : upS (lf s a) k.data.toList = a ++ k.extract s.size k.size := by
  rw [str_append, drop_data]
  unfold upS up
  rw [show (lf s a).strip = s.data.toList from rfl, h, Lib.size_eq]
  rfl
theorem upB_eq {s a k : ByteArray} {b : Bool} (h : has k.data.toList s.data.toList = b) : upB (lf s a) k.data.toList = b := by
  unfold upB
  rw [up_has]
  exact h
theorem upS_no {s a k : ByteArray} (h : has k.data.toList s.data.toList = false) : upS (lf s a) k.data.toList = ⟨#[]⟩ := by
  unfold upS
  rw [up_none (l := lf s a) h]
  rfl
theorem has_size {k s : ByteArray} (h : has k.data.toList s.data.toList = true) : s.size ≤ k.size := by
  obtain ⟨t, ht⟩ := has_iff.1 h
  have := congrArg List.length ht
  rw [List.length_append] at this
  rw [Lib.size_eq, Lib.size_eq]
  omega

theorem up_size {s a k : ByteArray} {x : List UInt8} (h : up (lf s a) k.data.toList = some x) : x.length ≤ a.size + k.size := by
  obtain ⟨t, h1, rfl⟩ := up_some h
  have := congrArg List.length h1
  rw [List.length_append] at this ⊢
  rw [Lib.size_eq, Lib.size_eq]
  show a.data.toList.length + t.length ≤ _
  omega

end Go.Proofs.YtegmpfmhlpdmhaaGreat.Key
