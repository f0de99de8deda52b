/-
  Plain facts of trimmed nodes: ranges, kids that are touched, pivots between them. No program is named here.
  Plain facts of trimmed nodes: what the trimmed node is, and where a key leads in it. No program is named here.
  Plain facts of trimmed nodes: what is trimmed may be; a key leads there where it led with the beginning ahead. No program is named here.
  Plain facts of trimmed nodes: trimmed twice is trimmed once. No program is named here.
-/
import Derived.Test.YtmnngfbcgpholaaTm
import Derived.Test.YtmnngfbcgpholaaSmall
import Derived.Test.YtmnngfbcgpholaaLPairs
namespace Go.Proofs.Ytmnngfbcgpholaa.Key
open Go.RowKit
open Go.Op (bytesLess)
set_option linter.unusedVariables false
set_option linter.unusedSimpArgs false

theorem in_lo {r : Rng} (h : emptyR r = false) : inR r r.lo = true := by
  unfold emptyR at h
  rw [Bool.not_eq_false'] at h
  exact h
theorem empty_iff {r : Rng} : emptyR r = false ↔ ∃ k, inR r k = true :=
  ⟨fun h => ⟨r.lo, in_lo h⟩, fun ⟨k, hk⟩ => by
    cases he : emptyR r
    · rfl
    · rw [in_empty he] at hk; cases hk⟩
theorem has_trans {k p q : List UInt8} (h : has k p = true) (h' : has p q = true) : has k q = true := by
  obtain ⟨t, rfl⟩ := has_iff.1 h
  obtain ⟨u, rfl⟩ := has_iff.1 h'
  rw [List.append_assoc]
  exact has_app _ _
theorem take_has {l : List UInt8} {m n : Nat} (h : m ≤ n) : has (l.take n) (l.take m) = true := by
  have : l.take m = (l.take n).take m := by rw [List.take_take, Nat.min_eq_left h]
  rw [this]
  exact has_take _ _
theorem has_is_take {k p : List UInt8} (h : has k p = true) : p = k.take p.length ∧ p.length ≤ k.length := by
  obtain ⟨t, rfl⟩ := has_iff.1 h
  simp
/-- all keys of a range begin so -/
theorem under_has {r : Rng} {a : List UInt8} (h : has (under r) a = true) {k : List UInt8} (hk : inR r k = true) : has k a = true := has_trans (under_in hk) h
theorem inside_take {r : Rng} {n : Nat} (he : emptyR r = false) (hn : n ≤ r.lo.length) : insideR r (ofR (r.lo.take n)) = allN r n := by
  unfold insideR ofR allN
  rw [he, has_le (has_take r.lo n)]
  cases succ (r.lo.take n) <;> simp
/-- .. as the document asks it -/
theorem inside_under {r : Rng} {a : List UInt8} (he : emptyR r = false) : insideR r (ofR a) = has (under r) a := by
  rw [Bool.eq_iff_iff]
  constructor
  · intro h
    have hin : ∀ k, inR r k = true → has k a = true := by
      intro k hk
      rw [← in_of]
      unfold insideR at h
      rw [he, Bool.false_or, Bool.and_eq_true, Bool.not_eq_true'] at h
      unfold inR at hk ⊢
      rw [Bool.and_eq_true, Bool.not_eq_true'] at hk ⊢
      refine ⟨less_le_trans hk.1 h.1, ?_⟩
      cases hb : (ofR a).e
      · rfl
      · rw [hb, Bool.not_true, Bool.false_or, Bool.and_eq_true, Bool.not_eq_true'] at h
        have h2 := hk.2
        rw [h.2.1, Bool.not_true, Bool.false_or] at h2
        rw [Bool.not_true, Bool.false_or]
        exact less_of_less_le h2 h.2.2
    obtain ⟨h1, h2⟩ := has_is_take (hin r.lo (in_lo he))
    rw [h1] at h
    rw [inside_take he h2, under_all r he _ h2] at h
    rw [h1]
    exact take_has h
  · intro h
    have h0 := under_has h (in_lo he)
    obtain ⟨h1, h2⟩ := has_is_take h0
    obtain ⟨h3, h4⟩ := has_is_take h
    have hle : a.length ≤ underN r := by
      unfold under at h4
      rw [List.length_take] at h4
      omega
    rw [h1, inside_take he h2, under_all r he _ h2]
    exact hle
theorem under_of {r : Rng} {a : List UInt8} (he : emptyR r = false) (h : ∀ k, inR r k = true → has k a = true) : has (under r) a = true := by
  obtain ⟨h1, h2⟩ := has_is_take (h r.lo (in_lo he))
  rw [← inside_under he]
  rw [h1, inside_take he h2]
  unfold allN
  cases hs : succ (r.lo.take a.length) with
  | none => rfl
  | some s =>
    -- otherwise s is a key of the range
    have hlt : bytesLess r.lo s = true := has_succ hs (has_take _ _)
    by_cases hin : inR r s = true
    · have := h s hin
      rw [h1] at this
      have h3 := has_succ hs this
      rw [less_self] at h3
      cases h3
    · rw [Bool.not_eq_true] at hin
      unfold inR at hin
      rw [less_asymm hlt] at hin
      simp only [Bool.not_false, Bool.true_and, Bool.or_eq_false_iff, Bool.not_eq_false'] at hin
      show (r.e && !bytesLess s r.hi) = true
      rw [hin.1, hin.2]
      rfl
/-- what stands between two keys of a range -/
theorem in_mid {r : Rng} {x k k' : List UInt8} (h : inR r k = true) (h' : inR r k' = true) (h1 : bytesLess x k = false) (h2 : bytesLess k' x = false) : inR r x = true := by
  unfold inR at *
  rw [Bool.and_eq_true, Bool.not_eq_true'] at *
  refine ⟨less_le_trans h1 h.1, ?_⟩
  cases he : r.e
  · rfl
  · have := h'.2
    rw [he, Bool.not_true, Bool.false_or] at this
    rw [Bool.not_true, Bool.false_or]
    exact less_of_le_less h2 this

/-- does a range have a key of a kid's? -/
def tch (pv : List ByteArray) (r : Rng) (i : Nat) : Bool := !emptyR (cutR (rg (loOf pv i) (hiOf pv i) (endOf pv i)) r)
theorem tch_iff {pv : List ByteArray} {r : Rng} {i : Nat} (h : upTo (pivAt pv) pv.length = true) (hi : i ≤ pv.length) : tch pv r i = true ↔ ∃ k, inR r k = true ∧ kidC pv k = i := by
  unfold tch
  rw [Bool.not_eq_true', empty_iff]
  constructor
  · rintro ⟨k, hk⟩
    rw [in_cut, in_kid h i hi, Bool.and_eq_true] at hk
    exact ⟨k, hk.2, (of_decide_eq_true hk.1).symm⟩
  · rintro ⟨k, hk, e⟩
    refine ⟨k, ?_⟩
    rw [in_cut, in_kid h i hi, hk, e]
    simp
theorem le_kid {pv : List ByteArray} {k : List UInt8} (h : upTo (pivAt pv) pv.length = true) {i : Nat} (hi : i < pv.length) : bytesLess k pv[i].data.toList = decide (kidC pv k ≤ i) := by
  have := count_at (k := k) h pv.length (Nat.le_refl _) i hi hi
  rw [List.take_length] at this
  unfold leK at this
  rw [← Bool.not_not (b := bytesLess k pv[i].data.toList), this]
  by_cases e : i < kidC pv k
  · rw [decide_eq_true e, decide_eq_false (by omega)]; rfl
  · rw [decide_eq_false e, decide_eq_true (by omega)]; rfl
/-- a pivot between two kids that are touched is a key of the range -/
theorem piv_in {pv : List ByteArray} {r : Rng} {i j : Nat} (h : upTo (pivAt pv) pv.length = true) (hi : i + 1 ≤ pv.length) (ht : tch pv r (i + 1) = true) (hj : j ≤ i) (ht' : tch pv r j = true) :
    inR r (pv[i]'hi).data.toList = true ∧ ∃ k, inR r k = true ∧ bytesLess k (pv[i]'hi).data.toList = true := by
  obtain ⟨k, hk, e⟩ := (tch_iff h hi).1 ht
  obtain ⟨k', hk', e'⟩ := (tch_iff h (by omega)).1 ht'
  have h1 := le_kid (k := k) h hi
  have h2 := le_kid (k := k') h hi
  rw [e, decide_eq_false (by omega)] at h1
  rw [e', decide_eq_true (by omega)] at h2
  exact ⟨in_mid hk' hk (less_asymm h2) h1, k', hk', h2⟩
end Go.Proofs.Ytmnngfbcgpholaa.Key

namespace Go.Proofs.Ytmnngfbcgpholaa.Key
open Go.RowKit
open Go.Op (bytesLess)
set_option linter.unusedVariables false
set_option linter.unusedSimpArgs false

/-- a beginning put ahead, and then a kid's lift -/
def lshort (e : E) (a : ByteArray) : Option Lft := joinO (lf ⟨#[]⟩ a) (lf e.strip e.add)
def okK (e : E) (a : ByteArray) : Bool := (lshort e a).isSome && decide ((joA (lshort e a)).size ≤ 16)
def shK (e : E) (a : ByteArray) : E := ⟨e.blk, e.deep, joS (lshort e a), joA (lshort e a)⟩
/-- the kids that are touched, of the first j -/
def picks (pv : List ByteArray) (r : Rng) (j : Nat) : List Nat := (List.range j).filter (tch pv r)
def ksT (n : Nd) (r : Rng) (a : ByteArray) (j : Nat) : List E := (picks n.pv r j).map fun i => shK (n.ks.getD i E.nil) a
def cutT (a s : ByteArray) : ByteArray := s.extract a.size s.size
def pvT (n : Nd) (r : Rng) (a : ByteArray) (j : Nat) : List ByteArray := ((picks n.pv r j).drop 1).map fun i => cutT a (ahead n.pv i)
def okT (n : Nd) (r : Rng) (a : ByteArray) (j : Nat) : Bool := upTo (fun i => !tch n.pv r i || okK (n.ks.getD i E.nil) a) j
def inP (r : Rng) (p : Pr) : Bool := inR r p.key.data.toList
def cutP (a : ByteArray) (p : Pr) : Pr := ⟨cutT a p.key, p.val⟩
def psT (ps : List Pr) (r : Rng) (a : ByteArray) : List Pr := (ps.filter (inP r)).map (cutP a)
def fitsT (r : Rng) (a : ByteArray) : Bool := !emptyR r && has (under r) a.data.toList
/-- the error's number -/
def trimE (n : Nd) (r : Rng) (a : ByteArray) : Int :=
  if mayI n = 0 then if fitsT r a then if n.leaf then 0 else if okT n r a n.ks.length then if trimB n.bf r a then 0 else 1 else 1 else 1 else 3
def nilN : Nd := ⟨false, [], [], [], []⟩
def trimF (n : Nd) (r : Rng) (a : ByteArray) : Nd := ⟨false, [], pvT n r a n.ks.length, ksT n r a n.ks.length, trimL n.bf r a⟩
def trimN (n : Nd) (r : Rng) (a : ByteArray) : Nd := if n.leaf then ⟨true, psT n.ps r a, [], [], []⟩ else trimF n r a
def trimA (n : Nd) (r : Rng) (a : ByteArray) : Nd := if trimE n r a = 0 then trimN n r a else nilN

theorem picks_succ (pv : List ByteArray) (r : Rng) (j : Nat) : picks pv r (j + 1) = picks pv r j ++ if tch pv r j then [j] else [] := by
  unfold picks
  rw [List.range_succ, List.filter_append]
  congr 1
  cases h : tch pv r j <;> simp [h]
theorem mem_picks {pv : List ByteArray} {r : Rng} {i j : Nat} : i ∈ picks pv r j ↔ i < j ∧ tch pv r i = true := by
  unfold picks
  rw [List.mem_filter, List.mem_range]
theorem picks_le (pv : List ByteArray) (r : Rng) (j : Nat) : (picks pv r j).length ≤ j := by
  have := List.length_filter_le (tch pv r) (List.range j)
  rw [List.length_range] at this
  exact this
/-- those ahead of one, it, and those behind it -/
theorem picks_at {pv : List ByteArray} {r : Rng} {i j : Nat} (h : i < j) (ht : tch pv r i = true) : ∃ l, picks pv r j = picks pv r i ++ i :: l ∧ ∀ x ∈ l, i < x := by
  obtain ⟨d, rfl⟩ : ∃ d, j = i + 1 + d := ⟨j - (i + 1), by omega⟩
  induction d with
  | zero => exact ⟨[], by rw [Nat.add_zero, picks_succ, if_pos ht], by simp⟩
  | succ d ih =>
    obtain ⟨l, hl, hx⟩ := ih (by omega)
    refine ⟨l ++ if tch pv r (i + 1 + d) then [i + 1 + d] else [], ?_, ?_⟩
    · rw [show i + 1 + (d + 1) = i + 1 + d + 1 from rfl, picks_succ, hl, List.append_assoc]
      rfl
    · intro x hx'
      rcases List.mem_append.1 hx' with h1 | h1
      · exact hx x h1
      · split at h1
        · simp at h1; omega
        · simp at h1
theorem drop_snoc {α : Type} (l : List α) (x : α) : (l ++ [x]).drop 1 = if l = [] then [] else l.drop 1 ++ [x] := by
  cases l <;> simp
theorem ksT_succ {n : Nd} {r : Rng} {a : ByteArray} {j : Nat} (hj : j < n.ks.length) : ksT n r a (j + 1) = if tch n.pv r j then ksT n r a j ++ [shK n.ks[j] a] else ksT n r a j := by
  unfold ksT
  rw [picks_succ]
  cases h : tch n.pv r j
  · simp
  · rw [if_pos rfl, if_pos rfl, List.map_append, List.map_cons, List.map_nil, getD_at hj]
theorem ksT_nil {n : Nd} {r : Rng} {a : ByteArray} {j : Nat} : ksT n r a j = [] ↔ picks n.pv r j = [] := by
  unfold ksT
  rw [List.map_eq_nil_iff]
theorem pvT_succ {n : Nd} {r : Rng} {a : ByteArray} {j : Nat} (ht : tch n.pv r j = true) (h : ksT n r a j ≠ []) : pvT n r a (j + 1) = pvT n r a j ++ [cutT a (ahead n.pv j)] := by
  unfold pvT
  rw [picks_succ, if_pos ht, drop_snoc, if_neg (fun e => h (ksT_nil.2 e)), List.map_append]
  rfl
theorem pvT_first {n : Nd} {r : Rng} {a : ByteArray} {j : Nat} (ht : tch n.pv r j = true) (h : ksT n r a j = []) : pvT n r a (j + 1) = [] ∧ pvT n r a j = [] := by
  unfold pvT
  rw [picks_succ, if_pos ht, drop_snoc, if_pos (ksT_nil.1 h), ksT_nil.1 h]
  exact ⟨rfl, rfl⟩
theorem pvT_not {n : Nd} {r : Rng} {a : ByteArray} {j : Nat} (ht : tch n.pv r j = false) : pvT n r a (j + 1) = pvT n r a j := by
  unfold pvT
  rw [picks_succ, ht]
  simp
theorem okT_succ {n : Nd} {r : Rng} {a : ByteArray} {j : Nat} (hj : j < n.ks.length) : okT n r a (j + 1) = (okT n r a j && (!tch n.pv r j || okK n.ks[j] a)) := by
  unfold okT
  rw [upTo, getD_at hj]

/-- the pieces of a node that is trimmed without an error -/
theorem fits_all {r : Rng} {a : ByteArray} (h : fitsT r a = true) {k : List UInt8} (hk : inR r k = true) : has k a.data.toList = true := by
  unfold fitsT at h
  rw [Bool.and_eq_true] at h
  exact under_has h.2 hk
theorem fits_empty {r : Rng} {a : ByteArray} (h : fitsT r a = true) : emptyR r = false := by
  unfold fitsT at h
  rw [Bool.and_eq_true, Bool.not_eq_true'] at h
  exact h.1
theorem cutT_data (a s : ByteArray) : (cutT a s).data.toList = s.data.toList.drop a.data.toList.length := by
  unfold cutT
  rw [ext_data, Lib.size_eq]
theorem cutT_has {a s : ByteArray} (h : has s.data.toList a.data.toList = true) : s.data.toList = a.data.toList ++ (cutT a s).data.toList := by
  rw [cutT_data]
  exact has_split h
theorem cutT_size (a s : ByteArray) : (cutT a s).size ≤ s.size := by
  unfold cutT
  rw [ByteArray.size_extract]
  omega
theorem trim_zero {n : Nd} {r : Rng} {a : ByteArray} (h : trimE n r a = 0) : mayI n = 0 ∧ fitsT r a = true ∧ trimA n r a = trimN n r a ∧ (n.leaf = false → okT n r a n.ks.length = true ∧ trimB n.bf r a = true) := by
  refine ⟨?_, ?_, ?_, ?_⟩
  · unfold trimE at h
    split at h
    · assumption
    · cases h
  · unfold trimE at h
    split at h
    · split at h
      · assumption
      · cases h
    · cases h
  · unfold trimA
    rw [if_pos h]
  · intro hl
    unfold trimE at h
    split at h
    · split at h
      · rw [hl, if_neg (by simp)] at h
        split at h
        · split at h
          · exact ⟨by assumption, by assumption⟩
          · cases h
        · cases h
      · cases h
    · cases h
/-- where a key leads by a kid with the beginning taken away -/
theorem byE_short {e : E} {a : ByteArray} (k : List UInt8) (h : okK e a = true) : byE (shK e a) k = byE e (a.data.toList ++ k) := by
  unfold okK at h
  rw [Bool.and_eq_true, Option.isSome_iff_exists] at h
  obtain ⟨⟨j, hj⟩, _⟩ := h
  have hx : up (lf ⟨#[]⟩ a) k = some (a.data.toList ++ k) := up_app (lf ⟨#[]⟩ a) k
  have hu : up j k = up (lf e.strip e.add) (a.data.toList ++ k) := goes_some hj hx
  unfold byE shK
  rw [hj, joS_some, joA_some, lf_str]
  unfold upB upS
  rw [hu]
/-- .. by a message -/
theorem byM_short {m : M} {a : ByteArray} (k : List UInt8) (h : shortB m a = true) (hs : speaks m (a.data.toList ++ k) = true) : byM (shortM m a) k = byM m (a.data.toList ++ k) := by
  obtain ⟨f0, f1, f2, f3⟩ := short_fields h
  unfold byM
  rw [f0, f1, f2, f3]
  by_cases h1 : m.kind = 1
  · rw [if_pos h1, if_pos h1]
  · rw [if_neg h1, if_neg h1]
    by_cases h3 : m.kind = 3
    · rw [if_pos h3, if_pos h3]
      have hk := short_goto (k := str k) h h3 hs
      rw [str_data] at hk
      obtain ⟨g1, g2, g3⟩ := hk
      have hm : has (a.data.toList ++ k) m.key.data.toList = true := by
        unfold speaks at hs
        rw [if_pos h3] at hs
        exact hs
      have ea : (a ++ str k).data.toList = a.data.toList ++ k := by rw [app_data, str_data]
      unfold byE
      dsimp only
      have b1 : upB (lf (shortM m a).key (shortM m a).add) k = true := (up_has _ _).trans g1
      have b2 : upB (lf m.key m.add) (a.data.toList ++ k) = true := (up_has _ _).trans hm
      rw [b1, b2, if_pos rfl, if_pos rfl]
      have s1 := upS_yes (s := (shortM m a).key) (a := (shortM m a).add) (k := str k) (by rw [str_data]; exact g1)
      have s2 := upS_yes (s := m.key) (a := m.add) (k := a ++ str k) (by rw [ea]; exact hm)
      rw [str_data] at s1
      rw [ea] at s2
      rw [s1, s2, g3]
    · rw [if_neg h3, if_neg h3]
/-- .. in a leaf -/
theorem pair_short {r : Rng} {a : ByteArray} (k : List UInt8) (h : fitsT r a = true) (hk : inR r (a.data.toList ++ k) = true) (ps : List Pr) : getP (psT ps r a) k = (getP ps (a.data.toList ++ k)).map (cutP a) := by
  unfold getP psT
  induction ps with
  | nil => rfl
  | cons p ps ih =>
    rw [List.filter_cons]
    cases hp : inP r p
    · rw [if_neg (by simp), ih, List.find?_cons]
      have : isK (a.data.toList ++ k) p = false := by
        unfold isK
        cases he : p.key.data.toList == a.data.toList ++ k
        · rfl
        · rw [beq_iff_eq] at he
          unfold inP at hp
          rw [he, hk] at hp
          cases hp
      rw [this]
    · rw [if_pos rfl, List.map_cons, List.find?_cons, List.find?_cons]
      have hs := cutT_has (fits_all h (show inR r p.key.data.toList = true from hp))
      have : isK k (cutP a p) = isK (a.data.toList ++ k) p := by
        unfold isK cutP
        dsimp only
        rw [Bool.eq_iff_iff, beq_iff_eq, beq_iff_eq, hs]
        simp
      rw [this]
      cases isK (a.data.toList ++ k) p
      · exact ih
      · rfl
/-- the number of a key's kid among those that are left -/
theorem kid_short {n : Nd} {r : Rng} {a : ByteArray} (k : List UInt8) (h : upTo (pivAt n.pv) n.pv.length = true) (hlen : n.pv.length + 1 = n.ks.length) (hf : fitsT r a = true) (hk : inR r (a.data.toList ++ k) = true) :
    tch n.pv r (kidC n.pv (a.data.toList ++ k)) = true ∧ kidC n.pv (a.data.toList ++ k) < n.ks.length ∧ kidC (pvT n r a n.ks.length) k = (picks n.pv r (kidC n.pv (a.data.toList ++ k))).length := by
  have hle := count_le n.pv (a.data.toList ++ k)
  have hlt : kidC n.pv (a.data.toList ++ k) < n.ks.length := by omega
  have ht : tch n.pv r (kidC n.pv (a.data.toList ++ k)) = true := (tch_iff h (by omega)).2 ⟨_, hk, rfl⟩
  refine ⟨ht, hlt, ?_⟩
  obtain ⟨l, hl, hx⟩ := picks_at hlt ht
  have hmem : ∀ i ∈ (picks n.pv r n.ks.length).drop 1, leK k (cutT a (ahead n.pv i)) = decide (i ≤ kidC n.pv (a.data.toList ++ k)) := by
    intro i hi
    -- a kid that is touched stands ahead of it
    have hpw : (picks n.pv r n.ks.length).Pairwise (· < ·) := List.Pairwise.filter _ List.pairwise_lt_range
    have him : i ∈ picks n.pv r n.ks.length := List.mem_of_mem_drop hi
    obtain ⟨hij, hti⟩ := mem_picks.1 him
    obtain ⟨j, hj⟩ : ∃ j, j ∈ picks n.pv r n.ks.length ∧ j < i := by
      cases hq : picks n.pv r n.ks.length with
      | nil => rw [hq] at him; cases him
      | cons x q =>
        rw [hq] at hi hpw
        exact ⟨x, List.mem_cons_self, (List.pairwise_cons.1 hpw).1 i hi⟩
    obtain ⟨hjm, hji⟩ := hj
    obtain ⟨_, htj⟩ := mem_picks.1 hjm
    obtain ⟨m, rfl⟩ : ∃ m, i = m + 1 := ⟨i - 1, by omega⟩
    have hm : m < n.pv.length := by omega
    obtain ⟨hin, _⟩ := piv_in h hm hti (show j ≤ m by omega) htj
    rw [ahead_at hm]
    unfold leK
    have hs := cutT_has (fits_all hf hin)
    have : bytesLess k (cutT a n.pv[m]).data.toList = bytesLess (a.data.toList ++ k) n.pv[m].data.toList := by rw [hs, less_app]
    rw [this, le_kid h hm]
    by_cases e : kidC n.pv (a.data.toList ++ k) ≤ m
    · rw [decide_eq_true e, decide_eq_false (by omega)]; rfl
    · rw [decide_eq_false e, decide_eq_true (by omega)]; rfl
  unfold kidC at *
  unfold pvT
  rw [List.countP_map]
  have e1 : ((picks n.pv r n.ks.length).drop 1).countP (leK k ∘ fun i => cutT a (ahead n.pv i)) = ((picks n.pv r n.ks.length).drop 1).countP fun i => decide (i ≤ List.countP (leK (a.data.toList ++ k)) n.pv) :=
    List.countP_congr fun i hi => by
      show leK k (cutT a (ahead n.pv i)) = true ↔ _
      rw [hmem i hi]
  rw [e1, hl]
  generalize List.countP (leK (a.data.toList ++ k)) n.pv = c at *
  have e2 : l.countP (fun i => decide (i ≤ c)) = 0 := by
    rw [List.countP_eq_zero]
    intro x hx'
    have := hx x hx'
    simp; omega
  have e3 : ∀ x ∈ picks n.pv r c, x ≤ c := fun x hx' => Nat.le_of_lt (mem_picks.1 hx').1
  cases hq : picks n.pv r c with
  | nil => simpa using e2
  | cons x q =>
    rw [hq] at e3
    rw [List.cons_append, List.drop_succ_cons, List.drop_zero, List.countP_append, List.countP_cons, e2, List.length_cons]
    have : q.countP (fun i => decide (i ≤ c)) = q.length := by
      rw [List.countP_eq_length]
      intro y hy
      exact decide_eq_true (e3 y (List.mem_cons_of_mem _ hy))
    rw [this]
    simp
/-- the kid that stands there -/
theorem kid_there {n : Nd} {r : Rng} {a : ByteArray} {i : Nat} (ht : tch n.pv r i = true) (hi : i < n.ks.length) : (picks n.pv r i).length < (ksT n r a n.ks.length).length ∧ (ksT n r a n.ks.length).getD (picks n.pv r i).length E.nil = shK n.ks[i] a := by
  obtain ⟨l, hl, hx⟩ := picks_at hi ht
  unfold ksT
  rw [hl]
  constructor
  · simp
  · rw [List.getD, List.getElem?_map, List.getElem?_append_right (Nat.le_refl _), Nat.sub_self]
    simp [List.getElem?_eq_getElem hi, List.getD]
end Go.Proofs.Ytmnngfbcgpholaa.Key

namespace Go.Proofs.Ytmnngfbcgpholaa.Key
open Go.RowKit
open Go.Op (bytesLess)
set_option linter.unusedVariables false
set_option linter.unusedSimpArgs false

theorem upTo_all {p : Nat → Bool} {n : Nat} : upTo p n = true ↔ ∀ i, i < n → p i = true := by
  constructor
  · intro h i hi; exact upTo_at h hi
  · intro h
    induction n with
    | zero => rfl
    | succ n ih => rw [upTo, ih (fun i hi => h i (by omega)), h n (by omega)]; rfl
def lessP (p q : Pr) : Prop := bytesLess p.key.data.toList q.key.data.toList = true
def lessT (s t : ByteArray) : Prop := bytesLess s.data.toList t.data.toList = true
theorem steps_pw {α : Type} {R : α → α → Prop} (ht : ∀ a b c, R a b → R b c → R a c) : ∀ (l : List α), (∀ i (h : i + 1 < l.length), R (l[i]'(by omega)) l[i + 1]) → l.Pairwise R
  | [], _ => List.Pairwise.nil
  | [x], _ => by simp
  | x :: y :: l, h => by
    have ih := steps_pw ht (y :: l) (fun i hi => h (i + 1) (by simpa using hi))
    refine List.pairwise_cons.2 ⟨?_, ih⟩
    intro z hz
    have h0 : R x y := h 0 (by simp)
    rcases List.mem_cons.1 hz with rfl | hz
    · exact h0
    · exact ht _ _ _ h0 ((List.pairwise_cons.1 ih).1 z hz)
theorem rise_iff {ps : List Pr} : upTo (riseAt ps) ps.length = true ↔ ps.Pairwise lessP := by
  rw [upTo_all]
  constructor
  · intro h
    refine steps_pw (R := lessP) (fun a b c h1 h2 => less_trans h1 h2) ps fun i hi => ?_
    have := h (i + 1) hi
    rw [riseAt_at hi] at this
    exact this
  · intro h i hi
    cases i with
    | zero => exact riseAt_zero ps
    | succ i =>
      rw [riseAt_at hi]
      exact List.pairwise_iff_getElem.1 h i (i + 1) (by omega) hi (by omega)
theorem piv_iff {pv : List ByteArray} : upTo (pivAt pv) pv.length = true ↔ pv.Pairwise lessT ∧ ∀ s ∈ pv, s.data.toList ≠ [] ∧ s.size ≤ 16 := by
  constructor
  · intro h
    refine ⟨steps_pw (R := lessT) (fun a b c h1 h2 => less_trans h1 h2) pv fun i hi => ?_, fun s hs => ?_⟩
    · have := upTo_all.1 h (i + 1) hi
      rw [pivAt_at hi, ahead_at (by omega), Bool.and_eq_true] at this
      exact this.1
    · obtain ⟨i, hi, rfl⟩ := List.getElem_of_mem hs
      have := upTo_all.1 h i hi
      rw [pivAt_at hi, Bool.and_eq_true] at this
      refine ⟨fun e => ?_, of_decide_eq_true this.2⟩
      rw [e, less_nil] at this
      cases this.1
  · rintro ⟨h1, h2⟩
    rw [upTo_all]
    intro i hi
    obtain ⟨h3, h4⟩ := h2 _ (List.getElem_mem hi)
    rw [pivAt_at hi, decide_eq_true h4, Bool.and_true]
    cases i with
    | zero =>
      show bytesLess [] pv[0].data.toList = true
      cases hq : pv[0].data.toList with
      | nil => exact absurd hq h3
      | cons x l => exact nil_less x l
    | succ i =>
      rw [ahead_at (by omega)]
      exact List.pairwise_iff_getElem.1 h1 i (i + 1) (by omega) hi (by omega)
theorem each_iff {α : Type} {d : α} {l : List α} {p : α → Bool} : upTo (fun i => p (l.getD i d)) l.length = true ↔ ∀ x ∈ l, p x = true := by
  rw [upTo_all]
  constructor
  · intro h x hx
    obtain ⟨i, hi, rfl⟩ := List.getElem_of_mem hx
    have := h i hi
    rw [getD_at hi] at this
    exact this
  · intro h i hi
    rw [getD_at hi]
    exact h _ (List.getElem_mem hi)
theorem leaf_iff {n : Nd} : leafB n = true ↔ n.pv = [] ∧ n.ks = [] ∧ n.bf = [] ∧ (∀ p ∈ n.ps, okP p = true) ∧ n.ps.Pairwise lessP := by
  unfold leafB
  rw [upTo_and, Bool.and_eq_true, Bool.and_eq_true, Bool.and_eq_true, Bool.and_eq_true, rise_iff, List.isEmpty_iff, List.isEmpty_iff, List.isEmpty_iff]
  rw [show (upTo (okAt n.ps) n.ps.length = true) = (upTo (fun i => okP (n.ps.getD i Pr.nil)) n.ps.length = true) from rfl, each_iff]
theorem fork_iff {n : Nd} : forkB n = true ↔ n.ps = [] ∧ n.pv.length + 1 = n.ks.length ∧ (upTo (pivAt n.pv) n.pv.length = true) ∧ (∀ e ∈ n.ks, okE e = true) ∧ ∀ m ∈ n.bf, mayB m = true := by
  unfold forkB
  rw [Bool.and_eq_true, Bool.and_eq_true, Bool.and_eq_true, Bool.and_eq_true, List.isEmpty_iff, beq_iff_eq]
  rw [show (upTo (edgeAt n.ks) n.ks.length = true) = (upTo (fun i => okE (n.ks.getD i E.nil)) n.ks.length = true) from rfl, each_iff]
  rw [show (upTo (msgAt n.bf) n.bf.length = true) = (upTo (fun i => mayB (n.bf.getD i M.nil)) n.bf.length = true) from rfl, each_iff]
theorem may_iff {n : Nd} : mayI n = 0 ↔ (n.ps.length ≤ 16 ∧ n.ks.length ≤ 8 ∧ n.bf.length ≤ 16) ∧ fineB n = true := by
  unfold mayI manyB
  constructor
  · intro h
    split at h
    · cases h
    · rename_i hm
      simp only [Bool.or_eq_true, decide_eq_true_eq, not_or, Nat.not_lt] at hm
      refine ⟨hm, ?_⟩
      cases hf : fineB n
      · rw [hf] at h; cases h
      · rfl
  · rintro ⟨h, hf⟩
    rw [if_neg (by simp only [Bool.or_eq_true, decide_eq_true_eq, not_or, Nat.not_lt]; exact h), hf]
    rfl
theorem picks_pw (pv : List ByteArray) (r : Rng) (j : Nat) : (picks pv r j).Pairwise (· < ·) := List.Pairwise.filter _ List.pairwise_lt_range
/-- the pivots that are left: each one a key of the range, above another one -/
theorem picked {pv : List ByteArray} {r : Rng} {J i : Nat} (h : upTo (pivAt pv) pv.length = true) (hJ : J ≤ pv.length + 1) (hi : i ∈ (picks pv r J).drop 1) :
    ∃ m, ∃ hm : m < pv.length, i = m + 1 ∧ inR r pv[m].data.toList = true ∧ ∃ k, inR r k = true ∧ bytesLess k pv[m].data.toList = true := by
  have hpw := picks_pw pv r J
  have him : i ∈ picks pv r J := List.mem_of_mem_drop hi
  obtain ⟨hij, hti⟩ := mem_picks.1 him
  obtain ⟨j, hj⟩ : ∃ j, j ∈ picks pv r J ∧ j < i := by
    cases hq : picks pv r J with
    | nil => rw [hq] at him; cases him
    | cons x q =>
      rw [hq] at hi hpw
      exact ⟨x, List.mem_cons_self, (List.pairwise_cons.1 hpw).1 i hi⟩
  obtain ⟨hjm, hji⟩ := hj
  obtain ⟨_, htj⟩ := mem_picks.1 hjm
  obtain ⟨m, rfl⟩ : ∃ m, i = m + 1 := ⟨i - 1, by omega⟩
  have hm : m < pv.length := by omega
  obtain ⟨hin, hk⟩ := piv_in h hm hti (show j ≤ m by omega) htj
  exact ⟨m, hm, rfl, hin, hk⟩
theorem may_short {m : M} {a : ByteArray} (h : mayB m = true) (hs : shortB m a = true) : mayB (shortM m a) = true := by
  obtain ⟨f0, f1, f2, f3⟩ := short_fields hs
  have hk := short_size m a
  have ha := short_add hs
  by_cases h3 : m.kind = 3
  · unfold mayB at *
    simp_all
    omega
  · -- of Put and Delete Add stays as it was
    have hadd : (shortM m a).add = m.add := by
      unfold shortB at hs
      unfold shortM
      split at hs
      · rename_i h1; rw [if_pos h1]
      · rename_i h1
        split at hs
        · rename_i h2; exact absurd h2.1 h3
        · cases hs
    unfold mayB at *
    simp_all
    omega
theorem may_trim {n : Nd} {r : Rng} {a : ByteArray} (h : trimE n r a = 0) : mayI (trimN n r a) = 0 := by
  obtain ⟨hm, hf, _, hfk⟩ := trim_zero h
  obtain ⟨⟨l1, l2, l3⟩, hb⟩ := may_iff.1 hm
  rw [may_iff]
  unfold trimN
  unfold fineB at hb
  cases hl : n.leaf
  · rw [hl, if_neg (by simp)] at hb
    obtain ⟨g1, g2, g3, g4, g5⟩ := fork_iff.1 hb
    obtain ⟨ok, tb⟩ := hfk hl
    have hne : picks n.pv r n.ks.length ≠ [] := by
      have hin := in_lo (fits_empty hf)
      have hle := count_le n.pv r.lo
      have : kidC n.pv r.lo ∈ picks n.pv r n.ks.length := mem_picks.2 ⟨by omega, (tch_iff g3 (by omega)).2 ⟨_, hin, rfl⟩⟩
      exact List.ne_nil_of_mem this
    have hle := picks_le n.pv r n.ks.length
    have hpos := List.length_pos_iff.2 hne
    rw [if_neg (by simp)]
    refine ⟨⟨Nat.zero_le _, ?_, ?_⟩, ?_⟩
    · show (ksT n r a n.ks.length).length ≤ 8
      unfold ksT
      rw [List.length_map]
      omega
    · exact Nat.le_trans (trim_length _ _ _) l3
    · show forkB (trimF n r a) = true
      rw [fork_iff]
      refine ⟨rfl, ?_, ?_, ?_, ?_⟩
      · show (pvT n r a n.ks.length).length + 1 = (ksT n r a n.ks.length).length
        unfold pvT ksT
        rw [List.length_map, List.length_map, List.length_drop]
        omega
      · show upTo (pivAt (pvT n r a n.ks.length)) (pvT n r a n.ks.length).length = true
        rw [piv_iff]
        obtain ⟨q1, q2⟩ := piv_iff.1 g3
        constructor
        · unfold pvT
          rw [List.pairwise_map]
          refine List.Pairwise.imp_of_mem ?_ ((picks_pw n.pv r n.ks.length).drop (i := 1))
          intro i j hi hj hij
          obtain ⟨m, hm, rfl, hin, _⟩ := picked g3 (by omega) hi
          obtain ⟨m', hm', rfl, hin', _⟩ := picked g3 (by omega) hj
          have := List.pairwise_iff_getElem.1 q1 m m' hm hm' (by omega)
          unfold lessT at this ⊢
          rw [ahead_at hm, ahead_at hm']
          rw [cutT_has (fits_all hf hin), cutT_has (fits_all hf hin'), less_app] at this
          exact this
        · intro s hs
          unfold pvT at hs
          obtain ⟨i, hi, rfl⟩ := List.mem_map.1 hs
          obtain ⟨m, hm, rfl, hin, k, hk, hlt⟩ := picked g3 (by omega) hi
          rw [ahead_at hm]
          refine ⟨fun e => ?_, Nat.le_trans (cutT_size _ _) (q2 _ (List.getElem_mem hm)).2⟩
          have hk' := has_split (fits_all hf hk)
          rw [cutT_has (fits_all hf hin), hk', less_app, e, less_nil] at hlt
          cases hlt
      · intro e he
        have he' : e ∈ ksT n r a n.ks.length := he
        unfold ksT at he'
        obtain ⟨i, hi, rfl⟩ := List.mem_map.1 he'
        obtain ⟨hij, hti⟩ := mem_picks.1 hi
        have hok := upTo_all.1 ok i hij
        rw [hti] at hok
        rw [getD_at hij] at hok ⊢
        have h0 := g4 _ (List.getElem_mem hij)
        generalize n.ks[i] = e at *
        unfold okE at h0 ⊢
        simp only [Bool.and_eq_true, decide_eq_true_eq] at h0
        rw [Bool.not_true, Bool.false_or] at hok
        unfold okK at hok
        rw [Bool.and_eq_true, Option.isSome_iff_exists, decide_eq_true_eq] at hok
        obtain ⟨⟨j, hj⟩, hsz⟩ := hok
        have hs := (join_sizes hj).1
        have hs0 : (ByteArray.size ⟨#[]⟩) = 0 := rfl
        unfold shK
        simp only [Bool.and_eq_true, decide_eq_true_eq]
        refine ⟨h0.1, ?_, hsz⟩
        rw [hj, joS_some]
        omega
      · intro m hm
        have hm' : m ∈ trimL n.bf r a := hm
        obtain ⟨x, hx, rfl⟩ := List.mem_map.1 hm'
        exact may_short (g5 x (List.mem_filter.1 hx).1) (List.all_eq_true.1 tb x hx)
  · rw [hl, if_pos rfl] at hb
    obtain ⟨g1, g2, g3, g4, g5⟩ := leaf_iff.1 hb
    rw [if_pos rfl]
    have hlen : (psT n.ps r a).length ≤ n.ps.length := by
      unfold psT
      rw [List.length_map]
      exact List.length_filter_le _ _
    refine ⟨⟨Nat.le_trans hlen l1, Nat.zero_le _, Nat.zero_le _⟩, ?_⟩
    show leafB ⟨true, psT n.ps r a, [], [], []⟩ = true
    rw [leaf_iff]
    refine ⟨rfl, rfl, rfl, ?_, ?_⟩
    · intro p hp
      have hp' : p ∈ psT n.ps r a := hp
      obtain ⟨x, hx, rfl⟩ := List.mem_map.1 hp'
      have := g4 x (List.mem_filter.1 hx).1
      unfold okP at this ⊢
      simp only [Bool.and_eq_true, decide_eq_true_eq] at this ⊢
      exact ⟨Nat.le_trans (cutT_size _ _) this.1, this.2⟩
    · show (psT n.ps r a).Pairwise lessP
      unfold psT
      rw [List.pairwise_map]
      refine List.Pairwise.imp_of_mem ?_ (g5.filter (p := inP r))
      intro p q hp hq hpq
      have h1 := cutT_has (fits_all hf (show inR r p.key.data.toList = true from (List.mem_filter.1 hp).2))
      have h2 := cutT_has (fits_all hf (show inR r q.key.data.toList = true from (List.mem_filter.1 hq).2))
      unfold lessP at hpq ⊢
      rw [h1, h2, less_app] at hpq
      exact hpq
/-- where a key leads in a trimmed node -/
theorem trim_leads {n : Nd} {r : Rng} {a : ByteArray} {k : List UInt8} (h : trimE n r a = 0) (hk : inR r (a.data.toList ++ k) = true) : stepW (trimN n r a) k = stepW n (a.data.toList ++ k) := by
  have hm' := may_trim h
  obtain ⟨hm, hf, _, hfk⟩ := trim_zero h
  unfold stepW
  rw [if_pos hm, if_pos hm']
  cases hl : n.leaf
  · obtain ⟨ok, tb⟩ := hfk hl
    obtain ⟨hlen, hup⟩ := may_fork hm hl
    have e0 : trimN n r a = trimF n r a := by unfold trimN; rw [hl]; rfl
    rw [e0]
    show (if 0 ≤ lastI (trimL n.bf r a) k then byM ((trimL n.bf r a).getD (lastI (trimL n.bf r a) k).toNat M.nil) k else byE ((ksT n r a n.ks.length).getD (kidC (pvT n r a n.ks.length) k) E.nil) k) = _
    rw [if_neg (show ¬ (false = true) by simp)]
    rcases keeps n.bf r a k hk tb with ⟨h1, h2⟩ | ⟨i, m, hi, hm, h1, h2, h3, h4, h5⟩
    · rw [h1, h2, if_neg (by omega), if_neg (by omega)]
      obtain ⟨ht, hlt, hc⟩ := kid_short k hup hlen hf hk
      rw [hc, (kid_there ht hlt).2, getD_at hlt]
      have hok := upTo_all.1 ok _ hlt
      rw [ht, getD_at hlt] at hok
      exact byE_short k hok
    · rw [h1, h2, if_pos (by omega), if_pos (by omega), Int.toNat_natCast, Int.toNat_natCast, getD_at hi, getD_at hm, h3]
      exact byM_short k h5 h4
  · have e0 : trimN n r a = ⟨true, psT n.ps r a, [], [], []⟩ := by unfold trimN; rw [hl]; rfl
    rw [e0]
    show pairW (psT n.ps r a) k = pairW n.ps (a.data.toList ++ k)
    unfold pairW getB getV
    rw [pair_short k hf hk]
    cases getP n.ps (a.data.toList ++ k) <;> rfl
end Go.Proofs.Ytmnngfbcgpholaa.Key

namespace Go.Proofs.Ytmnngfbcgpholaa.Key
open Go.RowKit
open Go.Op (bytesLess)
set_option linter.unusedVariables false
set_option linter.unusedSimpArgs false

theorem ba_ext {s t : ByteArray} (h : s.data.toList = t.data.toList) : s = t := by rw [← str_eq s, ← str_eq t, h]
theorem inside_in {r q : Rng} (h : insideR r q = true) {k : List UInt8} (hk : inR r k = true) : inR q k = true := by
  have he : emptyR r = false := empty_iff.2 ⟨k, hk⟩
  unfold insideR at h
  rw [he, Bool.false_or, Bool.and_eq_true, Bool.not_eq_true'] at h
  unfold inR at hk ⊢
  rw [Bool.and_eq_true, Bool.not_eq_true'] at hk ⊢
  refine ⟨less_le_trans hk.1 h.1, ?_⟩
  cases hb : q.e
  · rfl
  · rw [hb, Bool.not_true, Bool.false_or, Bool.and_eq_true, Bool.not_eq_true'] at h
    have h2 := hk.2
    rw [h.2.1, Bool.not_true, Bool.false_or] at h2
    rw [Bool.not_true, Bool.false_or]
    exact less_of_less_le h2 h.2.2
theorem in_small {a : ByteArray} {s : Rng} {k : List UInt8} : inR (overR (lf ⟨#[]⟩ a) s) k = true ↔ ∃ k0, k = a.data.toList ++ k0 ∧ inR s k0 = true := by
  rw [in_over, Bool.and_eq_true]
  constructor
  · rintro ⟨h1, h2⟩
    obtain ⟨x, hx⟩ := Option.isSome_iff_exists.1 h1
    rw [hx] at h2
    obtain ⟨t, rfl, e⟩ := up_some hx
    refine ⟨x, ?_, h2⟩
    rw [e]
    rfl
  · rintro ⟨k0, rfl, h⟩
    have : up (turn (lf ⟨#[]⟩ a)) (a.data.toList ++ k0) = some k0 := up_app (turn (lf ⟨#[]⟩ a)) k0
    rw [this]
    exact ⟨rfl, h⟩
theorem in_small_app {a : ByteArray} {s : Rng} {k : List UInt8} : inR (overR (lf ⟨#[]⟩ a) s) (a.data.toList ++ k) = inR s k := by
  rw [Bool.eq_iff_iff, in_small]
  constructor
  · rintro ⟨k0, e, h⟩
    rw [List.append_cancel_left e]
    exact h
  · intro h
    exact ⟨k, rfl, h⟩
theorem touch_iff {m : M} {r : Rng} : touch m r = true ↔ ∃ k, speaks m k = true ∧ inR r k = true := by
  unfold touch
  rw [Bool.not_eq_true', empty_iff]
  constructor
  · rintro ⟨k, hk⟩
    rw [in_cut, in_about, Bool.and_eq_true] at hk
    exact ⟨k, hk⟩
  · rintro ⟨k, h1, h2⟩
    exact ⟨k, by rw [in_cut, in_about, h1, h2]; rfl⟩
theorem cutT_cutT (a b s : ByteArray) : cutT b (cutT a s) = cutT (a ++ b) s := by
  apply ba_ext
  rw [cutT_data, cutT_data, cutT_data, app_data, List.drop_drop, List.length_append]
theorem cutP_cutP (a b : ByteArray) (p : Pr) : cutP b (cutP a p) = cutP (a ++ b) p := by
  unfold cutP
  rw [cutT_cutT]
theorem lshort_two {e : E} {a b : ByteArray} (h : (lshort e a).isSome = true) : lshort (shK e a) b = lshort e (a ++ b) := by
  obtain ⟨j, hj⟩ := Option.isSome_iff_exists.1 h
  have h3 := join_three (lf ⟨#[]⟩ b) (lf ⟨#[]⟩ a) (lf e.strip e.add)
  have h1 : joinO (lf ⟨#[]⟩ b) (lf ⟨#[]⟩ a) = some (lf ⟨#[]⟩ (a ++ b)) := by
    unfold joinO
    rw [show has (lf ⟨#[]⟩ b).add (lf ⟨#[]⟩ a).strip = true from rfl, if_pos rfl]
    show some (Lft.mk [] (a.data.toList ++ b.data.toList)) = _
    unfold lf
    rw [app_data]
  have h2 : joinO (lf ⟨#[]⟩ a) (lf e.strip e.add) = some j := hj
  rw [h1, h2] at h3
  unfold lshort shK
  dsimp only
  rw [hj, joS_some, joA_some, lf_str]
  exact h3.symm
theorem okK_two {e : E} {a b : ByteArray} (h : okK e a = true) (h' : okK (shK e a) b = true) : okK e (a ++ b) = true ∧ shK (shK e a) b = shK e (a ++ b) := by
  have hs : (lshort e a).isSome = true := by unfold okK at h; rw [Bool.and_eq_true] at h; exact h.1
  have e2 := lshort_two (b := b) hs
  unfold okK at h' ⊢
  rw [e2] at h'
  refine ⟨h', ?_⟩
  unfold shK
  rw [show (E.mk e.blk e.deep (joS (lshort e a)) (joA (lshort e a))) = shK e a from rfl, e2]
  rfl
theorem not_has_app {k a b : List UInt8} (h : has k a = false) : has k (a ++ b) = false := by
  cases h' : has k (a ++ b)
  · rfl
  · rw [has_trans h' (has_app a b)] at h; cases h
theorem short_two {m : M} {a b : ByteArray} (h : shortB m a = true) (h' : shortB (shortM m a) b = true) : shortB m (a ++ b) = true ∧ shortM (shortM m a) b = shortM m (a ++ b) := by
  cases hh : has m.key.data.toList a.data.toList
  · have h2 : m.kind = 3 ∧ has a.data.toList m.key.data.toList = true := by
      unfold shortB at h
      rw [hh, if_neg (by simp)] at h
      split at h
      · assumption
      · cases h
    have e1 : shortM m a = ⟨m.kind, ⟨#[]⟩, m.val, m.blk, m.deep, m.add ++ a.extract m.key.size a.size⟩ := by
      unfold shortM
      rw [hh, if_neg (by simp), if_pos h2]
    have n1 : has m.key.data.toList (a ++ b).data.toList = false := by rw [app_data]; exact not_has_app hh
    have n2 : has (a ++ b).data.toList m.key.data.toList = true := by rw [app_data]; exact has_trans (has_app _ _) h2.2
    have hk := has_split h2.2
    have hle : m.key.data.toList.length ≤ a.data.toList.length := (has_is_take h2.2).2
    have ea : (m.add ++ a.extract m.key.size a.size ++ b).data.toList = (m.add ++ (a ++ b).extract m.key.size (a ++ b).size).data.toList := by
      rw [app_data, app_data, app_data, ext_data, ext_data, app_data, List.append_assoc, List.drop_append_of_le_length (by rw [Lib.size_eq]; exact hle)]
    have ea' := ba_ext ea
    have e2 : shortM m (a ++ b) = ⟨m.kind, ⟨#[]⟩, m.val, m.blk, m.deep, m.add ++ (a ++ b).extract m.key.size (a ++ b).size⟩ := by
      unfold shortM
      rw [n1, if_neg (by simp), if_pos ⟨h2.1, n2⟩]
    have b2 : shortB m (a ++ b) = decide ((m.add ++ (a ++ b).extract m.key.size (a ++ b).size).size ≤ 16) := by
      unfold shortB
      rw [n1, if_neg (by simp), if_pos ⟨h2.1, n2⟩]
    rw [b2, e2, ← ea']
    rw [e1] at h' ⊢
    unfold shortB at h'
    unfold shortM
    dsimp only at h' ⊢
    have he : (ByteArray.mk #[]).data.toList = [] := rfl
    cases hb : b.data.toList with
    | nil =>
      have eb : b = ⟨#[]⟩ := ba_ext hb
      subst eb
      have ee : m.add ++ a.extract m.key.size a.size ++ (⟨#[]⟩ : ByteArray) = m.add ++ a.extract m.key.size a.size := by
        apply ba_ext; rw [app_data]; simp
      rw [ee]
      simp only [he, show has [] [] = true from rfl, if_true] at h' ⊢
      refine ⟨h', ?_⟩
      rfl
    | cons x l =>
      simp only [hb, h2.1, show has [] (x :: l) = false from rfl, show has (x :: l) [] = true from rfl, Bool.false_eq_true, if_false, and_self, if_true] at h' ⊢
      have ex : b.extract (ByteArray.size ⟨#[]⟩) b.size = b := by
        apply ba_ext; rw [ext_data]; rfl
      rw [ex] at h' ⊢
      exact ⟨h', rfl⟩
  · have hk := has_split hh
    have e1 : shortM m a = ⟨m.kind, cutT a m.key, m.val, m.blk, m.deep, m.add⟩ := by
      unfold shortM
      rw [hh, if_pos rfl]
      rfl
    have hkd : m.key.data.toList = a.data.toList ++ (cutT a m.key).data.toList := cutT_has hh
    have q1 : has m.key.data.toList (a ++ b).data.toList = has (cutT a m.key).data.toList b.data.toList := by rw [app_data, hkd, has_two]
    have q2 : has (a ++ b).data.toList m.key.data.toList = has b.data.toList (cutT a m.key).data.toList := by rw [app_data, hkd, has_two]
    have q3 : b.extract (cutT a m.key).size b.size = (a ++ b).extract m.key.size (a ++ b).size := by
      apply ba_ext
      rw [ext_data, ext_data, app_data, Lib.size_eq m.key, hkd, List.length_append, ← List.drop_drop, List.drop_left, Lib.size_eq]
    rw [e1] at h' ⊢
    unfold shortB at h' ⊢
    unfold shortM
    dsimp only at h' ⊢
    rw [q1, q2]
    cases hb : has (cutT a m.key).data.toList b.data.toList
    · simp only [hb, Bool.false_eq_true, if_false] at h' ⊢
      split at h'
      · rename_i h3
        rw [if_pos h3, if_pos h3, if_pos h3, ← q3]
        exact ⟨h', rfl⟩
      · cases h'
    · simp only [hb, if_true] at h' ⊢
      refine ⟨h', ?_⟩
      have := cutT_cutT a b m.key
      unfold cutT at this ⊢
      rw [this]
theorem filter_map_two {α : Type} (t : α → Bool) (g : α → α) (t' : α → Bool) (g' : α → α) (t2 : α → Bool) (g2 : α → α) : ∀ (l : List α), (∀ m ∈ l, t2 m = true → t m = true) → (∀ m ∈ l, t m = true → t' (g m) = t2 m) → (∀ m ∈ l, t2 m = true → g' (g m) = g2 m) →
    ((((l.filter t).map g).filter t').map g') = (l.filter t2).map g2
  | [], _, _, _ => rfl
  | m :: l, h1, h2, h3 => by
    have ih := filter_map_two t g t' g' t2 g2 l (fun x hx => h1 x (List.mem_cons_of_mem _ hx)) (fun x hx => h2 x (List.mem_cons_of_mem _ hx)) (fun x hx => h3 x (List.mem_cons_of_mem _ hx))
    have k1 := h1 m List.mem_cons_self
    have k2 := h2 m List.mem_cons_self
    have k3 := h3 m List.mem_cons_self
    cases ht : t m
    · have ht2 : t2 m = false := by cases e : t2 m; rfl; rw [k1 e] at ht; cases ht
      rw [List.filter_cons_of_neg (by simp [ht]), List.filter_cons_of_neg (by simp [ht2])]
      exact ih
    · rw [List.filter_cons_of_pos ht, List.map_cons]
      cases ht2 : t2 m
      · rw [List.filter_cons_of_neg (by rw [k2 ht, ht2]; simp), List.filter_cons_of_neg (by simp [ht2])]
        exact ih
      · rw [List.filter_cons_of_pos (by rw [k2 ht, ht2]), List.filter_cons_of_pos ht2, List.map_cons, List.map_cons, k3 ht2, ih]
/-- messages trimmed twice -/
theorem msgs_two {l : List M} {r s : Rng} {a b : ByteArray} (hin : ∀ k, inR (overR (lf ⟨#[]⟩ a) s) k = true → inR r k = true) (h : trimB l r a = true) (h' : trimB (trimL l r a) s b = true) :
    trimB l (overR (lf ⟨#[]⟩ a) s) (a ++ b) = true ∧ trimL (trimL l r a) s b = trimL l (overR (lf ⟨#[]⟩ a) s) (a ++ b) := by
  have t1 : ∀ m ∈ l, touch m (overR (lf ⟨#[]⟩ a) s) = true → touch m r = true := by
    intro m _ hm
    obtain ⟨k, h1, h2⟩ := touch_iff.1 hm
    exact touch_iff.2 ⟨k, h1, hin k h2⟩
  have hB : ∀ m ∈ l, touch m r = true → shortB m a = true := fun m hm ht => List.all_eq_true.1 h m (List.mem_filter.2 ⟨hm, ht⟩)
  have t2 : ∀ m ∈ l, touch m r = true → touch (shortM m a) s = touch m (overR (lf ⟨#[]⟩ a) s) := by
    intro m hm ht
    rw [Bool.eq_iff_iff, touch_iff, touch_iff]
    constructor
    · rintro ⟨k, h1, h2⟩
      rw [speaks_short k (hB m hm ht)] at h1
      exact ⟨_, h1, in_small.2 ⟨k, rfl, h2⟩⟩
    · rintro ⟨k, h1, h2⟩
      obtain ⟨k0, rfl, h3⟩ := in_small.1 h2
      exact ⟨k0, by rw [speaks_short k0 (hB m hm ht)]; exact h1, h3⟩
  have hB2 : ∀ m ∈ l, touch m (overR (lf ⟨#[]⟩ a) s) = true → shortB (shortM m a) b = true := by
    intro m hm ht
    have htr := t1 m hm ht
    refine List.all_eq_true.1 h' (shortM m a) (List.mem_filter.2 ⟨List.mem_map.2 ⟨m, List.mem_filter.2 ⟨hm, htr⟩, rfl⟩, ?_⟩)
    rw [t2 m hm htr]
    exact ht
  refine ⟨List.all_eq_true.2 fun m hm => ?_, ?_⟩
  · obtain ⟨h1, h2⟩ := List.mem_filter.1 hm
    exact (short_two (hB m h1 (t1 m h1 h2)) (hB2 m h1 h2)).1
  · exact filter_map_two (fun m => touch m r) (fun m => shortM m a) (fun m => touch m s) (fun m => shortM m b) (fun m => touch m (overR (lf ⟨#[]⟩ a) s)) (fun m => shortM m (a ++ b)) l t1 t2
      (fun m hm ht => (short_two (hB m hm (t1 m hm ht)) (hB2 m hm ht)).2)
theorem fits_two {r s : Rng} {a b : ByteArray} (h' : fitsT s b = true) : fitsT (overR (lf ⟨#[]⟩ a) s) (a ++ b) = true := by
  have he : emptyR (overR (lf ⟨#[]⟩ a) s) = false := empty_iff.2 ⟨_, in_small.2 ⟨s.lo, rfl, in_lo (fits_empty h')⟩⟩
  unfold fitsT
  rw [he, Bool.not_false, Bool.true_and]
  refine under_of he fun k hk => ?_
  obtain ⟨k0, rfl, h0⟩ := in_small.1 hk
  rw [app_data, has_two]
  exact fits_all h' h0
theorem pos_at {pv : List ByteArray} {r : Rng} {J j : Nat} (hj : j < (picks pv r J).length) : (picks pv r ((picks pv r J)[j])).length = j := by
  obtain ⟨h1, h2⟩ := mem_picks.1 (List.getElem_mem hj)
  obtain ⟨l, hl, _⟩ := picks_at h1 h2
  have hlt : (picks pv r ((picks pv r J)[j])).length < (picks pv r J).length := by
    have := congrArg List.length hl
    rw [List.length_append, List.length_cons] at this
    omega
  have he : (picks pv r J)[(picks pv r ((picks pv r J)[j])).length] = (picks pv r J)[j] := by
    have : (picks pv r J)[(picks pv r ((picks pv r J)[j])).length]? = some ((picks pv r J)[j]) := by
      conv => lhs; lhs; rw [hl]
      rw [List.getElem?_append_right (Nat.le_refl _), Nat.sub_self]
      rfl
    rw [List.getElem?_eq_getElem hlt] at this
    exact Option.some.inj this
  have hp := picks_pw pv r J
  rcases Nat.lt_trichotomy (picks pv r ((picks pv r J)[j])).length j with h | h | h
  · have := List.pairwise_iff_getElem.1 hp _ j hlt hj h
    omega
  · exact h
  · have := List.pairwise_iff_getElem.1 hp j _ hj hlt h
    omega
theorem at_pos {pv : List ByteArray} {r : Rng} {J i : Nat} (hi : i < J) (ht : tch pv r i = true) : ∃ hj : (picks pv r i).length < (picks pv r J).length, (picks pv r J)[(picks pv r i).length] = i := by
  obtain ⟨l, hl, _⟩ := picks_at hi ht
  have hlt : (picks pv r i).length < (picks pv r J).length := by rw [hl]; simp
  refine ⟨hlt, ?_⟩
  have : (picks pv r J)[(picks pv r i).length]? = some i := by
    rw [hl, List.getElem?_append_right (Nat.le_refl _), Nat.sub_self]
    rfl
  rw [List.getElem?_eq_getElem hlt] at this
  exact Option.some.inj this
theorem range_filter (L : List Nat) (P : Nat → Bool) : ((List.range L.length).filter fun j => P (L.getD j 0)).map (fun j => L.getD j 0) = L.filter P := by
  have h : (List.range L.length).map (fun j => L.getD j 0) = L := by
    apply List.ext_getElem
    · simp
    · intro i h1 h2
      simp [List.getElem?_eq_getElem h2]
  conv => rhs; rw [← h]
  rw [List.filter_map]
  rfl
/-- forks trimmed twice -/
theorem forks_two {n : Nd} {r s : Rng} {a b : ByteArray} (hlen : n.pv.length + 1 = n.ks.length) (hup : upTo (pivAt n.pv) n.pv.length = true) (hf : fitsT r a = true) (ok : okT n r a n.ks.length = true)
    (hlen' : (trimF n r a).pv.length + 1 = (trimF n r a).ks.length) (hup' : upTo (pivAt (trimF n r a).pv) (trimF n r a).pv.length = true) (ok' : okT (trimF n r a) s b (trimF n r a).ks.length = true)
    (hin : ∀ k, inR (overR (lf ⟨#[]⟩ a) s) k = true → inR r k = true) :
    okT n (overR (lf ⟨#[]⟩ a) s) (a ++ b) n.ks.length = true ∧ ksT (trimF n r a) s b (trimF n r a).ks.length = ksT n (overR (lf ⟨#[]⟩ a) s) (a ++ b) n.ks.length ∧ pvT (trimF n r a) s b (trimF n r a).ks.length = pvT n (overR (lf ⟨#[]⟩ a) s) (a ++ b) n.ks.length := by
  generalize hL : picks n.pv r n.ks.length = L
  have hJ : (trimF n r a).ks.length = L.length := by
    show (ksT n r a n.ks.length).length = _
    unfold ksT
    rw [List.length_map, hL]
  have hc : ∀ k, inR s k = true → kidC (trimF n r a).pv k = (picks n.pv r (kidC n.pv (a.data.toList ++ k))).length ∧ tch n.pv r (kidC n.pv (a.data.toList ++ k)) = true ∧ kidC n.pv (a.data.toList ++ k) < n.ks.length := by
    intro k hk
    obtain ⟨h1, h2, h3⟩ := kid_short k hup hlen hf (hin _ (in_small.2 ⟨k, rfl, hk⟩))
    exact ⟨h3, h1, h2⟩
  have htch : ∀ j, j < L.length → tch (trimF n r a).pv s j = tch n.pv (overR (lf ⟨#[]⟩ a) s) (L.getD j 0) := by
    intro j hj
    have hLj : L.getD j 0 < n.ks.length := by
      have hm : L.getD j 0 ∈ picks n.pv r n.ks.length := by rw [hL, getD_at hj]; exact List.getElem_mem hj
      exact (mem_picks.1 hm).1
    rw [Bool.eq_iff_iff, tch_iff hup' (by omega), tch_iff hup (by omega)]
    constructor
    · rintro ⟨k, hk, e⟩
      obtain ⟨h1, h2, h3⟩ := hc k hk
      refine ⟨_, in_small.2 ⟨k, rfl, hk⟩, ?_⟩
      obtain ⟨h4, h5⟩ := at_pos h3 h2
      rw [getD_at hj]
      subst hL
      have : j = (picks n.pv r (kidC n.pv (a.data.toList ++ k))).length := by rw [← e, h1]
      subst this
      exact h5.symm
    · rintro ⟨k', hk', e⟩
      obtain ⟨k, rfl, hk⟩ := in_small.1 hk'
      obtain ⟨h1, h2, h3⟩ := hc k hk
      refine ⟨k, hk, ?_⟩
      rw [h1, e, getD_at hj]
      subst hL
      exact pos_at hj
  have hsub : ∀ i, i < n.ks.length → tch n.pv (overR (lf ⟨#[]⟩ a) s) i = true → tch n.pv r i = true := by
    intro i hi ht
    obtain ⟨k, hk, e⟩ := (tch_iff hup (by omega)).1 ht
    exact (tch_iff hup (by omega)).2 ⟨k, hin k hk, e⟩
  have hp : (picks (trimF n r a).pv s L.length).map (fun j => L.getD j 0) = picks n.pv (overR (lf ⟨#[]⟩ a) s) n.ks.length := by
    have e1 : picks (trimF n r a).pv s L.length = (List.range L.length).filter fun j => tch n.pv (overR (lf ⟨#[]⟩ a) s) (L.getD j 0) := by
      unfold picks
      exact List.filter_congr fun j hj => htch j (List.mem_range.1 hj)
    rw [e1, range_filter, ← hL]
    unfold picks
    rw [List.filter_filter]
    refine List.filter_congr fun i hi => ?_
    rw [List.mem_range] at hi
    cases ht : tch n.pv (overR (lf ⟨#[]⟩ a) s) i
    · rfl
    · rw [hsub i hi ht]; rfl
  have hok : ∀ j, j < L.length → L.getD j 0 < n.ks.length ∧ okK (n.ks.getD (L.getD j 0) E.nil) a = true := by
    intro j hj
    have hm : L.getD j 0 ∈ picks n.pv r n.ks.length := by rw [hL, getD_at hj]; exact List.getElem_mem hj
    obtain ⟨h1, h2⟩ := mem_picks.1 hm
    have := upTo_all.1 ok _ h1
    rw [h2] at this
    exact ⟨h1, this⟩
  have hks : ∀ j, j < L.length → (trimF n r a).ks.getD j E.nil = shK (n.ks.getD (L.getD j 0) E.nil) a := by
    intro j hj
    show (ksT n r a n.ks.length).getD j E.nil = _
    unfold ksT
    rw [hL, getD_at (by rw [List.length_map]; exact hj), List.getElem_map, getD_at hj]
  have htwo : ∀ j, j < L.length → tch (trimF n r a).pv s j = true → okK (n.ks.getD (L.getD j 0) E.nil) (a ++ b) = true ∧ shK ((trimF n r a).ks.getD j E.nil) b = shK (n.ks.getD (L.getD j 0) E.nil) (a ++ b) := by
    intro j hj ht
    have := upTo_all.1 ok' j (by rw [hJ]; exact hj)
    rw [ht, hks j hj] at this
    rw [hks j hj]
    exact okK_two (hok j hj).2 this
  rw [hJ]
  refine ⟨?_, ?_, ?_⟩
  · unfold okT
    rw [upTo_all]
    intro i hi
    cases ht : tch n.pv (overR (lf ⟨#[]⟩ a) s) i
    · rfl
    · have hm : i ∈ picks n.pv (overR (lf ⟨#[]⟩ a) s) n.ks.length := mem_picks.2 ⟨hi, ht⟩
      rw [← hp] at hm
      obtain ⟨j, hj, rfl⟩ := List.mem_map.1 hm
      obtain ⟨h1, h2⟩ := mem_picks.1 hj
      rw [(htwo j h1 h2).1]
      rfl
  · unfold ksT
    rw [← hp, List.map_map]
    refine List.map_congr_left fun j hj => ?_
    obtain ⟨h1, h2⟩ := mem_picks.1 hj
    exact (htwo j h1 h2).2
  · unfold pvT
    rw [← hp, ← List.map_drop, List.map_map]
    refine List.map_congr_left fun j hj => ?_
    obtain ⟨m, hm, rfl, _, _⟩ := picked hup' (by omega) hj
    show cutT b (ahead (trimF n r a).pv (m + 1)) = cutT (a ++ b) (ahead n.pv (L.getD (m + 1) 0))
    rw [ahead_at hm, ← cutT_cutT]
    congr 1
    have hm1 : m + 1 < L.length := by omega
    have : (trimF n r a).pv[m]? = some (cutT a (ahead n.pv (L.getD (m + 1) 0))) := by
      show (pvT n r a n.ks.length)[m]? = _
      unfold pvT
      rw [hL, List.getElem?_map, List.getElem?_drop, Nat.add_comm 1 m, List.getElem?_eq_getElem hm1, getD_at hm1]
      rfl
    rw [List.getElem?_eq_getElem hm] at this
    exact Option.some.inj this
/-- trimmed twice is trimmed once -/
theorem trim_twice {n : Nd} {r s : Rng} {a b : ByteArray} (h : trimE n r a = 0) (hin : insideR (overR (lf ⟨#[]⟩ a) s) r = true) (h' : trimE (trimN n r a) s b = 0) :
    trimE n (overR (lf ⟨#[]⟩ a) s) (a ++ b) = 0 ∧ trimN (trimN n r a) s b = trimN n (overR (lf ⟨#[]⟩ a) s) (a ++ b) := by
  obtain ⟨hm, hf, _, hfk⟩ := trim_zero h
  obtain ⟨hm', hf', _, hfk'⟩ := trim_zero h'
  have hin' : ∀ k, inR (overR (lf ⟨#[]⟩ a) s) k = true → inR r k = true := fun k hk => inside_in hin hk
  have hf2 := fits_two (r := r) (a := a) hf'
  cases hl : n.leaf
  · have e0 : trimN n r a = trimF n r a := by unfold trimN; rw [hl]; rfl
    rw [e0] at hm' hfk' ⊢
    obtain ⟨ok, tb⟩ := hfk hl
    obtain ⟨ok', tb'⟩ := hfk' rfl
    obtain ⟨hlen, hup⟩ := may_fork hm hl
    obtain ⟨hlen', hup'⟩ := may_fork hm' rfl
    obtain ⟨q1, q2, q3⟩ := forks_two hlen hup hf ok hlen' hup' ok' hin'
    obtain ⟨q4, q5⟩ := msgs_two hin' tb tb'
    constructor
    · unfold trimE
      rw [if_pos hm, if_pos hf2, hl, if_neg (by simp), if_pos q1, if_pos q4]
    · have e1 : trimN n (overR (lf ⟨#[]⟩ a) s) (a ++ b) = trimF n (overR (lf ⟨#[]⟩ a) s) (a ++ b) := by unfold trimN; rw [hl]; rfl
      have e2 : trimN (trimF n r a) s b = trimF (trimF n r a) s b := rfl
      rw [e1, e2]
      unfold trimF at q2 q3 ⊢
      dsimp only at q2 q3 ⊢
      rw [q2, q3, q5]
  · have e0 : trimN n r a = ⟨true, psT n.ps r a, [], [], []⟩ := by unfold trimN; rw [hl]; rfl
    rw [e0]
    constructor
    · unfold trimE
      rw [if_pos hm, if_pos hf2, hl, if_pos rfl]
    · have e1 : trimN n (overR (lf ⟨#[]⟩ a) s) (a ++ b) = ⟨true, psT n.ps (overR (lf ⟨#[]⟩ a) s) (a ++ b), [], [], []⟩ := by unfold trimN; rw [hl]; rfl
      have e2 : trimN ⟨true, psT n.ps r a, [], [], []⟩ s b = ⟨true, psT (psT n.ps r a) s b, [], [], []⟩ := rfl
      rw [e1, e2]
      congr 1
      refine filter_map_two (inP r) (cutP a) (inP s) (cutP b) (inP (overR (lf ⟨#[]⟩ a) s)) (cutP (a ++ b)) n.ps (fun p _ hp => hin' _ hp) (fun p _ hp => ?_) (fun p _ _ => cutP_cutP a b p)
      have hs := cutT_has (fits_all hf (show inR r p.key.data.toList = true from hp))
      show inR s (cutT a p.key).data.toList = inR (overR (lf ⟨#[]⟩ a) s) p.key.data.toList
      rw [hs, in_small_app]
end Go.Proofs.Ytmnngfbcgpholaa.Key
