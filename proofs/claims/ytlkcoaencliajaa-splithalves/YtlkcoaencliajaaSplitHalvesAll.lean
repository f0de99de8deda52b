/-
  Proved: the call of the statement SplitHalves returns true for every node (halves of all keys have as many pairs, or kids, as the node; halves of a leaf, joined, are the whole), and it reads afterwards as it read before. No condition.
  The frame of the row's step was written by the guide's proof-skeleton.mjs, turned; the walk is this text's own.
  Plain facts of pieces: a node's middle, it as one piece and as two; two leaves' pieces as one. No program is named here.
  Pieces: as values, in blocks, in slices, in rows of the call's own.
  Contracts of Between, the program's and the document's, and of Under, the document's.
  Contracts of Whole, the program's and the document's.
  Contract of each.
  Contracts of half, midOfPairs, midOfKids and Mid, the program's.
  Contracts of Halves and Pieces, the program's.
  Contract of awake: the document's example.
  The sizes of what is trimmed.
  The walk of the statement SplitLeads.
  Contracts of lifted, unstripped, within, rise and leafMay.
  Contracts of rise, the program's, and of Rise, the document's.
  Contract of Join, the program's.
  Contract of Join, the program's: the walk.
  The walk of the statement SplitHalves.
-/
import Derived.Test.YtlkcoaencliajaaTp
import Derived.Test.YtlkcoaencliajaaTApp
import Derived.Test.YtlkcoaencliajaaUText
import Derived.Test.YtlkcoaencliajaaUUnder
import Derived.Test.YtlkcoaencliajaaQt
import Derived.Test.YtlkcoaencliajaaTTrimA
import Derived.Test.YtlkcoaencliajaaTTrimB
import Derived.Test.YtlkcoaencliajaaTShift
import Derived.Test.YtlkcoaencliajaaQu3
import Derived.Test.YtlkcoaencliajaaMayN
import Derived.Test.YtlkcoaencliajaaLead
import Derived.Test.YtlkcoaencliajaaSmall
import Derived.Test.YtlkcoaencliajaaLGo
import Derived.Test.YtlkcoaencliajaaTm
import Derived.Test.YtlkcoaencliajaaLx
import Derived.Laws.AppendOwnNone
import Derived.Test.YtlkcoaencliajaaSameRef
import Derived.Test.YtlkcoaencliajaaOp
import Derived.WalkKit
import Derived.ProofKit
import Derived.OpenShut
import Derived.ShutString
import Derived.ChangeOld
import Derived.Below
import Derived.Carry
import Derived.Lib.SmallJoins
namespace Go.Proofs.Ytlkcoaencliajaa.Key
open Go.RowKit
open Go.Op (bytesLess)
set_option linter.unusedVariables false
set_option linter.unusedSimpArgs false

/-- a range without an end is the same whatever stands behind it -/
theorem free_in (lo hi hi' k : List UInt8) : inR ⟨lo, hi, false⟩ k = inR ⟨lo, hi', false⟩ k := by simp [inR]
theorem free_empty (lo hi hi' : List UInt8) : emptyR ⟨lo, hi, false⟩ = emptyR ⟨lo, hi', false⟩ := by unfold emptyR; rw [free_in lo hi hi']
theorem free_cut (x : Rng) (lo hi hi' : List UInt8) : cutR x ⟨lo, hi, false⟩ = cutR x ⟨lo, hi', false⟩ := by
  unfold cutR
  rw [show rawCut x ⟨lo, hi, false⟩ = rawCut x ⟨lo, hi', false⟩ by unfold rawCut; simp]
theorem free_under (lo hi hi' : List UInt8) : under ⟨lo, hi, false⟩ = under ⟨lo, hi', false⟩ := by
  unfold under underN
  rw [free_empty lo hi hi']
  rfl
theorem free_tch (pv : List ByteArray) (lo hi hi' : List UInt8) : tch pv ⟨lo, hi, false⟩ = tch pv ⟨lo, hi', false⟩ := by
  funext i
  unfold tch
  rw [free_cut _ lo hi hi']
theorem free_touch (m : M) (lo hi hi' : List UInt8) : touch m ⟨lo, hi, false⟩ = touch m ⟨lo, hi', false⟩ := by
  unfold touch
  rw [free_cut _ lo hi hi']
theorem free_some (l : List M) (lo hi hi' : List UInt8) : some' l ⟨lo, hi, false⟩ = some' l ⟨lo, hi', false⟩ := by
  unfold some'
  exact List.filter_congr fun m _ => free_touch m lo hi hi'
theorem free_inP (lo hi hi' : List UInt8) : inP ⟨lo, hi, false⟩ = inP ⟨lo, hi', false⟩ := by
  funext p
  exact free_in lo hi hi' _
theorem free_trimE (n : Nd) (lo hi hi' : List UInt8) (a : ByteArray) : trimE n ⟨lo, hi, false⟩ a = trimE n ⟨lo, hi', false⟩ a := by
  unfold trimE fitsT okT trimB
  rw [free_empty lo hi hi', free_under lo hi hi', free_tch n.pv lo hi hi', free_some n.bf lo hi hi']
theorem free_trimA (n : Nd) (lo hi hi' : List UInt8) (a : ByteArray) : trimA n ⟨lo, hi, false⟩ a = trimA n ⟨lo, hi', false⟩ a := by
  unfold trimA trimN trimF psT pvT ksT picks trimL
  rw [free_trimE n lo hi hi', free_tch n.pv lo hi hi', free_some n.bf lo hi hi', free_inP lo hi hi']

/-- all keys of a range begin so -/
def undS (r : Rng) : ByteArray := str (under r)
/-- a piece -/
structure Pc where
  lo : ByteArray
  strip : ByteArray
  node : Nd
def Pc.nil : Pc := ⟨⟨#[]⟩, ⟨#[]⟩, nilN⟩
def wholeE (n : Nd) (r : Rng) : Int := trimE n r (undS r)
def wholeP (n : Nd) (lo hi : ByteArray) (e : Bool) : Pc := if wholeE n (rg lo hi e) = 0 then ⟨lo, undS (rg lo hi e), trimA n (rg lo hi e) (undS (rg lo hi e))⟩ else Pc.nil
def halfN (n : Nat) : Nat := (n + 1) / 2
def midB (n : Nd) : Bool := if mayI n = 0 then if n.leaf then decide (2 ≤ n.ps.length) else decide (2 ≤ n.ks.length) else false
def keyAt (ps : List Pr) (i : Nat) : ByteArray := (ps.getD i Pr.nil).key
def midL (ps : List Pr) : ByteArray := str (between (keyAt ps (halfN ps.length - 1)).data.toList (keyAt ps (halfN ps.length)).data.toList)
def midK (n : Nd) : ByteArray := ahead n.pv (halfN n.ks.length)
def midS (n : Nd) : ByteArray := if midB n then if n.leaf then midL n.ps else midK n else ⟨#[]⟩
def goodB (n : Nd) (lo hi : ByteArray) (e : Bool) : Bool := midB n && (inR (rg lo hi e) (midS n).data.toList && !((midS n).data.toList == lo.data.toList))
def halvesE (n : Nd) (lo hi : ByteArray) (e : Bool) : Int :=
  if mayI n = 0 then if goodB n lo hi e then if wholeE n (rg lo (midS n) true) = 0 then wholeE n (rg (midS n) hi e) else wholeE n (rg lo (midS n) true) else 1 else 3
def halvesL (n : Nd) (lo hi : ByteArray) (e : Bool) : List Pc := if halvesE n lo hi e = 0 then [wholeP n lo (midS n) true, wholeP n (midS n) hi e] else []
def muchB (n : Nd) (fan pairs : Int) : Bool := if n.leaf then decide (pairs < (n.ps.length : Int)) else decide (fan < (n.ks.length : Int))
def oneL (n : Nd) (lo hi : ByteArray) (e : Bool) : List Pc := if wholeE n (rg lo hi e) = 0 then [wholeP n lo hi e] else []
def piecesE (n : Nd) (lo hi : ByteArray) (e : Bool) (fan pairs : Int) : Int := if muchB n fan pairs then halvesE n lo hi e else wholeE n (rg lo hi e)
def piecesL (n : Nd) (lo hi : ByteArray) (e : Bool) (fan pairs : Int) : List Pc := if muchB n fan pairs then halvesL n lo hi e else oneL n lo hi e

theorem free_wholeE (n : Nd) (lo hi hi' : ByteArray) : wholeE n (rg lo hi false) = wholeE n (rg lo hi' false) := by
  unfold wholeE undS rg
  rw [free_under _ hi.data.toList hi'.data.toList, free_trimE n _ hi.data.toList hi'.data.toList]
theorem free_wholeP (n : Nd) (lo hi hi' : ByteArray) : wholeP n lo hi false = wholeP n lo hi' false := by
  unfold wholeP
  rw [free_wholeE n lo hi hi']
  unfold undS rg
  rw [free_under _ hi.data.toList hi'.data.toList, free_trimA n _ hi.data.toList hi'.data.toList]
theorem whole_zero {n : Nd} {lo hi : ByteArray} {e : Bool} (h : wholeE n (rg lo hi e) = 0) : wholeP n lo hi e = ⟨lo, undS (rg lo hi e), trimN n (rg lo hi e) (undS (rg lo hi e))⟩ := by
  unfold wholeP
  rw [if_pos h, (trim_zero h).2.2.1]
theorem und_size (lo hi : ByteArray) (e : Bool) : (undS (rg lo hi e)).size ≤ lo.size := by
  unfold undS
  rw [str_size]
  unfold under
  rw [List.length_take]
  show min _ lo.data.toList.length ≤ _
  rw [← Lib.size_eq]
  omega
/-- where a key leads in a piece -/
theorem piece_leads {n : Nd} {lo hi : ByteArray} {e : Bool} {k : List UInt8} (h : wholeE n (rg lo hi e) = 0) (hk : inR (rg lo hi e) k = true) :
    has k (undS (rg lo hi e)).data.toList = true ∧ stepW (wholeP n lo hi e).node (k.drop (undS (rg lo hi e)).size) = stepW n k := by
  have h1 : has k (undS (rg lo hi e)).data.toList = true := by
    unfold undS
    rw [str_data]
    exact under_in hk
  refine ⟨h1, ?_⟩
  rw [whole_zero h]
  dsimp only
  have hs := has_split h1
  rw [Lib.size_eq]
  rw [hs] at hk
  have := trim_leads h hk
  rw [this, ← hs]

/-- of a leaf: what stands ahead of the middle, and what from it on -/
theorem pw_at {α : Type} {R : α → α → Prop} {l : List α} (h : l.Pairwise R) {i j : Nat} (hij : i < j) (hj : j < l.length) : R (l[i]'(by omega)) l[j] := List.pairwise_iff_getElem.1 h i j (by omega) hj hij
theorem keyAt_at {ps : List Pr} {i : Nat} (h : i < ps.length) : keyAt ps i = ps[i].key := by unfold keyAt; rw [getD_at h]
theorem half_lt {n : Nat} (h : 2 ≤ n) : 0 < halfN n ∧ halfN n < n := by unfold halfN; omega
theorem mid_two {ps : List Pr} (hr : ps.Pairwise lessP) (h2 : 2 ≤ ps.length) :
    bytesLess (keyAt ps (halfN ps.length - 1)).data.toList (midL ps).data.toList = true ∧ bytesLess (keyAt ps (halfN ps.length)).data.toList (midL ps).data.toList = false ∧ (midL ps).size ≤ (keyAt ps (halfN ps.length)).size := by
  obtain ⟨h0, h1⟩ := half_lt h2
  have hlt : bytesLess (keyAt ps (halfN ps.length - 1)).data.toList (keyAt ps (halfN ps.length)).data.toList = true := by
    rw [keyAt_at h1, keyAt_at (by omega)]
    exact pw_at hr (by omega) h1
  unfold midL
  rw [str_data, str_size, Lib.size_eq]
  unfold between
  rw [if_pos hlt]
  refine ⟨(common_less hlt).2, has_le (has_take _ _), ?_⟩
  rw [List.length_take]
  omega
theorem ahead_lt {ps : List Pr} (hr : ps.Pairwise lessP) (h2 : 2 ≤ ps.length) : (∀ x ∈ ps.take (halfN ps.length), bytesLess x.key.data.toList (midL ps).data.toList = true) ∧ ∀ x ∈ ps.drop (halfN ps.length), bytesLess x.key.data.toList (midL ps).data.toList = false := by
  obtain ⟨h0, h1⟩ := half_lt h2
  obtain ⟨m1, m2, _⟩ := mid_two hr h2
  rw [keyAt_at (by omega)] at m1
  rw [keyAt_at h1] at m2
  constructor
  · intro x hx
    obtain ⟨i, hi, rfl⟩ := List.getElem_of_mem hx
    rw [List.length_take] at hi
    rw [List.getElem_take]
    by_cases e : i = halfN ps.length - 1
    · subst e; exact m1
    · exact less_trans (pw_at hr (show i < halfN ps.length - 1 by omega) (by omega)) m1
  · intro x hx
    obtain ⟨i, hi, rfl⟩ := List.getElem_of_mem hx
    rw [List.length_drop] at hi
    rw [List.getElem_drop]
    by_cases e : i = 0
    · subst e; exact m2
    · exact less_le_trans (less_asymm (pw_at hr (show halfN ps.length < halfN ps.length + i by omega) (by omega))) m2
theorem filter_take {ps : List Pr} {p : Pr → Bool} {h : Nat} (h1 : ∀ x ∈ ps.take h, p x = true) (h2 : ∀ x ∈ ps.drop h, p x = false) : ps.filter p = ps.take h := by
  conv => lhs; rw [← List.take_append_drop h ps]
  rw [List.filter_append, List.filter_eq_self.2 h1, List.filter_eq_nil_iff.2 (fun x hx => by rw [h2 x hx]; simp), List.append_nil]
theorem filter_drop {ps : List Pr} {p : Pr → Bool} {h : Nat} (h1 : ∀ x ∈ ps.take h, p x = false) (h2 : ∀ x ∈ ps.drop h, p x = true) : ps.filter p = ps.drop h := by
  conv => lhs; rw [← List.take_append_drop h ps]
  rw [List.filter_append, List.filter_eq_self.2 h2, List.filter_eq_nil_iff.2 (fun x hx => by rw [h1 x hx]; simp), List.nil_append]
/-- all keys -/
abbrev allA : ByteArray := ⟨#[]⟩
theorem in_ahead (m : ByteArray) (k : List UInt8) : inR (rg allA m true) k = bytesLess k m.data.toList := by
  show (!bytesLess k [] && (!true || bytesLess k m.data.toList)) = _
  rw [less_nil]
  rfl
theorem in_from (m hi : ByteArray) (k : List UInt8) : inR (rg m hi false) k = !bytesLess k m.data.toList := by
  show (!bytesLess k m.data.toList && (!false || _)) = _
  simp
/-- the halves of a leaf -/
theorem leaf_halves {n : Nd} (hl : n.leaf = true) (h : mayI n = 0) (hm : midB n = true) :
    n.ps.filter (inP (rg allA (midS n) true)) = n.ps.take (halfN n.ps.length) ∧ n.ps.filter (inP (rg (midS n) allA false)) = n.ps.drop (halfN n.ps.length) := by
  have hs : midS n = midL n.ps := by unfold midS; rw [hm, if_pos rfl, hl, if_pos rfl]
  have h2 : 2 ≤ n.ps.length := by
    unfold midB at hm
    rw [if_pos h, hl, if_pos rfl] at hm
    exact of_decide_eq_true hm
  have hr : n.ps.Pairwise lessP := by
    have hb := (may_iff.1 h).2
    unfold fineB at hb
    rw [hl, if_pos rfl] at hb
    exact (leaf_iff.1 hb).2.2.2.2
  obtain ⟨a1, a2⟩ := ahead_lt hr h2
  rw [hs]
  constructor
  · refine filter_take (fun x hx => ?_) (fun x hx => ?_)
    · show inR _ _ = true
      rw [in_ahead]; exact a1 x hx
    · show inR _ _ = false
      rw [in_ahead]; exact a2 x hx
  · refine filter_drop (fun x hx => ?_) (fun x hx => ?_)
    · show inR _ _ = false
      rw [in_from, a1 x hx]; rfl
    · show inR _ _ = true
      rw [in_from, a2 x hx]; rfl
/-- each kid has a key -/
theorem kid_key {pv : List ByteArray} (h : upTo (pivAt pv) pv.length = true) {i : Nat} (hi : i ≤ pv.length) : ∃ k, kidC pv k = i := by
  have he : emptyR (rg (loOf pv i) (hiOf pv i) (endOf pv i)) = false := by
    rw [emptyR_eq]
    show (endOf pv i && !bytesLess (loOf pv i).data.toList (hiOf pv i).data.toList) = false
    unfold endOf loOf hiOf
    rw [if_pos hi]
    by_cases hlt : i < pv.length
    · have := upTo_at h hlt
      unfold pivAt at this
      rw [Bool.and_eq_true] at this
      rw [if_pos hlt, this.1]
      simp
    · rw [decide_eq_false hlt]; rfl
  have := in_lo he
  rw [in_kid h i hi] at this
  exact ⟨_, (of_decide_eq_true this).symm⟩
/-- the halves of a node with kids -/
theorem fork_tch {pv : List ByteArray} (h : upTo (pivAt pv) pv.length = true) {m : Nat} (hm : m < pv.length) {i : Nat} (hi : i ≤ pv.length) :
    tch pv (rg allA (pv[m]) true) i = decide (i ≤ m) ∧ tch pv (rg (pv[m]) allA false) i = decide (m < i) := by
  obtain ⟨k, hk⟩ := kid_key h hi
  constructor
  · rw [Bool.eq_iff_iff, tch_iff h hi, decide_eq_true_iff]
    constructor
    · rintro ⟨k', h1, rfl⟩
      rw [in_ahead, le_kid h hm] at h1
      exact of_decide_eq_true h1
    · intro hle
      exact ⟨k, by rw [in_ahead, le_kid h hm, hk]; exact decide_eq_true hle, hk⟩
  · rw [Bool.eq_iff_iff, tch_iff h hi, decide_eq_true_iff]
    constructor
    · rintro ⟨k', h1, rfl⟩
      rw [in_from, le_kid h hm, Bool.not_eq_true', decide_eq_false_iff_not] at h1
      omega
    · intro hle
      exact ⟨k, by rw [in_from, le_kid h hm, hk, Bool.not_eq_true', decide_eq_false_iff_not]; omega, hk⟩
theorem count_low {m J : Nat} (h : m < J) : ((List.range J).filter fun i => decide (i ≤ m)).length = m + 1 := by
  obtain ⟨d, rfl⟩ : ∃ d, J = m + 1 + d := ⟨J - (m + 1), by omega⟩
  rw [List.range_add, List.filter_append, List.filter_eq_self.2 (fun i hi => by rw [List.mem_range] at hi; exact decide_eq_true (by omega)), List.filter_eq_nil_iff.2 (fun i hi => by
    obtain ⟨j, hj, rfl⟩ := List.mem_map.1 hi
    rw [decide_eq_true_iff]
    omega), List.append_nil, List.length_range]
theorem count_high {m J : Nat} (h : m < J) : ((List.range J).filter fun i => decide (m < i)).length = J - (m + 1) := by
  obtain ⟨d, rfl⟩ : ∃ d, J = m + 1 + d := ⟨J - (m + 1), by omega⟩
  have h1 : ((List.range (m + 1)).filter fun i => decide (m < i)) = [] := List.filter_eq_nil_iff.2 (fun i hi => by
    rw [List.mem_range] at hi
    rw [decide_eq_true_iff]
    omega)
  have h2 : (((List.range d).map fun x => m + 1 + x).filter fun i => decide (m < i)) = (List.range d).map fun x => m + 1 + x := List.filter_eq_self.2 (fun i hi => by
    obtain ⟨j, hj, rfl⟩ := List.mem_map.1 hi
    exact decide_eq_true (by omega))
  rw [List.range_add, List.filter_append, h1, h2, List.nil_append, List.length_map, List.length_range]
  omega
theorem fork_halves {n : Nd} (hl : n.leaf = false) (h : mayI n = 0) (hm : midB n = true) (a b : ByteArray) :
    (ksT n (rg allA (midS n) true) a n.ks.length).length = halfN n.ks.length ∧ (ksT n (rg (midS n) allA false) b n.ks.length).length = n.ks.length - halfN n.ks.length := by
  have h2 : 2 ≤ n.ks.length := by
    unfold midB at hm
    rw [if_pos h, hl, if_neg (by simp)] at hm
    exact of_decide_eq_true hm
  obtain ⟨h0, h1⟩ := half_lt h2
  obtain ⟨hlen, hup⟩ := may_fork h hl
  have hlt : halfN n.ks.length - 1 < n.pv.length := by omega
  have hs : midS n = n.pv[halfN n.ks.length - 1] := by
    unfold midS midK
    rw [hm, if_pos rfl, hl, if_neg (by simp)]
    have := ahead_at hlt
    rw [show halfN n.ks.length - 1 + 1 = halfN n.ks.length by omega] at this
    exact this
  unfold ksT
  rw [List.length_map, List.length_map, hs]
  unfold picks
  constructor
  · rw [List.filter_congr (q := fun i => decide (i ≤ halfN n.ks.length - 1)) fun i hi => (fork_tch hup hlt (by rw [List.mem_range] at hi; omega)).1, count_low (by omega)]
    omega
  · rw [List.filter_congr (q := fun i => decide (halfN n.ks.length - 1 < i)) fun i hi => (fork_tch hup hlt (by rw [List.mem_range] at hi; omega)).2, count_high (by omega)]
    omega
theorem halves_zero {n : Nd} {lo hi : ByteArray} {e : Bool} (h : halvesE n lo hi e = 0) : mayI n = 0 ∧ goodB n lo hi e = true ∧ wholeE n (rg lo (midS n) true) = 0 ∧ wholeE n (rg (midS n) hi e) = 0 := by
  unfold halvesE at h
  split at h
  · rename_i h1
    split at h
    · rename_i h2
      split at h
      · rename_i h3
        exact ⟨h1, h2, h3, h⟩
      · rename_i h3; exact absurd h h3
    · cases h
  · cases h
theorem good_parts {n : Nd} {lo hi : ByteArray} {e : Bool} (h : goodB n lo hi e = true) : midB n = true ∧ inR (rg lo hi e) (midS n).data.toList = true ∧ (midS n).data.toList ≠ lo.data.toList := by
  unfold goodB at h
  rw [Bool.and_eq_true, Bool.and_eq_true, Bool.not_eq_true', beq_eq_false_iff_ne] at h
  exact ⟨h.1, h.2.1, h.2.2⟩
/-- how many are in the halves -/
theorem halves_count {n : Nd} (h : halvesE n allA allA false = 0) :
    (wholeP n allA (midS n) true).node.ps.length + (wholeP n allA (midS n) true).node.ks.length = halfN (n.ps.length + n.ks.length) ∧
    (wholeP n (midS n) allA false).node.ps.length + (wholeP n (midS n) allA false).node.ks.length = n.ps.length + n.ks.length - halfN (n.ps.length + n.ks.length) := by
  obtain ⟨hm, hg, h1, h2⟩ := halves_zero h
  obtain ⟨hb, _, _⟩ := good_parts hg
  rw [whole_zero h1, whole_zero h2]
  dsimp only
  cases hl : n.leaf
  · have e : n.ps = [] := by
      have := (may_iff.1 hm).2
      unfold fineB at this
      rw [hl, if_neg (by simp)] at this
      exact (fork_iff.1 this).1
    obtain ⟨q1, q2⟩ := fork_halves hl hm hb (undS (rg allA (midS n) true)) (undS (rg (midS n) allA false))
    unfold trimN
    rw [hl, if_neg (by simp), if_neg (by simp)]
    unfold trimF
    dsimp only
    rw [q1, q2, e]
    simp
  · have e : n.ks = [] := by
      have := (may_iff.1 hm).2
      unfold fineB at this
      rw [hl, if_pos rfl] at this
      exact (leaf_iff.1 this).2.1
    obtain ⟨q1, q2⟩ := leaf_halves hl hm hb
    have h2' : 2 ≤ n.ps.length := by
      unfold midB at hb
      rw [if_pos hm, hl, if_pos rfl] at hb
      exact of_decide_eq_true hb
    obtain ⟨_, h3⟩ := half_lt h2'
    unfold trimN
    rw [hl, if_pos rfl, if_pos rfl]
    unfold psT
    dsimp only
    rw [List.length_map, List.length_map, q1, q2, e, List.length_take, List.length_drop]
    simp
    omega
theorem halves_less (n : Nat) : halfN n + (n - halfN n) = n ∧ n - halfN n ≤ halfN n ∧ halfN n ≤ n - halfN n + 1 := by unfold halfN; omega

/-- a beginning put ahead of a pair's key -/
def addP (s : ByteArray) (p : Pr) : Pr := ⟨s ++ p.key, p.val⟩
def joinL (a b : Pc) : List Pr := a.node.ps.map (addP a.strip) ++ b.node.ps.map (addP b.strip)
def leafMayB (n : Nd) : Bool := n.leaf && decide (mayI n = 0)
def riseB (l : List Pr) : Bool := upTo (riseAt l) l.length
def withinB (l : List Pr) (r : Rng) : Bool := l.all (inP r)
def joinE (a b : Pc) (r : Rng) : Int :=
  if leafMayB a.node && leafMayB b.node then if !emptyR r && (withinB (joinL a b) r && riseB (joinL a b)) then if 16 < (joinL a b).length then 13 else 0 else 1 else 3
def joinN (a b : Pc) (s : ByteArray) : Nd := ⟨true, (joinL a b).map (cutP s), [], [], []⟩
def joinP (a b : Pc) (lo hi : ByteArray) (e : Bool) : Pc := if joinE a b (rg lo hi e) = 0 then ⟨lo, undS (rg lo hi e), joinN a b (undS (rg lo hi e))⟩ else Pc.nil
theorem join_zero {a b : Pc} {r : Rng} (h : joinE a b r = 0) : leafMayB a.node = true ∧ leafMayB b.node = true ∧ emptyR r = false ∧ withinB (joinL a b) r = true ∧ riseB (joinL a b) = true ∧ (joinL a b).length ≤ 16 := by
  unfold joinE at h
  split at h
  · rename_i h1
    split at h
    · rename_i h2
      split at h
      · cases h
      · rename_i h3
        rw [Bool.and_eq_true] at h1
        rw [Bool.and_eq_true, Bool.and_eq_true, Bool.not_eq_true'] at h2
        exact ⟨h1.1, h1.2, h2.1, h2.2.1, h2.2.2, by omega⟩
    · cases h
  · cases h
/-- what was cut off is put ahead again -/
theorem add_cut {r : Rng} {p : Pr} (h : fitsT r (undS r) = true) (hp : inP r p = true) : addP (undS r) (cutP (undS r) p) = p := by
  have h1 := cutT_has (fits_all h (show inR r p.key.data.toList = true from hp))
  unfold addP cutP
  obtain ⟨k, v⟩ := p
  dsimp only at *
  congr 1
  apply ba_ext
  rw [app_data]
  exact h1.symm
theorem map_add_cut {r : Rng} {ps : List Pr} (h : fitsT r (undS r) = true) : (psT ps r (undS r)).map (addP (undS r)) = ps.filter (inP r) := by
  unfold psT
  rw [List.map_map]
  conv => rhs; rw [← List.map_id (ps.filter (inP r))]
  exact List.map_congr_left fun p hp => add_cut h (List.mem_filter.1 hp).2
theorem cut_nil (p : Pr) : cutP ⟨#[]⟩ p = p := by
  unfold cutP
  obtain ⟨k, v⟩ := p
  congr 1
  apply ba_ext
  rw [cutT_data]
  rfl
theorem all_under : undS (rg allA allA false) = ⟨#[]⟩ := by rfl
/-- halves of a leaf, joined, are the whole -/
theorem halves_join {n : Nd} (hl : n.leaf = true) (h : halvesE n allA allA false = 0) :
    joinE (wholeP n allA (midS n) true) (wholeP n (midS n) allA false) (rg allA allA false) = 0 ∧ joinP (wholeP n allA (midS n) true) (wholeP n (midS n) allA false) allA allA false = ⟨allA, allA, n⟩ := by
  obtain ⟨hm, hg, h1, h2⟩ := halves_zero h
  obtain ⟨hb, _, _⟩ := good_parts hg
  obtain ⟨q1, q2⟩ := leaf_halves hl hm hb
  obtain ⟨⟨l1, _, _⟩, hf⟩ := may_iff.1 hm
  unfold fineB at hf
  rw [hl, if_pos rfl] at hf
  obtain ⟨e2, e3, e4, _, hr⟩ := leaf_iff.1 hf
  have m1 := may_trim h1
  have m2 := may_trim h2
  have hL : joinL (wholeP n allA (midS n) true) (wholeP n (midS n) allA false) = n.ps := by
    rw [whole_zero h1, whole_zero h2]
    unfold joinL trimN
    rw [hl, if_pos rfl, if_pos rfl]
    dsimp only
    rw [map_add_cut (trim_zero h1).2.1, map_add_cut (trim_zero h2).2.1, q1, q2, List.take_append_drop]
  have hE : joinE (wholeP n allA (midS n) true) (wholeP n (midS n) allA false) (rg allA allA false) = 0 := by
    unfold joinE
    rw [hL]
    have b1 : leafMayB (wholeP n allA (midS n) true).node = true := by
      rw [whole_zero h1]
      unfold leafMayB
      dsimp only
      rw [decide_eq_true m1]
      unfold trimN
      rw [hl, if_pos rfl]
      rfl
    have b2 : leafMayB (wholeP n (midS n) allA false).node = true := by
      rw [whole_zero h2]
      unfold leafMayB
      dsimp only
      rw [decide_eq_true m2]
      unfold trimN
      rw [hl, if_pos rfl]
      rfl
    have b3 : withinB n.ps (rg allA allA false) = true := by
      unfold withinB
      rw [List.all_eq_true]
      intro x _
      show inR _ _ = true
      rw [in_from]
      show (!bytesLess _ []) = true
      rw [less_nil]
      rfl
    have b4 : riseB n.ps = true := rise_iff.2 hr
    rw [b1, b2, b3, b4, show emptyR (rg allA allA false) = false from rfl]
    simp
    omega
  refine ⟨hE, ?_⟩
  unfold joinP joinN
  rw [if_pos hE, all_under, hL]
  obtain ⟨lf, ps, pv, ks, bf⟩ := n
  dsimp only at *
  subst hl e2 e3 e4
  congr 2
  conv => rhs; rw [← List.map_id ps]
  exact List.map_congr_left fun p _ => cut_nil p
/-- a key leads in two pieces put together where it leads in the one in which it stands -/
theorem find_pw {ps : List Pr} (hr : ps.Pairwise lessP) {i : Nat} (hi : i < ps.length) : getV ps ps[i].key.data.toList = ps[i].val ∧ getB ps ps[i].key.data.toList = true := by
  have hn : (ps.take i).any (isK ps[i].key.data.toList) = false := by
    rw [List.any_eq_false]
    intro x hx
    obtain ⟨j, hj, rfl⟩ := List.getElem_of_mem hx
    rw [List.length_take] at hj
    rw [List.getElem_take]
    unfold isK
    rw [beq_iff_eq]
    intro e
    have := pw_at hr (show j < i by omega) hi
    unfold lessP at this
    rw [e, less_self] at this
    cases this
  have hf := found_at (List.getElem?_eq_getElem hi) hn (by unfold isK; rw [beq_self_eq_true])
  unfold getV getB getP
  rw [hf]
  exact ⟨rfl, rfl⟩
theorem join_leads {a b : Pc} {lo hi : ByteArray} {e : Bool} (h : joinE a b (rg lo hi e) = 0) {i : Nat} (hi' : i < a.node.ps.length) :
    has (a.strip ++ a.node.ps[i].key).data.toList (undS (rg lo hi e)).data.toList = true ∧
    (mayI (joinP a b lo hi e).node = 0 → (stepW (joinP a b lo hi e).node ((a.strip ++ a.node.ps[i].key).data.toList.drop (undS (rg lo hi e)).size)).val = a.node.ps[i].val) := by
  obtain ⟨_, _, _, hw, _, _⟩ := join_zero h
  have hLi : i < (joinL a b).length := by unfold joinL; rw [List.length_append, List.length_map]; omega
  have hat? : (joinL a b)[i]? = some (addP a.strip a.node.ps[i]) := by
    unfold joinL
    rw [List.getElem?_append_left (by rw [List.length_map]; exact hi'), List.getElem?_map, List.getElem?_eq_getElem hi']
    rfl
  have hat : (joinL a b)[i] = addP a.strip a.node.ps[i] := by
    rw [List.getElem?_eq_getElem hLi] at hat?
    exact Option.some.inj hat?
  have hin : inR (rg lo hi e) (a.strip ++ a.node.ps[i].key).data.toList = true := by
    unfold withinB at hw
    rw [List.all_eq_true] at hw
    have := hw _ (List.getElem_mem hLi)
    rw [hat] at this
    exact this
  have hh : has (a.strip ++ a.node.ps[i].key).data.toList (undS (rg lo hi e)).data.toList = true := by
    unfold undS
    rw [str_data]
    exact under_in hin
  refine ⟨hh, fun hm => ?_⟩
  have hj : (joinP a b lo hi e).node = joinN a b (undS (rg lo hi e)) := by unfold joinP; rw [if_pos h]
  rw [hj] at hm ⊢
  have hf := (may_iff.1 hm).2
  unfold fineB at hf
  rw [show (joinN a b (undS (rg lo hi e))).leaf = true from rfl, if_pos rfl] at hf
  have hr := (leaf_iff.1 hf).2.2.2.2
  have hk : i < (joinN a b (undS (rg lo hi e))).ps.length := by
    show i < ((joinL a b).map _).length
    rw [List.length_map]; exact hLi
  have hx : (joinN a b (undS (rg lo hi e))).ps[i] = cutP (undS (rg lo hi e)) (addP a.strip a.node.ps[i]) := by
    have : (joinN a b (undS (rg lo hi e))).ps[i]? = some (cutP (undS (rg lo hi e)) (addP a.strip a.node.ps[i])) := by
      show ((joinL a b).map _)[i]? = _
      rw [List.getElem?_map, hat?]
      rfl
    rw [List.getElem?_eq_getElem hk] at this
    exact Option.some.inj this
  obtain ⟨v1, v2⟩ := find_pw hr hk
  rw [hx] at v1 v2
  have hd : (cutP (undS (rg lo hi e)) (addP a.strip a.node.ps[i])).key.data.toList = (a.strip ++ a.node.ps[i].key).data.toList.drop (undS (rg lo hi e)).size := by
    show (cutT _ (a.strip ++ a.node.ps[i].key)).data.toList = _
    rw [cutT_data, Lib.size_eq]
  rw [hd] at v1 v2
  unfold stepW
  rw [if_pos hm, show (joinN a b (undS (rg lo hi e))).leaf = true from rfl, if_pos rfl]
  unfold pairW
  rw [v2, if_pos rfl, v1]
  rfl
end Go.Proofs.Ytlkcoaencliajaa.Key

namespace Go.Proofs.Ytlkcoaencliajaa.Key
open Go.RowKit Draw
open Go.Op (bytesLess)
set_option linter.unusedVariables false
set_option linter.unusedSimpArgs false

/-- a piece, and where its node's lists lie -/
abbrev PcQ := Pc × Pl
def Pc.cells (x : PcQ) : List Value := [.string x.1.lo, .string x.1.strip, .bool x.1.node.leaf, .slice x.2.a1 x.1.node.ps.length x.2.c1, .slice x.2.a2 x.1.node.pv.length x.2.c2, .slice x.2.a3 x.1.node.ks.length x.2.c3, .slice x.2.a4 x.1.node.bf.length x.2.c4]
abbrev pcv (x : Pc) (q : Pl) : Value := .agg #[.string x.lo, .string x.strip, .bool x.node.leaf, .slice q.a1 x.node.ps.length q.c1, .slice q.a2 x.node.pv.length q.c2, .slice q.a3 x.node.ks.length q.c3, .slice q.a4 x.node.bf.length q.c4]
theorem cells_len (x : PcQ) : (Pc.cells x).length = 7 := rfl
theorem oneQ (x : PcQ) : ∀ u ∈ Pc.cells x, u.oneCell' = true := by
  intro u hu
  simp only [Pc.cells, List.mem_cons, List.not_mem_nil, or_false] at hu
  rcases hu with rfl | rfl | rfl | rfl | rfl | rfl | rfl <;> rfl
set_option maxRecDepth 100000 in
theorem info36 : (Try.prog.info? 36).map (fun i => (i.zero, i.size, i.bytes)) = some (some (.agg #[.string ⟨#[]⟩, .string ⟨#[]⟩, .bool false, .slice none 0 0, .slice none 0 0, .slice none 0 0, .slice none 0 0]), 7, 136) := by kernel_rfl

/-- a block that holds a piece -/
def QBox (w : World) (k : Nat) (v0 v1 v2 v3 v4 v5 v6 : Value) : Prop := w.heap[k]? = some (.cells #[v0, v1, v2, v3, v4, v5, v6] 36 (0, 0))
theorem QBox.new (w : World) (v0 v1 v2 v3 v4 v5 v6 : Value) : QBox (w.alloc (.cells #[v0, v1, v2, v3, v4, v5, v6] 36)) w.heap.size v0 v1 v2 v3 v4 v5 v6 := Go.heap_alloc_new _ _
theorem QBox.lt {w : World} {k : Nat} {v0 v1 v2 v3 v4 v5 v6 : Value} (h : QBox w k v0 v1 v2 v3 v4 v5 v6) : k < w.heap.size := (Array.getElem?_eq_some_iff.1 h).1
theorem QBox.below {w w' : World} {k B : Nat} {v0 v1 v2 v3 v4 v5 v6 : Value} (h : QBox w k v0 v1 v2 v3 v4 v5 v6) (hb : Below B w w') (hB : k < B) : QBox w' k v0 v1 v2 v3 v4 v5 v6 := (hb.block k hB).trans h
theorem QBox.later {w w' : World} {k : Nat} {v0 v1 v2 v3 v4 v5 v6 : Value} (h : QBox w k v0 v1 v2 v3 v4 v5 v6) (hb : Below w.heap.size w w') : QBox w' k v0 v1 v2 v3 v4 v5 v6 := h.below hb h.lt
theorem QBox.alloc {w : World} {k : Nat} {v0 v1 v2 v3 v4 v5 v6 : Value} (h : QBox w k v0 v1 v2 v3 v4 v5 v6) (o : Obj) : QBox (w.alloc o) k v0 v1 v2 v3 v4 v5 v6 := h.later (below_box w o)
theorem QBox.cells {w : World} {k : Nat} {v0 v1 v2 v3 v4 v5 v6 : Value} (h : QBox w k v0 v1 v2 v3 v4 v5 v6) :
    w.cell? ⟨k, 0, none⟩ = some v0 ∧ w.cell? ⟨k, 1, none⟩ = some v1 ∧ w.cell? ⟨k, 2, none⟩ = some v2 ∧ w.cell? ⟨k, 3, none⟩ = some v3 ∧ w.cell? ⟨k, 4, none⟩ = some v4 ∧ w.cell? ⟨k, 5, none⟩ = some v5 ∧ w.cell? ⟨k, 6, none⟩ = some v6 :=
  ⟨cell_of_row _ _ 0 _ _ _ h, cell_of_row _ _ 1 _ _ _ h, cell_of_row _ _ 2 _ _ _ h, cell_of_row _ _ 3 _ _ _ h, cell_of_row _ _ 4 _ _ _ h, cell_of_row _ _ 5 _ _ _ h, cell_of_row _ _ 6 _ _ _ h⟩
theorem QBox.free {w : World} {k : Nat} {v0 v1 v2 v3 v4 v5 v6 : Value} (h : QBox w k v0 v1 v2 v3 v4 v5 v6) (i : Nat) : w.frozen? ⟨k, i, none⟩ = false := frozen_of_row _ _ i _ _ h
theorem QBox.kept {w u : World} {row : Option Nat} {k : Nat} {v0 v1 v2 v3 v4 v5 v6 : Value} (h : QBox w k v0 v1 v2 v3 v4 v5 v6) (hg : w.grownBy u row) (hne : some k ≠ row) : QBox u k v0 v1 v2 v3 v4 v5 v6 := (hg.block k h.lt hne).trans h
theorem QBox.put0 {w : World} {k : Nat} {v0 v1 v2 v3 v4 v5 v6 : Value} (h : QBox w k v0 v1 v2 v3 v4 v5 v6) (y : Value) : QBox (w.setCell ⟨k, 0, none⟩ y) k y v1 v2 v3 v4 v5 v6 := Go.Joins.block_setCell h y
theorem QBox.put1 {w : World} {k : Nat} {v0 v1 v2 v3 v4 v5 v6 : Value} (h : QBox w k v0 v1 v2 v3 v4 v5 v6) (y : Value) : QBox (w.setCell ⟨k, 1, none⟩ y) k v0 y v2 v3 v4 v5 v6 := Go.Joins.block_setCell h y
theorem QBox.put2 {w : World} {k : Nat} {v0 v1 v2 v3 v4 v5 v6 : Value} (h : QBox w k v0 v1 v2 v3 v4 v5 v6) (y : Value) : QBox (w.setCell ⟨k, 2, none⟩ y) k v0 v1 y v3 v4 v5 v6 := Go.Joins.block_setCell h y
theorem QBox.put3 {w : World} {k : Nat} {v0 v1 v2 v3 v4 v5 v6 : Value} (h : QBox w k v0 v1 v2 v3 v4 v5 v6) (y : Value) : QBox (w.setCell ⟨k, 3, none⟩ y) k v0 v1 v2 y v4 v5 v6 := Go.Joins.block_setCell h y
theorem QBox.put4 {w : World} {k : Nat} {v0 v1 v2 v3 v4 v5 v6 : Value} (h : QBox w k v0 v1 v2 v3 v4 v5 v6) (y : Value) : QBox (w.setCell ⟨k, 4, none⟩ y) k v0 v1 v2 v3 y v5 v6 := Go.Joins.block_setCell h y
theorem QBox.put5 {w : World} {k : Nat} {v0 v1 v2 v3 v4 v5 v6 : Value} (h : QBox w k v0 v1 v2 v3 v4 v5 v6) (y : Value) : QBox (w.setCell ⟨k, 5, none⟩ y) k v0 v1 v2 v3 v4 y v6 := Go.Joins.block_setCell h y
theorem QBox.put6 {w : World} {k : Nat} {v0 v1 v2 v3 v4 v5 v6 : Value} (h : QBox w k v0 v1 v2 v3 v4 v5 v6) (y : Value) : QBox (w.setCell ⟨k, 6, none⟩ y) k v0 v1 v2 v3 v4 v5 y := Go.Joins.block_setCell h y
theorem QBox.put {w : World} {k : Nat} {v0 v1 v2 v3 v4 v5 v6 : Value} (h : QBox w k v0 v1 v2 v3 v4 v5 v6) (y0 y1 y2 y3 y4 y5 y6 : Value) :
    QBox (((((((w.setCell ⟨k, 0, none⟩ y0).setCell ⟨k, 1, none⟩ y1).setCell ⟨k, 2, none⟩ y2).setCell ⟨k, 3, none⟩ y3).setCell ⟨k, 4, none⟩ y4).setCell ⟨k, 5, none⟩ y5).setCell ⟨k, 6, none⟩ y6) k y0 y1 y2 y3 y4 y5 y6 :=
  ((((((h.put0 y0).put1 y1).put2 y2).put3 y3).put4 y4).put5 y5).put6 y6
theorem QBox.each {w : World} {k : Nat} {x : Pc} {q : Pl} (h : QBox w k (.string x.lo) (.string x.strip) (.bool x.node.leaf) (.slice q.a1 x.node.ps.length q.c1) (.slice q.a2 x.node.pv.length q.c2) (.slice q.a3 x.node.ks.length q.c3) (.slice q.a4 x.node.bf.length q.c4)) :
    ∀ j u, (Pc.cells (x, q))[j]? = some u → w.cell? ⟨k, j, none⟩ = some u := by
  intro j u hu
  obtain ⟨h0, h1, h2, h3, h4, h5, h6⟩ := h.cells
  have hj : j < 7 := by have := (List.getElem?_eq_some_iff.1 hu).1; simpa [Pc.cells] using this
  match j, hj with
  | 0, _ => rw [← hu]; exact h0
  | 1, _ => rw [← hu]; exact h1
  | 2, _ => rw [← hu]; exact h2
  | 3, _ => rw [← hu]; exact h3
  | 4, _ => rw [← hu]; exact h4
  | 5, _ => rw [← hu]; exact h5
  | 6, _ => rw [← hu]; exact h6
theorem seven_set {B k : Nat} {w w' : World} (h : Below B w w') (hk : B ≤ k) (v0 v1 v2 v3 v4 v5 v6 : Value) :
    Below B w (((((((w'.setCell ⟨k, 0, none⟩ v0).setCell ⟨k, 1, none⟩ v1).setCell ⟨k, 2, none⟩ v2).setCell ⟨k, 3, none⟩ v3).setCell ⟨k, 4, none⟩ v4).setCell ⟨k, 5, none⟩ v5).setCell ⟨k, 6, none⟩ v6) :=
  ((((((h.setCell (p := ⟨k, 0, none⟩) hk v0).setCell (p := ⟨k, 1, none⟩) hk v1).setCell (p := ⟨k, 2, none⟩) hk v2).setCell (p := ⟨k, 3, none⟩) hk v3).setCell (p := ⟨k, 4, none⟩) hk v4).setCell (p := ⟨k, 5, none⟩) hk v5).setCell (p := ⟨k, 6, none⟩) hk v6
theorem row_seven {w : World} {B k : Nat} {y0 y1 y2 y3 y4 y5 y6 : Value} {e : TypeId} {sz : Nat} {v : Value} {n : Nat} {xs : List Value} (h : w.ownsRow B e sz v n xs) (hk : k < B) :
    (((((((w.setCell ⟨k, 0, none⟩ y0).setCell ⟨k, 1, none⟩ y1).setCell ⟨k, 2, none⟩ y2).setCell ⟨k, 3, none⟩ y3).setCell ⟨k, 4, none⟩ y4).setCell ⟨k, 5, none⟩ y5).setCell ⟨k, 6, none⟩ y6).ownsRow B e sz v n xs := row_set (row_set (row_set (row_set (row_set (row_set (row_set h hk) hk) hk) hk) hk) hk) hk

/-- a node whose lists are the call's own, where they lie -/
def OwnN (w : World) (B : Nat) (n : Nd) (q : Pl) : Prop := Owns w B n (.slice q.a1 n.ps.length q.c1) (.slice q.a2 n.pv.length q.c2) (.slice q.a3 n.ks.length q.c3) (.slice q.a4 n.bf.length q.c4)
theorem Owns.put {w : World} {B : Nat} {n : Nd} {x1 x2 x3 x4 : Value} (h : Owns w B n x1 x2 x3 x4) : ∃ q : Pl, x1 = .slice q.a1 n.ps.length q.c1 ∧ x2 = .slice q.a2 n.pv.length q.c2 ∧ x3 = .slice q.a3 n.ks.length q.c3 ∧ x4 = .slice q.a4 n.bf.length q.c4 ∧ OwnN w B n q := by
  obtain ⟨q, rfl, rfl, rfl, rfl, _⟩ := h.lies
  exact ⟨q, rfl, rfl, rfl, rfl, h⟩
theorem OwnN.lies {w : World} {B : Nat} {n : Nd} {q : Pl} (h : OwnN w B n q) : Lies w n q := by
  obtain ⟨q', e1, e2, e3, e4, hl⟩ := Owns.lies h
  obtain ⟨a1, c1, a2, c2, a3, c3, a4, c4⟩ := q
  obtain ⟨b1, d1, b2, d2, b3, d3, b4, d4⟩ := q'
  simp only [Value.slice.injEq, true_and] at e1 e2 e3 e4
  obtain ⟨rfl, rfl⟩ := e1
  obtain ⟨rfl, rfl⟩ := e2
  obtain ⟨rfl, rfl⟩ := e3
  obtain ⟨rfl, rfl⟩ := e4
  exact hl
theorem OwnN.later {w w' : World} {B : Nat} {n : Nd} {q : Pl} (h : OwnN w B n q) (hb : Below w.heap.size w w') : OwnN w' B n q := Owns.later h hb
theorem OwnN.mono {w : World} {B B' : Nat} {n : Nd} {q : Pl} (h : OwnN w B n q) (hB : B' ≤ B) : OwnN w B' n q := ⟨row_mono h.o1 hB, row_mono h.o2 hB, row_mono h.o3 hB, row_mono h.o4 hB⟩
theorem OwnN.seven {w : World} {B k : Nat} {n : Nd} {q : Pl} (h : OwnN w B n q) (hk : k < B) (y0 y1 y2 y3 y4 y5 y6 : Value) :
    OwnN (((((((w.setCell ⟨k, 0, none⟩ y0).setCell ⟨k, 1, none⟩ y1).setCell ⟨k, 2, none⟩ y2).setCell ⟨k, 3, none⟩ y3).setCell ⟨k, 4, none⟩ y4).setCell ⟨k, 5, none⟩ y5).setCell ⟨k, 6, none⟩ y6) B n q :=
  ⟨row_seven h.o1 hk, row_seven h.o2 hk, row_seven h.o3 hk, row_seven h.o4 hk⟩
theorem OwnN.nil (w : World) (B : Nat) : OwnN w B nilN ⟨none, 0, none, 0, none, 0, none, 0⟩ := ⟨row_nil _ _ _ _, row_nil _ _ _ _, row_nil _ _ _ _, row_nil _ _ _ _⟩
/-- kept while a row of pieces grows -/
theorem OwnN.grown {w u : World} {B B' : Nat} {n : Nd} {q : Pl} {v : Value} {m : Nat} {xs : List Value} (h : OwnN w B n q) (ho : w.ownsRow B' 36 7 v m xs) (hg : w.grownBy u v.ownBlock) : OwnN u B n q :=
  ⟨row_kept h.o1 ho (by decide) hg, row_kept h.o2 ho (by decide) hg, row_kept h.o3 ho (by decide) hg, row_kept h.o4 ho (by decide) hg⟩
/-- pieces in a row of the call's own -/
structure OwnQ (w : World) (B : Nat) (v : Value) (L : List PcQ) : Prop where
  row : w.ownsRow B 36 7 v L.length (L.flatMap Pc.cells)
  node : ∀ x ∈ L, OwnN w B x.1.node x.2
theorem OwnQ.later {w w' : World} {B : Nat} {v : Value} {L : List PcQ} (h : OwnQ w B v L) (hb : Below w.heap.size w w') : OwnQ w' B v L := ⟨row_later h.row hb, fun x hx => (h.node x hx).later hb⟩
theorem OwnQ.mono {w : World} {B B' : Nat} {v : Value} {L : List PcQ} (h : OwnQ w B v L) (hB : B' ≤ B) : OwnQ w B' v L := ⟨row_mono h.row hB, fun x hx => (h.node x hx).mono hB⟩
theorem OwnQ.nil (w : World) (B : Nat) : OwnQ w B (.slice none 0 0) [] := ⟨row_nil _ _ _ _, fun x hx => by cases hx⟩
/-- .. one more behind them -/
theorem OwnQ.more {w u : World} {B : Nat} {v v' : Value} {L : List PcQ} {x : PcQ} (h : OwnQ w B v L) (hx : OwnN w B x.1.node x.2) (hr : u.ownsRow B 36 7 v' (L ++ [x]).length ((L ++ [x]).flatMap Pc.cells)) (hg : w.grownBy u v.ownBlock) : OwnQ u B v' (L ++ [x]) := by
  refine ⟨hr, fun y hy => ?_⟩
  rcases List.mem_append.1 hy with hy | hy
  · exact (h.node y hy).grown h.row hg
  · rw [List.mem_singleton] at hy
    subst hy
    exact hx.grown h.row hg
/-- a slice of pieces -/
structure PcAt (w : World) (b o : Nat) (x : PcQ) : Prop where
  c0 : w.cell? ⟨b, o, none⟩ = some (.string x.1.lo)
  c1 : w.cell? ⟨b, o + 1, none⟩ = some (.string x.1.strip)
  c2 : w.cell? ⟨b, o + 2, none⟩ = some (.bool x.1.node.leaf)
  c3 : w.cell? ⟨b, o + 3, none⟩ = some (.slice x.2.a1 x.1.node.ps.length x.2.c1)
  c4 : w.cell? ⟨b, o + 4, none⟩ = some (.slice x.2.a2 x.1.node.pv.length x.2.c2)
  c5 : w.cell? ⟨b, o + 5, none⟩ = some (.slice x.2.a3 x.1.node.ks.length x.2.c3)
  c6 : w.cell? ⟨b, o + 6, none⟩ = some (.slice x.2.a4 x.1.node.bf.length x.2.c4)
theorem PcAt.later {w w' : World} {b o : Nat} {x : PcQ} (h : PcAt w b o x) (hb : Below w.heap.size w w') : PcAt w' b o x := by
  have hB := World.block_lt_of_cell? w _ h.c0
  exact ⟨(hb.cell (p := ⟨b, o, none⟩) hB).trans h.c0, (hb.cell (p := ⟨b, o + 1, none⟩) hB).trans h.c1, (hb.cell (p := ⟨b, o + 2, none⟩) hB).trans h.c2, (hb.cell (p := ⟨b, o + 3, none⟩) hB).trans h.c3, (hb.cell (p := ⟨b, o + 4, none⟩) hB).trans h.c4, (hb.cell (p := ⟨b, o + 5, none⟩) hB).trans h.c5, (hb.cell (p := ⟨b, o + 6, none⟩) hB).trans h.c6⟩
def Pcs (w : World) (a : Option Addr) (L : List PcQ) : Prop := L = [] ∨ ∃ b off, a = some ⟨b, off, none⟩ ∧ ∀ i (h : i < L.length), PcAt w b (off + i * 7) L[i] ∧ Lies w L[i].1.node L[i].2
theorem Pcs.at {w : World} {a : Option Addr} {L : List PcQ} (h : Pcs w a L) {i : Nat} (hi : i < L.length) : ∃ b off, a = some ⟨b, off, none⟩ ∧ PcAt w b (off + i * 7) L[i] ∧ Lies w L[i].1.node L[i].2 := by
  rcases h with rfl | ⟨b, off, rfl, hc⟩
  · simp at hi
  · exact ⟨b, off, rfl, hc i hi⟩
theorem Pcs.later {w w' : World} {a : Option Addr} {L : List PcQ} (h : Pcs w a L) (hb : Below w.heap.size w w') : Pcs w' a L := by
  rcases h with rfl | ⟨b, off, rfl, hc⟩
  · exact .inl rfl
  · exact .inr ⟨b, off, rfl, fun i hi => ⟨(hc i hi).1.later hb, (hc i hi).2.later hb⟩⟩
theorem OwnQ.lies {w : World} {B : Nat} {v : Value} {L : List PcQ} (h : OwnQ w B v L) : ∃ a c, v = .slice a L.length c ∧ Pcs w a L := by
  obtain ⟨a, c, e, h1⟩ := row_cells Pc.cells 7 (fun _ => rfl) h.row
  refine ⟨a, c, e, ?_⟩
  rcases h1 with h1 | ⟨g, e, _, _, hc⟩
  · exact .inl h1
  · exact .inr ⟨g, 0, e, fun i hi => ⟨⟨hc i hi 0 _ (by omega) rfl, hc i hi 1 _ (by omega) rfl, hc i hi 2 _ (by omega) rfl, hc i hi 3 _ (by omega) rfl, hc i hi 4 _ (by omega) rfl, hc i hi 5 _ (by omega) rfl, hc i hi 6 _ (by omega) rfl⟩, (h.node _ (List.getElem_mem hi)).lies⟩⟩
end Go.Proofs.Ytlkcoaencliajaa.Key

namespace Go.Proofs.Ytlkcoaencliajaa.Key
open Go.RowKit
open Go.Op (bytesLess)

/-- whether all keys of a range begin with so many bytes of its first key, as the document asks it -/
theorem inside_all (r : Rng) (n : Nat) (h : emptyR r = false) : insideR r (ofR (r.lo.take n)) = allN r n := by
  unfold insideR allN
  rw [h]
  simp only [ofR, has_le (has_take r.lo n), Bool.not_false, Bool.true_and, Bool.false_or]
  cases succ (r.lo.take n) <;> simp
set_option maxRecDepth 100000 in
set_option maxHeartbeats 1000000 in
/-- Between, the program's -/
theorem between17 (a b : ByteArray) (w : World) (ha : a.size ≤ 1000000) (hb : b.size ≤ 1000000) :
    Calls Try.prog 55 #[.string a, .string b] w fun x w' => x = .returned (.string (str (between a.data.toList b.data.toList))) ∧ Below w.heap.size w w' := by
  cases hl : bytesLess a.toList b.toList
  · have H : between a.data.toList b.data.toList = [] := by rw [less_str] at hl; simp [between, hl]
    have H1 := hid H
    clear H
    go_enter Try.func55, Try.ntmps55
    go_wp2_with fail
    go_ret
    exact ⟨ret_str (by rw [H1.out]; rfl), Below.refl _ _⟩
  · have hl' := hl
    rw [less_str] at hl'
    have hc := (common_less hl').1
    rw [← Lib.size_eq] at hc
    have H : between a.data.toList b.data.toList = b.data.toList.take ((common a.data.toList b.data.toList).length + 1) := by simp [between, hl']
    have H1 := hid H
    have hz := str_size (common a.data.toList b.data.toList)
    have HC := common15 a b w ha hb
    generalize str (common a.data.toList b.data.toList) = S at *
    generalize (common a.data.toList b.data.toList).length = C at *
    clear H hl'
    go_enter Try.func55, Try.ntmps55
    go_wp2_with fail
    refine HC.mono ?_
    clear HC
    rintro x w' ⟨rfl, hbw⟩
    have hi : (C : Int) + 1 ≤ (b.size : Int) := by omega
    go_wp2_with fail
    go_ret
    exact ⟨ret_str (by rw [H1.out, cut_eq]), hbw⟩

theorem gt_yes {x y : ByteArray} (h : (!bytesLess x.toList y.toList) = true ∧ (!x.toList == y.toList) = true) : bytesLess y.data.toList x.data.toList = true := by
  rw [Lib.toList_data, Lib.toList_data] at h
  cases hc : bytesLess y.data.toList x.data.toList
  · have h1 : bytesLess x.data.toList y.data.toList = false := by simpa using h.1
    rw [less_same h1 hc] at h
    simp at h
  · rfl
theorem gt_no {x y : ByteArray} (h : (!bytesLess x.toList y.toList) = false ∨ (!x.toList == y.toList) = false) : bytesLess y.data.toList x.data.toList = false := by
  rw [Lib.toList_data, Lib.toList_data] at h
  rcases h with h | h
  · exact less_asymm (by simpa using h)
  · have h1 : x.data.toList = y.data.toList := by simpa using h
    rw [h1]
    exact less_self _
set_option maxRecDepth 100000 in
set_option maxHeartbeats 1000000 in
/-- Between, the document's -/
theorem between18 (a b : ByteArray) (w : World) (hb : b.size ≤ 1000000) :
    Calls Try.prog 32 #[.string a, .string b] w fun x w' => x = .returned (.string (str (between a.data.toList b.data.toList))) ∧ w' = w := by
  go_enter Try.func32, Try.ntmps32
  go_wp2_with fail
  go_loop [5] (fun n => ∃ j : Nat, j ≤ b.size + 1 ∧ n = .int .i64 j ∧ Hid (bytesLess a.data.toList b.data.toList = true → j ≤ (common a.data.toList b.data.toList).length + 1)) (fun n => b.size + 1 - (intOf n).toNat)
  case atStart => exact ⟨0, Nat.zero_le _, rfl, hid (fun _ => Nat.zero_le _)⟩
  case round =>
    obtain ⟨j, hj, rfl, hs⟩ := hrel
    go_wp2_with fail
    · have hg := gt_yes ‹_›
      rw [cut_data] at hg
      go_ret
      refine ⟨ret_str ?_, rfl⟩
      have hl : bytesLess a.data.toList b.data.toList = true := by
        cases h : bytesLess a.data.toList b.data.toList
        · rw [less_part j h] at hg
          cases hg
        · rfl
      have h1 := hs.out hl
      have h2 : ¬ j ≤ (common a.data.toList b.data.toList).length := fun h => by
        rw [common_part j h] at hg
        cases hg
      rw [cut_eq, between, hl, if_pos rfl, show j = (common a.data.toList b.data.toList).length + 1 by omega]
    · have hg := gt_no ‹_›
      rw [cut_data] at hg
      have hj1 : j ≤ b.size := by assumption
      refine ⟨⟨j + 1, by omega, rfl, hid fun hl => ?_⟩, by simp [intOf]; omega⟩
      have h1 := hs.out hl
      have h2 : j ≠ (common a.data.toList b.data.toList).length + 1 := fun h => by
        rw [h, (common_less hl).2] at hg
        cases hg
      omega
    · have hj1 : ¬ j ≤ b.size := by assumption
      go_ret
      refine ⟨ret_str ?_, rfl⟩
      have hl : bytesLess a.data.toList b.data.toList = false := by
        cases h : bytesLess a.data.toList b.data.toList
        · rfl
        · have h1 := hs.out h
          have h2 := (common_less h).1
          rw [← Lib.size_eq] at h2
          omega
      rw [between, hl]
      rfl
set_option maxRecDepth 100000 in
set_option maxHeartbeats 1000000 in
/-- Under, the document's -/
theorem under25 (lo hi : ByteArray) (e : Bool) (w : World) (h1 : lo.size ≤ 1000) :
    Calls Try.prog 36 #[.agg #[.string lo, .string hi, .bool e]] w fun x w' => x = .returned (.string (str (under (rg lo hi e)))) ∧ Below w.heap.size w w' := by
  cases hE : emptyR (rg lo hi e)
  · have HU := hid (best_under _ hE)
    have HI := hid (fun n => inside_all (rg lo hi e) n hE)
    have HE := empty28 lo hi e
    rw [hE] at HE
    clear hE
    go_enter Try.func36, Try.ntmps36
    go_wp2_with fail
    refine (HE _).mono ?_
    clear HE
    rintro x w' ⟨rfl, hbw⟩
    have hx := (Box.new w (.string lo) (.string hi) (.bool e)).later hbw
    have hb : Below w.heap.size w w' := (below_box _ _).trans (hbw.mono (by simp))
    clear hbw
    go_wp2_with fail
    go_loopw [3, 4] (fun p n wr => ∃ j : Nat, j ≤ lo.size ∧ n = .int .i64 ((j : Int) + 1) ∧ p = .string (str (lo.data.toList.take (bestN (rg lo hi e) j))) ∧ Below w.heap.size w wr ∧ Box wr w.heap.size (.string lo) (.string hi) (.bool e)) (fun _ n _ => lo.size + 1 - (intOf n).toNat)
    case atStart => exact ⟨0, Nat.zero_le _, rfl, rfl, hb, hx⟩
    case round =>
      obtain ⟨j, hj, rfl, hp, hbr, hxr⟩ := hrel
      obtain ⟨a0, a1, a2⟩ := hxr.cells
      by_cases hin : j < lo.size
      · have k1 : (j : Int) + 1 ≤ (lo.size : Int) := by omega
        have hPz : (lo.extract 0 (j + 1)).size ≤ 1000 := by simp; omega
        have hI : insideR (rg lo hi e) (rg (lo.extract 0 (j + 1)) (sucS (lo.extract 0 (j + 1)).data.toList) (sucO (lo.extract 0 (j + 1)).data.toList)) = allN (rg lo hi e) (j + 1) := by
          have := HI.out (j + 1)
          rw [← this]
          unfold rg sucS sucO ofR
          rw [str_data, cut_data]
        have hO := fun u => of27 (lo.extract 0 (j + 1)) u (by omega)
        have hN := fun u => inside31 lo hi (lo.extract 0 (j + 1)) (sucS (lo.extract 0 (j + 1)).data.toList) e (sucO (lo.extract 0 (j + 1)).data.toList) u
        rw [hI] at hN
        have hB : bestN (rg lo hi e) (j + 1) = if allN (rg lo hi e) (j + 1) then j + 1 else bestN (rg lo hi e) j := rfl
        generalize sucS (lo.extract 0 (j + 1)).data.toList = S at *
        generalize sucO (lo.extract 0 (j + 1)).data.toList = o at *
        generalize allN (rg lo hi e) (j + 1) = al at *
        have HB := hid hB
        have HO := hid hO
        have HN := hid hN
        have HP := hid hp
        clear hI hB hO hN hp
        go_wp2_with fail
        refine wp_region_quiet (C := fun u => Below wr.heap.size wr u) (by kernel_rfl) (by kernel_rfl) ((Below.refl _ wr).drew) ?_
        change wpQuiet _ _ _ _ (_ :: _) _
        refine wpQuiet_step (fun K hK => ?_)
        refine quiet_val (.agg #[.string lo, .string hi, .bool e]) (by kernel_rfl) (fun u hu => by obtain ⟨b0, b1, b2⟩ := (hxr.later hu).cells; go_simp) ?_
        go_simp
        refine hK _ ?_
        clear hK K
        refine wpQuiet_step (fun K hK => ?_)
        refine quiet_val (.pointer (some ⟨w.heap.size, 0, none⟩)) (by kernel_rfl) (fun u hu => by go_simp) ?_
        go_simp
        refine hK _ ?_
        clear hK K
        refine wpQuiet_step (fun K hK => ?_)
        refine quiet_val (.string lo) (by kernel_rfl) (fun u hu => by obtain ⟨b0, b1, b2⟩ := (hxr.later hu).cells; go_simp) ?_
        go_simp
        refine hK _ ?_
        clear hK K
        refine wpQuiet_step (fun K hK => ?_)
        refine quiet_val (.int .i64 ((j : Int) + 1)) (by kernel_rfl) (fun u hu => by go_simp) ?_
        go_simp
        refine hK _ ?_
        clear hK K
        refine wpQuiet_step (fun K hK => ?_)
        refine quiet_val (.string (lo.extract 0 (j + 1))) (by kernel_rfl) (fun u hu => by go_simp; intro h; omega) ?_
        go_simp
        refine hK _ ?_
        clear hK K
        refine wpQuiet_step (fun K hK => ?_)
        refine quiet_call (.agg #[.string (lo.extract 0 (j + 1)), .string S, .bool o]) 62 #[.string (lo.extract 0 (j + 1))] (by kernel_rfl) (fun u hu => by go_simp) (fun u hu => (HO.out u).mono fun x u' h => ⟨h.1, hu.trans (h.2.mono hu.size)⟩) ?_
        go_simp
        refine hK _ ?_
        clear hK K
        refine wpQuiet_step (fun K hK => ?_)
        refine quiet_call (.bool al) 61 #[.agg #[.string lo, .string hi, .bool e], .agg #[.string (lo.extract 0 (j + 1)), .string S, .bool o]] (by kernel_rfl) (fun u hu => by go_simp) (fun u hu => (HN.out u).mono fun x u' h => ⟨h.1, hu.trans (h.2.mono hu.size)⟩) ?_
        go_simp
        refine hK _ ?_
        clear hK K
        refine wpQuiet_nil (fun u hu => ?_)
        have hxu := hxr.later hu
        have hbu : Below w.heap.size w u := hbr.trans (hu.mono hbr.size)
        clear a0 a1 a2
        obtain ⟨a0, a1, a2⟩ := hxu.cells
        cases al
        · go_wp2_with fail
          exact ⟨⟨j + 1, by omega, rfl, by rw [HB.out]; exact HP.out, hbu, hxu⟩, by simp [intOf]; omega⟩
        · go_wp2_with fail
          exact ⟨⟨j + 1, by omega, rfl, by rw [HB.out, cut_eq]; rfl, hbu, hxu⟩, by simp [intOf]; omega⟩
      · have k1 : decide ((j : Int) + 1 ≤ (lo.size : Int)) = false := by simp; omega
        have HP := hid hp
        subst hp
        go_wp2_with fail
        go_ret
        refine ⟨ret_str ?_, hbr⟩
        have hj1 : j = (rg lo hi e).lo.length := by show j = lo.data.toList.length; rw [← Lib.size_eq]; omega
        rw [hj1, HU.out]
        rfl
  · have HU := hid (under_empty hE)
    have HE := empty28 lo hi e
    rw [hE] at HE
    clear hE
    go_enter Try.func36, Try.ntmps36
    go_wp2_with fail
    refine (HE _).mono ?_
    clear HE
    rintro x w' ⟨rfl, hbw⟩
    go_wp2_with fail
    go_ret
    exact ⟨ret_str (by rw [HU.out]; rfl), (below_box _ _).trans (hbw.mono (by simp))⟩
end Go.Proofs.Ytlkcoaencliajaa.Key

namespace Go.Proofs.Ytlkcoaencliajaa.Key
open Go.RowKit Draw
open Go.Op (bytesLess)
set_option linter.unusedVariables false
set_option linter.unusedSimpArgs false

/-- what Whole answers -/
def WholeSay (w w' : World) (x : Ending) (n : Nd) (lo hi : ByteArray) (e : Bool) : Prop :=
  ∃ q : Pl, x = .returned (.tuple #[pcv (wholeP n lo hi e) q, .int .i64 (wholeE n (rg lo hi e))]) ∧ OwnN w' w.heap.size (wholeP n lo hi e).node q
theorem whole_say_none {w w' : World} {x : Ending} {n : Nd} {lo hi : ByteArray} {e : Bool} {z : Int} (hz : wholeE n (rg lo hi e) = z) (h0 : z ≠ 0)
    (hx : x = .returned (.tuple #[.agg #[.string ⟨#[]⟩, .string ⟨#[]⟩, .bool false, .slice none 0 0, .slice none 0 0, .slice none 0 0, .slice none 0 0], .int .i64 z])) : WholeSay w w' x n lo hi e := by
  have e' : wholeP n lo hi e = Pc.nil := by unfold wholeP; rw [hz, if_neg h0]
  refine ⟨⟨none, 0, none, 0, none, 0, none, 0⟩, ?_, ?_⟩
  · rw [hx, hz, e']; rfl
  · rw [e']; exact OwnN.nil _ _
theorem whole_say_some {w w' : World} {x : Ending} {n : Nd} {lo hi : ByteArray} {e : Bool} {m : Nd} {s : ByteArray} {q : Pl} {B : Nat} (hz : wholeE n (rg lo hi e) = 0) (hs : undS (rg lo hi e) = s) (hm : trimA n (rg lo hi e) s = m)
    (hx : x = .returned (.tuple #[.agg #[.string lo, .string s, .bool m.leaf, .slice q.a1 m.ps.length q.c1, .slice q.a2 m.pv.length q.c2, .slice q.a3 m.ks.length q.c3, .slice q.a4 m.bf.length q.c4], .int .i64 0])) (hO : OwnN w' B m q) (hB : w.heap.size ≤ B) : WholeSay w w' x n lo hi e := by
  have e' : wholeP n lo hi e = ⟨lo, s, m⟩ := by unfold wholeP; rw [if_pos hz, hs, hm]
  refine ⟨q, ?_, ?_⟩
  · rw [hx, hz, e']
  · rw [e']; exact hO.mono hB
theorem boxes_nrq (w : World) (v0 v1 v2 v3 v4 r0 r1 r2 x0 x1 x2 x3 x4 x5 x6 : Value) :
    NBox (((w.alloc (.cells #[v0, v1, v2, v3, v4] 27)).alloc (.cells #[r0, r1, r2] 29)).alloc (.cells #[x0, x1, x2, x3, x4, x5, x6] 36)) w.heap.size v0 v1 v2 v3 v4 ∧
    Box (((w.alloc (.cells #[v0, v1, v2, v3, v4] 27)).alloc (.cells #[r0, r1, r2] 29)).alloc (.cells #[x0, x1, x2, x3, x4, x5, x6] 36)) (w.heap.size + 1) r0 r1 r2 ∧
    QBox (((w.alloc (.cells #[v0, v1, v2, v3, v4] 27)).alloc (.cells #[r0, r1, r2] 29)).alloc (.cells #[x0, x1, x2, x3, x4, x5, x6] 36)) (w.heap.size + 1 + 1) x0 x1 x2 x3 x4 x5 x6 ∧
    Below w.heap.size w (((w.alloc (.cells #[v0, v1, v2, v3, v4] 27)).alloc (.cells #[r0, r1, r2] 29)).alloc (.cells #[x0, x1, x2, x3, x4, x5, x6] 36)) := by
  have a1 : (w.alloc (.cells #[v0, v1, v2, v3, v4] 27)).heap.size = w.heap.size + 1 := by simp
  have a2 : ((w.alloc (.cells #[v0, v1, v2, v3, v4] 27)).alloc (.cells #[r0, r1, r2] 29)).heap.size = w.heap.size + 1 + 1 := by simp
  have h0 := NBox.new w v0 v1 v2 v3 v4
  have h1 := Box.new (w.alloc (.cells #[v0, v1, v2, v3, v4] 27)) r0 r1 r2
  have h2 := QBox.new ((w.alloc (.cells #[v0, v1, v2, v3, v4] 27)).alloc (.cells #[r0, r1, r2] 29)) x0 x1 x2 x3 x4 x5 x6
  rw [a1] at h1
  rw [a2] at h2
  exact ⟨(h0.alloc _).alloc _, h1.alloc _, h2, ((below_box w _).alloc (by simp) _).alloc (by simp; omega) _⟩

set_option maxRecDepth 100000 in
set_option maxHeartbeats 1000000 in
theorem whole12 (n : Nd) (p : Pl) (lo hi : ByteArray) (e : Bool) (w : World) (hf : Few n) (h : Lies w n p) (hlo : lo.size ≤ 1000) (hhi : hi.size ≤ 1000) :
    Calls Try.prog 12 #[nv n p, av lo hi e] w fun x w' => WholeSay w w' x n lo hi e ∧ Below w.heap.size w w' := by
  have HU := hid (fun wr => under24 lo hi e wr hlo hhi)
  have HT := hid (fun wr (hb : Below w.heap.size w wr) => trim10 n p lo hi e (undS (rg lo hi e)) wr hf (h.later hb) hlo hhi (Nat.le_trans (und_size lo hi e) hlo))
  unfold TrimSay at HT
  rw [show str (under (rg lo hi e)) = undS (rg lo hi e) from rfl] at HU
  obtain ⟨S, hS⟩ : ∃ S, undS (rg lo hi e) = S := ⟨_, rfl⟩
  obtain ⟨m, hm⟩ : ∃ m, trimA n (rg lo hi e) S = m := ⟨_, rfl⟩
  obtain ⟨z, hz⟩ : ∃ z, wholeE n (rg lo hi e) = z := ⟨_, rfl⟩
  have HS := hid (And.intro hS (And.intro hm hz))
  have hz' : trimE n (rg lo hi e) S = z := by rw [← hS]; exact hz
  rw [hS] at HU HT
  rw [hm, hz'] at HT
  clear h hf hz' hS hm hz
  obtain ⟨A0, R0, Q0, hb0⟩ := boxes_nrq w (.bool n.leaf) (.slice p.a1 n.ps.length p.c1) (.slice p.a2 n.pv.length p.c2) (.slice p.a3 n.ks.length p.c3) (.slice p.a4 n.bf.length p.c4) (.string lo) (.string hi) (.bool e) (.string ⟨#[]⟩) (.string ⟨#[]⟩) (.bool false) (.slice none 0 0) (.slice none 0 0) (.slice none 0 0) (.slice none 0 0)
  obtain ⟨lB, ps, ws, ks, bf⟩ := n
  obtain ⟨a1, c1, a2, c2, a3, c3, a4, c4⟩ := p
  obtain ⟨lm, ps', pv', ks', bf'⟩ := m
  dsimp only [nv] at *
  generalize ps.length = n1 at *
  generalize ws.length = n2 at *
  generalize ks.length = n3 at *
  generalize bf.length = n4 at *
  have key : ∀ z0, Hid (z = z0) → Calls Try.prog 12 #[.agg #[.bool lB, .slice a1 n1 c1, .slice a2 n2 c2, .slice a3 n3 c3, .slice a4 n4 c4], av lo hi e] w fun x w' => WholeSay w w' x ⟨lB, ps, ws, ks, bf⟩ lo hi e ∧ Below w.heap.size w w' := by
    intro z0 hz0
    by_cases h0 : z = 0
    all_goals
      clear hz0
      go_enter Try.func12, Try.ntmps12
      go_upto_region 1 with fail
      generalize ((w.alloc (.cells #[.bool lB, .slice a1 n1 c1, .slice a2 n2 c2, .slice a3 n3 c3, .slice a4 n4 c4] 27)).alloc (.cells #[.string lo, .string hi, .bool e] 29)).alloc (.cells #[.string ⟨#[]⟩, .string ⟨#[]⟩, .bool false, .slice none 0 0, .slice none 0 0, .slice none 0 0, .slice none 0 0] 36) = w3 at *
      generalize hk0 : w.heap.size = k0 at *
      generalize hk1 : k0 + 1 = k1 at *
      generalize hk2 : k1 + 1 = k2 at *
      have HQ0 := hid hk0
      have HQ := hid (And.intro hk1 hk2)
      clear hk0 hk1 hk2
      have hkk := HQ.out
      obtain ⟨r0, r1, r2⟩ := R0.cells
      go_wp2_with fail
      refine (HU.out _).mono ?_
      rintro x w4 ⟨rfl, hb4⟩
      have hs4 := hb4.size
      have A4 := A0.later hb4
      have R4 := R0.later hb4
      have Q4 := Q0.later hb4
      replace hb4 := hb0.trans (hb4.mono (by have := Q0.lt; omega))
      clear HU r0 r1 r2 A0 R0 Q0
      obtain ⟨r0, r1, r2⟩ := R4.cells
      obtain ⟨m0, m1, m2, m3, m4⟩ := A4.cells
      go_wp2_with fail
      refine (HT.out _ hb4).mono ?_
      rintro x w5 ⟨⟨x1, x2, x3, x4, rfl, hO⟩, hb5⟩
      obtain ⟨q, rfl, rfl, rfl, rfl, hN⟩ := hO.put
      have R5 := R4.later hb5
      have Q5 := Q4.later hb5
      have hq5 := Q4.lt
      replace hb5 := hb4.trans (hb5.mono (by omega))
      clear HT r0 r1 r2 m0 m1 m2 m3 m4 A4 R4 Q4 hO
      have N5 := NBox.new w5 (.bool lm) (.slice q.a1 ps'.length q.c1) (.slice q.a2 pv'.length q.c2) (.slice q.a3 ks'.length q.c3) (.slice q.a4 bf'.length q.c4)
      have bx := below_box w5 (.cells #[.bool lm, .slice q.a1 ps'.length q.c1, .slice q.a2 pv'.length q.c2, .slice q.a3 ks'.length q.c3, .slice q.a4 bf'.length q.c4] 27)
      have R6 := R5.later bx
      have Q6 := Q5.later bx
      have hN6 := hN.later bx
      have hb6 := hb5.trans (bx.mono (by have := Q5.lt; omega))
      clear R5 Q5 hN bx hb5
      go_upto_region 3 with fail
      generalize w5.heap.size = k5 at *
      generalize w5.alloc (.cells #[.bool lm, .slice q.a1 ps'.length q.c1, .slice q.a2 pv'.length q.c2, .slice q.a3 ks'.length q.c3, .slice q.a4 bf'.length q.c4] 27) = w6 at *
      obtain ⟨r0, r1, r2⟩ := R6.cells
      obtain ⟨m0, m1, m2, m3, m4⟩ := N5.cells
      have f := Q6.free
      have f0 := f 0
      have f1 := f 1
      have f2 := f 2
      have f3 := f 3
      have f4 := f 4
      have f5 := f 5
      have f6 := f 6
      clear f
      obtain ⟨z0, z1, z2, z3, z4, z5, z6⟩ := Q6.cells
    · skip
      subst h0
      have hb9 := seven_set hb6 (show k0 ≤ k2 by omega) (.string lo) (.string S) (.bool lm) (.slice q.a1 ps'.length q.c1) (.slice q.a2 pv'.length q.c2) (.slice q.a3 ks'.length q.c3) (.slice q.a4 bf'.length q.c4)
      have hN9 := hN6.seven (show k2 < w4.heap.size by omega) (.string lo) (.string S) (.bool lm) (.slice q.a1 ps'.length q.c1) (.slice q.a2 pv'.length q.c2) (.slice q.a3 ks'.length q.c3) (.slice q.a4 bf'.length q.c4)
      have hBB : k0 ≤ w4.heap.size := by omega
      go_wp2_with fail
      refine bodyPost_ret (v := .tuple #[.agg #[.string lo, .string S, .bool lm, .slice q.a1 ps'.length q.c1, .slice q.a2 pv'.length q.c2, .slice q.a3 ks'.length q.c3, .slice q.a4 bf'.length q.c4], .int .i64 0]) (by simp [results, Try.results12, go_sem, z0, z1, z2, z3, z4, z5, z6]) rfl ⟨?_, ?_⟩
      · exact whole_say_some HS.out.2.2 HS.out.1 HS.out.2.1 rfl hN9 (by rw [HQ0.out]; exact hBB)
      · rw [HQ0.out]; exact hb9
    · skip
      have hb9 := seven_set hb6 (show k0 ≤ k2 by omega) (.string ⟨#[]⟩) (.string ⟨#[]⟩) (.bool false) (.slice none 0 0) (.slice none 0 0) (.slice none 0 0) (.slice none 0 0)
      go_wp2_with fail
      refine bodyPost_ret (v := .tuple #[.agg #[.string ⟨#[]⟩, .string ⟨#[]⟩, .bool false, .slice none 0 0, .slice none 0 0, .slice none 0 0, .slice none 0 0], .int .i64 z]) (by simp [results, Try.results12, go_sem, z0, z1, z2, z3, z4, z5, z6]) rfl ⟨?_, ?_⟩
      · exact whole_say_none HS.out.2.2 h0 rfl
      · rw [HQ0.out]; exact hb9
  exact key z (hid rfl)
set_option maxRecDepth 100000 in
set_option maxHeartbeats 1000000 in
theorem whole13 (n : Nd) (p : Pl) (lo hi : ByteArray) (e : Bool) (w : World) (hf : Few n) (h : Lies w n p) (hd : ∀ m ∈ n.bf, 0 ≤ m.deep) (hlo : lo.size ≤ 1000) (hhi : hi.size ≤ 1000) :
    Calls Try.prog 13 #[nv n p, av lo hi e] w fun x w' => WholeSay w w' x n lo hi e ∧ Below w.heap.size w w' := by
  have HU := hid (fun wr => under25 lo hi e wr hlo)
  have HT := hid (fun wr (hb : Below w.heap.size w wr) => trim11 n p lo hi e (undS (rg lo hi e)) wr hf (h.later hb) hd hlo hhi (Nat.le_trans (und_size lo hi e) hlo))
  unfold TrimSay at HT
  rw [show str (under (rg lo hi e)) = undS (rg lo hi e) from rfl] at HU
  obtain ⟨S, hS⟩ : ∃ S, undS (rg lo hi e) = S := ⟨_, rfl⟩
  obtain ⟨m, hm⟩ : ∃ m, trimA n (rg lo hi e) S = m := ⟨_, rfl⟩
  obtain ⟨z, hz⟩ : ∃ z, wholeE n (rg lo hi e) = z := ⟨_, rfl⟩
  have HS := hid (And.intro hS (And.intro hm hz))
  have hz' : trimE n (rg lo hi e) S = z := by rw [← hS]; exact hz
  rw [hS] at HU HT
  rw [hm, hz'] at HT
  clear h hf hz' hS hm hz
  obtain ⟨A0, R0, Q0, hb0⟩ := boxes_nrq w (.bool n.leaf) (.slice p.a1 n.ps.length p.c1) (.slice p.a2 n.pv.length p.c2) (.slice p.a3 n.ks.length p.c3) (.slice p.a4 n.bf.length p.c4) (.string lo) (.string hi) (.bool e) (.string ⟨#[]⟩) (.string ⟨#[]⟩) (.bool false) (.slice none 0 0) (.slice none 0 0) (.slice none 0 0) (.slice none 0 0)
  obtain ⟨lB, ps, ws, ks, bf⟩ := n
  obtain ⟨a1, c1, a2, c2, a3, c3, a4, c4⟩ := p
  obtain ⟨lm, ps', pv', ks', bf'⟩ := m
  dsimp only [nv] at *
  generalize ps.length = n1 at *
  generalize ws.length = n2 at *
  generalize ks.length = n3 at *
  generalize bf.length = n4 at *
  have key : ∀ z0, Hid (z = z0) → Calls Try.prog 13 #[.agg #[.bool lB, .slice a1 n1 c1, .slice a2 n2 c2, .slice a3 n3 c3, .slice a4 n4 c4], av lo hi e] w fun x w' => WholeSay w w' x ⟨lB, ps, ws, ks, bf⟩ lo hi e ∧ Below w.heap.size w w' := by
    intro z0 hz0
    by_cases h0 : z = 0
    all_goals
      clear hz0
      go_enter Try.func13, Try.ntmps13
      go_upto_region 1 with fail
      generalize ((w.alloc (.cells #[.bool lB, .slice a1 n1 c1, .slice a2 n2 c2, .slice a3 n3 c3, .slice a4 n4 c4] 27)).alloc (.cells #[.string lo, .string hi, .bool e] 29)).alloc (.cells #[.string ⟨#[]⟩, .string ⟨#[]⟩, .bool false, .slice none 0 0, .slice none 0 0, .slice none 0 0, .slice none 0 0] 36) = w3 at *
      generalize hk0 : w.heap.size = k0 at *
      generalize hk1 : k0 + 1 = k1 at *
      generalize hk2 : k1 + 1 = k2 at *
      have HQ0 := hid hk0
      have HQ := hid (And.intro hk1 hk2)
      clear hk0 hk1 hk2
      have hkk := HQ.out
      obtain ⟨r0, r1, r2⟩ := R0.cells
      go_wp2_with fail
      refine (HU.out _).mono ?_
      rintro x w4 ⟨rfl, hb4⟩
      have hs4 := hb4.size
      have A4 := A0.later hb4
      have R4 := R0.later hb4
      have Q4 := Q0.later hb4
      replace hb4 := hb0.trans (hb4.mono (by have := Q0.lt; omega))
      clear HU r0 r1 r2 A0 R0 Q0
      obtain ⟨r0, r1, r2⟩ := R4.cells
      obtain ⟨m0, m1, m2, m3, m4⟩ := A4.cells
      go_wp2_with fail
      refine (HT.out _ hb4).mono ?_
      rintro x w5 ⟨⟨x1, x2, x3, x4, rfl, hO⟩, hb5⟩
      obtain ⟨q, rfl, rfl, rfl, rfl, hN⟩ := hO.put
      have R5 := R4.later hb5
      have Q5 := Q4.later hb5
      have hq5 := Q4.lt
      replace hb5 := hb4.trans (hb5.mono (by omega))
      clear HT r0 r1 r2 m0 m1 m2 m3 m4 A4 R4 Q4 hO
      have N5 := NBox.new w5 (.bool lm) (.slice q.a1 ps'.length q.c1) (.slice q.a2 pv'.length q.c2) (.slice q.a3 ks'.length q.c3) (.slice q.a4 bf'.length q.c4)
      have bx := below_box w5 (.cells #[.bool lm, .slice q.a1 ps'.length q.c1, .slice q.a2 pv'.length q.c2, .slice q.a3 ks'.length q.c3, .slice q.a4 bf'.length q.c4] 27)
      have R6 := R5.later bx
      have Q6 := Q5.later bx
      have hN6 := hN.later bx
      have hb6 := hb5.trans (bx.mono (by have := Q5.lt; omega))
      clear R5 Q5 hN bx hb5
      go_upto_region 3 with fail
      generalize w5.heap.size = k5 at *
      generalize w5.alloc (.cells #[.bool lm, .slice q.a1 ps'.length q.c1, .slice q.a2 pv'.length q.c2, .slice q.a3 ks'.length q.c3, .slice q.a4 bf'.length q.c4] 27) = w6 at *
      obtain ⟨r0, r1, r2⟩ := R6.cells
      obtain ⟨m0, m1, m2, m3, m4⟩ := N5.cells
      have f := Q6.free
      have f0 := f 0
      have f1 := f 1
      have f2 := f 2
      have f3 := f 3
      have f4 := f 4
      have f5 := f 5
      have f6 := f 6
      clear f
      obtain ⟨z0, z1, z2, z3, z4, z5, z6⟩ := Q6.cells
    · skip
      subst h0
      have hb9 := seven_set hb6 (show k0 ≤ k2 by omega) (.string lo) (.string S) (.bool lm) (.slice q.a1 ps'.length q.c1) (.slice q.a2 pv'.length q.c2) (.slice q.a3 ks'.length q.c3) (.slice q.a4 bf'.length q.c4)
      have hN9 := hN6.seven (show k2 < w4.heap.size by omega) (.string lo) (.string S) (.bool lm) (.slice q.a1 ps'.length q.c1) (.slice q.a2 pv'.length q.c2) (.slice q.a3 ks'.length q.c3) (.slice q.a4 bf'.length q.c4)
      have hBB : k0 ≤ w4.heap.size := by omega
      go_wp2_with fail
      refine bodyPost_ret (v := .tuple #[.agg #[.string lo, .string S, .bool lm, .slice q.a1 ps'.length q.c1, .slice q.a2 pv'.length q.c2, .slice q.a3 ks'.length q.c3, .slice q.a4 bf'.length q.c4], .int .i64 0]) (by simp [results, Try.results13, go_sem, z0, z1, z2, z3, z4, z5, z6]) rfl ⟨?_, ?_⟩
      · exact whole_say_some HS.out.2.2 HS.out.1 HS.out.2.1 rfl hN9 (by rw [HQ0.out]; exact hBB)
      · rw [HQ0.out]; exact hb9
    · skip
      have hb9 := seven_set hb6 (show k0 ≤ k2 by omega) (.string ⟨#[]⟩) (.string ⟨#[]⟩) (.bool false) (.slice none 0 0) (.slice none 0 0) (.slice none 0 0) (.slice none 0 0)
      go_wp2_with fail
      refine bodyPost_ret (v := .tuple #[.agg #[.string ⟨#[]⟩, .string ⟨#[]⟩, .bool false, .slice none 0 0, .slice none 0 0, .slice none 0 0, .slice none 0 0], .int .i64 z]) (by simp [results, Try.results13, go_sem, z0, z1, z2, z3, z4, z5, z6]) rfl ⟨?_, ?_⟩
      · exact whole_say_none HS.out.2.2 h0 rfl
      · rw [HQ0.out]; exact hb9
  exact key z (hid rfl)
end Go.Proofs.Ytlkcoaencliajaa.Key

namespace Go.Proofs.Ytlkcoaencliajaa.Key
open Go.RowKit Draw
open Go.Op (bytesLess)
set_option linter.unusedVariables false
set_option linter.unusedSimpArgs false

/-- a range, as it stands in a slice -/
structure Rg where
  lo : ByteArray
  hi : ByteArray
  e : Bool
structure RgAt (w : World) (b o : Nat) (r : Rg) : Prop where
  c0 : w.cell? ⟨b, o, none⟩ = some (.string r.lo)
  c1 : w.cell? ⟨b, o + 1, none⟩ = some (.string r.hi)
  c2 : w.cell? ⟨b, o + 2, none⟩ = some (.bool r.e)
theorem RgAt.later {w w' : World} {b o : Nat} {r : Rg} (h : RgAt w b o r) (hb : Below w.heap.size w w') : RgAt w' b o r := by
  have hB := World.block_lt_of_cell? w _ h.c0
  exact ⟨(hb.cell (p := ⟨b, o, none⟩) hB).trans h.c0, (hb.cell (p := ⟨b, o + 1, none⟩) hB).trans h.c1, (hb.cell (p := ⟨b, o + 2, none⟩) hB).trans h.c2⟩
/-- a slice of ranges -/
def Rgs (w : World) (b : Nat) (l : List Rg) : Prop := ∀ i (h : i < l.length), RgAt w b (0 + i * 3) l[i]
theorem Rgs.later {w w' : World} {b : Nat} {l : List Rg} (h : Rgs w b l) (hb : Below w.heap.size w w') : Rgs w' b l := fun i hi => (h i hi).later hb
def wE1 (n : Nd) (r : Rg) : Int := wholeE n (rg r.lo r.hi r.e)
def wP1 (n : Nd) (r : Rg) : Pc := wholeP n r.lo r.hi r.e
def eachE (n : Nd) : List Rg → Int
  | [] => 0
  | r :: l => if wE1 n r = 0 then eachE n l else wE1 n r
def eachL (n : Nd) (l : List Rg) : List Pc := if eachE n l = 0 then l.map (wP1 n) else []
theorem each_zero {n : Nd} {l : List Rg} (h : ∀ r ∈ l, wE1 n r = 0) : eachE n l = 0 := by
  induction l with
  | nil => rfl
  | cons r l ih => rw [eachE, if_pos (h r (List.mem_cons_self ..)), ih (fun x hx => h x (List.mem_cons_of_mem _ hx))]
theorem each_at {n : Nd} : ∀ {l : List Rg} {j : Nat} (hj : j < l.length), (∀ r ∈ l.take j, wE1 n r = 0) → wE1 n l[j] ≠ 0 → eachE n l = wE1 n l[j]
  | [], _, h, _, _ => by simp at h
  | r :: l, 0, _, _, h => by
    have h' : wE1 n r ≠ 0 := h
    rw [eachE, if_neg h']
    rfl
  | r :: l, j + 1, hj, h0, h => by
    rw [eachE, if_pos (h0 r (by simp))]
    exact each_at (l := l) (j := j) (by simpa using hj) (fun x hx => h0 x (by simp [hx])) h
/-- what each answers -/
def EachSay (w w' : World) (x : Ending) (n : Nd) (l : List Rg) : Prop :=
  ∃ v L, x = .returned (.tuple #[v, .int .i64 (eachE n l)]) ∧ OwnQ w' w.heap.size v L ∧ L.map Prod.fst = eachL n l
theorem each_none {w w' : World} {x : Ending} {n : Nd} {l : List Rg} {j : Nat} {z : Int} {r : Rg} (hr : l[j]? = some r) (h0 : ∀ r ∈ l.take j, wE1 n r = 0) (hz : wE1 n r = z) (hne : z ≠ 0) (hx : x = .returned (.tuple #[.slice none 0 0, .int .i64 z])) : EachSay w w' x n l := by
  obtain ⟨hj, rfl⟩ := List.getElem?_eq_some_iff.1 hr
  have h := each_at hj h0 (by rw [hz]; exact hne)
  rw [hz] at h
  refine ⟨.slice none 0 0, [], by rw [hx, h], OwnQ.nil _ _, ?_⟩
  unfold eachL
  rw [h, if_neg hne]
  rfl
theorem each_some {w w' : World} {x : Ending} {n : Nd} {l : List Rg} {v : Value} {L : List PcQ} {B : Nat} (h0 : ∀ r ∈ l, wE1 n r = 0) (hO : OwnQ w' B v L) (hB : w.heap.size ≤ B) (hL : L.map Prod.fst = l.map (wP1 n)) (hx : x = .returned (.tuple #[v, .int .i64 0])) : EachSay w w' x n l := by
  have h := each_zero h0
  refine ⟨v, L, by rw [hx, h], hO.mono hB, ?_⟩
  unfold eachL
  rw [h, if_pos rfl, hL]

set_option maxRecDepth 100000 in
set_option maxHeartbeats 1000000 in
theorem each39 (n : Nd) (p : Pl) (b : Nat) (c : Nat) (l : List Rg) (w : World) (hf : Few n) (h : Lies w n p) (hr : Rgs w b l) (hl : l.length ≤ 100) (hs : ∀ r ∈ l, r.lo.size ≤ 1000 ∧ r.hi.size ≤ 1000) :
    Calls Try.prog 39 #[nv n p, .slice (some ⟨b, 0, none⟩) l.length c] w fun x w' => EachSay w w' x n l ∧ Below w.heap.size w w' := by
  have HW := hid (fun (r : Rg) (hr : r ∈ l) (wr : World) (hb : Below w.heap.size w wr) => whole12 n p r.lo r.hi r.e wr hf (h.later hb) (hs r hr).1 (hs r hr).2)
  have HR := hid (fun (wr : World) (hb : Below w.heap.size w wr) => hr.later hb)
  have HN := hid (fun (w' : World) (x : Ending) (j : Nat) (z : Int) (r : Rg) => @each_none w w' x n l j z r)
  have HS := hid (fun (w' : World) (x : Ending) (v : Value) (L : List PcQ) (B : Nat) => @each_some w w' x n l v L B)
  have A0 := NBox.new w (.bool n.leaf) (.slice p.a1 n.ps.length p.c1) (.slice p.a2 n.pv.length p.c2) (.slice p.a3 n.ks.length p.c3) (.slice p.a4 n.bf.length p.c4)
  have hb0 := below_box w (.cells #[.bool n.leaf, .slice p.a1 n.ps.length p.c1, .slice p.a2 n.pv.length p.c2, .slice p.a3 n.ks.length p.c3, .slice p.a4 n.bf.length p.c4] 27)
  have H1 := hid (fun r => show wE1 n r = wholeE n (rg r.lo r.hi r.e) from rfl)
  have H2 := hid (fun r => show wP1 n r = wholeP n r.lo r.hi r.e from rfl)
  clear h hr hf hs
  have HSay : ∀ (SAY : World → Ending → Prop), Hid (SAY = fun w' x => EachSay w w' x n l) → Calls Try.prog 39 #[nv n p, .slice (some ⟨b, 0, none⟩) l.length c] w fun x w' => SAY w' x ∧ Below w.heap.size w w' := by
    intro SAY HSAY
    obtain ⟨lB, ps, pv, ks, bf⟩ := n
    obtain ⟨a1, c1, a2, c2, a3, c3, a4, c4⟩ := p
    dsimp only [nv] at *
    generalize ps.length = n1 at *
    generalize pv.length = n2 at *
    generalize ks.length = n3 at *
    generalize bf.length = n4 at *
    generalize hll : l.length = ll at *
    have HLL := hid hll
    clear hll
    go_enter Try.func39, Try.ntmps39
    go_upto_region 1 with fail
    generalize w.alloc (.cells #[.bool lB, .slice a1 n1 c1, .slice a2 n2 c2, .slice a3 n3 c3, .slice a4 n4 c4] 27) = w1 at *
    generalize hk0 : w.heap.size = k0 at *
    have HQ0 := hid hk0
    clear hk0
    go_wp2_with fail
    go_loopw [6, 13] (fun v i wr => ∃ (j : Nat) (L : List PcQ), j ≤ ll ∧ i = .int .i64 j ∧ NBox wr k0 (.bool lB) (.slice a1 n1 c1) (.slice a2 n2 c2) (.slice a3 n3 c3) (.slice a4 n4 c4) ∧ OwnQ wr (k0 + 1) v L ∧ L.length = j ∧ Hid (L.map Prod.fst = (l.take j).map (wP1 ⟨lB, ps, pv, ks, bf⟩)) ∧ Hid (∀ r ∈ l.take j, wE1 ⟨lB, ps, pv, ks, bf⟩ r = 0) ∧ Below (k0 + 1) w1 wr) (fun _ i _ => ll - (intOf i).toNat)
    case atStart => exact ⟨0, [], Nat.zero_le _, rfl, A0, OwnQ.nil _ _, rfl, hid (by simp), hid (by simp), Below.refl _ _⟩
    case round =>
      obtain ⟨j, L, hj, rfl, A1, ho, hLj, HM, HZ, hb⟩ := hrel
      by_cases hlt : j < ll
      · have hlt' : j < l.length := by rw [HLL.out]; exact hlt
        have hbw : Below k0 w _ := hb0.trans (hb.mono (by omega))
        obtain ⟨d0, d1, d2⟩ := HR.out _ hbw j hlt'
        obtain ⟨r, HX⟩ : ∃ r, Hid (l[j]? = some r) := ⟨_, hid (List.getElem?_eq_getElem hlt')⟩
        have hre : l[j] = r := by have := HX.out; rw [List.getElem?_eq_getElem hlt'] at this; exact Option.some.inj this
        have HWr := hid (HW.out r (by rw [← hre]; exact List.getElem_mem hlt'))
        have HR1 := hid (H1.out r)
        have HR2 := hid (H2.out r)
        have HREM := hid hre
        rw [hre] at d0 d1 d2
        clear hre
        obtain ⟨rlo, rhi, re⟩ := r
        dsimp only at d0 d1 d2
        simp only [Nat.zero_add] at d0 d1 d2
        have R1 := Box.new wr (.string rlo) (.string rhi) (.bool re)
        have bx := below_box wr (.cells #[.string rlo, .string rhi, .bool re] 29)
        have A2 := A1.later bx
        have ho2 := ho.later bx
        have hAl := A1.lt
        have hb2 := hb.trans (bx.mono (by omega))
        have hbw2 : Below k0 w _ := hb0.trans (hb2.mono (by omega))
        clear A1 ho hb bx hbw
        go_upto_region 5 with fail
        clear d0 d1 d2
        generalize hkr : wr.heap.size = kr at *
        generalize wr.alloc (.cells #[.string rlo, .string rhi, .bool re] 29) = w2 at *
        obtain ⟨r0, r1, r2⟩ := R1.cells
        obtain ⟨m0, m1, m2, m3, m4⟩ := A2.cells
        go_wp2_with fail
        refine (HWr.out w2 hbw2).mono ?_
        rintro x w3 ⟨⟨q, rfl, hN⟩, hb3⟩
        obtain ⟨P, hP⟩ : ∃ P, wholeP ⟨lB, ps, pv, ks, bf⟩ rlo rhi re = P := ⟨_, rfl⟩
        obtain ⟨z, hz⟩ : ∃ z, wholeE ⟨lB, ps, pv, ks, bf⟩ (rg rlo rhi re) = z := ⟨_, rfl⟩
        rw [hP] at hN
        rw [hP, hz]
        have HP := hid hP
        have HZ1 := hid (HR1.out.trans hz)
        clear hP hz HR1 HWr
        have A3 := A2.later hb3
        have ho3 := ho2.later hb3
        have hA3 := A3.lt
        have hR1 := R1.lt
        have hs3 := hb3.size
        replace hb3 := hb2.trans (hb3.mono (by have := hb2.size; omega))
        have hN3 := hN.mono (show k0 + 1 ≤ w2.heap.size by have := A2.lt; omega)
        have Q3 := QBox.new w3 (.string P.lo) (.string P.strip) (.bool P.node.leaf) (.slice q.a1 P.node.ps.length q.c1) (.slice q.a2 P.node.pv.length q.c2) (.slice q.a3 P.node.ks.length q.c3) (.slice q.a4 P.node.bf.length q.c4)
        have by3 := below_box w3 (.cells #[.string P.lo, .string P.strip, .bool P.node.leaf, .slice q.a1 P.node.ps.length q.c1, .slice q.a2 P.node.pv.length q.c2, .slice q.a3 P.node.ks.length q.c3, .slice q.a4 P.node.bf.length q.c4] 36)
        have A4 := A3.later by3
        have ho4 := ho3.later by3
        have hN4 := hN3.later by3
        have hb4 := hb3.trans (by3.mono (by have := hb3.size; omega))
        clear r0 r1 r2 m0 m1 m2 m3 m4 A2 ho2 hb2 A3 ho3 hb3 hN hN3 by3 hbw2
        go_upto_region 6 with fail
        generalize hk3 : w3.heap.size = k3 at *
        generalize w3.alloc (.cells #[.string P.lo, .string P.strip, .bool P.node.leaf, .slice q.a1 P.node.ps.length q.c1, .slice q.a2 P.node.pv.length q.c2, .slice q.a3 P.node.ks.length q.c3, .slice q.a4 P.node.bf.length q.c4] 36) = w4 at *
        by_cases h0 : z = 0
        case neg =>
          have hbw4 : Below k0 w w4 := hb0.trans (hb4.mono (by omega))
          go_wp2_with fail
          refine bodyPost_ret (v := .tuple #[.slice none 0 0, .int .i64 z]) (by simp [results, Try.results39, go_sem]) rfl ⟨?_, ?_⟩
          · rw [HSAY]; exact HN.out _ _ j z _ HX.out HZ HZ1.out h0 rfl
          · rw [HQ0.out]; exact hbw4
        case pos =>
          subst h0
          go_upto_region 8 with fail
          obtain ⟨y0, y1, y2, y3, y4, y5, y6⟩ := Q3.cells
          obtain ⟨bv, dv, cv, hv⟩ := row_slice ho4.row
          subst hv
          have hC := (QBox.new w4 (.string P.lo) (.string P.strip) (.bool P.node.leaf) (.slice q.a1 P.node.ps.length q.c1) (.slice q.a2 P.node.pv.length q.c2) (.slice q.a3 P.node.ks.length q.c3) (.slice q.a4 P.node.bf.length q.c4)).each
          have by4 := below_box w4 (.cells #[.string P.lo, .string P.strip, .bool P.node.leaf, .slice q.a1 P.node.ps.length q.c1, .slice q.a2 P.node.pv.length q.c2, .slice q.a3 P.node.ks.length q.c3, .slice q.a4 P.node.bf.length q.c4] 36)
          have A5 := A4.later by4
          have ho5 := ho4.later by4
          have hN5 := hN4.later by4
          have hb5 := hb4.trans (by4.mono (by have := A4.lt; omega))
          have hL4 : L.length ≤ 100 := by omega
          have hk4 := A4.lt
          have HZ2 := hid (show ∀ r ∈ l.take (j + 1), wE1 ⟨lB, ps, pv, ks, bf⟩ r = 0 from by
            intro r hr
            rw [List.take_succ_eq_append_getElem hlt', List.mem_append, List.mem_singleton] at hr
            rcases hr with hr | rfl
            · exact HZ r hr
            · rw [HREM.out]; exact HZ1.out)
          have HM2 := hid (show (L ++ [(P, q)]).map Prod.fst = (l.take (j + 1)).map (wP1 ⟨lB, ps, pv, ks, bf⟩) from by
            rw [List.take_succ_eq_append_getElem hlt', List.map_append, List.map_append, HM, HREM.out]
            show _ ++ [P] = _ ++ [wP1 _ _]
            rw [HR2.out, HP.out])
          clear A4 hN4 hb4 by4
          go_wp2_with (first | (at_builtin; refine appOne Pc.cells 7 136 42 36 _ (by omega) (fun _ => rfl) Try.underlying42 info36 rfl (by omega) oneQ rfl _ _ rfl (k0 + 1) _ L rfl ho5.row (P, q) w4.heap.size rfl hC (by omega) (by simp; omega) ?_; intro v' w11 h1 h2; have A7 := A5.kept h2 (row_ge ho5.row (Nat.lt_succ_self k0)); have hb7 := hb5.grown h2 (by simp; omega) (fun k hk => (World.ownsRow.lt ho5.row k hk).1); have hO7 := ho5.more (x := (P, q)) hN5 h1 h2; clear y0 y1 y2 y3 y4 y5 y6 A5 ho5 hN5 hb5 h1 h2 hC) | fail)
          go_roundw
          case rel => exact ⟨j + 1, _, by omega, by go_num, A7, hO7, by rw [List.length_append]; simp [hLj], HM2, HZ2, hb7⟩
          case measure => simp [intOf]; omega
      · obtain rfl : j = ll := by omega
        have hbw : Below k0 w wr := hb0.trans (hb.mono (by omega))
        obtain ⟨bv, dv, cv, hv⟩ := row_slice ho.row
        subst hv
        have hT : l.take l.length = l := List.take_length
        rw [← HLL.out] at HM HZ
        rw [hT] at HM HZ
        go_wp2_with fail
        refine bodyPost_ret (v := .tuple #[.slice bv dv cv, .int .i64 0]) (by simp [results, Try.results39, go_sem]) rfl ⟨?_, ?_⟩
        · rw [HSAY]; exact HS.out _ _ _ L (k0 + 1) HZ ho (by omega) HM rfl
        · rw [HQ0.out]; exact hbw
  exact HSay _ (hid rfl)
end Go.Proofs.Ytlkcoaencliajaa.Key

namespace Go.Proofs.Ytlkcoaencliajaa.Key
open Go.RowKit Draw
open Go.Op (bytesLess)
set_option linter.unusedVariables false
set_option linter.unusedSimpArgs false

set_option maxRecDepth 100000 in
set_option maxHeartbeats 600000 in
theorem half54 (n : Nat) (w : World) (hn : n ≤ 1000) : Calls Try.prog 54 #[.int .i64 n] w fun x w' => x = .returned (.int .i64 (halfN n)) ∧ w' = w := by
  have HH := hid (show ((halfN n : Nat) : Int) = ((n : Int) + 1) / 2 by
    unfold halfN
    omega)
  go_enter Try.func54, Try.ntmps54
  go_wp2_with fail
  go_ret
  exact ⟨by rw [HH.out]; rfl, rfl⟩

set_option maxRecDepth 100000 in
set_option maxHeartbeats 600000 in
theorem mid30 (a : Option Addr) (c : Nat) (ps : List Pr) (w : World) (hl : ps.length ≤ 1000) (h : Prs w a ps) (hk : ∀ x ∈ ps, x.key.size ≤ 1000) :
    Calls Try.prog 30 #[.slice a ps.length c] w fun x w' => x = .returned (.tuple #[.string (if 2 ≤ ps.length then midL ps else ⟨#[]⟩), .bool (decide (2 ≤ ps.length))]) ∧ Below w.heap.size w w' := by
  by_cases h2 : 2 ≤ ps.length
  case neg =>
    rw [if_neg h2, decide_eq_false h2]
    have e : (ps.length : Int) < 2 := by omega
    clear h hk
    generalize ps.length = n1 at *
    go_enter Try.func30, Try.ntmps30
    go_wp2_with fail
    exact bodyPost_ret (v := .tuple #[.string ⟨#[]⟩, .bool false]) (by simp [results, Try.results30, go_sem]) rfl ⟨rfl, Below.refl _ _⟩
  case pos =>
  rw [if_pos h2, decide_eq_true h2]
  obtain ⟨h0, h1⟩ := half_lt h2
  have HH := hid (fun w => half54 ps.length w hl)
  have e : ¬ (ps.length : Int) < 2 := by omega
  have hM : midL ps = str (between (keyAt ps (halfN ps.length - 1)).data.toList (keyAt ps (halfN ps.length)).data.toList) := rfl
  obtain ⟨i, hi⟩ : ∃ i, halfN ps.length = i + 1 := ⟨halfN ps.length - 1, by omega⟩
  rw [hi] at hM h1 HH
  rw [keyAt_at h1, Nat.add_sub_cancel, keyAt_at (by omega)] at hM
  obtain ⟨b, off, rfl, T0, T1⟩ := h.at2 (show i < ps.length by omega) h1
  have HB := hid (fun w => between17 ps[i].key ps[i + 1].key w (Nat.le_trans (hk _ (List.getElem_mem _)) (by decide)) (Nat.le_trans (hk _ (List.getElem_mem _)) (by decide)))
  rw [← hM] at HB
  generalize midL ps = ML at *
  generalize ps[i] = x at *
  generalize ps[i + 1] = y at *
  have hi1 : ((i + 1 : Nat) : Int) = (i : Int) + 1 := rfl
  have e1 : ((i : Int) + 1) < (ps.length : Int) := by omega
  have e2 : (i : Int) < (ps.length : Int) := by omega
  have e4 : 0 ≤ (i : Int) + 1 := by omega
  have e3 : IntKind.i64.wrap (i : Int) = (i : Int) := by rw [IntKind.wrap_i64]; omega
  rw [hi1] at HH
  clear h hk hM hi h0 h2
  generalize ps.length = n1 at *
  go_enter Try.func30, Try.ntmps30
  go_wp2_with fail
  refine (HH.out _).mono ?_
  rintro v w1 ⟨rfl, rfl⟩
  go_upto_region 4 with fail
  refine wp_region_quiet (C := fun u => Below w1.heap.size w1 u) (by kernel_rfl) (by kernel_rfl) (Below.refl _ w1).drew ?_
  change wpQuiet _ _ _ _ (_ :: _) _
  repeat
    first
      | go_big_quiet_skip
      | go_big_quiet_want
        first
          | refine quiet_v ?_ ?_ ?_
            rotate_left
            · intro u hu
              obtain ⟨m0, m1⟩ := T0.below hu T0.lt
              obtain ⟨z0, z1⟩ := T1.below hu T1.lt
              go_simp
              with_reducible rfl
          | refine quiet_c (.string ML) 55 #[.string x.key, .string y.key] ?_ (fun u hu => (HB.out u).mono fun x u' h => ⟨h.1, hu.trans (h.2.mono hu.size)⟩) ?_
            · intro u hu
              go_simp
              done
        go_simp
        go_big_quiet_on
  refine wpQuiet_nil (fun u hu => ?_)
  go_wp2_with fail
  exact bodyPost_ret (v := .tuple #[.string ML, .bool true]) (by simp [results, Try.results30, go_sem]) rfl ⟨rfl, hu⟩

set_option maxRecDepth 100000 in
set_option maxHeartbeats 600000 in
theorem mid31 (n : Nd) (p : Pl) (w : World) (hl : n.ks.length ≤ 1000) (hlen : n.pv.length + 1 = n.ks.length) (h : Txts w p.a2 n.pv) :
    Calls Try.prog 31 #[nv n p] w fun x w' => x = .returned (.tuple #[.string (if 2 ≤ n.ks.length then midK n else ⟨#[]⟩), .bool (decide (2 ≤ n.ks.length))]) ∧ Below w.heap.size w w' := by
  obtain ⟨lB, ps, pv, ks, bf⟩ := n
  obtain ⟨a1, c1, a2, c2, a3, c3, a4, c4⟩ := p
  dsimp only [nv] at *
  by_cases h2 : 2 ≤ ks.length
  case neg =>
    rw [if_neg h2, decide_eq_false h2]
    have e : (ks.length : Int) < 2 := by omega
    clear h hlen
    generalize ps.length = n1 at *
    generalize pv.length = n2 at *
    generalize ks.length = n3 at *
    generalize bf.length = n4 at *
    go_enter Try.func31, Try.ntmps31
    go_wp2_with fail
    exact bodyPost_ret (v := .tuple #[.string ⟨#[]⟩, .bool false]) (by simp [results, Try.results31, go_sem]) rfl ⟨rfl, below_box _ _⟩
  case pos =>
  rw [if_pos h2, decide_eq_true h2]
  obtain ⟨h0, h1⟩ := half_lt h2
  have HH := hid (fun w => half54 ks.length w hl)
  have e : ¬ (ks.length : Int) < 2 := by omega
  have hM : midK ⟨lB, ps, pv, ks, bf⟩ = ahead pv (halfN ks.length) := rfl
  obtain ⟨i, hi⟩ : ∃ i, halfN ks.length = i + 1 := ⟨halfN ks.length - 1, by omega⟩
  rw [hi] at hM h1 HH
  have hip : i < pv.length := by omega
  rw [ahead_at hip] at hM
  obtain ⟨b, off, rfl, T0⟩ := h.at hip
  rw [← hM] at T0
  generalize midK ⟨lB, ps, pv, ks, bf⟩ = ML at *
  have hi1 : ((i + 1 : Nat) : Int) = (i : Int) + 1 := rfl
  have e2 : (i : Int) < (pv.length : Int) := by omega
  have e3 : IntKind.i64.wrap (i : Int) = (i : Int) := by rw [IntKind.wrap_i64]; omega
  rw [hi1] at HH
  have A0 := NBox.new w (.bool lB) (.slice a1 ps.length c1) (.slice (some ⟨b, off, none⟩) pv.length c2) (.slice a3 ks.length c3) (.slice a4 bf.length c4)
  have hb0 := below_box w (.cells #[.bool lB, .slice a1 ps.length c1, .slice (some ⟨b, off, none⟩) pv.length c2, .slice a3 ks.length c3, .slice a4 bf.length c4] 27)
  have T1 := (hb0.cell (p := ⟨b, off + i, none⟩) (World.block_lt_of_cell? w _ T0)).trans T0
  clear h hM hi h0 h2 hlen T0 h1
  generalize ps.length = n1 at *
  generalize pv.length = n2 at *
  generalize ks.length = n3 at *
  generalize bf.length = n4 at *
  go_enter Try.func31, Try.ntmps31
  go_upto_region 1 with fail
  generalize w.alloc (.cells #[.bool lB, .slice a1 n1 c1, .slice (some ⟨b, off, none⟩) n2 c2, .slice a3 n3 c3, .slice a4 n4 c4] 27) = w1 at *
  obtain ⟨c0, c1, c2, c3, c4⟩ := A0.cells
  go_upto_region 3 with fail
  clear c0 c1 c2 c3 c4
  refine wp_region_quiet (C := fun u => Below w1.heap.size w1 u) (by kernel_rfl) (by kernel_rfl) (Below.refl _ w1).drew ?_
  change wpQuiet _ _ _ _ (_ :: _) _
  repeat
    first
      | go_big_quiet_skip
      | go_big_quiet_want
        first
          | refine quiet_v ?_ ?_ ?_
            rotate_left
            · intro u hu
              obtain ⟨m0, m1, m2, m3, m4⟩ := (A0.later hu).cells
              have z0 := (hu.cell (p := ⟨b, off + i, none⟩) (World.block_lt_of_cell? w1 _ T1)).trans T1
              go_simp
              with_reducible rfl
          | refine quiet_c (.int .i64 ((i : Int) + 1)) 54 #[.int .i64 n3] ?_ (fun u hu => (HH.out u).mono fun x u' h => ⟨h.1, by rw [h.2]; exact hu⟩) ?_
            · intro u hu
              go_simp
              done
        go_simp
        go_big_quiet_on
  refine wpQuiet_nil (fun u hu => ?_)
  go_wp2_with fail
  exact bodyPost_ret (v := .tuple #[.string ML, .bool true]) (by simp [results, Try.results31, go_sem]) rfl ⟨rfl, hb0.trans (hu.mono hb0.size)⟩

set_option maxRecDepth 100000 in
set_option maxHeartbeats 600000 in
/-- Mid, the program's -/
theorem mid10 (n : Nd) (p : Pl) (w : World) (hf : Few n) (h : Lies w n p) :
    Calls Try.prog 10 #[nv n p] w fun x w' => x = .returned (.tuple #[.string (midS n), .bool (midB n)]) ∧ Below w.heap.size w w' := by
  have hb0 := below_box w (.cells #[.bool n.leaf, .slice p.a1 n.ps.length p.c1, .slice p.a2 n.pv.length p.c2, .slice p.a3 n.ks.length p.c3, .slice p.a4 n.bf.length p.c4] 27)
  have A0 := NBox.new w (.bool n.leaf) (.slice p.a1 n.ps.length p.c1) (.slice p.a2 n.pv.length p.c2) (.slice p.a3 n.ks.length p.c3) (.slice p.a4 n.bf.length p.c4)
  have HM := hid (fun (wr : World) (hb : Below w.heap.size w wr) => may12 n p wr hf (h.later hb))
  by_cases hm : mayI n = 0
  case neg =>
    have HS := hid (show midS n = ⟨#[]⟩ ∧ midB n = false from by
      have : midB n = false := by unfold midB; rw [if_neg hm]
      exact ⟨by unfold midS; rw [this]; rfl, this⟩)
    generalize midS n = MS at *
    generalize midB n = MB at *
    have e : mayI n ≠ 0 := hm
    generalize mayI n = MI at *
    clear h hf
    obtain ⟨lB, ps, pv, ks, bf⟩ := n
    obtain ⟨a1, c1, a2, c2, a3, c3, a4, c4⟩ := p
    dsimp only [nv] at *
    generalize ps.length = n1 at *
    generalize pv.length = n2 at *
    generalize ks.length = n3 at *
    generalize bf.length = n4 at *
    go_enter Try.func10, Try.ntmps10
    obtain ⟨z0, z1, z2, z3, z4⟩ := A0.cells
    go_wp2_with fail
    refine (HM.out _ hb0).mono ?_
    rintro x w1 ⟨rfl, hb1⟩
    clear z0 z1 z2 z3 z4
    go_wp2_with fail
    exact bodyPost_ret (v := .tuple #[.string ⟨#[]⟩, .bool false]) (by simp [results, Try.results10, go_sem]) rfl ⟨by rw [HS.out.1, HS.out.2], hb0.trans (hb1.mono hb0.size)⟩
  case pos =>
  rw [hm] at HM
  cases hl : n.leaf
  case false =>
    obtain ⟨hlen, _⟩ := may_fork hm hl
    have HK := hid (fun (wr : World) (hb : Below w.heap.size w wr) => mid31 n p wr hf.l3 hlen (h.later hb).h2)
    have HS := hid (show midS n = (if 2 ≤ n.ks.length then midK n else ⟨#[]⟩) ∧ midB n = decide (2 ≤ n.ks.length) from by
      have : midB n = decide (2 ≤ n.ks.length) := by unfold midB; rw [if_pos hm, hl]; rfl
      refine ⟨?_, this⟩
      unfold midS
      rw [this, hl]
      by_cases e : 2 ≤ n.ks.length
      · rw [decide_eq_true e, if_pos rfl, if_pos e]; rfl
      · rw [decide_eq_false e, if_neg e]; rfl)
    rw [← HS.out.1, ← HS.out.2] at HK
    generalize midS n = MS at *
    generalize midB n = MB at *
    clear h hf hm HS
    obtain ⟨lB, ps, pv, ks, bf⟩ := n
    obtain ⟨a1, c1, a2, c2, a3, c3, a4, c4⟩ := p
    dsimp only [nv] at *
    subst hl
    clear hlen
    generalize ps.length = n1 at *
    generalize pv.length = n2 at *
    generalize ks.length = n3 at *
    generalize bf.length = n4 at *
    go_enter Try.func10, Try.ntmps10
    obtain ⟨z0, z1, z2, z3, z4⟩ := A0.cells
    go_wp2_with fail
    refine (HM.out _ hb0).mono ?_
    rintro x w1 ⟨rfl, hb1⟩
    have A1 := A0.later hb1
    replace hb1 := hb0.trans (hb1.mono hb0.size)
    clear z0 z1 z2 z3 z4
    obtain ⟨z0, z1, z2, z3, z4⟩ := A1.cells
    go_wp2_with fail
    refine (HK.out _ hb1).mono ?_
    rintro x w2 ⟨rfl, hb2⟩
    clear z0 z1 z2 z3 z4
    go_wp2_with fail
    exact bodyPost_ret (v := .tuple #[.string MS, .bool MB]) (by simp [results, Try.results10, go_sem]) rfl ⟨rfl, hb1.trans (hb2.mono hb1.size)⟩
  case true =>
    have hk : ∀ x ∈ n.ps, x.key.size ≤ 1000 := by
      intro x hx
      have hb := (may_iff.1 hm).2
      unfold fineB at hb
      rw [hl, if_pos rfl] at hb
      have := (leaf_iff.1 hb).2.2.2.1 x hx
      unfold okP at this
      rw [Bool.and_eq_true, decide_eq_true_iff] at this
      omega
    have HK := hid (fun (wr : World) (hb : Below w.heap.size w wr) => mid30 p.a1 p.c1 n.ps wr hf.l1 (h.later hb).h1 hk)
    have HS := hid (show midS n = (if 2 ≤ n.ps.length then midL n.ps else ⟨#[]⟩) ∧ midB n = decide (2 ≤ n.ps.length) from by
      have : midB n = decide (2 ≤ n.ps.length) := by unfold midB; rw [if_pos hm, hl]; rfl
      refine ⟨?_, this⟩
      unfold midS
      rw [this, hl]
      by_cases e : 2 ≤ n.ps.length
      · rw [decide_eq_true e, if_pos rfl, if_pos e]; rfl
      · rw [decide_eq_false e, if_neg e]; rfl)
    rw [← HS.out.1, ← HS.out.2] at HK
    generalize midS n = MS at *
    generalize midB n = MB at *
    clear h hf hm HS hk
    obtain ⟨lB, ps, pv, ks, bf⟩ := n
    obtain ⟨a1, c1, a2, c2, a3, c3, a4, c4⟩ := p
    dsimp only [nv] at *
    subst hl
    generalize ps.length = n1 at *
    generalize pv.length = n2 at *
    generalize ks.length = n3 at *
    generalize bf.length = n4 at *
    go_enter Try.func10, Try.ntmps10
    obtain ⟨z0, z1, z2, z3, z4⟩ := A0.cells
    go_wp2_with fail
    refine (HM.out _ hb0).mono ?_
    rintro x w1 ⟨rfl, hb1⟩
    have A1 := A0.later hb1
    replace hb1 := hb0.trans (hb1.mono hb0.size)
    clear z0 z1 z2 z3 z4
    obtain ⟨z0, z1, z2, z3, z4⟩ := A1.cells
    go_wp2_with fail
    refine (HK.out _ hb1).mono ?_
    rintro x w2 ⟨rfl, hb2⟩
    clear z0 z1 z2 z3 z4
    go_wp2_with fail
    exact bodyPost_ret (v := .tuple #[.string MS, .bool MB]) (by simp [results, Try.results10, go_sem]) rfl ⟨rfl, hb1.trans (hb2.mono hb1.size)⟩
end Go.Proofs.Ytlkcoaencliajaa.Key

namespace Go.Proofs.Ytlkcoaencliajaa.Key
open Go.RowKit Draw
open Go.Op (bytesLess)
set_option linter.unusedVariables false
set_option linter.unusedSimpArgs false

/-- pieces and an error's number, as they are handed back -/
def ListSay (w w' : World) (x : Ending) (L : List Pc) (z : Int) : Prop :=
  ∃ v L', x = .returned (.tuple #[v, .int .i64 z]) ∧ OwnQ w' w.heap.size v L' ∧ L'.map Prod.fst = L
theorem list_none {w w' : World} {x : Ending} {L : List Pc} {z z' : Int} (hz : z = z') (hL : L = []) (hx : x = .returned (.tuple #[.slice none 0 0, .int .i64 z'])) : ListSay w w' x L z := by
  subst hz hL
  exact ⟨_, [], hx, OwnQ.nil _ _, rfl⟩
theorem list_each {w w0 w' : World} {x : Ending} {n : Nd} {l : List Rg} {L : List Pc} {z : Int} (hz : eachE n l = z) (hL : eachL n l = L) (hw : w0.heap.size ≤ w.heap.size) (h : EachSay w w' x n l) : ListSay w0 w' x L z := by
  obtain ⟨v, L', hx, hO, he⟩ := h
  subst hz hL
  exact ⟨v, L', hx, hO.mono hw, he⟩
theorem halves_each {n : Nd} {lo hi : ByteArray} {e : Bool} (hm : mayI n = 0) (hg : goodB n lo hi e = true) :
    eachE n [⟨lo, midS n, true⟩, ⟨midS n, hi, e⟩] = halvesE n lo hi e ∧ eachL n [⟨lo, midS n, true⟩, ⟨midS n, hi, e⟩] = halvesL n lo hi e := by
  have h : eachE n [⟨lo, midS n, true⟩, ⟨midS n, hi, e⟩] = halvesE n lo hi e := by
    unfold halvesE
    rw [if_pos hm, if_pos hg]
    show (if wholeE n (rg lo (midS n) true) = 0 then (if wholeE n (rg (midS n) hi e) = 0 then 0 else wholeE n (rg (midS n) hi e)) else wholeE n (rg lo (midS n) true)) = _
    by_cases h1 : wholeE n (rg (midS n) hi e) = 0
    · rw [if_pos h1, h1]
    · rw [if_neg h1]
  refine ⟨h, ?_⟩
  unfold eachL halvesL
  rw [h]
  rfl
theorem one_list (n : Nd) (lo hi : ByteArray) (e : Bool) : eachE n [⟨lo, hi, e⟩] = wholeE n (rg lo hi e) ∧ eachL n [⟨lo, hi, e⟩] = oneL n lo hi e := by
  have h : eachE n [⟨lo, hi, e⟩] = wholeE n (rg lo hi e) := by
    show (if wholeE n (rg lo hi e) = 0 then 0 else wholeE n (rg lo hi e)) = _
    by_cases h1 : wholeE n (rg lo hi e) = 0
    · rw [if_pos h1, h1]
    · rw [if_neg h1]
  refine ⟨h, ?_⟩
  unfold eachL oneL
  rw [h]
  rfl
theorem mid_size {n : Nd} (h : mayI n = 0) : (midS n).size ≤ 16 := by
  unfold midS
  split
  · rename_i hm
    have hb := (may_iff.1 h).2
    unfold fineB at hb
    unfold midB at hm
    rw [if_pos h] at hm
    cases hl : n.leaf
    · rw [hl, if_neg (by simp)] at hb hm
      obtain ⟨_, h2, h3, _, _⟩ := fork_iff.1 hb
      obtain ⟨h0, h1⟩ := half_lt (of_decide_eq_true hm)
      rw [if_neg (by simp)]
      unfold midK
      rw [show halfN n.ks.length = halfN n.ks.length - 1 + 1 by omega, ahead_at (show halfN n.ks.length - 1 < n.pv.length by omega)]
      exact ((piv_iff.1 h3).2 _ (List.getElem_mem _)).2
    · rw [hl, if_pos rfl] at hb hm
      obtain ⟨_, _, _, h4, h5⟩ := leaf_iff.1 hb
      rw [if_pos rfl]
      obtain ⟨_, _, h6⟩ := mid_two h5 (of_decide_eq_true hm)
      obtain ⟨_, h1⟩ := half_lt (of_decide_eq_true hm)
      rw [keyAt_at h1] at h6
      have := h4 _ (List.getElem_mem h1)
      unfold okP at this
      rw [Bool.and_eq_true, decide_eq_true_iff] at this
      omega
  · show 0 ≤ 16
    omega
theorem boxes_nr (w : World) (v0 v1 v2 v3 v4 r0 r1 r2 : Value) :
    NBox ((w.alloc (.cells #[v0, v1, v2, v3, v4] 27)).alloc (.cells #[r0, r1, r2] 29)) w.heap.size v0 v1 v2 v3 v4 ∧ Box ((w.alloc (.cells #[v0, v1, v2, v3, v4] 27)).alloc (.cells #[r0, r1, r2] 29)) (w.heap.size + 1) r0 r1 r2 ∧
    Below w.heap.size w ((w.alloc (.cells #[v0, v1, v2, v3, v4] 27)).alloc (.cells #[r0, r1, r2] 29)) := by
  have h1 := Box.new (w.alloc (.cells #[v0, v1, v2, v3, v4] 27)) r0 r1 r2
  rw [show (w.alloc (.cells #[v0, v1, v2, v3, v4] 27)).heap.size = w.heap.size + 1 by simp] at h1
  exact ⟨(NBox.new w v0 v1 v2 v3 v4).alloc _, h1, (below_box w _).alloc (by simp) _⟩
theorem rgs_two (w : World) (a b c d : ByteArray) (e f : Bool) : Rgs (w.alloc (.cells #[.string a, .string b, .bool e, .string c, .string d, .bool f] 29)) w.heap.size [⟨a, b, e⟩, ⟨c, d, f⟩] := by
  have h : (w.alloc (.cells #[.string a, .string b, .bool e, .string c, .string d, .bool f] 29)).heap[w.heap.size]? = some (.cells #[.string a, .string b, .bool e, .string c, .string d, .bool f] 29 (0, 0)) := Go.heap_alloc_new _ _
  intro i hi
  match i, hi with
  | 0, _ => exact ⟨cell_of_row _ _ 0 _ _ _ h, cell_of_row _ _ 1 _ _ _ h, cell_of_row _ _ 2 _ _ _ h⟩
  | 1, _ => exact ⟨cell_of_row _ _ 3 _ _ _ h, cell_of_row _ _ 4 _ _ _ h, cell_of_row _ _ 5 _ _ _ h⟩
theorem rgs_one (w : World) (a b : ByteArray) (e : Bool) : Rgs (w.alloc (.cells #[.string a, .string b, .bool e] 29)) w.heap.size [⟨a, b, e⟩] := by
  have h : (w.alloc (.cells #[.string a, .string b, .bool e] 29)).heap[w.heap.size]? = some (.cells #[.string a, .string b, .bool e] 29 (0, 0)) := Go.heap_alloc_new _ _
  intro i hi
  match i, hi with
  | 0, _ => exact ⟨cell_of_row _ _ 0 _ _ _ h, cell_of_row _ _ 1 _ _ _ h, cell_of_row _ _ 2 _ _ _ h⟩

set_option maxRecDepth 100000 in
set_option maxHeartbeats 1000000 in
theorem halves14 (n : Nd) (p : Pl) (lo hi : ByteArray) (e : Bool) (w : World) (hf : Few n) (h : Lies w n p) (hlo : lo.size ≤ 1000) (hhi : hi.size ≤ 1000) :
    Calls Try.prog 14 #[nv n p, av lo hi e] w fun x w' => ListSay w w' x (halvesL n lo hi e) (halvesE n lo hi e) ∧ Below w.heap.size w w' := by
  have HM := hid (fun (wr : World) (hb : Below w.heap.size w wr) => may12 n p wr hf (h.later hb))
  have HD := hid (fun (wr : World) (hb : Below w.heap.size w wr) => mid10 n p wr hf (h.later hb))
  obtain ⟨A0, R0, hb0⟩ := boxes_nr w (.bool n.leaf) (.slice p.a1 n.ps.length p.c1) (.slice p.a2 n.pv.length p.c2) (.slice p.a3 n.ks.length p.c3) (.slice p.a4 n.bf.length p.c4) (.string lo) (.string hi) (.bool e)
  by_cases hm : mayI n = 0
  case neg =>
    have HE := hid (show halvesE n lo hi e = 3 ∧ halvesL n lo hi e = [] from by
      have : halvesE n lo hi e = 3 := by unfold halvesE; rw [if_neg hm]
      exact ⟨this, by unfold halvesL; rw [this]; rfl⟩)
    have hmz : mayI n ≠ 0 := hm
    generalize mayI n = MI at *
    generalize halvesE n lo hi e = ZE at *
    generalize halvesL n lo hi e = ZL at *
    clear HD h hf hm
    obtain ⟨lB, ps, pv, ks, bf⟩ := n
    obtain ⟨a1, c1, a2, c2, a3, c3, a4, c4⟩ := p
    dsimp only [nv] at *
    generalize ps.length = n1 at *
    generalize pv.length = n2 at *
    generalize ks.length = n3 at *
    generalize bf.length = n4 at *
    go_enter Try.func14, Try.ntmps14
    go_upto_region 1 with fail
    generalize (w.alloc (.cells #[.bool lB, .slice a1 n1 c1, .slice a2 n2 c2, .slice a3 n3 c3, .slice a4 n4 c4] 27)).alloc (.cells #[.string lo, .string hi, .bool e] 29) = w2 at *
    generalize hk0 : w.heap.size = k0 at *
    generalize hk1 : k0 + 1 = k1 at *
    have HQ0 := hid hk0
    have HQ := hid hk1
    clear hk0 hk1
    have hkk := HQ.out
    obtain ⟨m0, m1, m2, m3, m4⟩ := A0.cells
    go_wp2_with fail
    refine (HM.out _ hb0).mono ?_
    rintro x w3 ⟨rfl, hb3⟩
    have A3 := A0.later hb3
    have R3 := R0.later hb3
    replace hb3 := hb0.trans (hb3.mono (by have := R0.lt; omega))
    clear HM m0 m1 m2 m3 m4 A0 R0
    go_wp2_with fail
    refine bodyPost_ret (v := .tuple #[.slice none 0 0, .int .i64 3]) (by simp [results, Try.results14, go_sem]) rfl ⟨list_none HE.out.1 HE.out.2 rfl, ?_⟩
    rw [HQ0.out]; exact hb3
  case pos =>
  have HI := hid (fun wr => in32 lo hi (midS n) e wr)
  have hms := mid_size hm
  have HG := hid (show goodB n lo hi e = (midB n && (inR (rg lo hi e) (midS n).data.toList && !((midS n).data.toList == lo.data.toList))) from rfl)
  have HE1 := hid (fun (hg : goodB n lo hi e = false) => show halvesE n lo hi e = 1 ∧ halvesL n lo hi e = [] from by
    have : halvesE n lo hi e = 1 := by unfold halvesE; rw [if_pos hm, if_neg (by rw [hg]; simp)]
    exact ⟨this, by unfold halvesL; rw [this]; rfl⟩)
  have HE2 := hid (fun (hg : goodB n lo hi e = true) => halves_each hm hg)
  have HEa := hid (fun (wr : World) (b c : Nat) (hb : Below w.heap.size w wr) (hr : Rgs wr b [⟨lo, midS n, true⟩, ⟨midS n, hi, e⟩]) => each39 n p b c [⟨lo, midS n, true⟩, ⟨midS n, hi, e⟩] wr hf (h.later hb) hr (by simp) (by
    intro r hr
    simp only [List.mem_cons, List.not_mem_nil, or_false] at hr
    rcases hr with rfl | rfl
    · exact ⟨hlo, by show (midS n).size ≤ 1000; omega⟩
    · exact ⟨by show (midS n).size ≤ 1000; omega, hhi⟩))
  rw [hm] at HM
  generalize halvesE n lo hi e = ZE at *
  generalize halvesL n lo hi e = ZL at *
  generalize goodB n lo hi e = GB at *
  generalize midS n = MS at *
  generalize midB n = MB at *
  rw [show (MS.data.toList == lo.data.toList) = (MS.toList == lo.toList) by rw [Lib.toList_data, Lib.toList_data]] at HG
  clear h hf hm
  cases MB
  case false =>
    have HE := hid (HE1.out (by rw [HG.out]; rfl))
    clear HE1 HE2 HEa HI HG
    obtain ⟨lB, ps, pv, ks, bf⟩ := n
    obtain ⟨a1, c1, a2, c2, a3, c3, a4, c4⟩ := p
    dsimp only [nv] at *
    generalize ps.length = n1 at *
    generalize pv.length = n2 at *
    generalize ks.length = n3 at *
    generalize bf.length = n4 at *
    go_enter Try.func14, Try.ntmps14
    go_upto_region 1 with fail
    generalize (w.alloc (.cells #[.bool lB, .slice a1 n1 c1, .slice a2 n2 c2, .slice a3 n3 c3, .slice a4 n4 c4] 27)).alloc (.cells #[.string lo, .string hi, .bool e] 29) = w2 at *
    generalize hk0 : w.heap.size = k0 at *
    generalize hk1 : k0 + 1 = k1 at *
    have HQ0 := hid hk0
    have HQ := hid hk1
    clear hk0 hk1
    have hkk := HQ.out
    obtain ⟨m0, m1, m2, m3, m4⟩ := A0.cells
    go_wp2_with fail
    refine (HM.out _ hb0).mono ?_
    rintro x w3 ⟨rfl, hb3⟩
    have A3 := A0.later hb3
    have R3 := R0.later hb3
    replace hb3 := hb0.trans (hb3.mono (by have := R0.lt; omega))
    clear HM m0 m1 m2 m3 m4 A0 R0
    obtain ⟨m0, m1, m2, m3, m4⟩ := A3.cells
    obtain ⟨r0, r1, r2⟩ := R3.cells
    go_wp2_with fail
    refine (HD.out _ hb3).mono ?_
    rintro x w4 ⟨rfl, hb4⟩
    have A4 := A3.later hb4
    have R4 := R3.later hb4
    replace hb4 := hb3.trans (hb4.mono (by have := R3.lt; omega))
    clear HD m0 m1 m2 m3 m4 r0 r1 r2 A3 R3
    obtain ⟨m0, m1, m2, m3, m4⟩ := A4.cells
    obtain ⟨r0, r1, r2⟩ := R4.cells
    go_wp2_with fail
    refine bodyPost_ret (v := .tuple #[.slice none 0 0, .int .i64 1]) (by simp [results, Try.results14, go_sem]) rfl ⟨list_none HE.out.1 HE.out.2 rfl, ?_⟩
    rw [HQ0.out]; exact hb4
  case true =>
  cases g1 : inR (rg lo hi e) MS.data.toList
  case false =>
    have HE := hid (HE1.out (by rw [HG.out, g1]; rfl))
    rw [g1] at HI
    clear HE1 HE2 HEa HG g1
    obtain ⟨lB, ps, pv, ks, bf⟩ := n
    obtain ⟨a1, c1, a2, c2, a3, c3, a4, c4⟩ := p
    dsimp only [nv] at *
    generalize ps.length = n1 at *
    generalize pv.length = n2 at *
    generalize ks.length = n3 at *
    generalize bf.length = n4 at *
    go_enter Try.func14, Try.ntmps14
    go_upto_region 1 with fail
    generalize (w.alloc (.cells #[.bool lB, .slice a1 n1 c1, .slice a2 n2 c2, .slice a3 n3 c3, .slice a4 n4 c4] 27)).alloc (.cells #[.string lo, .string hi, .bool e] 29) = w2 at *
    generalize hk0 : w.heap.size = k0 at *
    generalize hk1 : k0 + 1 = k1 at *
    have HQ0 := hid hk0
    have HQ := hid hk1
    clear hk0 hk1
    have hkk := HQ.out
    obtain ⟨m0, m1, m2, m3, m4⟩ := A0.cells
    go_wp2_with fail
    refine (HM.out _ hb0).mono ?_
    rintro x w3 ⟨rfl, hb3⟩
    have A3 := A0.later hb3
    have R3 := R0.later hb3
    replace hb3 := hb0.trans (hb3.mono (by have := R0.lt; omega))
    clear HM m0 m1 m2 m3 m4 A0 R0
    obtain ⟨m0, m1, m2, m3, m4⟩ := A3.cells
    obtain ⟨r0, r1, r2⟩ := R3.cells
    go_wp2_with fail
    refine (HD.out _ hb3).mono ?_
    rintro x w4 ⟨rfl, hb4⟩
    have A4 := A3.later hb4
    have R4 := R3.later hb4
    replace hb4 := hb3.trans (hb4.mono (by have := R3.lt; omega))
    clear HD m0 m1 m2 m3 m4 r0 r1 r2 A3 R3
    obtain ⟨m0, m1, m2, m3, m4⟩ := A4.cells
    obtain ⟨r0, r1, r2⟩ := R4.cells
    go_wp2_with fail
    refine (HI.out _).mono ?_
    rintro x w5 ⟨rfl, hb5⟩
    have A5 := A4.later hb5
    have R5 := R4.later hb5
    replace hb5 := hb4.trans (hb5.mono (by have := R4.lt; omega))
    clear HI m0 m1 m2 m3 m4 r0 r1 r2 A4 R4
    obtain ⟨m0, m1, m2, m3, m4⟩ := A5.cells
    obtain ⟨r0, r1, r2⟩ := R5.cells
    go_wp2_with fail
    refine bodyPost_ret (v := .tuple #[.slice none 0 0, .int .i64 1]) (by simp [results, Try.results14, go_sem]) rfl ⟨list_none HE.out.1 HE.out.2 rfl, ?_⟩
    rw [HQ0.out]; exact hb5
  case true =>
  cases g2 : (MS.toList == lo.toList)
  case true =>
    have HE := hid (HE1.out (by rw [HG.out, g1, g2]; rfl))
    rw [g1] at HI
    clear HE1 HE2 HEa HG g1
    obtain ⟨lB, ps, pv, ks, bf⟩ := n
    obtain ⟨a1, c1, a2, c2, a3, c3, a4, c4⟩ := p
    dsimp only [nv] at *
    generalize ps.length = n1 at *
    generalize pv.length = n2 at *
    generalize ks.length = n3 at *
    generalize bf.length = n4 at *
    go_enter Try.func14, Try.ntmps14
    go_upto_region 1 with fail
    generalize (w.alloc (.cells #[.bool lB, .slice a1 n1 c1, .slice a2 n2 c2, .slice a3 n3 c3, .slice a4 n4 c4] 27)).alloc (.cells #[.string lo, .string hi, .bool e] 29) = w2 at *
    generalize hk0 : w.heap.size = k0 at *
    generalize hk1 : k0 + 1 = k1 at *
    have HQ0 := hid hk0
    have HQ := hid hk1
    clear hk0 hk1
    have hkk := HQ.out
    obtain ⟨m0, m1, m2, m3, m4⟩ := A0.cells
    go_wp2_with fail
    refine (HM.out _ hb0).mono ?_
    rintro x w3 ⟨rfl, hb3⟩
    have A3 := A0.later hb3
    have R3 := R0.later hb3
    replace hb3 := hb0.trans (hb3.mono (by have := R0.lt; omega))
    clear HM m0 m1 m2 m3 m4 A0 R0
    obtain ⟨m0, m1, m2, m3, m4⟩ := A3.cells
    obtain ⟨r0, r1, r2⟩ := R3.cells
    go_wp2_with fail
    refine (HD.out _ hb3).mono ?_
    rintro x w4 ⟨rfl, hb4⟩
    have A4 := A3.later hb4
    have R4 := R3.later hb4
    replace hb4 := hb3.trans (hb4.mono (by have := R3.lt; omega))
    clear HD m0 m1 m2 m3 m4 r0 r1 r2 A3 R3
    obtain ⟨m0, m1, m2, m3, m4⟩ := A4.cells
    obtain ⟨r0, r1, r2⟩ := R4.cells
    go_wp2_with fail
    refine (HI.out _).mono ?_
    rintro x w5 ⟨rfl, hb5⟩
    have A5 := A4.later hb5
    have R5 := R4.later hb5
    replace hb5 := hb4.trans (hb5.mono (by have := R4.lt; omega))
    clear HI m0 m1 m2 m3 m4 r0 r1 r2 A4 R4
    obtain ⟨m0, m1, m2, m3, m4⟩ := A5.cells
    obtain ⟨r0, r1, r2⟩ := R5.cells
    go_wp2_with fail
    refine bodyPost_ret (v := .tuple #[.slice none 0 0, .int .i64 1]) (by simp [results, Try.results14, go_sem]) rfl ⟨list_none HE.out.1 HE.out.2 rfl, ?_⟩
    rw [HQ0.out]; exact hb5
  case false =>
    have HE := hid (HE2.out (by rw [HG.out, g1, g2]; rfl))
    rw [g1] at HI
    clear HE1 HE2 HG g1
    obtain ⟨lB, ps, pv, ks, bf⟩ := n
    obtain ⟨a1, c1, a2, c2, a3, c3, a4, c4⟩ := p
    dsimp only [nv] at *
    generalize ps.length = n1 at *
    generalize pv.length = n2 at *
    generalize ks.length = n3 at *
    generalize bf.length = n4 at *
    go_enter Try.func14, Try.ntmps14
    go_upto_region 1 with fail
    generalize (w.alloc (.cells #[.bool lB, .slice a1 n1 c1, .slice a2 n2 c2, .slice a3 n3 c3, .slice a4 n4 c4] 27)).alloc (.cells #[.string lo, .string hi, .bool e] 29) = w2 at *
    generalize hk0 : w.heap.size = k0 at *
    generalize hk1 : k0 + 1 = k1 at *
    have HQ0 := hid hk0
    have HQ := hid hk1
    clear hk0 hk1
    have hkk := HQ.out
    obtain ⟨m0, m1, m2, m3, m4⟩ := A0.cells
    go_wp2_with fail
    refine (HM.out _ hb0).mono ?_
    rintro x w3 ⟨rfl, hb3⟩
    have A3 := A0.later hb3
    have R3 := R0.later hb3
    replace hb3 := hb0.trans (hb3.mono (by have := R0.lt; omega))
    clear HM m0 m1 m2 m3 m4 A0 R0
    obtain ⟨m0, m1, m2, m3, m4⟩ := A3.cells
    obtain ⟨r0, r1, r2⟩ := R3.cells
    go_wp2_with fail
    refine (HD.out _ hb3).mono ?_
    rintro x w4 ⟨rfl, hb4⟩
    have A4 := A3.later hb4
    have R4 := R3.later hb4
    replace hb4 := hb3.trans (hb4.mono (by have := R3.lt; omega))
    clear HD m0 m1 m2 m3 m4 r0 r1 r2 A3 R3
    obtain ⟨m0, m1, m2, m3, m4⟩ := A4.cells
    obtain ⟨r0, r1, r2⟩ := R4.cells
    go_wp2_with fail
    refine (HI.out _).mono ?_
    rintro x w5 ⟨rfl, hb5⟩
    have A5 := A4.later hb5
    have R5 := R4.later hb5
    replace hb5 := hb4.trans (hb5.mono (by have := R4.lt; omega))
    clear HI m0 m1 m2 m3 m4 r0 r1 r2 A4 R4
    obtain ⟨m0, m1, m2, m3, m4⟩ := A5.cells
    obtain ⟨r0, r1, r2⟩ := R5.cells
    have hb6 := hb5.alloc (show k0 ≤ w5.heap.size by have := R5.lt; omega) (.cells #[.string lo, .string MS, .bool true, .string MS, .string hi, .bool e] 29)
    have HG6 := HEa.out _ w5.heap.size 2 hb6 (rgs_two w5 lo MS MS hi true e)
    have hk5 : k0 ≤ w5.heap.size := by have := R5.lt; omega
    go_wp2_with fail
    refine HG6.mono ?_
    rintro x w7 ⟨hsay, hb7⟩
    have HX := hid (list_each (w0 := w) HE.out.1 HE.out.2 (by rw [HQ0.out]; simp; omega) hsay)
    obtain ⟨v, L, rfl, hO, he⟩ := hsay
    obtain ⟨bv, dv, cv, hv⟩ := row_slice hO.row
    subst hv
    go_wp2_with fail
    refine bodyPost_ret (v := .tuple #[.slice bv dv cv, .int .i64 (eachE ⟨lB, ps, pv, ks, bf⟩ [⟨lo, MS, true⟩, ⟨MS, hi, e⟩])]) (by simp [results, Try.results14, go_sem]) rfl ⟨HX.out, ?_⟩
    rw [HQ0.out]
    exact hb6.trans (hb7.mono (by simp; omega))

theorem list_mono {w w0 w' : World} {x : Ending} {L : List Pc} {z : Int} (hw : w0.heap.size ≤ w.heap.size) (h : ListSay w w' x L z) : ListSay w0 w' x L z := by
  obtain ⟨v, L', hx, hO, he⟩ := h
  exact ⟨v, L', hx, hO.mono hw, he⟩

set_option maxRecDepth 100000 in
set_option maxHeartbeats 1000000 in
theorem pieces16 (n : Nd) (p : Pl) (lo hi : ByteArray) (e : Bool) (fan pairs : Int) (w : World) (hf : Few n) (h : Lies w n p) (hlo : lo.size ≤ 1000) (hhi : hi.size ≤ 1000) :
    Calls Try.prog 16 #[nv n p, av lo hi e, .int .i64 fan, .int .i64 pairs] w fun x w' => ListSay w w' x (piecesL n lo hi e fan pairs) (piecesE n lo hi e fan pairs) ∧ Below w.heap.size w w' := by
  have HH := hid (fun (wr : World) (hb : Below w.heap.size w wr) => halves14 n p lo hi e wr hf (h.later hb) hlo hhi)
  have HO := hid (fun (wr : World) (b c : Nat) (hb : Below w.heap.size w wr) (hr : Rgs wr b [⟨lo, hi, e⟩]) => each39 n p b c [⟨lo, hi, e⟩] wr hf (h.later hb) hr (by simp) (by
    intro r hr
    rw [List.mem_singleton] at hr
    subst hr
    exact ⟨hlo, hhi⟩))
  obtain ⟨A0, R0, hb0⟩ := boxes_nr w (.bool n.leaf) (.slice p.a1 n.ps.length p.c1) (.slice p.a2 n.pv.length p.c2) (.slice p.a3 n.ks.length p.c3) (.slice p.a4 n.bf.length p.c4) (.string lo) (.string hi) (.bool e)
  have HE1 := hid (fun (hg : muchB n fan pairs = true) => show halvesE n lo hi e = piecesE n lo hi e fan pairs ∧ halvesL n lo hi e = piecesL n lo hi e fan pairs from by
    unfold piecesE piecesL; rw [hg]; exact ⟨rfl, rfl⟩)
  have HE2 := hid (fun (hg : muchB n fan pairs = false) => show eachE n [⟨lo, hi, e⟩] = piecesE n lo hi e fan pairs ∧ eachL n [⟨lo, hi, e⟩] = piecesL n lo hi e fan pairs from by
    rw [(one_list n lo hi e).1, (one_list n lo hi e).2]; unfold piecesE piecesL; rw [hg]; exact ⟨rfl, rfl⟩)
  have HG := hid (show muchB n fan pairs = if n.leaf then decide (pairs < (n.ps.length : Int)) else decide (fan < (n.ks.length : Int)) from rfl)
  generalize piecesE n lo hi e fan pairs = ZE at *
  generalize piecesL n lo hi e fan pairs = ZL at *
  generalize muchB n fan pairs = GB at *
  clear h hf
  obtain ⟨lB, ps, pv, ks, bf⟩ := n
  obtain ⟨a1, c1, a2, c2, a3, c3, a4, c4⟩ := p
  dsimp only [nv] at *
  have HN1 := hid (rfl : ps.length = ps.length)
  generalize ps.length = n1 at *
  generalize pv.length = n2 at *
  generalize ks.length = n3 at *
  generalize bf.length = n4 at *
  have key : ∀ gb, Hid (GB = gb) → Calls Try.prog 16 #[.agg #[.bool lB, .slice a1 n1 c1, .slice a2 n2 c2, .slice a3 n3 c3, .slice a4 n4 c4], av lo hi e, .int .i64 fan, .int .i64 pairs] w fun x w' => ListSay w w' x ZL ZE ∧ Below w.heap.size w w' := by
    intro gb hgb
    cases lB
    case false =>
     cases g1 : decide (fan < (n3 : Int))
     case false =>
      have HX := hid (HE2.out (by rw [HG.out]; exact g1))
      clear hgb HE1 HE2 HG HN1
      go_enter Try.func16, Try.ntmps16
      go_upto_region 1 with fail
      generalize hw2 : (w.alloc (.cells _ 27)).alloc (.cells #[.string lo, .string hi, .bool e] 29) = w2 at *
      clear hw2
      generalize hk0 : w.heap.size = k0 at *
      generalize hk1 : k0 + 1 = k1 at *
      have HQ0 := hid hk0
      have HQ := hid hk1
      clear hk0 hk1
      have hkk := HQ.out
      have hRl := R0.lt
      obtain ⟨m0, m1, m2, m3, m4⟩ := A0.cells
      obtain ⟨r0, r1, r2⟩ := R0.cells
      have hb6 := hb0.alloc (show k0 ≤ w2.heap.size by omega) (.cells #[.string lo, .string hi, .bool e] 29)
      have HG6 := HO.out _ w2.heap.size 1 hb6 (rgs_one w2 lo hi e)
      go_wp2_with fail
      refine HG6.mono ?_
      rintro x w7 ⟨hsay, hb7⟩
      have HY := hid (list_each (w0 := w) HX.out.1 HX.out.2 (by rw [HQ0.out]; simp; omega) hsay)
      obtain ⟨v, L, rfl, hO, he⟩ := hsay
      obtain ⟨bv, dv, cv, hv⟩ := row_slice hO.row
      subst hv
      go_wp2_with fail
      refine bodyPost_ret (v := .tuple #[.slice bv dv cv, .int .i64 (eachE ⟨false, ps, pv, ks, bf⟩ [⟨lo, hi, e⟩])]) (by simp [results, Try.results16, go_sem]) rfl ⟨HY.out, ?_⟩
      rw [HQ0.out]
      exact hb6.trans (hb7.mono (Nat.le_trans (show k0 ≤ w2.heap.size by omega) (by simp)))
     case true =>
      have HX := hid (HE1.out (by rw [HG.out]; exact g1))
      clear hgb HE1 HE2 HG HN1
      go_enter Try.func16, Try.ntmps16
      go_upto_region 1 with fail
      generalize hw2 : (w.alloc (.cells _ 27)).alloc (.cells #[.string lo, .string hi, .bool e] 29) = w2 at *
      clear hw2
      generalize hk0 : w.heap.size = k0 at *
      generalize hk1 : k0 + 1 = k1 at *
      have HQ0 := hid hk0
      have HQ := hid hk1
      clear hk0 hk1
      have hkk := HQ.out
      have hRl := R0.lt
      obtain ⟨m0, m1, m2, m3, m4⟩ := A0.cells
      obtain ⟨r0, r1, r2⟩ := R0.cells
      go_wp2_with fail
      refine (HH.out _ hb0).mono ?_
      rintro x w3 ⟨hsay, hb3⟩
      have HY := hid (list_mono (w0 := w) (by rw [HQ0.out]; omega) hsay)
      obtain ⟨v, L, rfl, hO, he⟩ := hsay
      obtain ⟨bv, dv, cv, hv⟩ := row_slice hO.row
      subst hv
      go_wp2_with fail
      refine bodyPost_ret (v := .tuple #[.slice bv dv cv, .int .i64 (halvesE ⟨false, ps, pv, ks, bf⟩ lo hi e)]) (by simp [results, Try.results16, go_sem]) rfl ⟨?_, ?_⟩
      · have := HY.out
        rw [HX.out.1, HX.out.2] at this
        rw [HX.out.1]
        exact this
      · rw [HQ0.out]
        exact hb0.trans (hb3.mono (by omega))
    case true =>
     cases g1 : decide (pairs < (n1 : Int))
     case false =>
      have HX := hid (HE2.out (by rw [HG.out]; exact g1))
      clear hgb HE1 HE2 HG HN1
      go_enter Try.func16, Try.ntmps16
      go_upto_region 1 with fail
      generalize hw2 : (w.alloc (.cells _ 27)).alloc (.cells #[.string lo, .string hi, .bool e] 29) = w2 at *
      clear hw2
      generalize hk0 : w.heap.size = k0 at *
      generalize hk1 : k0 + 1 = k1 at *
      have HQ0 := hid hk0
      have HQ := hid hk1
      clear hk0 hk1
      have hkk := HQ.out
      have hRl := R0.lt
      obtain ⟨m0, m1, m2, m3, m4⟩ := A0.cells
      obtain ⟨r0, r1, r2⟩ := R0.cells
      have hb6 := hb0.alloc (show k0 ≤ w2.heap.size by omega) (.cells #[.string lo, .string hi, .bool e] 29)
      have HG6 := HO.out _ w2.heap.size 1 hb6 (rgs_one w2 lo hi e)
      go_wp2_with fail
      refine HG6.mono ?_
      rintro x w7 ⟨hsay, hb7⟩
      have HY := hid (list_each (w0 := w) HX.out.1 HX.out.2 (by rw [HQ0.out]; simp; omega) hsay)
      obtain ⟨v, L, rfl, hO, he⟩ := hsay
      obtain ⟨bv, dv, cv, hv⟩ := row_slice hO.row
      subst hv
      go_wp2_with fail
      refine bodyPost_ret (v := .tuple #[.slice bv dv cv, .int .i64 (eachE ⟨true, ps, pv, ks, bf⟩ [⟨lo, hi, e⟩])]) (by simp [results, Try.results16, go_sem]) rfl ⟨HY.out, ?_⟩
      rw [HQ0.out]
      exact hb6.trans (hb7.mono (Nat.le_trans (show k0 ≤ w2.heap.size by omega) (by simp)))
     case true =>
      have HX := hid (HE1.out (by rw [HG.out]; exact g1))
      clear hgb HE1 HE2 HG HN1
      go_enter Try.func16, Try.ntmps16
      go_upto_region 1 with fail
      generalize hw2 : (w.alloc (.cells _ 27)).alloc (.cells #[.string lo, .string hi, .bool e] 29) = w2 at *
      clear hw2
      generalize hk0 : w.heap.size = k0 at *
      generalize hk1 : k0 + 1 = k1 at *
      have HQ0 := hid hk0
      have HQ := hid hk1
      clear hk0 hk1
      have hkk := HQ.out
      have hRl := R0.lt
      obtain ⟨m0, m1, m2, m3, m4⟩ := A0.cells
      obtain ⟨r0, r1, r2⟩ := R0.cells
      go_wp2_with fail
      refine (HH.out _ hb0).mono ?_
      rintro x w3 ⟨hsay, hb3⟩
      have HY := hid (list_mono (w0 := w) (by rw [HQ0.out]; omega) hsay)
      obtain ⟨v, L, rfl, hO, he⟩ := hsay
      obtain ⟨bv, dv, cv, hv⟩ := row_slice hO.row
      subst hv
      go_wp2_with fail
      refine bodyPost_ret (v := .tuple #[.slice bv dv cv, .int .i64 (halvesE ⟨true, ps, pv, ks, bf⟩ lo hi e)]) (by simp [results, Try.results16, go_sem]) rfl ⟨?_, ?_⟩
      · have := HY.out
        rw [HX.out.1, HX.out.2] at this
        rw [HX.out.1]
        exact this
      · rw [HQ0.out]
        exact hb0.trans (hb3.mono (by omega))
  exact key GB (hid rfl)
end Go.Proofs.Ytlkcoaencliajaa.Key

namespace Go.Proofs.Ytlkcoaencliajaa.Key
open Go.RowKit Draw
set_option linter.unusedVariables false
set_option linter.unusedSimpArgs false

def awN : Nd := ⟨true, [⟨⟨#[97]⟩, ⟨#[]⟩⟩, ⟨⟨#[97, 98, 99]⟩, ⟨#[]⟩⟩, ⟨⟨#[97, 98, 100]⟩, ⟨#[]⟩⟩], [], [], []⟩
theorem aw_b : midB awN = true := by kernel_rfl
theorem aw_s : midS awN = ⟨#[97, 98, 100]⟩ := by kernel_rfl
theorem aw_few : Few awN := ⟨by decide, by decide, by decide, by decide⟩
theorem aw_lies {w : World} {k : Nat} (h : w.heap[k]? = some (.cells #[.string ⟨#[97]⟩, .string ⟨#[]⟩, .string ⟨#[97, 98, 99]⟩, .string ⟨#[]⟩, .string ⟨#[97, 98, 100]⟩, .string ⟨#[]⟩] 64 (0, 0))) : Lies w awN ⟨some ⟨k, 0, none⟩, 3, none, 0, none, 0, none, 0⟩ := by
  refine ⟨.inr ⟨k, 0, rfl, fun i hi => ?_⟩, .inl rfl, .inl rfl, .inl rfl⟩
  have hi' : i < 3 := hi
  match i, hi' with
  | 0, _ => exact ⟨cell_of_row _ _ 0 _ _ _ h, cell_of_row _ _ 1 _ _ _ h⟩
  | 1, _ => exact ⟨cell_of_row _ _ 2 _ _ _ h, cell_of_row _ _ 3 _ _ _ h⟩
  | 2, _ => exact ⟨cell_of_row _ _ 4 _ _ _ h, cell_of_row _ _ 5 _ _ _ h⟩

set_option maxRecDepth 100000 in
set_option maxHeartbeats 1000000 in
theorem awake9 (w : World) : Calls Try.prog 9 #[] w fun x w' => x = .returned (.bool true) ∧ Below w.heap.size w w' := by
  have hP : (w.alloc (.cells #[.string ⟨#[97]⟩, .string ⟨#[]⟩, .string ⟨#[97, 98, 99]⟩, .string ⟨#[]⟩, .string ⟨#[97, 98, 100]⟩, .string ⟨#[]⟩] 64)).heap[w.heap.size]? = some (.cells #[.string ⟨#[97]⟩, .string ⟨#[]⟩, .string ⟨#[97, 98, 99]⟩, .string ⟨#[]⟩, .string ⟨#[97, 98, 100]⟩, .string ⟨#[]⟩] 64 (0, 0)) := Go.heap_alloc_new _ _
  have HT := hid (mid10 awN ⟨some ⟨w.heap.size, 0, none⟩, 3, none, 0, none, 0, none, 0⟩ _ aw_few (aw_lies hP))
  rw [aw_b, aw_s] at HT
  have hb0 := below_box w (.cells #[.string ⟨#[97]⟩, .string ⟨#[]⟩, .string ⟨#[97, 98, 99]⟩, .string ⟨#[]⟩, .string ⟨#[97, 98, 100]⟩, .string ⟨#[]⟩] 64)
  clear hP
  go_enter Try.func9, Try.ntmps9
  go_wp2_with fail
  refine HT.out.mono ?_
  rintro x w1 ⟨rfl, hb1⟩
  replace hb1 := hb0.trans (hb1.mono hb0.size)
  go_wp2_with fail
  go_ret
  exact ⟨rfl, hb1⟩
end Go.Proofs.Ytlkcoaencliajaa.Key

namespace Go.Proofs.Ytlkcoaencliajaa.Key
open Go.RowKit Draw
open Go.Op (bytesLess)
set_option linter.unusedVariables false

/-- the size of what is trimmed -/
theorem trim_few {n : Nd} (hf : Few n) (r : Rng) (a : ByteArray) : Few (trimA n r a) := by
  unfold trimA
  split
  · unfold trimN
    split
    · exact ⟨Nat.le_trans (psT_le _ _ _) hf.l1, Nat.zero_le _, Nat.zero_le _, Nat.zero_le _⟩
    · exact ⟨Nat.zero_le _, Nat.le_trans (pvT_le _ _ _ _) hf.l3, Nat.le_trans (ksT_le _ _ _ _) hf.l3, Nat.le_trans (trim_length _ _ _) hf.l4⟩
  · exact ⟨Nat.zero_le _, Nat.zero_le _, Nat.zero_le _, Nat.zero_le _⟩
theorem short_deep (m : M) (a : ByteArray) : (shortM m a).deep = m.deep ∨ (shortM m a).deep = 0 := by
  unfold shortM
  split
  · exact .inl rfl
  · split
    · exact .inl rfl
    · exact .inr rfl
theorem trim_deep {n : Nd} (hd : ∀ m ∈ n.bf, 0 ≤ m.deep ∧ m.deep ≤ 65535) (r : Rng) (a : ByteArray) : ∀ m ∈ (trimA n r a).bf, 0 ≤ m.deep ∧ m.deep ≤ 65535 := by
  unfold trimA
  split
  · unfold trimN
    split
    · intro m hm; cases hm
    · intro m hm
      have hm' : m ∈ trimL n.bf r a := hm
      obtain ⟨x, hx, rfl⟩ := List.mem_map.1 hm'
      have h0 := hd x (List.mem_filter.1 hx).1
      rcases short_deep x a with h | h
      · rw [h]; exact h0
      · rw [h]; omega
  · intro m hm; cases hm

/-- the sizes of what is trimmed -/
theorem trim_small {n : Nd} (hs : Small n) {r : Rng} {a : ByteArray} (h : trimE n r a = 0) : Small (trimA n r a) := by
  have hm := may_trim h
  have he := (trim_zero h).2.2.1
  have hd := trim_deep hs.db r a
  have hf := trim_few hs.few r a
  obtain ⟨z1, z2⟩ := may_sizes hm
  rw [he] at hd hf ⊢
  refine ⟨hf, fun m hx => (z2 m hx).1, fun m hx => Nat.le_trans (z2 m hx).2 (by decide), fun x hx => Nat.le_trans (z1 x hx).2 (by decide), hd, ?_⟩
  unfold trimN
  split
  · intro x hx; cases hx
  · intro x hx
    have hx' : x ∈ ksT n r a n.ks.length := hx
    unfold ksT at hx'
    obtain ⟨i, hi, rfl⟩ := List.mem_map.1 hx'
    obtain ⟨hij, _⟩ := mem_picks.1 hi
    rw [getD_at hij]
    have hq := hs.de _ (List.getElem_mem hij)
    exact ⟨hq.1, hq.2⟩
end Go.Proofs.Ytlkcoaencliajaa.Key

namespace Go.Proofs.Ytlkcoaencliajaa.Key
open Go.RowKit Draw
open Go.Op (bytesLess)
set_option linter.unusedVariables false
set_option linter.unusedSimpArgs false

/-- where a key leads in a node is where it leads in a piece -/
structure LeadsIn (n : Nd) (P : Pc) (k : ByteArray) : Prop where
  has : has k.data.toList P.strip.data.toList = true
  same : stepW P.node (k.data.toList.drop P.strip.size) = stepW n k.data.toList
  small : Small P.node
  lo : P.strip.size ≤ 1000
theorem whole_small {n : Nd} (hs : Small n) {lo hi : ByteArray} {e : Bool} (h : wholeE n (rg lo hi e) = 0) : Small (wholeP n lo hi e).node := by
  unfold wholeP
  rw [if_pos h]
  exact trim_small hs h
theorem whole_leads {n : Nd} (hs : Small n) {lo hi k : ByteArray} {e : Bool} (hlo : lo.size ≤ 1000) (h : wholeE n (rg lo hi e) = 0) (hk : inR (rg lo hi e) k.data.toList = true) : LeadsIn n (wholeP n lo hi e) k := by
  obtain ⟨h1, h2⟩ := piece_leads h hk
  have hp : (wholeP n lo hi e).strip = undS (rg lo hi e) := by rw [whole_zero h]
  refine ⟨by rw [hp]; exact h1, by rw [hp]; exact h2, whole_small hs h, ?_⟩
  rw [hp]
  exact Nat.le_trans (und_size _ _ _) hlo
theorem whole_lo {n : Nd} {lo hi : ByteArray} {e : Bool} (h : wholeE n (rg lo hi e) = 0) : (wholeP n lo hi e).lo = lo := by rw [whole_zero h]
theorem pieces_leads {n : Nd} (hs : Small n) {lo hi k : ByteArray} {e : Bool} {fan pairs : Int} (hlo : lo.size ≤ 1000) (h : piecesE n lo hi e fan pairs = 0) (hk : inR (rg lo hi e) k.data.toList = true) :
    (∃ P, piecesL n lo hi e fan pairs = [P] ∧ P.lo = lo ∧ LeadsIn n P k) ∨
    (∃ P Q, piecesL n lo hi e fan pairs = [P, Q] ∧ P.lo = lo ∧ (bytesLess k.toList Q.lo.toList = true → LeadsIn n P k) ∧ (bytesLess k.toList Q.lo.toList = false → LeadsIn n Q k)) := by
  unfold piecesE at h
  unfold piecesL
  cases hm : muchB n fan pairs
  · rw [hm, if_neg (by simp)] at h
    rw [if_neg (by simp)]
    unfold oneL
    rw [if_pos h]
    exact .inl ⟨_, rfl, whole_lo h, whole_leads hs hlo h hk⟩
  · rw [hm, if_pos rfl] at h
    rw [if_pos rfl]
    obtain ⟨h0, hg, h1, h2⟩ := halves_zero h
    obtain ⟨_, hi1, _⟩ := good_parts hg
    unfold halvesL
    rw [if_pos h]
    unfold inR at hk hi1
    rw [Bool.and_eq_true] at hk hi1
    refine .inr ⟨_, _, rfl, whole_lo h1, fun hl => whole_leads hs hlo h1 ?_, fun hl => whole_leads hs (by have := mid_size h0; omega) h2 ?_⟩
    · rw [whole_lo h2, less_str] at hl
      unfold inR
      rw [Bool.and_eq_true]
      refine ⟨hk.1, ?_⟩
      have hl' : bytesLess k.data.toList (rg lo (midS n) true).hi = true := hl
      show (!true || bytesLess _ (rg lo (midS n) true).hi) = true
      rw [hl']
      rfl
    · rw [whole_lo h2, less_str] at hl
      unfold inR
      rw [Bool.and_eq_true]
      refine ⟨?_, hk.2⟩
      have hl' : bytesLess k.data.toList (rg (midS n) hi e).lo = false := hl
      show (!bytesLess _ (rg (midS n) hi e).lo) = true
      rw [hl']
      rfl
theorem pieces_none {n : Nd} {lo hi : ByteArray} {e : Bool} {fan pairs : Int} (h : piecesE n lo hi e fan pairs ≠ 0) : piecesL n lo hi e fan pairs = [] := by
  unfold piecesE at h
  unfold piecesL
  cases hm : muchB n fan pairs
  · rw [hm, if_neg (by simp)] at h
    rw [if_neg (by simp)]
    unfold oneL
    rw [if_neg h]
  · rw [hm, if_pos rfl] at h
    rw [if_pos rfl]
    unfold halvesL
    rw [if_neg h]
/-- seven cells -/
structure Seven (w : World) (g o0 o1 o2 o3 o4 o5 o6 : Nat) (v0 v1 v2 v3 v4 v5 v6 : Value) : Prop where
  c0 : w.cell? ⟨g, o0, none⟩ = some v0
  c1 : w.cell? ⟨g, o1, none⟩ = some v1
  c2 : w.cell? ⟨g, o2, none⟩ = some v2
  c3 : w.cell? ⟨g, o3, none⟩ = some v3
  c4 : w.cell? ⟨g, o4, none⟩ = some v4
  c5 : w.cell? ⟨g, o5, none⟩ = some v5
  c6 : w.cell? ⟨g, o6, none⟩ = some v6
theorem Seven.later {w w' : World} {g o0 o1 o2 o3 o4 o5 o6 : Nat} {v0 v1 v2 v3 v4 v5 v6 : Value} (h : Seven w g o0 o1 o2 o3 o4 o5 o6 v0 v1 v2 v3 v4 v5 v6) (hb : Below w.heap.size w w') : Seven w' g o0 o1 o2 o3 o4 o5 o6 v0 v1 v2 v3 v4 v5 v6 := by
  have hB := World.block_lt_of_cell? w _ h.c0
  exact ⟨(hb.cell (p := ⟨g, o0, none⟩) hB).trans h.c0, (hb.cell (p := ⟨g, o1, none⟩) hB).trans h.c1, (hb.cell (p := ⟨g, o2, none⟩) hB).trans h.c2, (hb.cell (p := ⟨g, o3, none⟩) hB).trans h.c3, (hb.cell (p := ⟨g, o4, none⟩) hB).trans h.c4, (hb.cell (p := ⟨g, o5, none⟩) hB).trans h.c5, (hb.cell (p := ⟨g, o6, none⟩) hB).trans h.c6⟩
theorem OwnQ.at {w : World} {B : Nat} {v : Value} {L : List PcQ} (h : OwnQ w B v L) (hne : L ≠ []) : ∃ g c, v = .slice (some ⟨g, 0, none⟩) L.length c ∧ B ≤ g ∧ ∀ i (hi : i < L.length), PcAt w g (0 + i * 7) L[i] := by
  obtain ⟨a, c, e, h1⟩ := row_cells Pc.cells 7 (fun _ => rfl) h.row
  rcases h1 with h1 | ⟨g, e', hB, _, hc⟩
  · exact absurd h1 hne
  · subst e'
    exact ⟨g, c, e, hB, fun i hi => ⟨hc i hi 0 _ (by omega) rfl, hc i hi 1 _ (by omega) rfl, hc i hi 2 _ (by omega) rfl, hc i hi 3 _ (by omega) rfl, hc i hi 4 _ (by omega) rfl, hc i hi 5 _ (by omega) rfl, hc i hi 6 _ (by omega) rfl⟩⟩
theorem OwnQ.one {w : World} {B : Nat} {v : Value} {L : List PcQ} {P : Pc} (h : OwnQ w B v L) (hL : L.map Prod.fst = [P]) : ∃ g c q, v = .slice (some ⟨g, 0, none⟩) 1 c ∧ B ≤ g ∧ Seven w g 0 1 2 3 4 5 6 (.string P.lo) (.string P.strip) (.bool P.node.leaf) (.slice q.a1 P.node.ps.length q.c1) (.slice q.a2 P.node.pv.length q.c2) (.slice q.a3 P.node.ks.length q.c3) (.slice q.a4 P.node.bf.length q.c4) ∧ Lies w P.node q := by
  match L, hL with
  | [x], hL =>
    obtain ⟨P', q⟩ := x
    have e : P' = P := by simpa using hL
    subst e
    obtain ⟨g, c, hv, hB, hc⟩ := h.at (by simp)
    have h0 := hc 0 (by simp)
    exact ⟨g, c, q, hv, hB, ⟨h0.c0, h0.c1, h0.c2, h0.c3, h0.c4, h0.c5, h0.c6⟩, (h.node _ (List.mem_cons_self ..)).lies⟩
theorem OwnQ.two {w : World} {B : Nat} {v : Value} {L : List PcQ} {P Q : Pc} (h : OwnQ w B v L) (hL : L.map Prod.fst = [P, Q]) : ∃ g c q q', v = .slice (some ⟨g, 0, none⟩) 2 c ∧ B ≤ g ∧ Seven w g 0 1 2 3 4 5 6 (.string P.lo) (.string P.strip) (.bool P.node.leaf) (.slice q.a1 P.node.ps.length q.c1) (.slice q.a2 P.node.pv.length q.c2) (.slice q.a3 P.node.ks.length q.c3) (.slice q.a4 P.node.bf.length q.c4) ∧ Lies w P.node q ∧ Seven w g 7 8 9 10 11 12 13 (.string Q.lo) (.string Q.strip) (.bool Q.node.leaf) (.slice q'.a1 Q.node.ps.length q'.c1) (.slice q'.a2 Q.node.pv.length q'.c2) (.slice q'.a3 Q.node.ks.length q'.c3) (.slice q'.a4 Q.node.bf.length q'.c4) ∧ Lies w Q.node q' := by
  match L, hL with
  | [x, y], hL =>
    obtain ⟨P', q⟩ := x
    obtain ⟨Q', q'⟩ := y
    have e : P' = P ∧ Q' = Q := by simpa using hL
    obtain ⟨rfl, rfl⟩ := e
    obtain ⟨g, c, hv, hB, hc⟩ := h.at (by simp)
    have h0 := hc 0 (by simp)
    have h1 := hc 1 (by simp)
    exact ⟨g, c, q, q', hv, hB, ⟨h0.c0, h0.c1, h0.c2, h0.c3, h0.c4, h0.c5, h0.c6⟩, (h.node _ (List.mem_cons_self ..)).lies, ⟨h1.c0, h1.c1, h1.c2, h1.c3, h1.c4, h1.c5, h1.c6⟩, (h.node (Q', q') (by simp)).lies⟩

set_option maxRecDepth 100000 in
set_option maxHeartbeats 2000000 in
theorem splitLeads4 (n : Nd) (p : Pl) (lo hi : ByteArray) (e : Bool) (k : ByteArray) (fan pairs : Int) (w : World) (hn : n.In) (h : Lies w n p) (hlo : lo.size ≤ maxLen) (hhi : hi.size ≤ maxLen) (hk : k.size ≤ maxLen) :
    Calls Try.prog 4 #[nv n p, av lo hi e, .string k, .int .i64 fan, .int .i64 pairs] w fun e w' => e = .returned (.bool true) ∧ Below w.heap.size w w' := by
  obtain ⟨A0, R0, hb0⟩ := boxes_nr w (.bool n.leaf) (.slice p.a1 n.ps.length p.c1) (.slice p.a2 n.pv.length p.c2) (.slice p.a3 n.ks.length p.c3) (.slice p.a4 n.bf.length p.c4) (.string lo) (.string hi) (.bool e)
  have HG := hid (great7 n p _ hn.long (h.later hb0))
  have HS := hid (fun g => @small_of n g hn)
  have HR := hid (great9 lo hi e)
  have hh := hid (fun (wr : World) (hb : Below w.heap.size w wr) => h.later hb)
  clear hn h
  cases g1 : greatN n
  case true =>
    rw [g1] at HG
    clear HS hh g1 HR
    obtain ⟨lB, ps, pv, ks, bf⟩ := n
    obtain ⟨a1, c1, a2, c2, a3, c3, a4, c4⟩ := p
    dsimp only [nv] at *
    generalize ps.length = n1 at *
    generalize pv.length = n2 at *
    generalize ks.length = n3 at *
    generalize bf.length = n4 at *
    go_enter Try.func4, Try.ntmps4
    obtain ⟨cA0, cA1, cA2, cA3, cA4⟩ := A0.cells
    have cAl := A0.lt
    obtain ⟨cR0, cR1, cR2⟩ := R0.cells
    have cRl := R0.lt
    go_wp2_with fail
    refine (HG.out).mono ?_
    rintro x w1 ⟨rfl, hb1⟩
    clear cA0 cA1 cA2 cA3 cA4 cAl cR0 cR1 cR2 cRl
    have Ah1 := A0.later hb1
    have Rh1 := R0.later hb1
    replace hb1 := hb0.trans (hb1.mono hb0.size)
    obtain ⟨cA0, cA1, cA2, cA3, cA4⟩ := Ah1.cells
    have cAl := Ah1.lt
    obtain ⟨cR0, cR1, cR2⟩ := Rh1.cells
    have cRl := Rh1.lt
    go_wp2_with fail
    refine (awake9 _).mono ?_
    rintro x w2 ⟨rfl, hb2⟩
    clear cA0 cA1 cA2 cA3 cA4 cAl cR0 cR1 cR2 cRl
    have Ah2 := Ah1.later hb2
    have Rh2 := Rh1.later hb2
    replace hb2 := hb1.trans (hb2.mono hb1.size)
    go_wp2_with fail
    go_ret
    exact ⟨rfl, hb2⟩
  case false =>
  rw [g1] at HG
  have hsm := HS.out g1
  clear HS g1
  cases g2 : (decide (300 < lo.size) || decide (300 < hi.size))
  case true =>
    rw [g2] at HR
    clear hh hsm g2
    obtain ⟨lB, ps, pv, ks, bf⟩ := n
    obtain ⟨a1, c1, a2, c2, a3, c3, a4, c4⟩ := p
    dsimp only [nv] at *
    generalize ps.length = n1 at *
    generalize pv.length = n2 at *
    generalize ks.length = n3 at *
    generalize bf.length = n4 at *
    go_enter Try.func4, Try.ntmps4
    obtain ⟨cA0, cA1, cA2, cA3, cA4⟩ := A0.cells
    have cAl := A0.lt
    obtain ⟨cR0, cR1, cR2⟩ := R0.cells
    have cRl := R0.lt
    go_wp2_with fail
    refine (HG.out).mono ?_
    rintro x w1 ⟨rfl, hb1⟩
    clear cA0 cA1 cA2 cA3 cA4 cAl cR0 cR1 cR2 cRl
    have Ah1 := A0.later hb1
    have Rh1 := R0.later hb1
    replace hb1 := hb0.trans (hb1.mono hb0.size)
    obtain ⟨cA0, cA1, cA2, cA3, cA4⟩ := Ah1.cells
    have cAl := Ah1.lt
    obtain ⟨cR0, cR1, cR2⟩ := Rh1.cells
    have cRl := Rh1.lt
    go_wp2_with fail
    refine (HR.out _).mono ?_
    rintro x w2 ⟨rfl, hb2⟩
    clear cA0 cA1 cA2 cA3 cA4 cAl cR0 cR1 cR2 cRl
    have Ah2 := Ah1.later hb2
    have Rh2 := Rh1.later hb2
    replace hb2 := hb1.trans (hb2.mono hb1.size)
    obtain ⟨cA0, cA1, cA2, cA3, cA4⟩ := Ah2.cells
    have cAl := Ah2.lt
    obtain ⟨cR0, cR1, cR2⟩ := Rh2.cells
    have cRl := Rh2.lt
    go_wp2_with fail
    refine (awake9 _).mono ?_
    rintro x w3 ⟨rfl, hb3⟩
    clear cA0 cA1 cA2 cA3 cA4 cAl cR0 cR1 cR2 cRl
    have Ah3 := Ah2.later hb3
    have Rh3 := Rh2.later hb3
    replace hb3 := hb2.trans (hb3.mono hb2.size)
    go_wp2_with fail
    go_ret
    exact ⟨rfl, hb3⟩
  case false =>
  rw [g2] at HR
  have hlr : lo.size ≤ 300 ∧ hi.size ≤ 300 := by simp at g2; omega
  clear g2
  cases g3 : decide ((100 : Int) < (k.size : Int))
  case true =>
    clear hh hsm
    obtain ⟨lB, ps, pv, ks, bf⟩ := n
    obtain ⟨a1, c1, a2, c2, a3, c3, a4, c4⟩ := p
    dsimp only [nv] at *
    generalize ps.length = n1 at *
    generalize pv.length = n2 at *
    generalize ks.length = n3 at *
    generalize bf.length = n4 at *
    go_enter Try.func4, Try.ntmps4
    obtain ⟨cA0, cA1, cA2, cA3, cA4⟩ := A0.cells
    have cAl := A0.lt
    obtain ⟨cR0, cR1, cR2⟩ := R0.cells
    have cRl := R0.lt
    go_wp2_with fail
    refine (HG.out).mono ?_
    rintro x w1 ⟨rfl, hb1⟩
    clear cA0 cA1 cA2 cA3 cA4 cAl cR0 cR1 cR2 cRl
    have Ah1 := A0.later hb1
    have Rh1 := R0.later hb1
    replace hb1 := hb0.trans (hb1.mono hb0.size)
    obtain ⟨cA0, cA1, cA2, cA3, cA4⟩ := Ah1.cells
    have cAl := Ah1.lt
    obtain ⟨cR0, cR1, cR2⟩ := Rh1.cells
    have cRl := Rh1.lt
    go_wp2_with fail
    refine (HR.out _).mono ?_
    rintro x w2 ⟨rfl, hb2⟩
    clear cA0 cA1 cA2 cA3 cA4 cAl cR0 cR1 cR2 cRl
    have Ah2 := Ah1.later hb2
    have Rh2 := Rh1.later hb2
    replace hb2 := hb1.trans (hb2.mono hb1.size)
    obtain ⟨cA0, cA1, cA2, cA3, cA4⟩ := Ah2.cells
    have cAl := Ah2.lt
    obtain ⟨cR0, cR1, cR2⟩ := Rh2.cells
    have cRl := Rh2.lt
    go_wp2_with fail
    refine (awake9 _).mono ?_
    rintro x w3 ⟨rfl, hb3⟩
    clear cA0 cA1 cA2 cA3 cA4 cAl cR0 cR1 cR2 cRl
    have Ah3 := Ah2.later hb3
    have Rh3 := Rh2.later hb3
    replace hb3 := hb2.trans (hb3.mono hb2.size)
    go_wp2_with fail
    go_ret
    exact ⟨rfl, hb3⟩
  case false =>
  have hlk : k.size ≤ 100 := by simp at g3; omega
  have HI := hid (fun wr => in20 lo hi k e wr)
  cases g5 : inR (rg lo hi e) k.data.toList
  case false =>
    rw [g5] at HI
    clear hh hsm g5
    obtain ⟨lB, ps, pv, ks, bf⟩ := n
    obtain ⟨a1, c1, a2, c2, a3, c3, a4, c4⟩ := p
    dsimp only [nv] at *
    generalize ps.length = n1 at *
    generalize pv.length = n2 at *
    generalize ks.length = n3 at *
    generalize bf.length = n4 at *
    go_enter Try.func4, Try.ntmps4
    obtain ⟨cA0, cA1, cA2, cA3, cA4⟩ := A0.cells
    have cAl := A0.lt
    obtain ⟨cR0, cR1, cR2⟩ := R0.cells
    have cRl := R0.lt
    go_wp2_with fail
    refine (HG.out).mono ?_
    rintro x w1 ⟨rfl, hb1⟩
    clear cA0 cA1 cA2 cA3 cA4 cAl cR0 cR1 cR2 cRl
    have Ah1 := A0.later hb1
    have Rh1 := R0.later hb1
    replace hb1 := hb0.trans (hb1.mono hb0.size)
    obtain ⟨cA0, cA1, cA2, cA3, cA4⟩ := Ah1.cells
    have cAl := Ah1.lt
    obtain ⟨cR0, cR1, cR2⟩ := Rh1.cells
    have cRl := Rh1.lt
    go_wp2_with fail
    refine (HR.out _).mono ?_
    rintro x w2 ⟨rfl, hb2⟩
    clear cA0 cA1 cA2 cA3 cA4 cAl cR0 cR1 cR2 cRl
    have Ah2 := Ah1.later hb2
    have Rh2 := Rh1.later hb2
    replace hb2 := hb1.trans (hb2.mono hb1.size)
    obtain ⟨cA0, cA1, cA2, cA3, cA4⟩ := Ah2.cells
    have cAl := Ah2.lt
    obtain ⟨cR0, cR1, cR2⟩ := Rh2.cells
    have cRl := Rh2.lt
    go_wp2_with fail
    refine (HI.out _).mono ?_
    rintro x w3 ⟨rfl, hb3⟩
    clear cA0 cA1 cA2 cA3 cA4 cAl cR0 cR1 cR2 cRl
    have Ah3 := Ah2.later hb3
    have Rh3 := Rh2.later hb3
    replace hb3 := hb2.trans (hb3.mono hb2.size)
    obtain ⟨cA0, cA1, cA2, cA3, cA4⟩ := Ah3.cells
    have cAl := Ah3.lt
    obtain ⟨cR0, cR1, cR2⟩ := Rh3.cells
    have cRl := Rh3.lt
    go_wp2_with fail
    refine (awake9 _).mono ?_
    rintro x w4 ⟨rfl, hb4⟩
    clear cA0 cA1 cA2 cA3 cA4 cAl cR0 cR1 cR2 cRl
    have Ah4 := Ah3.later hb4
    have Rh4 := Rh3.later hb4
    replace hb4 := hb3.trans (hb4.mono hb3.size)
    go_wp2_with fail
    go_ret
    exact ⟨rfl, hb4⟩
  case true =>
  rw [g5] at HI
  have T1 := hid (fun wr hb => pieces16 n p lo hi e fan pairs wr hsm.few (hh.out wr hb) (by omega) (by omega))
  unfold ListSay at T1
  by_cases hz : piecesE n lo hi e fan pairs = 0
  case neg =>
    have hL := pieces_none hz
    rw [hL] at T1
    generalize piecesE n lo hi e fan pairs = z at *
    clear hh hsm g5 hL
    obtain ⟨lB, ps, pv, ks, bf⟩ := n
    obtain ⟨a1, c1, a2, c2, a3, c3, a4, c4⟩ := p
    dsimp only [nv] at *
    generalize ps.length = n1 at *
    generalize pv.length = n2 at *
    generalize ks.length = n3 at *
    generalize bf.length = n4 at *
    go_enter Try.func4, Try.ntmps4
    obtain ⟨cA0, cA1, cA2, cA3, cA4⟩ := A0.cells
    have cAl := A0.lt
    obtain ⟨cR0, cR1, cR2⟩ := R0.cells
    have cRl := R0.lt
    go_wp2_with fail
    refine (HG.out).mono ?_
    rintro x w1 ⟨rfl, hb1⟩
    clear cA0 cA1 cA2 cA3 cA4 cAl cR0 cR1 cR2 cRl
    have Ah1 := A0.later hb1
    have Rh1 := R0.later hb1
    replace hb1 := hb0.trans (hb1.mono hb0.size)
    obtain ⟨cA0, cA1, cA2, cA3, cA4⟩ := Ah1.cells
    have cAl := Ah1.lt
    obtain ⟨cR0, cR1, cR2⟩ := Rh1.cells
    have cRl := Rh1.lt
    go_wp2_with fail
    refine (HR.out _).mono ?_
    rintro x w2 ⟨rfl, hb2⟩
    clear cA0 cA1 cA2 cA3 cA4 cAl cR0 cR1 cR2 cRl
    have Ah2 := Ah1.later hb2
    have Rh2 := Rh1.later hb2
    replace hb2 := hb1.trans (hb2.mono hb1.size)
    obtain ⟨cA0, cA1, cA2, cA3, cA4⟩ := Ah2.cells
    have cAl := Ah2.lt
    obtain ⟨cR0, cR1, cR2⟩ := Rh2.cells
    have cRl := Rh2.lt
    go_wp2_with fail
    refine (HI.out _).mono ?_
    rintro x w3 ⟨rfl, hb3⟩
    clear cA0 cA1 cA2 cA3 cA4 cAl cR0 cR1 cR2 cRl
    have Ah3 := Ah2.later hb3
    have Rh3 := Rh2.later hb3
    replace hb3 := hb2.trans (hb3.mono hb2.size)
    clear HG HR HI
    obtain ⟨cA0, cA1, cA2, cA3, cA4⟩ := Ah3.cells
    have cAl := Ah3.lt
    obtain ⟨cR0, cR1, cR2⟩ := Rh3.cells
    have cRl := Rh3.lt
    go_wp2_with fail
    refine (T1.out _ hb3).mono ?_
    rintro x w4 ⟨⟨v, L, rfl, hO, hL⟩, hb4⟩
    clear cA0 cA1 cA2 cA3 cA4 cAl cR0 cR1 cR2 cRl
    have Ah4 := Ah3.later hb4
    have Rh4 := Rh3.later hb4
    replace hb4 := hb3.trans (hb4.mono hb3.size)
    obtain rfl : L = [] := List.map_eq_nil_iff.1 hL
    obtain ⟨a, c, rfl, _⟩ := hO.lies
    clear hO hL
    dsimp only [List.length_nil]
    obtain ⟨cA0, cA1, cA2, cA3, cA4⟩ := Ah4.cells
    have cAl := Ah4.lt
    obtain ⟨cR0, cR1, cR2⟩ := Rh4.cells
    have cRl := Rh4.lt
    go_wp2_with fail
    refine (awake9 _).mono ?_
    rintro x w5 ⟨rfl, hb5⟩
    clear cA0 cA1 cA2 cA3 cA4 cAl cR0 cR1 cR2 cRl
    have Ah5 := Ah4.later hb5
    have Rh5 := Rh4.later hb5
    replace hb5 := hb4.trans (hb5.mono hb4.size)
    go_wp2_with fail
    go_ret
    exact ⟨rfl, hb5⟩
  case pos =>
  have hcase := hid (pieces_leads hsm (k := k) (show lo.size ≤ 1000 by omega) hz g5)
  have S2 := hid (fun wr (hb : Below w.heap.size w wr) => step20 n p k wr hsm (by omega) (hh.out wr hb))
  have H1 := hid (fun (P : Pc) (hp : LeadsIn n P k) => And.intro hp.small (And.intro hp.has (And.intro hp.same hp.lo)))
  have H3 := hid (fun (P : Pc) (q : Pl) (wr : World) (hp : LeadsIn n P k) (hl : Lies wr P.node q) => by
    have := step20 P.node q (k.extract P.strip.size k.size) wr hp.small (by rw [ByteArray.size_extract]; omega) hl
    rw [ext_data, hp.same] at this
    exact this)
  rw [hz] at T1
  clear hz g5 hh hsm
  generalize stepW n k.data.toList = y at *
  generalize hLL : piecesL n lo hi e fan pairs = LL at *
  obtain ⟨yk, yv, yb, yd, yy⟩ := y
  have HLead : ∀ (D : Pc → Prop), Hid (D = fun P => LeadsIn n P k) → Calls Try.prog 4 #[nv n p, av lo hi e, .string k, .int .i64 fan, .int .i64 pairs] w fun e w' => e = .returned (.bool true) ∧ Below w.heap.size w w' := by
    intro D hD
    have hcase' : (∃ P, LL = [P] ∧ P.lo = lo ∧ D P) ∨ (∃ P Q, LL = [P, Q] ∧ P.lo = lo ∧ (bytesLess k.toList Q.lo.toList = true → D P) ∧ (bytesLess k.toList Q.lo.toList = false → D Q)) := by
      rw [hD]; exact hcase.out
    have H1' := hid (fun (P : Pc) (hp : D P) => show has k.data.toList P.strip.data.toList = true ∧ P.strip.size ≤ 1000 from by
      rw [hD] at hp; exact ⟨hp.has, hp.lo⟩)
    have H3' := hid (fun (P : Pc) (q : Pl) (wr : World) (hp : D P) (hl : Lies wr P.node q) => show Calls Try.prog 21 #[nv P.node q, .string (k.extract P.strip.size k.size)] wr fun x w' => x = .returned (wv ⟨yk, yv, yb, yd, yy⟩) ∧ Below wr.heap.size wr w' from by
      rw [hD] at hp; exact H3.out P q wr hp hl)
    clear hcase H1 H3 hD hLL
    rcases hcase' with ⟨P, rfl, rfl, hPk⟩ | ⟨P, Q, rfl, rfl, hPk, hQk⟩
    case inl =>
      have HH := hid (fun wr => has22 k P.strip wr)
      have hle := has_size (H1'.out P hPk).1
      rw [(H1'.out P hPk).1] at HH
      have S1 := hid (fun (q : Pl) wr (hl : Lies wr P.node q) => H3'.out P q wr hPk hl)
      clear H1' H3' hPk
      obtain ⟨lB, ps, pv, ks, bf⟩ := n
      obtain ⟨a1, c1, a2, c2, a3, c3, a4, c4⟩ := p
      dsimp only [nv] at *
      generalize ps.length = n1 at *
      generalize pv.length = n2 at *
      generalize ks.length = n3 at *
      generalize bf.length = n4 at *
      go_enter Try.func4, Try.ntmps4
      obtain ⟨cA0, cA1, cA2, cA3, cA4⟩ := A0.cells
      have cAl := A0.lt
      obtain ⟨cR0, cR1, cR2⟩ := R0.cells
      have cRl := R0.lt
      go_wp2_with fail
      refine (HG.out).mono ?_
      rintro x w1 ⟨rfl, hb1⟩
      clear cA0 cA1 cA2 cA3 cA4 cAl cR0 cR1 cR2 cRl
      have Ah1 := A0.later hb1
      have Rh1 := R0.later hb1
      replace hb1 := hb0.trans (hb1.mono hb0.size)
      obtain ⟨cA0, cA1, cA2, cA3, cA4⟩ := Ah1.cells
      have cAl := Ah1.lt
      obtain ⟨cR0, cR1, cR2⟩ := Rh1.cells
      have cRl := Rh1.lt
      go_wp2_with fail
      refine (HR.out _).mono ?_
      rintro x w2 ⟨rfl, hb2⟩
      clear cA0 cA1 cA2 cA3 cA4 cAl cR0 cR1 cR2 cRl
      have Ah2 := Ah1.later hb2
      have Rh2 := Rh1.later hb2
      replace hb2 := hb1.trans (hb2.mono hb1.size)
      obtain ⟨cA0, cA1, cA2, cA3, cA4⟩ := Ah2.cells
      have cAl := Ah2.lt
      obtain ⟨cR0, cR1, cR2⟩ := Rh2.cells
      have cRl := Rh2.lt
      go_wp2_with fail
      refine (HI.out _).mono ?_
      rintro x w3 ⟨rfl, hb3⟩
      clear cA0 cA1 cA2 cA3 cA4 cAl cR0 cR1 cR2 cRl
      have Ah3 := Ah2.later hb3
      have Rh3 := Rh2.later hb3
      replace hb3 := hb2.trans (hb3.mono hb2.size)
      clear HG HR HI
      obtain ⟨cA0, cA1, cA2, cA3, cA4⟩ := Ah3.cells
      have cAl := Ah3.lt
      obtain ⟨cR0, cR1, cR2⟩ := Rh3.cells
      have cRl := Rh3.lt
      go_wp2_with fail
      refine (T1.out _ hb3).mono ?_
      rintro x w4 ⟨⟨v, L, rfl, hO, hL⟩, hb4⟩
      clear cA0 cA1 cA2 cA3 cA4 cAl cR0 cR1 cR2 cRl
      have Ah4 := Ah3.later hb4
      have Rh4 := Rh3.later hb4
      replace hb4 := hb3.trans (hb4.mono hb3.size)
      obtain ⟨g, c, q, rfl, hg, V, LL⟩ := hO.one hL
      clear hO hL L
      obtain ⟨plo, S, nd⟩ := P
      obtain ⟨lm, ps', pv', ks', bf'⟩ := nd
      dsimp only at *
      have hle' : (S.size : Int) ≤ (k.size : Int) := by omega
      generalize ps'.length = m1 at *
      generalize pv'.length = m2 at *
      generalize ks'.length = m3 at *
      generalize bf'.length = m4 at *
      have hs4 := hb4.size
      go_upto_region 6 with fail
      refine wp_region_quiet (C := fun u => Below w4.heap.size w4 u) (by kernel_rfl) (by kernel_rfl) (Below.refl _ w4).drew ?_
      change wpQuiet _ _ _ _ (_ :: _) _
      repeat
        first
          | go_big_quiet_skip
          | go_big_quiet_want
            first
              | refine quiet_v ?_ ?_ ?_
                rotate_left
                · intro u hu
                  obtain ⟨r0, r1, r2⟩ := (Rh4.later hu).cells
                  obtain ⟨z0, z1, z2, z3, z4, z5, z6⟩ := V.later hu
                  go_simp
                  with_reducible rfl
            go_simp
            go_big_quiet_on
      refine wpQuiet_nil (fun u hu => ?_)
      have V5 := V.later hu
      have A5 := Ah4.later hu
      have L5 := LL.later hu
      have hb5 := hb4.trans (hu.mono (by omega))
      have hs5 := hb5.size
      clear hu V LL Ah4 Rh4 hb4
      obtain ⟨z0, z1, z2, z3, z4, z5, z6⟩ := V5
      go_upto_region 9 with fail
      have QQ := QBox.new u (.string plo) (.string S) (.bool lm) (.slice q.a1 m1 q.c1) (.slice q.a2 m2 q.c2) (.slice q.a3 m3 q.c3) (.slice q.a4 m4 q.c4)
      have AA := A5.alloc (.cells #[.string plo, .string S, .bool lm, .slice q.a1 m1 q.c1, .slice q.a2 m2 q.c2, .slice q.a3 m3 q.c3, .slice q.a4 m4 q.c4] 36)
      have LL := L5.alloc (.cells #[.string plo, .string S, .bool lm, .slice q.a1 m1 q.c1, .slice q.a2 m2 q.c2, .slice q.a3 m3 q.c3, .slice q.a4 m4 q.c4] 36)
      have hb6 := hb5.alloc hs5 (.cells #[.string plo, .string S, .bool lm, .slice q.a1 m1 q.c1, .slice q.a2 m2 q.c2, .slice q.a3 m3 q.c3, .slice q.a4 m4 q.c4] 36)
      have hs6 := hb6.size
      generalize u.heap.size = kp at *
      generalize u.alloc (.cells #[.string plo, .string S, .bool lm, .slice q.a1 m1 q.c1, .slice q.a2 m2 q.c2, .slice q.a3 m3 q.c3, .slice q.a4 m4 q.c4] 36) = w6 at *
      go_upto_region 11 with fail
      refine wp_region_quiet (C := fun u => Below w6.heap.size w6 u) (by kernel_rfl) (by kernel_rfl) (Below.refl _ w6).drew ?_
      change wpQuiet _ _ _ _ (_ :: _) _
      repeat
        first
          | go_big_quiet_skip
          | go_big_quiet_want
            first
              | refine quiet_v ?_ ?_ ?_
                rotate_left
                · intro u hu
                  obtain ⟨m0, m1, m2, m3, m4⟩ := (AA.later hu).cells
                  obtain ⟨z0, z1, z2, z3, z4, z5, z6⟩ := (QQ.later hu).cells
                  go_simp
                  with_reducible rfl
              | refine quiet_c (.bool true) 20 #[.string k, .string S] ?_ (fun u hu => (HH.out u).mono fun x u' h => ⟨h.1, by rw [h.2]; exact hu⟩) ?_
                · intro u hu
                  go_simp
                  done
              | refine quiet_c (wv ⟨yk, yv, yb, yd, yy⟩) 21 #[.agg #[.bool lm, .slice q.a1 m1 q.c1, .slice q.a2 m2 q.c2, .slice q.a3 m3 q.c3, .slice q.a4 m4 q.c4], .string (k.extract S.size k.size)] ?_ (fun u hu => (S1.out _ u (LL.later hu)).mono fun x u' h => ⟨h.1, hu.trans (h.2.mono hu.size)⟩) ?_
                · intro u hu
                  go_simp
                  done
              | refine quiet_c (wv ⟨yk, yv, yb, yd, yy⟩) 21 #[.agg #[.bool lB, .slice a1 n1 c1, .slice a2 n2 c2, .slice a3 n3 c3, .slice a4 n4 c4], .string k] ?_ (fun u hu => (S2.out u (hb6.trans (hu.mono (by omega)))).mono fun x u' h => ⟨h.1, hu.trans (h.2.mono hu.size)⟩) ?_
                · intro u hu
                  go_simp
                  done
              | refine quiet_c (.bool true) 9 #[] ?_ (fun u hu => (awake9 u).mono fun x u' h => ⟨h.1, hu.trans (h.2.mono hu.size)⟩) ?_
                · intro u hu
                  go_simp
                  done
            go_simp
            go_big_quiet_on
      refine wpQuiet_nil (fun u hu => ?_)
      go_wp2_with fail
      go_ret
      exact ⟨rfl, hb6.trans (hu.mono (by omega))⟩
    case inr =>
      cases hc : bytesLess k.toList Q.lo.toList
      case true =>
        have hX : D P := (hPk hc)
        have HH := hid (fun wr => has22 k P.strip wr)
        have hle := has_size (H1'.out P hX).1
        rw [(H1'.out P hX).1] at HH
        have S1 := hid (fun (q : Pl) wr (hl : Lies wr P.node q) => H3'.out P q wr hX hl)
        clear H1' H3' hPk hQk hX
        obtain ⟨lB, ps, pv, ks, bf⟩ := n
        obtain ⟨a1, c1, a2, c2, a3, c3, a4, c4⟩ := p
        dsimp only [nv] at *
        generalize ps.length = n1 at *
        generalize pv.length = n2 at *
        generalize ks.length = n3 at *
        generalize bf.length = n4 at *
        go_enter Try.func4, Try.ntmps4
        obtain ⟨cA0, cA1, cA2, cA3, cA4⟩ := A0.cells
        have cAl := A0.lt
        obtain ⟨cR0, cR1, cR2⟩ := R0.cells
        have cRl := R0.lt
        go_wp2_with fail
        refine (HG.out).mono ?_
        rintro x w1 ⟨rfl, hb1⟩
        clear cA0 cA1 cA2 cA3 cA4 cAl cR0 cR1 cR2 cRl
        have Ah1 := A0.later hb1
        have Rh1 := R0.later hb1
        replace hb1 := hb0.trans (hb1.mono hb0.size)
        obtain ⟨cA0, cA1, cA2, cA3, cA4⟩ := Ah1.cells
        have cAl := Ah1.lt
        obtain ⟨cR0, cR1, cR2⟩ := Rh1.cells
        have cRl := Rh1.lt
        go_wp2_with fail
        refine (HR.out _).mono ?_
        rintro x w2 ⟨rfl, hb2⟩
        clear cA0 cA1 cA2 cA3 cA4 cAl cR0 cR1 cR2 cRl
        have Ah2 := Ah1.later hb2
        have Rh2 := Rh1.later hb2
        replace hb2 := hb1.trans (hb2.mono hb1.size)
        obtain ⟨cA0, cA1, cA2, cA3, cA4⟩ := Ah2.cells
        have cAl := Ah2.lt
        obtain ⟨cR0, cR1, cR2⟩ := Rh2.cells
        have cRl := Rh2.lt
        go_wp2_with fail
        refine (HI.out _).mono ?_
        rintro x w3 ⟨rfl, hb3⟩
        clear cA0 cA1 cA2 cA3 cA4 cAl cR0 cR1 cR2 cRl
        have Ah3 := Ah2.later hb3
        have Rh3 := Rh2.later hb3
        replace hb3 := hb2.trans (hb3.mono hb2.size)
        clear HG HR HI
        obtain ⟨cA0, cA1, cA2, cA3, cA4⟩ := Ah3.cells
        have cAl := Ah3.lt
        obtain ⟨cR0, cR1, cR2⟩ := Rh3.cells
        have cRl := Rh3.lt
        go_wp2_with fail
        refine (T1.out _ hb3).mono ?_
        rintro x w4 ⟨⟨v, L, rfl, hO, hL⟩, hb4⟩
        clear cA0 cA1 cA2 cA3 cA4 cAl cR0 cR1 cR2 cRl
        have Ah4 := Ah3.later hb4
        have Rh4 := Rh3.later hb4
        replace hb4 := hb3.trans (hb4.mono hb3.size)
        obtain ⟨g, c, q, q', rfl, hg, V, LL, V', LL'⟩ := hO.two hL
        clear hO hL L
        obtain ⟨qlo, qs, nd'⟩ := Q
        obtain ⟨lm', ps'', pv'', ks'', bf''⟩ := nd'
        obtain ⟨plo, S, nd⟩ := P
        obtain ⟨lm, ps', pv', ks', bf'⟩ := nd
        dsimp only at *
        have hle' : (S.size : Int) ≤ (k.size : Int) := by omega
        generalize ps'.length = m1 at *
        generalize ps''.length = m1' at *
        generalize pv'.length = m2 at *
        generalize pv''.length = m2' at *
        generalize ks'.length = m3 at *
        generalize ks''.length = m3' at *
        generalize bf'.length = m4 at *
        generalize bf''.length = m4' at *
        have hs4 := hb4.size
        go_upto_region 6 with fail
        refine wp_region_quiet (C := fun u => Below w4.heap.size w4 u) (by kernel_rfl) (by kernel_rfl) (Below.refl _ w4).drew ?_
        change wpQuiet _ _ _ _ (_ :: _) _
        repeat
          first
            | go_big_quiet_skip
            | go_big_quiet_want
              first
                | refine quiet_v ?_ ?_ ?_
                  rotate_left
                  · intro u hu
                    obtain ⟨r0, r1, r2⟩ := (Rh4.later hu).cells
                    obtain ⟨z0, z1, z2, z3, z4, z5, z6⟩ := V.later hu
                    obtain ⟨y0, y1, y2, y3, y4, y5, y6⟩ := V'.later hu
                    go_simp
                    with_reducible rfl
              go_simp
              go_big_quiet_on
        refine wpQuiet_nil (fun u hu => ?_)
        have V5 := V.later hu
        have V5' := V'.later hu
        have A5 := Ah4.later hu
        have L5 := LL.later hu
        have hb5 := hb4.trans (hu.mono (by omega))
        have hs5 := hb5.size
        clear hu V V' LL LL' Ah4 Rh4 hb4
        obtain ⟨z0, z1, z2, z3, z4, z5, z6⟩ := V5
        obtain ⟨y0, y1, y2, y3, y4, y5, y6⟩ := V5'
        go_upto_region 9 with fail
        have hgl := World.block_lt_of_cell? u _ z0
        have by0 := below_box u (.cells #[.string plo, .string S, .bool lm, .slice q.a1 m1 q.c1, .slice q.a2 m2 q.c2, .slice q.a3 m3 q.c3, .slice q.a4 m4 q.c4] 36)
        have y0 := (by0.cell (p := ⟨g, 7, none⟩) hgl).trans y0
        have y1 := (by0.cell (p := ⟨g, 8, none⟩) hgl).trans y1
        have y2 := (by0.cell (p := ⟨g, 9, none⟩) hgl).trans y2
        have y3 := (by0.cell (p := ⟨g, 10, none⟩) hgl).trans y3
        have y4 := (by0.cell (p := ⟨g, 11, none⟩) hgl).trans y4
        have y5 := (by0.cell (p := ⟨g, 12, none⟩) hgl).trans y5
        have y6 := (by0.cell (p := ⟨g, 13, none⟩) hgl).trans y6
        have QQ := QBox.new u (.string plo) (.string S) (.bool lm) (.slice q.a1 m1 q.c1) (.slice q.a2 m2 q.c2) (.slice q.a3 m3 q.c3) (.slice q.a4 m4 q.c4)
        have AA := A5.alloc (.cells #[.string plo, .string S, .bool lm, .slice q.a1 m1 q.c1, .slice q.a2 m2 q.c2, .slice q.a3 m3 q.c3, .slice q.a4 m4 q.c4] 36)
        have LL := L5.alloc (.cells #[.string plo, .string S, .bool lm, .slice q.a1 m1 q.c1, .slice q.a2 m2 q.c2, .slice q.a3 m3 q.c3, .slice q.a4 m4 q.c4] 36)
        have hb6 := hb5.alloc hs5 (.cells #[.string plo, .string S, .bool lm, .slice q.a1 m1 q.c1, .slice q.a2 m2 q.c2, .slice q.a3 m3 q.c3, .slice q.a4 m4 q.c4] 36)
        have hs6 := hb6.size
        have hgk : g < u.heap.size := hgl
        clear hgl
        generalize hkp : u.heap.size = kp at *
        have HKP := hid hkp
        generalize u.alloc (.cells #[.string plo, .string S, .bool lm, .slice q.a1 m1 q.c1, .slice q.a2 m2 q.c2, .slice q.a3 m3 q.c3, .slice q.a4 m4 q.c4] 36) = w6 at *
        clear hkp
        go_upto_region 11 with fail
        refine wp_region_quiet (C := fun u => Below w6.heap.size w6 u) (by kernel_rfl) (by kernel_rfl) (Below.refl _ w6).drew ?_
        change wpQuiet _ _ _ _ (_ :: _) _
        repeat
          first
            | go_big_quiet_skip
            | go_big_quiet_want
              first
                | refine quiet_v ?_ ?_ ?_
                  rotate_left
                  · intro u hu
                    obtain ⟨m0, m1, m2, m3, m4⟩ := (AA.later hu).cells
                    obtain ⟨z0, z1, z2, z3, z4, z5, z6⟩ := (QQ.later hu).cells
                    go_simp
                    with_reducible rfl
                | refine quiet_c (.bool true) 20 #[.string k, .string S] ?_ (fun u hu => (HH.out u).mono fun x u' h => ⟨h.1, by rw [h.2]; exact hu⟩) ?_
                  · intro u hu
                    go_simp
                    done
                | refine quiet_c (wv ⟨yk, yv, yb, yd, yy⟩) 21 #[.agg #[.bool lm, .slice q.a1 m1 q.c1, .slice q.a2 m2 q.c2, .slice q.a3 m3 q.c3, .slice q.a4 m4 q.c4], .string (k.extract S.size k.size)] ?_ (fun u hu => (S1.out _ u (LL.later hu)).mono fun x u' h => ⟨h.1, hu.trans (h.2.mono hu.size)⟩) ?_
                  · intro u hu
                    go_simp
                    done
                | refine quiet_c (wv ⟨yk, yv, yb, yd, yy⟩) 21 #[.agg #[.bool lB, .slice a1 n1 c1, .slice a2 n2 c2, .slice a3 n3 c3, .slice a4 n4 c4], .string k] ?_ (fun u hu => (S2.out u (hb6.trans (hu.mono (by omega)))).mono fun x u' h => ⟨h.1, hu.trans (h.2.mono hu.size)⟩) ?_
                  · intro u hu
                    go_simp
                    done
                | refine quiet_c (.bool true) 9 #[] ?_ (fun u hu => (awake9 u).mono fun x u' h => ⟨h.1, hu.trans (h.2.mono hu.size)⟩) ?_
                  · intro u hu
                    go_simp
                    done
              go_simp
              go_big_quiet_on
        refine wpQuiet_nil (fun u hu => ?_)
        go_wp2_with fail
        go_ret
        exact ⟨rfl, hb6.trans (hu.mono (by omega))⟩
      case false =>
        have hX : D Q := (hQk hc)
        have HH := hid (fun wr => has22 k Q.strip wr)
        have hle := has_size (H1'.out Q hX).1
        rw [(H1'.out Q hX).1] at HH
        have S1 := hid (fun (q : Pl) wr (hl : Lies wr Q.node q) => H3'.out Q q wr hX hl)
        clear H1' H3' hPk hQk hX
        obtain ⟨lB, ps, pv, ks, bf⟩ := n
        obtain ⟨a1, c1, a2, c2, a3, c3, a4, c4⟩ := p
        dsimp only [nv] at *
        generalize ps.length = n1 at *
        generalize pv.length = n2 at *
        generalize ks.length = n3 at *
        generalize bf.length = n4 at *
        go_enter Try.func4, Try.ntmps4
        obtain ⟨cA0, cA1, cA2, cA3, cA4⟩ := A0.cells
        have cAl := A0.lt
        obtain ⟨cR0, cR1, cR2⟩ := R0.cells
        have cRl := R0.lt
        go_wp2_with fail
        refine (HG.out).mono ?_
        rintro x w1 ⟨rfl, hb1⟩
        clear cA0 cA1 cA2 cA3 cA4 cAl cR0 cR1 cR2 cRl
        have Ah1 := A0.later hb1
        have Rh1 := R0.later hb1
        replace hb1 := hb0.trans (hb1.mono hb0.size)
        obtain ⟨cA0, cA1, cA2, cA3, cA4⟩ := Ah1.cells
        have cAl := Ah1.lt
        obtain ⟨cR0, cR1, cR2⟩ := Rh1.cells
        have cRl := Rh1.lt
        go_wp2_with fail
        refine (HR.out _).mono ?_
        rintro x w2 ⟨rfl, hb2⟩
        clear cA0 cA1 cA2 cA3 cA4 cAl cR0 cR1 cR2 cRl
        have Ah2 := Ah1.later hb2
        have Rh2 := Rh1.later hb2
        replace hb2 := hb1.trans (hb2.mono hb1.size)
        obtain ⟨cA0, cA1, cA2, cA3, cA4⟩ := Ah2.cells
        have cAl := Ah2.lt
        obtain ⟨cR0, cR1, cR2⟩ := Rh2.cells
        have cRl := Rh2.lt
        go_wp2_with fail
        refine (HI.out _).mono ?_
        rintro x w3 ⟨rfl, hb3⟩
        clear cA0 cA1 cA2 cA3 cA4 cAl cR0 cR1 cR2 cRl
        have Ah3 := Ah2.later hb3
        have Rh3 := Rh2.later hb3
        replace hb3 := hb2.trans (hb3.mono hb2.size)
        clear HG HR HI
        obtain ⟨cA0, cA1, cA2, cA3, cA4⟩ := Ah3.cells
        have cAl := Ah3.lt
        obtain ⟨cR0, cR1, cR2⟩ := Rh3.cells
        have cRl := Rh3.lt
        go_wp2_with fail
        refine (T1.out _ hb3).mono ?_
        rintro x w4 ⟨⟨v, L, rfl, hO, hL⟩, hb4⟩
        clear cA0 cA1 cA2 cA3 cA4 cAl cR0 cR1 cR2 cRl
        have Ah4 := Ah3.later hb4
        have Rh4 := Rh3.later hb4
        replace hb4 := hb3.trans (hb4.mono hb3.size)
        obtain ⟨g, c, q, q', rfl, hg, V, LL, V', LL'⟩ := hO.two hL
        clear hO hL L
        obtain ⟨plo, qs, nd'⟩ := P
        obtain ⟨lm', ps'', pv'', ks'', bf''⟩ := nd'
        obtain ⟨qlo, S, nd⟩ := Q
        obtain ⟨lm, ps', pv', ks', bf'⟩ := nd
        dsimp only at *
        have hle' : (S.size : Int) ≤ (k.size : Int) := by omega
        generalize ps'.length = m1 at *
        generalize ps''.length = m1' at *
        generalize pv'.length = m2 at *
        generalize pv''.length = m2' at *
        generalize ks'.length = m3 at *
        generalize ks''.length = m3' at *
        generalize bf'.length = m4 at *
        generalize bf''.length = m4' at *
        have hs4 := hb4.size
        go_upto_region 6 with fail
        refine wp_region_quiet (C := fun u => Below w4.heap.size w4 u) (by kernel_rfl) (by kernel_rfl) (Below.refl _ w4).drew ?_
        change wpQuiet _ _ _ _ (_ :: _) _
        repeat
          first
            | go_big_quiet_skip
            | go_big_quiet_want
              first
                | refine quiet_v ?_ ?_ ?_
                  rotate_left
                  · intro u hu
                    obtain ⟨r0, r1, r2⟩ := (Rh4.later hu).cells
                    obtain ⟨z0, z1, z2, z3, z4, z5, z6⟩ := V.later hu
                    obtain ⟨y0, y1, y2, y3, y4, y5, y6⟩ := V'.later hu
                    go_simp
                    with_reducible rfl
              go_simp
              go_big_quiet_on
        refine wpQuiet_nil (fun u hu => ?_)
        have V5 := V.later hu
        have V5' := V'.later hu
        have A5 := Ah4.later hu
        have L5 := LL'.later hu
        have hb5 := hb4.trans (hu.mono (by omega))
        have hs5 := hb5.size
        clear hu V V' LL LL' Ah4 Rh4 hb4
        obtain ⟨z0, z1, z2, z3, z4, z5, z6⟩ := V5
        obtain ⟨y0, y1, y2, y3, y4, y5, y6⟩ := V5'
        go_upto_region 9 with fail
        have hgl := World.block_lt_of_cell? u _ z0
        have by0 := below_box u (.cells #[.string plo, .string qs, .bool lm', .slice q.a1 m1' q.c1, .slice q.a2 m2' q.c2, .slice q.a3 m3' q.c3, .slice q.a4 m4' q.c4] 36)
        have y0 := (by0.cell (p := ⟨g, 7, none⟩) hgl).trans y0
        have y1 := (by0.cell (p := ⟨g, 8, none⟩) hgl).trans y1
        have y2 := (by0.cell (p := ⟨g, 9, none⟩) hgl).trans y2
        have y3 := (by0.cell (p := ⟨g, 10, none⟩) hgl).trans y3
        have y4 := (by0.cell (p := ⟨g, 11, none⟩) hgl).trans y4
        have y5 := (by0.cell (p := ⟨g, 12, none⟩) hgl).trans y5
        have y6 := (by0.cell (p := ⟨g, 13, none⟩) hgl).trans y6
        have QQ := QBox.new u (.string plo) (.string qs) (.bool lm') (.slice q.a1 m1' q.c1) (.slice q.a2 m2' q.c2) (.slice q.a3 m3' q.c3) (.slice q.a4 m4' q.c4)
        have AA := A5.alloc (.cells #[.string plo, .string qs, .bool lm', .slice q.a1 m1' q.c1, .slice q.a2 m2' q.c2, .slice q.a3 m3' q.c3, .slice q.a4 m4' q.c4] 36)
        have LL := L5.alloc (.cells #[.string plo, .string qs, .bool lm', .slice q.a1 m1' q.c1, .slice q.a2 m2' q.c2, .slice q.a3 m3' q.c3, .slice q.a4 m4' q.c4] 36)
        have hb6 := hb5.alloc hs5 (.cells #[.string plo, .string qs, .bool lm', .slice q.a1 m1' q.c1, .slice q.a2 m2' q.c2, .slice q.a3 m3' q.c3, .slice q.a4 m4' q.c4] 36)
        have hs6 := hb6.size
        have hgk : g < u.heap.size := hgl
        clear hgl
        generalize hkp : u.heap.size = kp at *
        have HKP := hid hkp
        generalize u.alloc (.cells #[.string plo, .string qs, .bool lm', .slice q.a1 m1' q.c1, .slice q.a2 m2' q.c2, .slice q.a3 m3' q.c3, .slice q.a4 m4' q.c4] 36) = w6 at *
        have hkA : w.heap.size ≤ kp := by have := A5.lt; omega
        clear hkp
        go_upto_region 10 with fail
        have f := QQ.free
        have f0 := f 0
        have f1 := f 1
        have f2 := f 2
        have f3 := f 3
        have f4 := f 4
        have f5 := f 5
        have f6 := f 6
        clear f
        obtain ⟨x0, x1, x2, x3, x4, x5, x6⟩ := QQ.cells
        have bu7 := seven_set by0 (Nat.le_refl kp) (.string qlo) (.string S) (.bool lm) (.slice q'.a1 m1 q'.c1) (.slice q'.a2 m2 q'.c2) (.slice q'.a3 m3 q'.c3) (.slice q'.a4 m4 q'.c4)
        have Q7 := QQ.put (.string qlo) (.string S) (.bool lm) (.slice q'.a1 m1 q'.c1) (.slice q'.a2 m2 q'.c2) (.slice q'.a3 m3 q'.c3) (.slice q'.a4 m4 q'.c4)
        have hb7 := seven_set hb6 hkA (.string qlo) (.string S) (.bool lm) (.slice q'.a1 m1 q'.c1) (.slice q'.a2 m2 q'.c2) (.slice q'.a3 m3 q'.c3) (.slice q'.a4 m4 q'.c4)
        go_upto_region 11 with fail
        clear x0 x1 x2 x3 x4 x5 x6 f0 f1 f2 f3 f4 f5 f6 z0 z1 z2 z3 z4 z5 z6 y0 y1 y2 y3 y4 y5 y6 QQ AA LL hb6 hs6 by0
        generalize ((((((w6.setCell ⟨kp, 0, none⟩ (.string qlo)).setCell ⟨kp, 1, none⟩ (.string S)).setCell ⟨kp, 2, none⟩ (.bool lm)).setCell ⟨kp, 3, none⟩ (.slice q'.a1 m1 q'.c1)).setCell ⟨kp, 4, none⟩ (.slice q'.a2 m2 q'.c2)).setCell ⟨kp, 5, none⟩ (.slice q'.a3 m3 q'.c3)).setCell ⟨kp, 6, none⟩ (.slice q'.a4 m4 q'.c4) = w7 at *
        have bu8 : Below u.heap.size u w7 := by rw [HKP.out]; exact bu7
        have AA := A5.later bu8
        have LL := L5.later bu8
        have QQ := Q7
        have hs7 := hb7.size
        refine wp_region_quiet (C := fun u => Below w7.heap.size w7 u) (by kernel_rfl) (by kernel_rfl) (Below.refl _ w7).drew ?_
        change wpQuiet _ _ _ _ (_ :: _) _
        repeat
          first
            | go_big_quiet_skip
            | go_big_quiet_want
              first
                | refine quiet_v ?_ ?_ ?_
                  rotate_left
                  · intro u hu
                    obtain ⟨m0, m1, m2, m3, m4⟩ := (AA.later hu).cells
                    obtain ⟨z0, z1, z2, z3, z4, z5, z6⟩ := (QQ.later hu).cells
                    go_simp
                    with_reducible rfl
                | refine quiet_c (.bool true) 20 #[.string k, .string S] ?_ (fun u hu => (HH.out u).mono fun x u' h => ⟨h.1, by rw [h.2]; exact hu⟩) ?_
                  · intro u hu
                    go_simp
                    done
                | refine quiet_c (wv ⟨yk, yv, yb, yd, yy⟩) 21 #[.agg #[.bool lm, .slice q'.a1 m1 q'.c1, .slice q'.a2 m2 q'.c2, .slice q'.a3 m3 q'.c3, .slice q'.a4 m4 q'.c4], .string (k.extract S.size k.size)] ?_ (fun u hu => (S1.out _ u (LL.later hu)).mono fun x u' h => ⟨h.1, hu.trans (h.2.mono hu.size)⟩) ?_
                  · intro u hu
                    go_simp
                    done
                | refine quiet_c (wv ⟨yk, yv, yb, yd, yy⟩) 21 #[.agg #[.bool lB, .slice a1 n1 c1, .slice a2 n2 c2, .slice a3 n3 c3, .slice a4 n4 c4], .string k] ?_ (fun u hu => (S2.out u (hb7.trans (hu.mono (by omega)))).mono fun x u' h => ⟨h.1, hu.trans (h.2.mono hu.size)⟩) ?_
                  · intro u hu
                    go_simp
                    done
                | refine quiet_c (.bool true) 9 #[] ?_ (fun u hu => (awake9 u).mono fun x u' h => ⟨h.1, hu.trans (h.2.mono hu.size)⟩) ?_
                  · intro u hu
                    go_simp
                    done
              go_simp
              go_big_quiet_on
        refine wpQuiet_nil (fun u hu => ?_)
        go_wp2_with fail
        go_ret
        exact ⟨rfl, hb7.trans (hu.mono (by omega))⟩
  exact HLead _ (hid rfl)
end Go.Proofs.Ytlkcoaencliajaa.Key

namespace Go.Proofs.Ytlkcoaencliajaa.Key
open Go.RowKit Draw
open Go.Op (bytesLess)
set_option linter.unusedVariables false
set_option linter.unusedSimpArgs false

/-- those pairs from whose keys a lift goes -/
def liftP (s d : ByteArray) (p : Pr) : Pr := ⟨upS (lf s d) p.key.data.toList, p.val⟩
def liftL (ps : List Pr) (s d : ByteArray) : List Pr := (ps.filter fun p => upB (lf s d) p.key.data.toList).map (liftP s d)
theorem lift_at {ps : List Pr} {s d : ByteArray} {j : Nat} {x : Pr} (h : ps[j]? = some x) : liftL (ps.take (j + 1)) s d = if upB (lf s d) x.key.data.toList then liftL (ps.take j) s d ++ [liftP s d x] else liftL (ps.take j) s d := by
  obtain ⟨hj, rfl⟩ := List.getElem?_eq_some_iff.1 h
  unfold liftL
  rw [List.take_succ_eq_append_getElem hj, List.filter_append, List.map_append]
  cases hp : upB (lf s d) ps[j].key.data.toList <;> simp [hp]
theorem lift_le (ps : List Pr) (s d : ByteArray) : (liftL ps s d).length ≤ ps.length := by
  unfold liftL
  rw [List.length_map]
  exact List.length_filter_le _ _
theorem lift_add (ps : List Pr) (d : ByteArray) : liftL ps ⟨#[]⟩ d = ps.map (addP d) := by
  have h : ∀ k : ByteArray, has k.data.toList (⟨#[]⟩ : ByteArray).data.toList = true := fun k => has_iff.2 ⟨_, rfl⟩
  unfold liftL
  rw [List.filter_eq_self.2 (fun p _ => upB_eq (h p.key))]
  refine List.map_congr_left fun p _ => ?_
  unfold liftP addP
  rw [upS_yes (h p.key)]
  congr 2
  apply ba_ext
  rw [ext_data]
  rfl
theorem lift_cut {ps : List Pr} {s : ByteArray} (h : ∀ p ∈ ps, has p.key.data.toList s.data.toList = true) : liftL ps s ⟨#[]⟩ = ps.map (cutP s) := by
  unfold liftL
  rw [List.filter_eq_self.2 (fun p hp => upB_eq (h p hp))]
  refine List.map_congr_left fun p hp => ?_
  unfold liftP cutP cutT
  rw [upS_yes (h p hp)]
  congr 1

set_option maxRecDepth 100000 in
set_option maxHeartbeats 1000000 in
theorem lifted46 (a : Option Addr) (c : Nat) (ps : List Pr) (s d : ByteArray) (w : World) (hl : ps.length ≤ 1000) (h : Prs w a ps) (hd : d.size ≤ 1000000) (hk : ∀ x ∈ ps, x.key.size ≤ 1000000) :
    Calls Try.prog 46 #[.slice a ps.length c, lv s d] w fun x w' => ∃ v, x = .returned v ∧ w'.ownsRow w.heap.size 64 2 v (liftL ps s d).length ((liftL ps s d).flatMap Pr.cells) ∧ Below w.heap.size w w' := by
  have HP := hid (fun (wr : World) (hb : Below w.heap.size w wr) => h.later hb)
  have HU := hid (fun (x : Pr) (hx : x ∈ ps) wr => up11 s d x.key wr hd (hk x hx))
  have HS := hid (fun j x (hx : ps[j]? = some x) => lift_at (s := s) (d := d) hx)
  have HT := hid (show liftL (ps.take ps.length) s d = liftL ps s d by rw [List.take_length])
  have HL := hid (fun j => lift_le (ps.take j) s d)
  have H0 := hid (show liftL (ps.take 0) s d = [] from rfl)
  have B0 := Pair.new w (.string s) (.string d)
  have hb0 := below_box w (.cells #[.string s, .string d] 70)
  clear h hk
  generalize hn1 : ps.length = n1 at *
  have HN := hid hn1
  clear hn1
  go_enter Try.func46, Try.ntmps46
  go_upto_region 1 with fail
  generalize w.alloc (.cells #[.string s, .string d] 70) = w1 at *
  generalize hk0 : w.heap.size = k0 at *
  have HQ0 := hid hk0
  clear hk0
  go_wp2_with fail
  go_loopw [5, 12] (fun v i wr => ∃ (j : Nat), j ≤ n1 ∧ i = .int .i64 j ∧ Pair wr k0 (.string s) (.string d) ∧ wr.ownsRow (k0 + 1) 64 2 v (liftL (ps.take j) s d).length ((liftL (ps.take j) s d).flatMap Pr.cells) ∧ Below (k0 + 1) w1 wr) (fun _ i _ => n1 - (intOf i).toNat)
  case atStart => exact ⟨0, Nat.zero_le _, rfl, B0, by rw [H0.out]; exact row_nil _ _ _ _, Below.refl _ _⟩
  case round =>
    obtain ⟨j, hj, rfl, B1, ho, hb⟩ := hrel
    have hBl := B1.lt
    by_cases hlt : j < n1
    · have hlt' : j < ps.length := by rw [HN.out]; exact hlt
      have hbw : Below k0 w wr := hb0.trans (hb.mono (by omega))
      obtain ⟨b, off, ha, c0, c1⟩ := (HP.out wr hbw).at hlt'
      subst ha
      obtain ⟨x, hx⟩ : ∃ x, ps[j]? = some x := ⟨_, List.getElem?_eq_getElem hlt'⟩
      have hxe : ps[j] = x := by rw [List.getElem?_eq_getElem hlt'] at hx; exact Option.some.inj hx
      have HUx := hid (HU.out x (by rw [← hxe]; exact List.getElem_mem hlt'))
      rw [hxe] at c0 c1
      have HSx := hid (HS.out j x hx)
      have HLj := HL.out j
      rw [List.length_take, Nat.min_eq_left (Nat.le_of_lt hlt')] at HLj
      obtain ⟨l, hl'⟩ : ∃ l, liftL (ps.take j) s d = l := ⟨_, rfl⟩
      rw [hl'] at HLj ho HSx
      clear hl' hx hxe
      have P1 := PBox.new wr x
      have bx := below_box wr (.cells #[.string x.key, .string x.val] 64)
      have B2 := B1.later bx
      have ho2 := row_later ho bx
      have hb2 := hb.trans (bx.mono (by omega))
      obtain ⟨xk, xv⟩ := x
      dsimp only at *
      clear B1 ho hb bx hbw
      go_upto_region 5 with fail
      clear c0 c1
      generalize hkp : wr.heap.size = kp at *
      generalize wr.alloc (.cells #[.string xk, .string xv] 64) = w2 at *
      obtain ⟨r0, r1⟩ := B2.cells
      obtain ⟨d0, d1⟩ := P1.two
      dsimp only at d0 d1
      go_wp2_with fail
      refine (HUx.out _).mono ?_
      rintro x w3 ⟨rfl, hb3⟩
      have B3 := B2.later hb3
      have P3 := P1.later hb3
      have ho3 := row_later ho2 hb3
      have hP3 := P1.lt
      have hs3 := hb3.size
      replace hb3 := hb2.trans (hb3.mono (by have := B2.lt; omega))
      have HX := hid (show liftP s d (Pr.mk xk xv) = ⟨upS (lf s d) xk.data.toList, xv⟩ from rfl)
      clear r0 r1 d0 d1 B2 P1 ho2 hb2 HUx
      generalize upS (lf s d) xk.data.toList = U at *
      cases hup : upB (lf s d) xk.data.toList
      · rw [hup] at HSx
        go_wp2_with fail
        go_roundw
        case rel => exact ⟨j + 1, by omega, by go_num, B3, by rw [HSx.out, if_neg (by simp)]; exact ho3, hb3⟩
        case measure => simp [intOf]; omega
      · rw [hup] at HSx
        have HSy := hid (HSx.out.trans (if_pos rfl))
        clear HSx
        obtain ⟨d0, d1⟩ := P3.two
        dsimp only at d0 d1
        obtain ⟨n', c', q', rfl⟩ := row_slice ho3
        have hC := (PBox.new w3 ⟨U, xv⟩).each
        have by3 := below_box w3 (.cells #[.string U, .string xv] 64)
        have B4 := B3.later by3
        have ho4 := row_later ho3 by3
        have hb4 := hb3.trans (by3.mono (by have := B3.lt; omega))
        have hB4 := B3.lt
        clear B3 ho3 hb3 by3
        go_wp2_with (first | (at_builtin; refine appOne Pr.cells 2 32 22 64 _ (by omega) (fun _ => rfl) Try.underlying22 info64 rfl (by omega) Key.oneP rfl _ _ rfl (k0 + 1) _ l rfl ho4 ⟨U, xv⟩ w3.heap.size rfl hC (by omega) (by simp; omega) ?_; intro v' w11 h1 h2; have B5 := B4.kept h2 (row_ge ho4 (Nat.lt_succ_self k0)); have hb5 := hb4.grown h2 (by simp; omega) (fun k hk => (World.ownsRow.lt ho4 k hk).1); clear d0 d1 B4 ho4 hb4 h2 hC) | fail)
        go_roundw
        case rel => exact ⟨j + 1, by omega, by go_num, B5, by rw [HSy.out, HX.out]; exact h1, hb5⟩
        case measure => simp [intOf]; omega
    · obtain rfl : j = n1 := by omega
      have hTT := HT.out
      rw [hTT] at ho
      have hbw : Below k0 w wr := hb0.trans (hb.mono (by omega))
      obtain ⟨n', c', q', rfl⟩ := row_slice ho
      go_wp2_with fail
      go_ret
      exact ⟨_, rfl, row_mono ho (by rw [HQ0.out]; omega), by rw [HQ0.out]; exact hbw⟩

set_option maxRecDepth 100000 in
set_option maxHeartbeats 600000 in
theorem unstripped42 (x : Pc) (q : Pl) (w : World) (hl : x.node.ps.length ≤ 1000) (h : Prs w q.a1 x.node.ps) (hd : x.strip.size ≤ 1000000) (hk : ∀ p ∈ x.node.ps, p.key.size ≤ 1000000) :
    Calls Try.prog 42 #[pcv x q] w fun e w' => ∃ v, e = .returned v ∧ w'.ownsRow w.heap.size 64 2 v (x.node.ps.map (addP x.strip)).length ((x.node.ps.map (addP x.strip)).flatMap Pr.cells) ∧ Below w.heap.size w w' := by
  have HL := hid (fun (wr : World) (hb : Below w.heap.size w wr) => lifted46 q.a1 q.c1 x.node.ps ⟨#[]⟩ x.strip wr hl (h.later hb) hd hk)
  rw [lift_add] at HL
  have Q0 := QBox.new w (.string x.lo) (.string x.strip) (.bool x.node.leaf) (.slice q.a1 x.node.ps.length q.c1) (.slice q.a2 x.node.pv.length q.c2) (.slice q.a3 x.node.ks.length q.c3) (.slice q.a4 x.node.bf.length q.c4)
  have hb0 := below_box w (.cells #[.string x.lo, .string x.strip, .bool x.node.leaf, .slice q.a1 x.node.ps.length q.c1, .slice q.a2 x.node.pv.length q.c2, .slice q.a3 x.node.ks.length q.c3, .slice q.a4 x.node.bf.length q.c4] 36)
  clear h hk
  obtain ⟨lo, st, lB, ps, pv, ks, bf⟩ := x
  obtain ⟨a1, c1, a2, c2, a3, c3, a4, c4⟩ := q
  dsimp only [pcv] at *
  generalize ps.map (addP st) = R at *
  generalize ps.length = n1 at *
  generalize pv.length = n2 at *
  generalize ks.length = n3 at *
  generalize bf.length = n4 at *
  go_enter Try.func42, Try.ntmps42
  go_upto_region 1 with fail
  generalize w.alloc (.cells #[.string lo, .string st, .bool lB, .slice a1 n1 c1, .slice a2 n2 c2, .slice a3 n3 c3, .slice a4 n4 c4] 36) = w1 at *
  obtain ⟨z0, z1, z2, z3, z4, z5, z6⟩ := Q0.cells
  go_wp2_with fail
  refine (HL.out _ hb0).mono ?_
  rintro x w2 ⟨v, rfl, ho, hb2⟩
  have hQl := Q0.lt
  go_wp2_with fail
  go_ret
  exact ⟨v, rfl, row_mono ho (by omega), hb0.trans (hb2.mono (by omega))⟩

set_option maxRecDepth 100000 in
set_option maxHeartbeats 600000 in
theorem leafMay41 (n : Nd) (p : Pl) (w : World) (hf : Few n) (h : Lies w n p) :
    Calls Try.prog 41 #[nv n p] w fun x w' => x = .returned (.bool (leafMayB n)) ∧ Below w.heap.size w w' := by
  have HM := hid (fun (wr : World) (hb : Below w.heap.size w wr) => may12 n p wr hf (h.later hb))
  have A0 := NBox.new w (.bool n.leaf) (.slice p.a1 n.ps.length p.c1) (.slice p.a2 n.pv.length p.c2) (.slice p.a3 n.ks.length p.c3) (.slice p.a4 n.bf.length p.c4)
  have hb0 := below_box w (.cells #[.bool n.leaf, .slice p.a1 n.ps.length p.c1, .slice p.a2 n.pv.length p.c2, .slice p.a3 n.ks.length p.c3, .slice p.a4 n.bf.length p.c4] 27)
  have HG := hid (show leafMayB n = (n.leaf && decide (mayI n = 0)) from rfl)
  generalize mayI n = MI at *
  generalize leafMayB n = R at *
  clear h hf
  obtain ⟨lB, ps, pv, ks, bf⟩ := n
  obtain ⟨a1, c1, a2, c2, a3, c3, a4, c4⟩ := p
  dsimp only [nv] at *
  generalize ps.length = n1 at *
  generalize pv.length = n2 at *
  generalize ks.length = n3 at *
  generalize bf.length = n4 at *
  cases lB
  case false =>
    have HE := hid (show R = false from by rw [HG.out]; rfl)
    clear HG
    go_enter Try.func41, Try.ntmps41
    go_wp2_with fail
    go_ret
    exact ⟨by rw [HE.out]; rfl, hb0⟩
  case true =>
    have HE := hid (show R = decide (MI = 0) from by rw [HG.out]; rfl)
    clear HG
    by_cases hm : MI = 0
    · subst hm
      go_enter Try.func41, Try.ntmps41
      obtain ⟨z0, z1, z2, z3, z4⟩ := A0.cells
      go_wp2_with fail
      refine (HM.out _ hb0).mono ?_
      rintro x w2 ⟨rfl, hb2⟩
      clear z0 z1 z2 z3 z4
      go_wp2_with fail
      go_ret
      exact ⟨by rw [HE.out]; rfl, hb0.trans (hb2.mono hb0.size)⟩
    · have hm' : decide (MI = 0) = false := decide_eq_false hm
      go_enter Try.func41, Try.ntmps41
      obtain ⟨z0, z1, z2, z3, z4⟩ := A0.cells
      go_wp2_with fail
      refine (HM.out _ hb0).mono ?_
      rintro x w2 ⟨rfl, hb2⟩
      clear z0 z1 z2 z3 z4
      have hx : (MI == 0) = false := by simpa using hm
      go_wp2_with fail
      go_ret
      exact ⟨by rw [HE.out, hm']; rfl, hb0.trans (hb2.mono hb0.size)⟩

set_option maxRecDepth 100000 in
set_option maxHeartbeats 600000 in
theorem within44 (a : Option Addr) (c : Nat) (ps : List Pr) (lo hi : ByteArray) (e : Bool) (w : World) (hl : ps.length ≤ 100000) (h : Prs w a ps) :
    Calls Try.prog 44 #[.slice a ps.length c, av lo hi e] w fun x w' => x = .returned (.bool (withinB ps (rg lo hi e))) ∧ Below w.heap.size w w' := by
  have HP := hid (fun (wr : World) (hb : Below w.heap.size w wr) => h.later hb)
  have HI := hid (fun k wr => in32 lo hi k e wr)
  have HY := hid (fun (j : Nat) (x : Pr) (hx : ps[j]? = some x) => show (ps.take (j + 1)).all (inP (rg lo hi e)) = ((ps.take j).all (inP (rg lo hi e)) && inP (rg lo hi e) x) from by
    obtain ⟨hj, rfl⟩ := List.getElem?_eq_some_iff.1 hx
    exact all_take_succ ps (inP (rg lo hi e)) hj)
  have HNo := hid (fun (j : Nat) (x : Pr) (hx : ps[j]? = some x) (hp : inP (rg lo hi e) x = false) => show withinB ps (rg lo hi e) = false from by
    obtain ⟨hj, rfl⟩ := List.getElem?_eq_some_iff.1 hx
    exact all_not ps (inP (rg lo hi e)) hj hp)
  have HT := hid (show (ps.take ps.length).all (inP (rg lo hi e)) = withinB ps (rg lo hi e) by rw [List.take_length]; rfl)
  have R0 := Box.new w (.string lo) (.string hi) (.bool e)
  have hb0 := below_box w (.cells #[.string lo, .string hi, .bool e] 29)
  have HD := hid (fun (p : Pr) => show inP (rg lo hi e) p = inR (rg lo hi e) p.key.data.toList from rfl)
  generalize withinB ps (rg lo hi e) = WB at *
  clear h
  generalize hn1 : ps.length = n1 at *
  have HN := hid hn1
  clear hn1
  go_enter Try.func44, Try.ntmps44
  go_upto_region 1 with fail
  generalize w.alloc (.cells #[.string lo, .string hi, .bool e] 29) = w1 at *
  generalize hk0 : w.heap.size = k0 at *
  have HQ0 := hid hk0
  clear hk0
  go_wp2_with fail
  go_loopw [9] (fun i wr => ∃ (j : Nat), j ≤ n1 ∧ i = .int .i64 j ∧ Box wr k0 (.string lo) (.string hi) (.bool e) ∧ Hid ((ps.take j).all (inP (rg lo hi e)) = true) ∧ Below (k0 + 1) w1 wr) (fun i _ => n1 - (intOf i).toNat)
  case atStart => exact ⟨0, Nat.zero_le _, rfl, R0, hid rfl, Below.refl _ _⟩
  case round =>
    obtain ⟨j, hj, rfl, R1, hall, hb⟩ := hrel
    have hRl := R1.lt
    by_cases hlt : j < n1
    · have hlt' : j < ps.length := by rw [HN.out]; exact hlt
      have hbw : Below k0 w wr := hb0.trans (hb.mono (by omega))
      obtain ⟨b, off, ha, c0, c1⟩ := (HP.out wr hbw).at hlt'
      subst ha
      obtain ⟨x, hx⟩ : ∃ x, ps[j] = x := ⟨_, rfl⟩
      have hx? : ps[j]? = some x := by rw [List.getElem?_eq_getElem hlt', hx]
      have HYj := hid (HY.out j x hx?)
      have HNj := hid (HNo.out j x hx?)
      clear hx?
      have HDx := hid (HD.out x)
      have HIx := hid (HI.out x.key)
      have HX := hid hx
      rw [hx] at c0 c1
      clear hx
      have P1 := PBox.new wr x
      have bx := below_box wr (.cells #[.string x.key, .string x.val] 64)
      have R2 := R1.later bx
      have hb2 := hb.trans (bx.mono (by omega))
      obtain ⟨xk, xv⟩ := x
      dsimp only at *
      clear R1 hb bx hbw
      go_upto_region 4 with fail
      clear c0 c1
      generalize hkp : wr.heap.size = kp at *
      generalize wr.alloc (.cells #[.string xk, .string xv] 64) = w2 at *
      obtain ⟨r0, r1, r2⟩ := R2.cells
      obtain ⟨d0, d1⟩ := P1.two
      dsimp only at d0 d1
      go_wp2_with fail
      refine (HIx.out _).mono ?_
      rintro x w3 ⟨rfl, hb3⟩
      have R3 := R2.later hb3
      have hR3 := R2.lt
      replace hb3 := hb2.trans (hb3.mono (by omega))
      clear r0 r1 r2 d0 d1 R2 P1 hb2 HIx
      cases hin : inR (rg lo hi e) xk.data.toList
      · have HF := hid (HNj.out (by rw [HDx.out, hin]))
        have hbz : Below k0 w w3 := hb0.trans (hb3.mono (by omega))
        go_wp2_with fail
        go_ret
        exact ⟨by rw [HF.out]; rfl, by rw [HQ0.out]; exact hbz⟩
      · have HF : Hid ((ps.take (j + 1)).all (inP (rg lo hi e)) = true) := hid (by rw [HYj.out, hall, HDx.out, hin]; rfl)
        go_wp2_with fail
        go_roundw
        case rel => exact ⟨j + 1, by omega, by go_num, R3, HF, hb3⟩
        case measure => simp [intOf]; omega
    · obtain rfl : j = n1 := by omega
      have HF := hid (HT.out.symm.trans hall)
      have hbz : Below k0 w wr := hb0.trans (hb.mono (by omega))
      go_wp2_with fail
      go_ret
      exact ⟨by rw [HF.out]; rfl, by rw [HQ0.out]; exact hbz⟩
end Go.Proofs.Ytlkcoaencliajaa.Key

namespace Go.Proofs.Ytlkcoaencliajaa.Key
open Go.RowKit Draw
open Go.Op (bytesLess)
set_option linter.unusedVariables false
set_option linter.unusedSimpArgs false

set_option maxRecDepth 100000 in
set_option maxHeartbeats 600000 in
theorem rise45 (a : Option Addr) (c : Nat) (ps : List Pr) (w : World) (hl : ps.length ≤ 100000) (h : Prs w a ps) :
    Calls Try.prog 45 #[.slice a ps.length c] w fun x w' => x = .returned (.bool (riseB ps)) ∧ Below w.heap.size w w' := by
  have HY := hid (fun (m : Nat) (x y : Pr) (hx : ps[m]? = some x) (hy : ps[m + 1]? = some y) => show riseAt ps (m + 1) = bytesLess x.key.data.toList y.key.data.toList from by
    obtain ⟨hm, rfl⟩ := List.getElem?_eq_some_iff.1 hx
    obtain ⟨hn, rfl⟩ := List.getElem?_eq_some_iff.1 hy
    exact riseAt_at hn)
  have HNo := hid (fun (j : Nat) (hj : j < ps.length) (hp : riseAt ps j = false) => show riseB ps = false from upTo_no hj hp)
  have HT := hid (fun (m : Nat) (hm : m + 1 = ps.length ∨ ps.length ≤ 1 ∧ m = 0) (hu : upTo (riseAt ps) (m + 1) = true) => show riseB ps = true from by
    unfold riseB
    rcases hm with hm | ⟨hm, rfl⟩
    · rw [← hm]; exact hu
    · exact upTo_mono hu hm)
  generalize riseB ps = R at *
  generalize hn1 : ps.length = n1 at *
  have HN := hid hn1
  clear hn1
  go_enter Try.func45, Try.ntmps45
  go_wp2_with fail
  go_loopw [3] (fun i wr => ∃ (m : Nat), i = .int .i64 ((m : Int) + 1) ∧ (m + 1 ≤ n1 ∨ m = 0) ∧ Hid (upTo (riseAt ps) (m + 1) = true) ∧ Below w.heap.size w wr) (fun i _ => n1 + 1 - (intOf i).toNat)
  case atStart => exact ⟨0, rfl, .inr rfl, hid rfl, Below.refl _ _⟩
  case round =>
    obtain ⟨m, rfl, hm, hup, hb⟩ := hrel
    by_cases hlt : m + 1 < n1
    · have hlt' : m + 1 < ps.length := by rw [HN.out]; exact hlt
      obtain ⟨b, off, rfl, T0, T1⟩ := (h.later hb).at2 (show m < ps.length by omega) hlt'
      obtain ⟨x, hx⟩ : ∃ x, ps[m]? = some x := ⟨_, List.getElem?_eq_getElem (by omega)⟩
      obtain ⟨y, hy⟩ : ∃ y, ps[m + 1]? = some y := ⟨_, List.getElem?_eq_getElem hlt'⟩
      have hxe : ps[m]'(by omega) = x := by rw [List.getElem?_eq_getElem (by omega)] at hx; exact Option.some.inj hx
      have hye : ps[m + 1] = y := by rw [List.getElem?_eq_getElem hlt'] at hy; exact Option.some.inj hy
      have HYm := hid (HY.out m x y hx hy)
      rw [hxe] at T0
      rw [hye] at T1
      clear hx hy hxe hye
      obtain ⟨xk, xv⟩ := x
      obtain ⟨yk, yv⟩ := y
      have e1 : ((m : Int) + 1) < (n1 : Int) := by omega
      have e2 : (m : Int) < (n1 : Int) := by omega
      have e4 : 0 ≤ (m : Int) + 1 := by omega
      have e3 : IntKind.i64.wrap (m : Int) = (m : Int) := by rw [IntKind.wrap_i64]; omega
      have hls := less_str xk yk
      cases q : bytesLess xk.data.toList yk.data.toList
      all_goals
        rw [q] at HYm hls
        skip
        go_upto_region 4 with fail
        refine wp_region_quiet (C := fun u => Below wr.heap.size wr u) (by kernel_rfl) (by kernel_rfl) (Below.refl _ wr).drew ?_
        change wpQuiet _ _ _ _ (_ :: _) _
        repeat
          first
            | go_big_quiet_skip
            | go_big_quiet_want
              refine quiet_v ?_ ?_ ?_
              rotate_left
              · intro u hu
                obtain ⟨m0, m1⟩ := T0.below hu T0.lt
                obtain ⟨z0, z1⟩ := T1.below hu T1.lt
                dsimp only at m0 m1 z0 z1
                go_simp
                with_reducible rfl
              go_simp
              go_big_quiet_on
        refine wpQuiet_nil (fun u hu => ?_)
        have hb2 := hb.trans (hu.mono hb.size)
      · have HF := hid (HNo.out (m + 1) hlt HYm.out)
        go_wp2_with fail
        go_ret
        exact ⟨by rw [HF.out]; rfl, hb2⟩
      · have HF : Hid (upTo (riseAt ps) (m + 1 + 1) = true) := hid (by rw [upTo, hup, HYm.out]; rfl)
        go_wp2_with fail
        go_roundw
        case rel => exact ⟨m + 1, by go_num, .inl (by omega), HF, hb2⟩
        case measure => simp [intOf]; omega
    · have e1 : ¬ ((m : Int) + 1) < (n1 : Int) := by omega
      have HF := hid (HT.out m (by omega) hup)
      go_wp2_with fail
      go_ret
      exact ⟨by rw [HF.out]; rfl, hb⟩

set_option maxRecDepth 100000 in
set_option maxHeartbeats 600000 in
theorem rise50 (a : Option Addr) (c : Nat) (ps : List Pr) (w : World) (hl : ps.length ≤ 100000) (h : Prs w a ps) :
    Calls Try.prog 50 #[.slice a ps.length c] w fun x w' => x = .returned (.bool (riseB ps)) ∧ Below w.heap.size w w' := by
  have HY := hid (fun (m : Nat) (x y : Pr) (hx : ps[m]? = some x) (hy : ps[m + 1]? = some y) => show riseAt ps (m + 1) = bytesLess x.key.data.toList y.key.data.toList from by
    obtain ⟨hm, rfl⟩ := List.getElem?_eq_some_iff.1 hx
    obtain ⟨hn, rfl⟩ := List.getElem?_eq_some_iff.1 hy
    exact riseAt_at hn)
  have HNo := hid (fun (j : Nat) (hj : j < ps.length) (hp : riseAt ps j = false) => show riseB ps = false from upTo_no hj hp)
  have HT := hid (fun (m : Nat) (hm : m + 1 = ps.length ∨ ps.length ≤ 1 ∧ m = 0) (hu : upTo (riseAt ps) (m + 1) = true) => show riseB ps = true from by
    unfold riseB
    rcases hm with hm | ⟨hm, rfl⟩
    · rw [← hm]; exact hu
    · exact upTo_mono hu hm)
  generalize riseB ps = R at *
  generalize hn1 : ps.length = n1 at *
  have HN := hid hn1
  clear hn1
  go_enter Try.func50, Try.ntmps50
  go_wp2_with fail
  go_loopw [3] (fun i wr => ∃ (m : Nat), i = .int .i64 ((m : Int) + 1) ∧ (m + 1 ≤ n1 ∨ m = 0) ∧ Hid (upTo (riseAt ps) (m + 1) = true) ∧ Below w.heap.size w wr) (fun i _ => n1 + 1 - (intOf i).toNat)
  case atStart => exact ⟨0, rfl, .inr rfl, hid rfl, Below.refl _ _⟩
  case round =>
    obtain ⟨m, rfl, hm, hup, hb⟩ := hrel
    by_cases hlt : m + 1 < n1
    · have hlt' : m + 1 < ps.length := by rw [HN.out]; exact hlt
      obtain ⟨b, off, rfl, T0, T1⟩ := (h.later hb).at2 (show m < ps.length by omega) hlt'
      obtain ⟨x, hx⟩ : ∃ x, ps[m]? = some x := ⟨_, List.getElem?_eq_getElem (by omega)⟩
      obtain ⟨y, hy⟩ : ∃ y, ps[m + 1]? = some y := ⟨_, List.getElem?_eq_getElem hlt'⟩
      have hxe : ps[m]'(by omega) = x := by rw [List.getElem?_eq_getElem (by omega)] at hx; exact Option.some.inj hx
      have hye : ps[m + 1] = y := by rw [List.getElem?_eq_getElem hlt'] at hy; exact Option.some.inj hy
      have HYm := hid (HY.out m x y hx hy)
      rw [hxe] at T0
      rw [hye] at T1
      clear hx hy hxe hye
      obtain ⟨xk, xv⟩ := x
      obtain ⟨yk, yv⟩ := y
      have e1 : ((m : Int) + 1) < (n1 : Int) := by omega
      have e2 : (m : Int) < (n1 : Int) := by omega
      have e4 : 0 ≤ (m : Int) + 1 := by omega
      have e3 : IntKind.i64.wrap (m : Int) = (m : Int) := by rw [IntKind.wrap_i64]; omega
      have hls := less_str xk yk
      cases q : bytesLess xk.data.toList yk.data.toList
      all_goals
        rw [q] at HYm hls
        have hle := le_str yk xk
        rw [q] at hle
        go_upto_region 4 with fail
        refine wp_region_quiet (C := fun u => Below wr.heap.size wr u) (by kernel_rfl) (by kernel_rfl) (Below.refl _ wr).drew ?_
        change wpQuiet _ _ _ _ (_ :: _) _
        repeat
          first
            | go_big_quiet_skip
            | go_big_quiet_want
              refine quiet_v ?_ ?_ ?_
              rotate_left
              · intro u hu
                obtain ⟨m0, m1⟩ := T0.below hu T0.lt
                obtain ⟨z0, z1⟩ := T1.below hu T1.lt
                dsimp only at m0 m1 z0 z1
                go_simp
                with_reducible rfl
              go_simp
              go_big_quiet_on
        refine wpQuiet_nil (fun u hu => ?_)
        have hb2 := hb.trans (hu.mono hb.size)
      · have HF := hid (HNo.out (m + 1) hlt HYm.out)
        go_wp2_with fail
        go_ret
        exact ⟨by rw [HF.out]; rfl, hb2⟩
      · have HF : Hid (upTo (riseAt ps) (m + 1 + 1) = true) := hid (by rw [upTo, hup, HYm.out]; rfl)
        go_wp2_with fail
        go_roundw
        case rel => exact ⟨m + 1, by go_num, .inl (by omega), HF, hb2⟩
        case measure => simp [intOf]; omega
    · have e1 : ¬ ((m : Int) + 1) < (n1 : Int) := by omega
      have HF := hid (HT.out m (by omega) hup)
      go_wp2_with fail
      go_ret
      exact ⟨by rw [HF.out]; rfl, hb⟩
end Go.Proofs.Ytlkcoaencliajaa.Key

namespace Go.Proofs.Ytlkcoaencliajaa.Key
open Go.RowKit Draw
open Go.Op (bytesLess)
set_option linter.unusedVariables false
set_option linter.unusedSimpArgs false

/-- what Join answers -/
def JoinSay (w w' : World) (x : Ending) (a b : Pc) (lo hi : ByteArray) (e : Bool) : Prop :=
  ∃ q : Pl, x = .returned (.tuple #[pcv (joinP a b lo hi e) q, .int .i64 (joinE a b (rg lo hi e))]) ∧ OwnN w' w.heap.size (joinP a b lo hi e).node q
theorem join_none {w w' : World} {x : Ending} {a b : Pc} {lo hi : ByteArray} {e : Bool} {z : Int} (hz : joinE a b (rg lo hi e) = z) (h0 : z ≠ 0)
    (hx : x = .returned (.tuple #[.agg #[.string ⟨#[]⟩, .string ⟨#[]⟩, .bool false, .slice none 0 0, .slice none 0 0, .slice none 0 0, .slice none 0 0], .int .i64 z])) : JoinSay w w' x a b lo hi e := by
  have e' : joinP a b lo hi e = Pc.nil := by unfold joinP; rw [hz, if_neg h0]
  refine ⟨⟨none, 0, none, 0, none, 0, none, 0⟩, ?_, ?_⟩
  · rw [hx, hz, e']; rfl
  · rw [e']; exact OwnN.nil _ _
theorem join_some {w w' : World} {x : Ending} {a b : Pc} {lo hi : ByteArray} {e : Bool} {s : ByteArray} {l : List Pr} {ad : Option Addr} {c : Nat} {B : Nat} (hz : joinE a b (rg lo hi e) = 0) (hs : undS (rg lo hi e) = s) (hl : (joinL a b).map (cutP s) = l)
    (hx : x = .returned (.tuple #[.agg #[.string lo, .string s, .bool true, .slice ad l.length c, .slice none 0 0, .slice none 0 0, .slice none 0 0], .int .i64 0])) (hO : w'.ownsRow B 64 2 (.slice ad l.length c) l.length (l.flatMap Pr.cells)) (hB : w.heap.size ≤ B) : JoinSay w w' x a b lo hi e := by
  have e' : joinP a b lo hi e = ⟨lo, s, ⟨true, l, [], [], []⟩⟩ := by unfold joinP joinN; rw [if_pos hz, hs, hl]
  refine ⟨⟨ad, c, none, 0, none, 0, none, 0⟩, ?_, ?_⟩
  · rw [hx, hz, e']; rfl
  · rw [e']; exact ⟨row_mono hO hB, row_nil _ _ _ _, row_nil _ _ _ _, row_nil _ _ _ _⟩
theorem boxes_qqrq (w : World) (v0 v1 v2 v3 v4 v5 v6 x0 x1 x2 x3 x4 x5 x6 r0 r1 r2 y0 y1 y2 y3 y4 y5 y6 : Value) :
    QBox ((((w.alloc (.cells #[v0, v1, v2, v3, v4, v5, v6] 36)).alloc (.cells #[x0, x1, x2, x3, x4, x5, x6] 36)).alloc (.cells #[r0, r1, r2] 29)).alloc (.cells #[y0, y1, y2, y3, y4, y5, y6] 36)) w.heap.size v0 v1 v2 v3 v4 v5 v6 ∧
    QBox ((((w.alloc (.cells #[v0, v1, v2, v3, v4, v5, v6] 36)).alloc (.cells #[x0, x1, x2, x3, x4, x5, x6] 36)).alloc (.cells #[r0, r1, r2] 29)).alloc (.cells #[y0, y1, y2, y3, y4, y5, y6] 36)) (w.heap.size + 1) x0 x1 x2 x3 x4 x5 x6 ∧
    Box ((((w.alloc (.cells #[v0, v1, v2, v3, v4, v5, v6] 36)).alloc (.cells #[x0, x1, x2, x3, x4, x5, x6] 36)).alloc (.cells #[r0, r1, r2] 29)).alloc (.cells #[y0, y1, y2, y3, y4, y5, y6] 36)) (w.heap.size + 1 + 1) r0 r1 r2 ∧
    QBox ((((w.alloc (.cells #[v0, v1, v2, v3, v4, v5, v6] 36)).alloc (.cells #[x0, x1, x2, x3, x4, x5, x6] 36)).alloc (.cells #[r0, r1, r2] 29)).alloc (.cells #[y0, y1, y2, y3, y4, y5, y6] 36)) (w.heap.size + 1 + 1 + 1) y0 y1 y2 y3 y4 y5 y6 ∧
    Below w.heap.size w ((((w.alloc (.cells #[v0, v1, v2, v3, v4, v5, v6] 36)).alloc (.cells #[x0, x1, x2, x3, x4, x5, x6] 36)).alloc (.cells #[r0, r1, r2] 29)).alloc (.cells #[y0, y1, y2, y3, y4, y5, y6] 36)) := by
  have a1 : (w.alloc (.cells #[v0, v1, v2, v3, v4, v5, v6] 36)).heap.size = w.heap.size + 1 := by simp
  have a2 : ((w.alloc (.cells #[v0, v1, v2, v3, v4, v5, v6] 36)).alloc (.cells #[x0, x1, x2, x3, x4, x5, x6] 36)).heap.size = w.heap.size + 1 + 1 := by simp
  have a3 : (((w.alloc (.cells #[v0, v1, v2, v3, v4, v5, v6] 36)).alloc (.cells #[x0, x1, x2, x3, x4, x5, x6] 36)).alloc (.cells #[r0, r1, r2] 29)).heap.size = w.heap.size + 1 + 1 + 1 := by simp
  have h0 := QBox.new w v0 v1 v2 v3 v4 v5 v6
  have h1 := QBox.new (w.alloc (.cells #[v0, v1, v2, v3, v4, v5, v6] 36)) x0 x1 x2 x3 x4 x5 x6
  have h2 := Box.new ((w.alloc (.cells #[v0, v1, v2, v3, v4, v5, v6] 36)).alloc (.cells #[x0, x1, x2, x3, x4, x5, x6] 36)) r0 r1 r2
  have h3 := QBox.new (((w.alloc (.cells #[v0, v1, v2, v3, v4, v5, v6] 36)).alloc (.cells #[x0, x1, x2, x3, x4, x5, x6] 36)).alloc (.cells #[r0, r1, r2] 29)) y0 y1 y2 y3 y4 y5 y6
  rw [a1] at h1
  rw [a2] at h2
  rw [a3] at h3
  exact ⟨((h0.alloc _).alloc _).alloc _, (h1.alloc _).alloc _, h2.alloc _, h3, (((below_box w _).alloc (by simp) _).alloc (by simp; omega) _).alloc (by simp; omega) _⟩
/-- a row of the call's own, and what another row holds behind it -/
theorem yRow {ops : Array Oper} {o : Oper} {a : Act} {w : World} {K : Value → World → Prop} (hw : Region.wanted o (yielded ops a.tmps) = true) (s x : Operand)
    (ho : o.op = .call { callee := .builtin .append, args := #[s, x], argTypes := #[22, 22] })
    (B B' : Nat) (v y : Value) (l l' : List Pr) (hs : a.eval s = v) (hown : w.ownsRow B 64 2 v l.length (l.flatMap Pr.cells)) (hx : a.eval x = y) (hown' : w.ownsRow B' 64 2 y l'.length (l'.flatMap Pr.cells)) (hsz : l.length + l'.length ≤ 90000) (hB : B ≤ w.heap.size)
    (h : ∀ v' w', w'.ownsRow B 64 2 v' (l ++ l').length ((l ++ l').flatMap Pr.cells) → w.grownBy w' v.ownBlock → K v' w') : opYields Try.prog ops o a w K := by
  obtain ⟨i0, hi, hz0, hz1, hz2⟩ := info_parts info64
  have hc := fun g hg => World.ownsRow.cells hown' (g := g) hg
  rcases hown'.2 with ⟨e, h0⟩ | ⟨g, cap, cur, e, _⟩
  · have hy : l' = [] := List.eq_nil_of_length_eq_zero h0
    subst hy
    have hrun := run_append_owned_none (P := Try.prog) (w := w) B 22 o.type 64 i0 2 Try.underlying22 hi v l.length (l.flatMap Pr.cells) hown
    refine opYields_val v hw ?_ (h v w (by rw [List.append_nil]; exact hown) ⟨rfl, rfl, rfl, Nat.le_refl _, fun _ _ _ => rfl⟩)
    rw [e] at hx
    simp [execOp, ho, resolve, invoke, builtin, hs, hx, hrun, Result.andThen]
  · refine opYields_append hw s x 22 ho B 64 i0 _ 2 32 Try.underlying22 hi hz0 hz1 hz2 rfl (by omega) v _ _ hs hown ⟨g, 0, none⟩ l'.length cap (l'.flatMap Pr.cells) (by rw [hx, e]) (flat_len Pr.cells 2 (fun _ => rfl) l') (fun j u hu => hc g (by rw [e]; rfl) j u hu) (fun u hu => ?_) (by unfold maxLen; omega) ?_ hB ?_
    · obtain ⟨z, hz, hu⟩ := List.mem_flatMap.1 hu
      exact Key.oneP z u hu
    · have : (l.length + l'.length) * 32 ≤ 90000 * 32 := Nat.mul_le_mul hsz (Nat.le_refl _)
      omega
    · intro v' w' h1 h2
      refine h v' w' ?_ h2
      rw [List.length_append, List.flatMap_append]
      exact h1
end Go.Proofs.Ytlkcoaencliajaa.Key

namespace Go.Proofs.Ytlkcoaencliajaa.Key
open Go.RowKit Draw
open Go.Op (bytesLess)
set_option linter.unusedVariables false
set_option linter.unusedSimpArgs false

theorem joinL_small {a b : Pc} (fa : Few a.node) (fb : Few b.node) : (joinL a b).length ≤ 2000 := by
  unfold joinL
  rw [List.length_append, List.length_map, List.length_map]
  have := fa.l1
  have := fb.l1
  omega
theorem joinL_key {a b : Pc} (hsa : a.strip.size ≤ 1000) (hsb : b.strip.size ≤ 1000) (hka : ∀ x ∈ a.node.ps, x.key.size ≤ 1000) (hkb : ∀ x ∈ b.node.ps, x.key.size ≤ 1000) : ∀ x ∈ joinL a b, x.key.size ≤ 1000000 := by
  intro x hx
  unfold joinL at hx
  rcases List.mem_append.1 hx with hx | hx
  · obtain ⟨y, hy, rfl⟩ := List.mem_map.1 hx
    show (a.strip ++ y.key).size ≤ _
    rw [ByteArray.size_append]
    have := hka y hy
    omega
  · obtain ⟨y, hy, rfl⟩ := List.mem_map.1 hx
    show (b.strip ++ y.key).size ≤ _
    rw [ByteArray.size_append]
    have := hkb y hy
    omega
theorem Prs.kept {w u : World} {a : Option Addr} {l : List Pr} {k : Nat} (h : Prs w a l) (hg : w.grownBy u (some k)) (hne : ∀ b o, a = some ⟨b, o, none⟩ → b ≠ k) : Prs u a l := by
  rcases h with rfl | ⟨b, off, rfl, hc⟩
  · exact .inl rfl
  · refine .inr ⟨b, off, rfl, fun i hi => ?_⟩
    have hb := (hc i hi).lt
    have he := hg.block b hb (fun e => hne b off rfl (Option.some.inj e))
    exact ⟨(World.cell?_of_block (w := w) (a := ⟨b, off + i * 2, none⟩) he).trans (hc i hi).c0, (World.cell?_of_block (w := w) (a := ⟨b, off + i * 2 + 1, none⟩) he).trans (hc i hi).c1⟩
theorem row_far_prs {w : World} {B : Nat} {a : Option Addr} {n c : Nat} {l : List Pr} (h : w.ownsRow B 64 2 (.slice a n c) l.length (l.flatMap Pr.cells)) {k : Nat} (hk : k < B) : ∀ b o, a = some ⟨b, o, none⟩ → b ≠ k := by
  rintro b o rfl e
  rcases h.2 with ⟨e', _⟩ | ⟨g, cap, cur, e', hB, _⟩
  · cases e'
  · simp only [Value.slice.injEq, Option.some.injEq, Addr.mk.injEq] at e'
    omega
theorem row_prs {w : World} {B : Nat} {v : Value} {l : List Pr} (h : w.ownsRow B 64 2 v l.length (l.flatMap Pr.cells)) : ∃ a c, v = .slice a l.length c ∧ Prs w a l := by
  obtain ⟨a, c, e, h1⟩ := row_cells Pr.cells 2 (fun _ => rfl) h
  refine ⟨a, c, e, ?_⟩
  rcases h1 with h1 | ⟨g, e, _, _, hc⟩
  · exact .inl h1
  · exact .inr ⟨g, 0, e, fun i hi => ⟨hc i hi 0 _ (by omega) rfl, hc i hi 1 _ (by omega) rfl⟩⟩

set_option maxRecDepth 100000 in
set_option maxHeartbeats 2000000 in
theorem join22 (a b : Pc) (p q : Pl) (lo hi : ByteArray) (e : Bool) (w : World) (fa : Few a.node) (fb : Few b.node) (la : Lies w a.node p) (lb : Lies w b.node q) (hsa : a.strip.size ≤ 1000) (hsb : b.strip.size ≤ 1000)
    (hka : ∀ x ∈ a.node.ps, x.key.size ≤ 1000) (hkb : ∀ x ∈ b.node.ps, x.key.size ≤ 1000) (hlo : lo.size ≤ 1000) (hhi : hi.size ≤ 1000) :
    Calls Try.prog 22 #[pcv a p, pcv b q, av lo hi e] w fun x w' => JoinSay w w' x a b lo hi e ∧ Below w.heap.size w w' := by
  have HMa := hid (fun (wr : World) (hb : Below w.heap.size w wr) => leafMay41 a.node p wr fa (la.later hb))
  have HMb := hid (fun (wr : World) (hb : Below w.heap.size w wr) => leafMay41 b.node q wr fb (lb.later hb))
  have HUa := hid (fun (wr : World) (hb : Below w.heap.size w wr) => unstripped42 a p wr fa.l1 (la.later hb).h1 (by omega) (fun x hx => Nat.le_trans (hka x hx) (by decide)))
  have HUb := hid (fun (wr : World) (hb : Below w.heap.size w wr) => unstripped42 b q wr fb.l1 (lb.later hb).h1 (by omega) (fun x hx => Nat.le_trans (hkb x hx) (by decide)))
  have HY := hid (fun wr => empty25 lo hi e wr)
  have HV := hid (fun wr => under24 lo hi e wr hlo hhi)
  have HL := joinL_small fa fb
  have HLk := hid (joinL_key hsa hsb hka hkb)
  have HE := hid (show joinE a b (rg lo hi e) = if leafMayB a.node && leafMayB b.node then if !emptyR (rg lo hi e) && (withinB (joinL a b) (rg lo hi e) && riseB (joinL a b)) then if 16 < (joinL a b).length then 13 else 0 else 1 else 3 from rfl)
  have HJ := hid (show joinL a b = a.node.ps.map (addP a.strip) ++ b.node.ps.map (addP b.strip) from rfl)
  have HNo := hid (fun (w' : World) (x : Ending) (z : Int) => @join_none w w' x a b lo hi e z)
  have HSo := hid (fun (w' : World) (x : Ending) (l : List Pr) (ad : Option Addr) (c B : Nat) => @join_some w w' x a b lo hi e (undS (rg lo hi e)) l ad c B)
  have hml : a.node.ps.length ≤ 1000 ∧ b.node.ps.length ≤ 1000 := ⟨fa.l1, fb.l1⟩
  have HLa := hid (show (a.node.ps.map (addP a.strip)).length ≤ 1000 by rw [List.length_map]; exact fa.l1)
  have HLb := hid (show (b.node.ps.map (addP b.strip)).length ≤ 1000 by rw [List.length_map]; exact fb.l1)
  rw [show str (under (rg lo hi e)) = undS (rg lo hi e) from rfl] at HV
  have HUn := hid (fun (x : Pr) (hw : withinB (joinL a b) (rg lo hi e) = true) (hx : x ∈ joinL a b) => show has x.key.data.toList (undS (rg lo hi e)).data.toList = true from by
    unfold withinB at hw
    rw [List.all_eq_true] at hw
    unfold undS
    rw [str_data]
    exact under_in (hw x hx))
  clear fa fb la lb hsa hsb hka hkb
  have key : ∀ (SAY : World → Ending → Prop), Hid (SAY = fun w' x => JoinSay w w' x a b lo hi e) → Calls Try.prog 22 #[pcv a p, pcv b q, av lo hi e] w fun x w' => SAY w' x ∧ Below w.heap.size w w' := by
    intro SAY HSAY
    generalize undS (rg lo hi e) = S at *
    generalize joinL a b = J at *
    generalize a.node.ps.map (addP a.strip) = Ja at *
    generalize b.node.ps.map (addP b.strip) = Jb at *
    generalize leafMayB a.node = MA at *
    generalize leafMayB b.node = MB at *
    generalize joinE a b (rg lo hi e) = ZE at *
    obtain ⟨alo, ast, aB, aps, apv, aks, abf⟩ := a
    obtain ⟨blo, bst, bB, bps, bpv, bks, bbf⟩ := b
    obtain ⟨p1, d1, p2, d2, p3, d3, p4, d4⟩ := p
    obtain ⟨q1, f1, q2, f2, q3, f3, q4, f4⟩ := q
    dsimp only [pcv, nv] at *
    generalize aps.length = an1 at *
    generalize apv.length = an2 at *
    generalize aks.length = an3 at *
    generalize abf.length = an4 at *
    generalize bps.length = bn1 at *
    generalize bpv.length = bn2 at *
    generalize bks.length = bn3 at *
    generalize bbf.length = bn4 at *
    obtain ⟨A0, B0, R0, Q0, hb0⟩ := boxes_qqrq w (.string alo) (.string ast) (.bool aB) (.slice p1 an1 d1) (.slice p2 an2 d2) (.slice p3 an3 d3) (.slice p4 an4 d4) (.string blo) (.string bst) (.bool bB) (.slice q1 bn1 f1) (.slice q2 bn2 f2) (.slice q3 bn3 f3) (.slice q4 bn4 f4) (.string lo) (.string hi) (.bool e) (.string ⟨#[]⟩) (.string ⟨#[]⟩) (.bool false) (.slice none 0 0) (.slice none 0 0) (.slice none 0 0) (.slice none 0 0)
    have start : ∀ ma mb, Hid (MA = ma ∧ MB = mb) → Calls Try.prog 22 #[.agg #[.string alo, .string ast, .bool aB, .slice p1 an1 d1, .slice p2 an2 d2, .slice p3 an3 d3, .slice p4 an4 d4], .agg #[.string blo, .string bst, .bool bB, .slice q1 bn1 f1, .slice q2 bn2 f2, .slice q3 bn3 f3, .slice q4 bn4 f4], av lo hi e] w fun x w' => SAY w' x ∧ Below w.heap.size w w' := by
      intro ma mb hab
      cases MA
      case false =>
        have HZ := hid (show ZE = 3 from HE.out)
        clear HUa HUb HY HV HMb hab
        go_enter Try.func22, Try.ntmps22
        go_upto_region 1 with fail
        generalize (((w.alloc (.cells #[.string alo, .string ast, .bool aB, .slice p1 an1 d1, .slice p2 an2 d2, .slice p3 an3 d3, .slice p4 an4 d4] 36)).alloc (.cells #[.string blo, .string bst, .bool bB, .slice q1 bn1 f1, .slice q2 bn2 f2, .slice q3 bn3 f3, .slice q4 bn4 f4] 36)).alloc (.cells #[.string lo, .string hi, .bool e] 29)).alloc (.cells #[.string ⟨#[]⟩, .string ⟨#[]⟩, .bool false, .slice none 0 0, .slice none 0 0, .slice none 0 0, .slice none 0 0] 36) = w0 at *
        generalize hk0 : w.heap.size = k0 at *
        generalize hk1 : k0 + 1 = k1 at *
        generalize hk2 : k1 + 1 = k2 at *
        generalize hk3 : k2 + 1 = k3 at *
        have HQ0 := hid hk0
        have HQ := hid (And.intro hk1 (And.intro hk2 hk3))
        clear hk0 hk1 hk2 hk3
        have hkk := HQ.out
        obtain ⟨a0, a1, a2, a3, a4, a5, a6⟩ := A0.cells
        obtain ⟨b0, b1, b2, b3, b4, b5, b6⟩ := B0.cells
        obtain ⟨r0, r1, r2⟩ := R0.cells
        go_wp2_with fail
        refine (HMa.out _ hb0).mono ?_
        rintro x w1 ⟨rfl, hb1⟩
        clear a0 a1 a2 a3 a4 a5 a6 b0 b1 b2 b3 b4 b5 b6 r0 r1 r2
        have A1 := A0.later hb1
        have B1 := B0.later hb1
        have R1 := R0.later hb1
        have Q1 := Q0.later hb1
        have hQl1 := Q0.lt
        replace hb1 := hb0.trans (hb1.mono (by omega))
        clear A0 B0 R0 Q0
        obtain ⟨z0, z1, z2, z3, z4, z5, z6⟩ := Q1.cells
        have f := Q1.free
        have f0 := f 0
        have f1' := f 1
        have f2' := f 2
        have f3' := f 3
        have f4' := f 4
        have f5 := f 5
        have f6 := f 6
        clear f
        have hb9 := seven_set hb1 (show k0 ≤ k3 by omega) (.string ⟨#[]⟩) (.string ⟨#[]⟩) (.bool false) (.slice none 0 0) (.slice none 0 0) (.slice none 0 0) (.slice none 0 0)
        go_wp2_with fail
        refine bodyPost_ret (v := .tuple #[.agg #[.string ⟨#[]⟩, .string ⟨#[]⟩, .bool false, .slice none 0 0, .slice none 0 0, .slice none 0 0, .slice none 0 0], .int .i64 3]) (by simp [results, Try.results22, go_sem, z0, z1, z2, z3, z4, z5, z6]) rfl ⟨?_, ?_⟩
        · rw [HSAY]; exact HNo.out _ _ 3 HZ.out (by decide) rfl
        · rw [HQ0.out]; exact hb9
      case true =>
      cases MB
      case false =>
        have HZ := hid (show ZE = 3 from HE.out)
        clear HUa HUb HY HV hab
        go_enter Try.func22, Try.ntmps22
        go_upto_region 1 with fail
        generalize (((w.alloc (.cells #[.string alo, .string ast, .bool aB, .slice p1 an1 d1, .slice p2 an2 d2, .slice p3 an3 d3, .slice p4 an4 d4] 36)).alloc (.cells #[.string blo, .string bst, .bool bB, .slice q1 bn1 f1, .slice q2 bn2 f2, .slice q3 bn3 f3, .slice q4 bn4 f4] 36)).alloc (.cells #[.string lo, .string hi, .bool e] 29)).alloc (.cells #[.string ⟨#[]⟩, .string ⟨#[]⟩, .bool false, .slice none 0 0, .slice none 0 0, .slice none 0 0, .slice none 0 0] 36) = w0 at *
        generalize hk0 : w.heap.size = k0 at *
        generalize hk1 : k0 + 1 = k1 at *
        generalize hk2 : k1 + 1 = k2 at *
        generalize hk3 : k2 + 1 = k3 at *
        have HQ0 := hid hk0
        have HQ := hid (And.intro hk1 (And.intro hk2 hk3))
        clear hk0 hk1 hk2 hk3
        have hkk := HQ.out
        obtain ⟨a0, a1, a2, a3, a4, a5, a6⟩ := A0.cells
        obtain ⟨b0, b1, b2, b3, b4, b5, b6⟩ := B0.cells
        obtain ⟨r0, r1, r2⟩ := R0.cells
        go_wp2_with fail
        refine (HMa.out _ hb0).mono ?_
        rintro x w1 ⟨rfl, hb1⟩
        clear a0 a1 a2 a3 a4 a5 a6 b0 b1 b2 b3 b4 b5 b6 r0 r1 r2
        have A1 := A0.later hb1
        have B1 := B0.later hb1
        have R1 := R0.later hb1
        have Q1 := Q0.later hb1
        have hQl1 := Q0.lt
        replace hb1 := hb0.trans (hb1.mono (by omega))
        clear A0 B0 R0 Q0
        obtain ⟨a0, a1, a2, a3, a4, a5, a6⟩ := A1.cells
        obtain ⟨b0, b1, b2, b3, b4, b5, b6⟩ := B1.cells
        obtain ⟨r0, r1, r2⟩ := R1.cells
        go_wp2_with fail
        refine (HMb.out _ hb1).mono ?_
        rintro x w2 ⟨rfl, hb2⟩
        clear a0 a1 a2 a3 a4 a5 a6 b0 b1 b2 b3 b4 b5 b6 r0 r1 r2
        have A2 := A1.later hb2
        have B2 := B1.later hb2
        have R2 := R1.later hb2
        have Q2 := Q1.later hb2
        have hQl2 := Q1.lt
        replace hb2 := hb1.trans (hb2.mono (by omega))
        clear A1 B1 R1 Q1
        obtain ⟨z0, z1, z2, z3, z4, z5, z6⟩ := Q2.cells
        have f := Q2.free
        have f0 := f 0
        have f1' := f 1
        have f2' := f 2
        have f3' := f 3
        have f4' := f 4
        have f5 := f 5
        have f6 := f 6
        clear f
        have hb9 := seven_set hb2 (show k0 ≤ k3 by omega) (.string ⟨#[]⟩) (.string ⟨#[]⟩) (.bool false) (.slice none 0 0) (.slice none 0 0) (.slice none 0 0) (.slice none 0 0)
        go_wp2_with fail
        refine bodyPost_ret (v := .tuple #[.agg #[.string ⟨#[]⟩, .string ⟨#[]⟩, .bool false, .slice none 0 0, .slice none 0 0, .slice none 0 0, .slice none 0 0], .int .i64 3]) (by simp [results, Try.results22, go_sem, z0, z1, z2, z3, z4, z5, z6]) rfl ⟨?_, ?_⟩
        · rw [HSAY]; exact HNo.out _ _ 3 HZ.out (by decide) rfl
        · rw [HQ0.out]; exact hb9
      case true =>
        have HE' := hid (show ZE = if !emptyR (rg lo hi e) && (withinB J (rg lo hi e) && riseB J) then if 16 < J.length then 13 else 0 else 1 from HE.out)
        clear HE hab
        go_enter Try.func22, Try.ntmps22
        go_upto_region 1 with fail
        generalize (((w.alloc (.cells #[.string alo, .string ast, .bool aB, .slice p1 an1 d1, .slice p2 an2 d2, .slice p3 an3 d3, .slice p4 an4 d4] 36)).alloc (.cells #[.string blo, .string bst, .bool bB, .slice q1 bn1 f1, .slice q2 bn2 f2, .slice q3 bn3 f3, .slice q4 bn4 f4] 36)).alloc (.cells #[.string lo, .string hi, .bool e] 29)).alloc (.cells #[.string ⟨#[]⟩, .string ⟨#[]⟩, .bool false, .slice none 0 0, .slice none 0 0, .slice none 0 0, .slice none 0 0] 36) = w0 at *
        generalize hk0 : w.heap.size = k0 at *
        generalize hk1 : k0 + 1 = k1 at *
        generalize hk2 : k1 + 1 = k2 at *
        generalize hk3 : k2 + 1 = k3 at *
        have HQ0 := hid hk0
        have HQ := hid (And.intro hk1 (And.intro hk2 hk3))
        clear hk0 hk1 hk2 hk3
        have hkk := HQ.out
        obtain ⟨a0, a1, a2, a3, a4, a5, a6⟩ := A0.cells
        obtain ⟨b0, b1, b2, b3, b4, b5, b6⟩ := B0.cells
        obtain ⟨r0, r1, r2⟩ := R0.cells
        go_wp2_with fail
        refine (HMa.out _ hb0).mono ?_
        rintro x w1 ⟨rfl, hb1⟩
        clear a0 a1 a2 a3 a4 a5 a6 b0 b1 b2 b3 b4 b5 b6 r0 r1 r2
        have A1 := A0.later hb1
        have B1 := B0.later hb1
        have R1 := R0.later hb1
        have Q1 := Q0.later hb1
        have hQl1 := Q0.lt
        replace hb1 := hb0.trans (hb1.mono (by omega))
        clear A0 B0 R0 Q0
        obtain ⟨a0, a1, a2, a3, a4, a5, a6⟩ := A1.cells
        obtain ⟨b0, b1, b2, b3, b4, b5, b6⟩ := B1.cells
        obtain ⟨r0, r1, r2⟩ := R1.cells
        go_wp2_with fail
        refine (HMb.out _ hb1).mono ?_
        rintro x w2 ⟨rfl, hb2⟩
        clear a0 a1 a2 a3 a4 a5 a6 b0 b1 b2 b3 b4 b5 b6 r0 r1 r2
        have A2 := A1.later hb2
        have B2 := B1.later hb2
        have R2 := R1.later hb2
        have Q2 := Q1.later hb2
        have hQl2 := Q1.lt
        replace hb2 := hb1.trans (hb2.mono (by omega))
        clear A1 B1 R1 Q1
        go_upto_region 3 with fail
        have hs2 : k0 ≤ w2.heap.size := by have := Q2.lt; omega
        refine wp_region_each [(some 21, [], false), (some 22, [(0, 21)], false), (some 23, [], false), (some 24, [(2, 23)], false), (some 25, [(1, 22), (3, 24)], false), (some 8, [(4, 25)], true)]
          (fun u => Below w2.heap.size w2 u) (fun i u u' => if i = 4 then Below w2.heap.size u u' else Below u.heap.size u u')
          (fun i v u => match i with | 0 => v = .agg #[.string alo, .string ast, .bool aB, .slice p1 an1 d1, .slice p2 an2 d2, .slice p3 an3 d3, .slice p4 an4 d4] | 1 => u.ownsRow w2.heap.size 64 2 v Ja.length (Ja.flatMap Pr.cells) | 2 => v = .agg #[.string blo, .string bst, .bool bB, .slice q1 bn1 f1, .slice q2 bn2 f2, .slice q3 bn3 f3, .slice q4 bn4 f4] | 3 => u.ownsRow w2.heap.size 64 2 v Jb.length (Jb.flatMap Pr.cells) | 4 => u.ownsRow w2.heap.size 64 2 v J.length (J.flatMap Pr.cells) | 5 => u.ownsRow w2.heap.size 64 2 v J.length (J.flatMap Pr.cells) | _ => True)
          (by kernel_rfl) (by kernel_rfl) (Below.refl _ w2).drew (fun i u u' h h' => ?_) (fun i j v u u' hn h h' hv => ?_) ⟨?_, ?_, ?_, ?_, ?_, ?_, trivial⟩ ?_
        · by_cases hi4 : i = 4
          · rw [if_pos hi4] at h'; exact h.trans h'
          · rw [if_neg hi4] at h'; exact h.trans (h'.mono h.size)
        · by_cases hi4 : i = 4
          · subst hi4
            match j with
            | 0 => exact absurd hn (by decide)
            | 1 => exact absurd hn (by decide)
            | 2 => exact absurd hn (by decide)
            | 3 => exact absurd hn (by decide)
            | 4 => exact absurd hn (by decide)
            | 5 => exact absurd hn (by decide)
            | _ + 6 => trivial
          · rw [if_neg hi4] at h'
            match j with
            | 0 => exact hv
            | 1 => exact row_later hv h'
            | 2 => exact hv
            | 3 => exact row_later hv h'
            | 4 => exact row_later hv h'
            | 5 => exact row_later hv h'
            | _ + 6 => trivial
        · rintro u hu
          obtain ⟨m0, m1, m2, m3, m4, m5, m6⟩ := (A2.later hu).cells
          exact opYields_val (.agg #[.string alo, .string ast, .bool aB, .slice p1 an1 d1, .slice p2 an2 d2, .slice p3 an3 d3, .slice p4 an4 d4]) (by kernel_rfl) (by go_simp) ⟨Below.refl _ _, rfl⟩
        · rintro u hu _ rfl
          refine opYields_call 42 #[.agg #[.string alo, .string ast, .bool aB, .slice p1 an1 d1, .slice p2 an2 d2, .slice p3 an3 d3, .slice p4 an4 d4]] (by kernel_rfl) (by go_simp) ((HUa.out u (hb2.trans (hu.mono hs2))).mono ?_)
          rintro x u' ⟨v, h1, h2, h3⟩
          exact ⟨v, h1, h3, row_mono h2 hu.size⟩
        · rintro u hu
          obtain ⟨m0, m1, m2, m3, m4, m5, m6⟩ := (B2.later hu).cells
          exact opYields_val (.agg #[.string blo, .string bst, .bool bB, .slice q1 bn1 f1, .slice q2 bn2 f2, .slice q3 bn3 f3, .slice q4 bn4 f4]) (by kernel_rfl) (by go_simp) ⟨Below.refl _ _, rfl⟩
        · rintro u hu _ rfl
          refine opYields_call 42 #[.agg #[.string blo, .string bst, .bool bB, .slice q1 bn1 f1, .slice q2 bn2 f2, .slice q3 bn3 f3, .slice q4 bn4 f4]] (by kernel_rfl) (by go_simp) ((HUb.out u (hb2.trans (hu.mono hs2))).mono ?_)
          rintro x u' ⟨v, h1, h2, h3⟩
          exact ⟨v, h1, h3, row_mono h2 hu.size⟩
        · rintro u hu v1 e1 v2 e2
          refine yRow (by kernel_rfl) (.tmp 22) (.tmp 24) rfl w2.heap.size w2.heap.size v1 v2 Ja Jb rfl e1 rfl e2 (by have := HLa.out; have := HLb.out; omega) hu.size fun v' w' h1 h2 => ⟨?_, ?_⟩
          · show Below w2.heap.size u w'
            exact (Below.refl _ u).grown h2 hu.size fun k hk => (World.ownsRow.lt e1 k hk).1
          · show w'.ownsRow w2.heap.size 64 2 v' J.length (J.flatMap Pr.cells)
            rw [HJ.out]; exact h1
        · rintro u hu v e1
          obtain ⟨xa, xn, xc, rfl⟩ := row_slice e1
          exact opYields_val (.slice xa xn xc) (by kernel_rfl) (by go_simp) ⟨Below.refl _ _, e1⟩
        · intro u hu x0 x1 x2 x3 x4 x5 e5
          replace e5 : u.ownsRow w2.heap.size 64 2 x5 J.length (J.flatMap Pr.cells) := e5
          obtain ⟨xa, xc, rfl, hP⟩ := row_prs e5
          have hb3 := hb2.trans (hu.mono hs2)
          have A3 := A2.later hu
          have B3 := B2.later hu
          have R3 := R2.later hu
          have Q3 := Q2.later hu
          have hQl3 := Q2.lt
          clear A2 B2 R2 Q2 hb2
          simp only [givingAll, Act.put, List.setIfInBounds_toArray, List.set_cons_zero, List.set_cons_succ]
          have hfar := row_far_prs e5 (show k3 < w2.heap.size by omega)
          clear e5 HUa HUb HMb HJ HLa HLb
          have HW := hid (fun wr (hb : Below u.heap.size u wr) => within44 xa xc J lo hi e wr (by omega) (hP.later hb))
          have HRi := hid (fun wr (hb : Below u.heap.size u wr) => rise45 xa xc J wr (by omega) (hP.later hb))
          have HP := hid (fun wr (hb : Below u.heap.size u wr) => hP.later hb)
          have HJC := hid (fun (hw : withinB J (rg lo hi e) = true) => lift_cut (ps := J) (s := S) (fun x hx => HUn.out x hw hx))
          have hs3 := hb3.size
          clear hP HUn
          generalize withinB J (rg lo hi e) = WB at *
          generalize riseB J = RB at *
          obtain ⟨a0, a1, a2, a3, a4, a5, a6⟩ := A3.cells
          obtain ⟨b0, b1, b2, b3, b4, b5, b6⟩ := B3.cells
          obtain ⟨r0, r1, r2⟩ := R3.cells
          cases hE : emptyR (rg lo hi e)
          case true =>
            rw [hE] at HY HE'
            have HZ := hid (show ZE = 1 from HE'.out)
            go_wp2_with fail
            refine (HY.out _).mono ?_
            rintro x w4 ⟨rfl, hb4⟩
            clear a0 a1 a2 a3 a4 a5 a6 b0 b1 b2 b3 b4 b5 b6 r0 r1 r2
            have A4 := A3.later hb4
            have B4 := B3.later hb4
            have R4 := R3.later hb4
            have Q4 := Q3.later hb4
            have hQl4 := Q3.lt
            replace hb4 := hb3.trans (hb4.mono (by omega))
            clear A3 B3 R3 Q3
            obtain ⟨z0, z1, z2, z3, z4, z5, z6⟩ := Q4.cells
            have f := Q4.free
            have f0 := f 0
            have f1' := f 1
            have f2' := f 2
            have f3' := f 3
            have f4' := f 4
            have f5 := f 5
            have f6 := f 6
            clear f
            have hb9 := seven_set hb4 (show k0 ≤ k3 by omega) (.string ⟨#[]⟩) (.string ⟨#[]⟩) (.bool false) (.slice none 0 0) (.slice none 0 0) (.slice none 0 0) (.slice none 0 0)
            go_wp2_with fail
            refine bodyPost_ret (v := .tuple #[.agg #[.string ⟨#[]⟩, .string ⟨#[]⟩, .bool false, .slice none 0 0, .slice none 0 0, .slice none 0 0, .slice none 0 0], .int .i64 1]) (by simp [results, Try.results22, go_sem, z0, z1, z2, z3, z4, z5, z6]) rfl ⟨?_, ?_⟩
            · rw [HSAY]; exact HNo.out _ _ 1 HZ.out (by decide) rfl
            · rw [HQ0.out]; exact hb9
          case false =>
          rw [hE] at HY HE'
          cases WB
          case false =>
            have HZ := hid (show ZE = 1 from HE'.out)
            go_wp2_with fail
            refine (HY.out _).mono ?_
            rintro x w4 ⟨rfl, hb4⟩
            have hu4 := hb4
            clear a0 a1 a2 a3 a4 a5 a6 b0 b1 b2 b3 b4 b5 b6 r0 r1 r2
            have A4 := A3.later hb4
            have B4 := B3.later hb4
            have R4 := R3.later hb4
            have Q4 := Q3.later hb4
            have hQl4 := Q3.lt
            replace hb4 := hb3.trans (hb4.mono (by omega))
            clear A3 B3 R3 Q3
            obtain ⟨a0, a1, a2, a3, a4, a5, a6⟩ := A4.cells
            obtain ⟨b0, b1, b2, b3, b4, b5, b6⟩ := B4.cells
            obtain ⟨r0, r1, r2⟩ := R4.cells
            go_wp2_with fail
            refine (HW.out _ hu4).mono ?_
            rintro x w5 ⟨rfl, hb5⟩
            clear a0 a1 a2 a3 a4 a5 a6 b0 b1 b2 b3 b4 b5 b6 r0 r1 r2
            have A5 := A4.later hb5
            have B5 := B4.later hb5
            have R5 := R4.later hb5
            have Q5 := Q4.later hb5
            have hQl5 := Q4.lt
            replace hb5 := hb4.trans (hb5.mono (by omega))
            clear A4 B4 R4 Q4
            obtain ⟨z0, z1, z2, z3, z4, z5, z6⟩ := Q5.cells
            have f := Q5.free
            have f0 := f 0
            have f1' := f 1
            have f2' := f 2
            have f3' := f 3
            have f4' := f 4
            have f5 := f 5
            have f6 := f 6
            clear f
            have hb9 := seven_set hb5 (show k0 ≤ k3 by omega) (.string ⟨#[]⟩) (.string ⟨#[]⟩) (.bool false) (.slice none 0 0) (.slice none 0 0) (.slice none 0 0) (.slice none 0 0)
            go_wp2_with fail
            refine bodyPost_ret (v := .tuple #[.agg #[.string ⟨#[]⟩, .string ⟨#[]⟩, .bool false, .slice none 0 0, .slice none 0 0, .slice none 0 0, .slice none 0 0], .int .i64 1]) (by simp [results, Try.results22, go_sem, z0, z1, z2, z3, z4, z5, z6]) rfl ⟨?_, ?_⟩
            · rw [HSAY]; exact HNo.out _ _ 1 HZ.out (by decide) rfl
            · rw [HQ0.out]; exact hb9
          case true =>
          go_wp2_with fail
          refine (HY.out _).mono ?_
          rintro x w4 ⟨rfl, hb4⟩
          have hu4 := hb4
          clear a0 a1 a2 a3 a4 a5 a6 b0 b1 b2 b3 b4 b5 b6 r0 r1 r2
          have A4 := A3.later hb4
          have B4 := B3.later hb4
          have R4 := R3.later hb4
          have Q4 := Q3.later hb4
          have hQl4 := Q3.lt
          replace hb4 := hb3.trans (hb4.mono (by omega))
          clear A3 B3 R3 Q3
          obtain ⟨a0, a1, a2, a3, a4, a5, a6⟩ := A4.cells
          obtain ⟨b0, b1, b2, b3, b4, b5, b6⟩ := B4.cells
          obtain ⟨r0, r1, r2⟩ := R4.cells
          go_wp2_with fail
          refine (HW.out _ hu4).mono ?_
          rintro x w5 ⟨rfl, hb5⟩
          have hu5 := hu4.trans (hb5.mono hu4.size)
          clear a0 a1 a2 a3 a4 a5 a6 b0 b1 b2 b3 b4 b5 b6 r0 r1 r2
          have A5 := A4.later hb5
          have B5 := B4.later hb5
          have R5 := R4.later hb5
          have Q5 := Q4.later hb5
          have hQl5 := Q4.lt
          replace hb5 := hb4.trans (hb5.mono (by omega))
          clear A4 B4 R4 Q4
          obtain ⟨a0, a1, a2, a3, a4, a5, a6⟩ := A5.cells
          obtain ⟨b0, b1, b2, b3, b4, b5, b6⟩ := B5.cells
          obtain ⟨r0, r1, r2⟩ := R5.cells
          go_wp2_with fail
          refine (HRi.out _ hu5).mono ?_
          rintro x w6 ⟨rfl, hb6⟩
          have hu6 := hu5.trans (hb6.mono hu5.size)
          clear a0 a1 a2 a3 a4 a5 a6 b0 b1 b2 b3 b4 b5 b6 r0 r1 r2
          have A6 := A5.later hb6
          have B6 := B5.later hb6
          have R6 := R5.later hb6
          have Q6 := Q5.later hb6
          have hQl6 := Q5.lt
          replace hb6 := hb5.trans (hb6.mono (by omega))
          clear A5 B5 R5 Q5
          clear HY HW HRi
          cases RB
          case false =>
            have HZ := hid (show ZE = 1 from HE'.out)
            obtain ⟨z0, z1, z2, z3, z4, z5, z6⟩ := Q6.cells
            have f := Q6.free
            have f0 := f 0
            have f1' := f 1
            have f2' := f 2
            have f3' := f 3
            have f4' := f 4
            have f5 := f 5
            have f6 := f 6
            clear f
            have hb9 := seven_set hb6 (show k0 ≤ k3 by omega) (.string ⟨#[]⟩) (.string ⟨#[]⟩) (.bool false) (.slice none 0 0) (.slice none 0 0) (.slice none 0 0) (.slice none 0 0)
            go_wp2_with fail
            refine bodyPost_ret (v := .tuple #[.agg #[.string ⟨#[]⟩, .string ⟨#[]⟩, .bool false, .slice none 0 0, .slice none 0 0, .slice none 0 0, .slice none 0 0], .int .i64 1]) (by simp [results, Try.results22, go_sem, z0, z1, z2, z3, z4, z5, z6]) rfl ⟨?_, ?_⟩
            · rw [HSAY]; exact HNo.out _ _ 1 HZ.out (by decide) rfl
            · rw [HQ0.out]; exact hb9
          case true =>
          by_cases h16 : 16 < J.length
          case pos =>
            have HZ := hid (show ZE = 13 from by rw [HE'.out, if_pos (by rfl), if_pos h16])
            have h16' : (16 : Int) < (J.length : Int) := by omega
            obtain ⟨z0, z1, z2, z3, z4, z5, z6⟩ := Q6.cells
            have f := Q6.free
            have f0 := f 0
            have f1' := f 1
            have f2' := f 2
            have f3' := f 3
            have f4' := f 4
            have f5 := f 5
            have f6 := f 6
            clear f
            have hb9 := seven_set hb6 (show k0 ≤ k3 by omega) (.string ⟨#[]⟩) (.string ⟨#[]⟩) (.bool false) (.slice none 0 0) (.slice none 0 0) (.slice none 0 0) (.slice none 0 0)
            go_wp2_with fail
            refine bodyPost_ret (v := .tuple #[.agg #[.string ⟨#[]⟩, .string ⟨#[]⟩, .bool false, .slice none 0 0, .slice none 0 0, .slice none 0 0, .slice none 0 0], .int .i64 13]) (by simp [results, Try.results22, go_sem, z0, z1, z2, z3, z4, z5, z6]) rfl ⟨?_, ?_⟩
            · rw [HSAY]; exact HNo.out _ _ 13 HZ.out (by decide) rfl
            · rw [HQ0.out]; exact hb9
          case neg =>
          have HZ := hid (show ZE = 0 from by rw [HE'.out, if_pos (by rfl), if_neg h16])
          have h16' : ¬ (16 : Int) < (J.length : Int) := by omega
          have HJC' := HJC.out trivial
          obtain ⟨a0, a1, a2, a3, a4, a5, a6⟩ := A6.cells
          obtain ⟨b0, b1, b2, b3, b4, b5, b6⟩ := B6.cells
          obtain ⟨r0, r1, r2⟩ := R6.cells
          go_wp2_with fail
          refine (HV.out _).mono ?_
          rintro x w8 ⟨rfl, hb8⟩
          have hu8 := hu6.trans (hb8.mono hu6.size)
          clear a0 a1 a2 a3 a4 a5 a6 b0 b1 b2 b3 b4 b5 b6 r0 r1 r2
          have A8 := A6.later hb8
          have B8 := B6.later hb8
          have R8 := R6.later hb8
          have Q8 := Q6.later hb8
          have hQl8 := Q6.lt
          replace hb8 := hb6.trans (hb8.mono (by omega))
          clear A6 B6 R6 Q6
          have hP8 := HP.out w8 hu8
          clear HP HJC HV HE' hu4 hu5 hu6
          obtain ⟨JC, hJC⟩ : ∃ JC, J.map (cutP S) = JC := ⟨_, rfl⟩
          have HJM := hid hJC
          rw [hJC] at HJC'
          have HLi := hid (fun wr (hp : Prs wr xa J) => lifted46 xa xc J S ⟨#[]⟩ wr (by omega) hp (by decide) HLk.out)
          rw [HJC'] at HLi
          clear HJC' hJC
          generalize hJn : J.length = jn at *
          clear hJn
          have hk3 := Q8.lt
          go_upto_region 9 with fail
          refine wp_region_each [(some 46, [], false), (some 47, [(0, 46)], false), (some 48, [], false), (some 49, [], false), (some 50, [], false), (some 51, [(4, 50)], false), (some 52, [(3, 49), (5, 51)], false), (some 53, [(6, 52)], false), (some 54, [(1, 47), (2, 48), (7, 53)], false), (none, [(8, 54)], true), (some 7, [], true)]
            (fun u => w8.grownBy u (some k3) ∧ ∃ y0 y1 y2 y3 y4 y5 y6, QBox u k3 y0 y1 y2 y3 y4 y5 y6) (fun i u u' => if i = 9 then u.grownBy u' (some k3) ∧ ∃ y0 y1 y2 y3 y4 y5 y6, QBox u' k3 y0 y1 y2 y3 y4 y5 y6 else Below u.heap.size u u')
            (fun i v u => match i with | 0 => v = .pointer (some ⟨k2, 0, none⟩) | 1 => v = .string lo | 2 => v = .string S | 3 => v = .slice xa jn xc | 4 => v = .string S | 5 => v = lv S ⟨#[]⟩ | 6 => u.ownsRow (k3 + 1) 64 2 v JC.length (JC.flatMap Pr.cells) | 7 => ∃ ad c, v = .agg #[.bool true, .slice ad JC.length c, .slice none 0 0, .slice none 0 0, .slice none 0 0] ∧ u.ownsRow (k3 + 1) 64 2 (.slice ad JC.length c) JC.length (JC.flatMap Pr.cells) | 8 => ∃ ad c, v = .agg #[.string lo, .string S, .bool true, .slice ad JC.length c, .slice none 0 0, .slice none 0 0, .slice none 0 0] ∧ u.ownsRow (k3 + 1) 64 2 (.slice ad JC.length c) JC.length (JC.flatMap Pr.cells) | 9 => ∃ ad c, QBox u k3 (.string lo) (.string S) (.bool true) (.slice ad JC.length c) (.slice none 0 0) (.slice none 0 0) (.slice none 0 0) ∧ u.ownsRow (k3 + 1) 64 2 (.slice ad JC.length c) JC.length (JC.flatMap Pr.cells) | 10 => v = .int .i64 0 | _ => True)
            (by kernel_rfl) (by kernel_rfl) ⟨below_grown _ (Below.refl _ w8).drew, _, _, _, _, _, _, _, Q8.later (Below.refl _ w8).drew⟩ (fun i u u' h h' => ?_) (fun i j v u u' hn h h' hv => ?_) ⟨?_, ?_, ?_, ?_, ?_, ?_, ?_, ?_, ?_, ?_, ?_, trivial⟩ ?_
          · by_cases hi9 : i = 9
            · rw [if_pos hi9] at h'; exact ⟨grown_trans h.1 h'.1, h'.2⟩
            · rw [if_neg hi9] at h'
              obtain ⟨g, y0, y1, y2, y3, y4, y5, y6, hy⟩ := h
              exact ⟨grown_trans g (below_grown _ h'), _, _, _, _, _, _, _, hy.later h'⟩
          · by_cases hi9 : i = 9
            · subst hi9
              match j with
              | 0 => exact hv
              | 1 => exact hv
              | 2 => exact hv
              | 3 => exact hv
              | 4 => exact hv
              | 5 => exact hv | 6 => exact absurd hn (by decide) | 7 => exact absurd hn (by decide) | 8 => exact absurd hn (by decide) | 9 => exact absurd hn (by decide) | 10 => exact hv
              | _ + 11 => trivial
            · rw [if_neg hi9] at h'
              match j with
              | 0 => exact hv
              | 1 => exact hv
              | 2 => exact hv
              | 3 => exact hv
              | 4 => exact hv
              | 5 => exact hv | 6 => exact row_later hv h' | 7 => obtain ⟨ad, c, e1, e2⟩ := hv; exact ⟨ad, c, e1, row_later e2 h'⟩ | 8 => obtain ⟨ad, c, e1, e2⟩ := hv; exact ⟨ad, c, e1, row_later e2 h'⟩ | 9 => obtain ⟨ad, c, e1, e2⟩ := hv; exact ⟨ad, c, e1.later h', row_later e2 h'⟩ | 10 => exact hv
              | _ + 11 => trivial
          · rintro u ⟨hu, _⟩
            exact opYields_val _ (by kernel_rfl) (by go_simp) ⟨Below.refl _ _, rfl⟩
          · rintro u ⟨hu, _⟩ _ rfl
            have Ru : Box u k2 (.string lo) (.string hi) (.bool e) := (hu.block k2 R8.lt (by intro e; have := Option.some.inj e; omega)).trans R8
            obtain ⟨m0, m1, m2⟩ := Ru.cells
            exact opYields_val (.string lo) (by kernel_rfl) (by go_simp) ⟨Below.refl _ _, rfl⟩
          · rintro u ⟨hu, _⟩
            exact opYields_val _ (by kernel_rfl) (by go_simp) ⟨Below.refl _ _, rfl⟩
          · rintro u ⟨hu, _⟩
            exact opYields_val _ (by kernel_rfl) (by go_simp) ⟨Below.refl _ _, rfl⟩
          · rintro u ⟨hu, _⟩
            exact opYields_val _ (by kernel_rfl) (by go_simp) ⟨Below.refl _ _, rfl⟩
          · rintro u ⟨hu, _⟩ _ rfl
            exact opYields_val (lv S ⟨#[]⟩) (by kernel_rfl) (by go_simp) ⟨Below.refl _ _, rfl⟩
          · rintro u ⟨hu, _, _, _, _, _, _, _, hq⟩ _ rfl _ rfl
            refine opYields_call 46 #[.slice xa jn xc, lv S ⟨#[]⟩] (by kernel_rfl) (by go_simp) ((HLi.out u (hP8.kept hu hfar)).mono ?_)
            rintro x u' ⟨v, h1, h2, h3⟩
            exact ⟨v, h1, h3, row_mono h2 hq.lt⟩
          · rintro u ⟨hu, _⟩ v e1
            obtain ⟨ad, n', c, rfl⟩ := row_slice e1
            obtain rfl := row_len e1
            exact opYields_val (.agg #[.bool true, .slice ad JC.length c, .slice none 0 0, .slice none 0 0, .slice none 0 0]) (by kernel_rfl) (by go_simp) ⟨Below.refl _ _, ad, c, rfl, e1⟩
          · rintro u ⟨hu, _⟩ _ rfl _ rfl v ⟨ad, c, rfl, e1⟩
            exact opYields_val (.agg #[.string lo, .string S, .bool true, .slice ad JC.length c, .slice none 0 0, .slice none 0 0, .slice none 0 0]) (by kernel_rfl) (by go_simp) ⟨Below.refl _ _, ad, c, rfl, e1⟩
          · rintro u ⟨hu, y0, y1, y2, y3, y4, y5, y6, hq⟩ v ⟨ad, c, rfl, e1⟩
            have f := hq.free
            have f0 := f 0
            have f1' := f 1
            have f2' := f 2
            have f3' := f 3
            have f4' := f 4
            have f5 := f 5
            have f6 := f 6
            clear f
            obtain ⟨m0, m1, m2, m3, m4, m5, m6⟩ := hq.cells
            have hq' := hq.put (.string lo) (.string S) (.bool true) (.slice ad JC.length c) (.slice none 0 0) (.slice none 0 0) (.slice none 0 0)
            have hr' := row_seven (y0 := .string lo) (y1 := .string S) (y2 := .bool true) (y3 := .slice ad JC.length c) (y4 := .slice none 0 0) (y5 := .slice none 0 0) (y6 := .slice none 0 0) e1 (Nat.lt_succ_self k3)
            have hb' := seven_set (Below.refl k3 u) (Nat.le_refl k3) (.string lo) (.string S) (.bool true) (.slice ad JC.length c) (.slice none 0 0) (.slice none 0 0) (.slice none 0 0)
            refine opYields_put (u' := ((((((u.setCell ⟨k3, 0, none⟩ (.string lo)).setCell ⟨k3, 1, none⟩ (.string S)).setCell ⟨k3, 2, none⟩ (.bool true)).setCell ⟨k3, 3, none⟩ (.slice ad JC.length c)).setCell ⟨k3, 4, none⟩ (.slice none 0 0)).setCell ⟨k3, 5, none⟩ (.slice none 0 0)).setCell ⟨k3, 6, none⟩ (.slice none 0 0)) (by kernel_rfl) (by go_simp) ⟨?_, ad, c, hq', hr'⟩
            exact ⟨⟨hb'.os, hb'.tape, hb'.output, hb'.size, fun k hk hne => by
              have hne' : k ≠ k3 := fun e => hne (by rw [e])
              rw [Below.heap_setCell _ _ _ _ hne', Below.heap_setCell _ _ _ _ hne', Below.heap_setCell _ _ _ _ hne', Below.heap_setCell _ _ _ _ hne', Below.heap_setCell _ _ _ _ hne', Below.heap_setCell _ _ _ _ hne', Below.heap_setCell _ _ _ _ hne']⟩, _, _, _, _, _, _, _, hq'⟩
          · rintro u ⟨hu, _⟩
            exact opYields_val _ (by kernel_rfl) (by go_simp) ⟨Below.refl _ _, rfl⟩
          · rintro u ⟨hu, _⟩ x0 x1 x2 x3 x4 x5 x6 x7 x8 x9 e9 x10 e10
            replace e9 : ∃ ad c, QBox u k3 (.string lo) (.string S) (.bool true) (.slice ad JC.length c) (.slice none 0 0) (.slice none 0 0) (.slice none 0 0) ∧ u.ownsRow (k3 + 1) 64 2 (.slice ad JC.length c) JC.length (JC.flatMap Pr.cells) := e9
            replace e10 : x10 = .int .i64 0 := e10
            obtain ⟨ad, c, hq, hr⟩ := e9
            subst e10
            have hbu : Below k0 w u := hb8.grown hu (by omega) fun k hk => by have := Option.some.inj hk; omega
            obtain ⟨z0, z1, z2, z3, z4, z5, z6⟩ := hq.cells
            simp only [givingAll, Act.put, List.setIfInBounds_toArray, List.set_cons_zero, List.set_cons_succ]
            go_wp2_with fail
            refine bodyPost_ret (v := .tuple #[.agg #[.string lo, .string S, .bool true, .slice ad JC.length c, .slice none 0 0, .slice none 0 0, .slice none 0 0], .int .i64 0]) (by simp [results, Try.results22, go_sem, z0, z1, z2, z3, z4, z5, z6]) rfl ⟨?_, ?_⟩
            · rw [HSAY]; exact HSo.out _ _ JC ad c (k3 + 1) HZ.out trivial HJM.out rfl hr (by omega)
            · rw [HQ0.out]; exact hbu
    exact start MA MB (hid ⟨rfl, rfl⟩)
  exact key _ (hid rfl)
end Go.Proofs.Ytlkcoaencliajaa.Key

namespace Go.Proofs.Ytlkcoaencliajaa.Key
open Go.RowKit Draw
open Go.Op (bytesLess)
set_option linter.unusedVariables false
set_option linter.unusedSimpArgs false

theorem whole_keys {n : Nd} {lo hi : ByteArray} {e : Bool} (h : wholeE n (rg lo hi e) = 0) : ∀ x ∈ (wholeP n lo hi e).node.ps, x.key.size ≤ 1000 := by
  rw [whole_zero h]
  have hm := may_trim h
  obtain ⟨_, hf⟩ := may_iff.1 hm
  intro x hx
  unfold fineB at hf
  cases hl : (trimN n (rg lo hi e) (undS (rg lo hi e))).leaf
  · rw [hl, if_neg (by simp)] at hf
    have : (trimN n (rg lo hi e) (undS (rg lo hi e))).ps = [] := (fork_iff.1 hf).1
    dsimp only at hx
    rw [this] at hx
    cases hx
  · rw [hl, if_pos rfl] at hf
    have := (leaf_iff.1 hf).2.2.2.1 x hx
    unfold okP at this
    rw [Bool.and_eq_true, decide_eq_true_iff] at this
    omega
theorem whole_strip {n : Nd} {lo hi : ByteArray} {e : Bool} (hlo : lo.size ≤ 1000) (h : wholeE n (rg lo hi e) = 0) : (wholeP n lo hi e).strip.size ≤ 1000 := by
  rw [whole_zero h]
  exact Nat.le_trans (und_size _ _ _) hlo
/-- two pieces that are the halves of all keys -/
structure HalvesOf (n : Nd) (P Q : Pc) : Prop where
  few : Few P.node
  few' : Few Q.node
  sum : P.node.ps.length + P.node.ks.length + (Q.node.ps.length + Q.node.ks.length) = n.ps.length + n.ks.length
  le : Q.node.ps.length + Q.node.ks.length ≤ P.node.ps.length + P.node.ks.length
  le' : P.node.ps.length + P.node.ks.length ≤ Q.node.ps.length + Q.node.ks.length + 1
  strip : P.strip.size ≤ 1000
  strip' : Q.strip.size ≤ 1000
  keys : ∀ x ∈ P.node.ps, x.key.size ≤ 1000
  keys' : ∀ x ∈ Q.node.ps, x.key.size ≤ 1000
  joined : n.leaf = true → joinE P Q (rg allA allA false) = 0 ∧ joinP P Q allA allA false = ⟨allA, allA, n⟩
theorem halves_of {n : Nd} (hs : Small n) (h : halvesE n allA allA false = 0) : ∃ P Q, halvesL n allA allA false = [P, Q] ∧ HalvesOf n P Q := by
  obtain ⟨hm, hg, h1, h2⟩ := halves_zero h
  obtain ⟨c1, c2⟩ := halves_count h
  obtain ⟨l1, l2, l3⟩ := halves_less (n.ps.length + n.ks.length)
  have hms := mid_size hm
  refine ⟨_, _, by unfold halvesL; rw [if_pos h], (whole_small hs h1).few, (whole_small hs h2).few, ?_, ?_, ?_, whole_strip (by decide) h1, whole_strip (by omega) h2, whole_keys h1, whole_keys h2, fun hl => halves_join hl h⟩
  · rw [c1, c2]; exact l1
  · rw [c1, c2]; exact l2
  · rw [c1, c2]; exact l3
theorem halves_empty {n : Nd} {lo hi : ByteArray} {e : Bool} (h : halvesE n lo hi e ≠ 0) : halvesL n lo hi e = [] := by unfold halvesL; rw [if_neg h]
def QEx (u : World) (k : Nat) : Prop := ∃ y0 y1 y2 y3 y4 y5 y6, QBox u k y0 y1 y2 y3 y4 y5 y6
theorem QBox.far {w : World} {k k' i : Nat} {v0 v1 v2 v3 v4 v5 v6 u : Value} (h : QBox w k v0 v1 v2 v3 v4 v5 v6) (hne : k ≠ k') : QBox (w.setCell ⟨k', i, none⟩ u) k v0 v1 v2 v3 v4 v5 v6 := by
  unfold QBox
  rw [Below.heap_setCell _ _ _ _ hne]
  exact h
theorem QEx.seven {w : World} {k k' : Nat} (hk : QEx w k) (h : QEx w k') (y0 y1 y2 y3 y4 y5 y6 : Value) : QEx (((((((w.setCell ⟨k', 0, none⟩ y0).setCell ⟨k', 1, none⟩ y1).setCell ⟨k', 2, none⟩ y2).setCell ⟨k', 3, none⟩ y3).setCell ⟨k', 4, none⟩ y4).setCell ⟨k', 5, none⟩ y5).setCell ⟨k', 6, none⟩ y6) k := by
  by_cases e : k = k'
  · subst e
    obtain ⟨z0, z1, z2, z3, z4, z5, z6, hz⟩ := hk
    exact ⟨_, _, _, _, _, _, _, hz.put y0 y1 y2 y3 y4 y5 y6⟩
  · obtain ⟨z0, z1, z2, z3, z4, z5, z6, hz⟩ := hk
    exact ⟨_, _, _, _, _, _, _, ((((((hz.far e).far e).far e).far e).far e).far e).far e⟩
/-- a row of elements of another type than a piece, kept by a store of a piece -/
theorem row_piece {w : World} {B k : Nat} {e : TypeId} {sz : Nat} {v : Value} {n : Nat} {xs : List Value} (h : w.ownsRow B e sz v n xs) (hk : QEx w k) (he : e ≠ 36) (y0 y1 y2 y3 y4 y5 y6 : Value) :
    (((((((w.setCell ⟨k, 0, none⟩ y0).setCell ⟨k, 1, none⟩ y1).setCell ⟨k, 2, none⟩ y2).setCell ⟨k, 3, none⟩ y3).setCell ⟨k, 4, none⟩ y4).setCell ⟨k, 5, none⟩ y5).setCell ⟨k, 6, none⟩ y6).ownsRow B e sz v n xs := by
  obtain ⟨z0, z1, z2, z3, z4, z5, z6, hz⟩ := hk
  have g0 := hz.put0 y0
  have g1 := g0.put1 y1
  have g2 := g1.put2 y2
  have g3 := g2.put3 y3
  have g4 := g3.put4 y4
  have g5 := g4.put5 y5
  exact row_type (row_type (row_type (row_type (row_type (row_type (row_type h hz he) g0 he) g1 he) g2 he) g3 he) g4 he) g5 he
theorem OwnN.piece {w : World} {B k : Nat} {n : Nd} {q : Pl} (h : OwnN w B n q) (hk : QEx w k) (y0 y1 y2 y3 y4 y5 y6 : Value) :
    OwnN (((((((w.setCell ⟨k, 0, none⟩ y0).setCell ⟨k, 1, none⟩ y1).setCell ⟨k, 2, none⟩ y2).setCell ⟨k, 3, none⟩ y3).setCell ⟨k, 4, none⟩ y4).setCell ⟨k, 5, none⟩ y5).setCell ⟨k, 6, none⟩ y6) B n q :=
  ⟨row_piece h.o1 hk (by decide) _ _ _ _ _ _ _, row_piece h.o2 hk (by decide) _ _ _ _ _ _ _, row_piece h.o3 hk (by decide) _ _ _ _ _ _ _, row_piece h.o4 hk (by decide) _ _ _ _ _ _ _⟩

set_option maxRecDepth 100000 in
set_option maxHeartbeats 2000000 in
theorem splitHalves5 (n : Nd) (p : Pl) (w : World) (hn : n.In) (h : Lies w n p) :
    Calls Try.prog 5 #[nv n p] w fun e w' => e = .returned (.bool true) ∧ Below w.heap.size w w' := by
  have A0 := NBox.new w (.bool n.leaf) (.slice p.a1 n.ps.length p.c1) (.slice p.a2 n.pv.length p.c2) (.slice p.a3 n.ks.length p.c3) (.slice p.a4 n.bf.length p.c4)
  have hb0 := below_box w (.cells #[.bool n.leaf, .slice p.a1 n.ps.length p.c1, .slice p.a2 n.pv.length p.c2, .slice p.a3 n.ks.length p.c3, .slice p.a4 n.bf.length p.c4] 27)
  have HG := hid (great7 n p _ hn.long (h.later hb0))
  have HS := hid (fun g => @small_of n g hn)
  have hh := hid (fun (wr : World) (hb : Below w.heap.size w wr) => h.later hb)
  clear hn h
  cases g1 : greatN n
  case true =>
    rw [g1] at HG
    clear HS hh g1
    obtain ⟨lB, ps, pv, ks, bf⟩ := n
    obtain ⟨a1, c1, a2, c2, a3, c3, a4, c4⟩ := p
    dsimp only [nv] at *
    generalize ps.length = n1 at *
    generalize pv.length = n2 at *
    generalize ks.length = n3 at *
    generalize bf.length = n4 at *
    go_enter Try.func5, Try.ntmps5
    obtain ⟨cA0, cA1, cA2, cA3, cA4⟩ := A0.cells
    have cAl := A0.lt
    go_wp2_with fail
    refine (HG.out).mono ?_
    rintro x w1 ⟨rfl, hb1⟩
    clear cA0 cA1 cA2 cA3 cA4 cAl
    have Ah1 := A0.later hb1
    replace hb1 := hb0.trans (hb1.mono hb0.size)
    obtain ⟨cA0, cA1, cA2, cA3, cA4⟩ := Ah1.cells
    have cAl := Ah1.lt
    go_wp2_with fail
    refine (awake9 _).mono ?_
    rintro x w2 ⟨rfl, hb2⟩
    clear cA0 cA1 cA2 cA3 cA4 cAl
    have Ah2 := Ah1.later hb2
    replace hb2 := hb1.trans (hb2.mono hb1.size)
    go_wp2_with fail
    go_ret
    exact ⟨rfl, hb2⟩
  case false =>
  rw [g1] at HG
  have hsm := HS.out g1
  clear HS g1
  have T1 := hid (fun wr hb => halves14 n p allA allA false wr hsm.few (hh.out wr hb) (by decide) (by decide))
  unfold ListSay at T1
  by_cases hz : halvesE n allA allA false = 0
  case neg =>
    have hL := halves_empty hz
    rw [hL] at T1
    generalize halvesE n allA allA false = z at *
    clear hh hsm hL
    obtain ⟨lB, ps, pv, ks, bf⟩ := n
    obtain ⟨a1, c1, a2, c2, a3, c3, a4, c4⟩ := p
    dsimp only [nv] at *
    generalize ps.length = n1 at *
    generalize pv.length = n2 at *
    generalize ks.length = n3 at *
    generalize bf.length = n4 at *
    go_enter Try.func5, Try.ntmps5
    obtain ⟨cA0, cA1, cA2, cA3, cA4⟩ := A0.cells
    have cAl := A0.lt
    go_wp2_with fail
    refine (HG.out).mono ?_
    rintro x w1 ⟨rfl, hb1⟩
    clear cA0 cA1 cA2 cA3 cA4 cAl
    have Ah1 := A0.later hb1
    replace hb1 := hb0.trans (hb1.mono hb0.size)
    clear HG
    obtain ⟨cA0, cA1, cA2, cA3, cA4⟩ := Ah1.cells
    have cAl := Ah1.lt
    go_wp2_with fail
    refine (T1.out _ hb1).mono ?_
    rintro x w2 ⟨⟨v, L, rfl, hO, hL⟩, hb2⟩
    clear cA0 cA1 cA2 cA3 cA4 cAl
    have Ah2 := Ah1.later hb2
    replace hb2 := hb1.trans (hb2.mono hb1.size)
    obtain rfl : L = [] := List.map_eq_nil_iff.1 hL
    obtain ⟨a, c, rfl, _⟩ := hO.lies
    clear hO hL
    dsimp only [List.length_nil]
    obtain ⟨cA0, cA1, cA2, cA3, cA4⟩ := Ah2.cells
    have cAl := Ah2.lt
    go_wp2_with fail
    refine (awake9 _).mono ?_
    rintro x w3 ⟨rfl, hb3⟩
    clear cA0 cA1 cA2 cA3 cA4 cAl
    have Ah3 := Ah2.later hb3
    replace hb3 := hb2.trans (hb3.mono hb2.size)
    go_wp2_with fail
    go_ret
    exact ⟨rfl, hb3⟩
  case pos =>
  obtain ⟨P, Q, hPQ, HO⟩ := halves_of hsm hz
  rw [hz, hPQ] at T1
  have hf := hsm.few
  clear hz hPQ hsm
  have HJ := hid (fun (wr : World) (q q' : Pl) (h1 : Lies wr P.node q) (h2 : Lies wr Q.node q') => join22 P Q q q' allA allA false wr HO.few HO.few' h1 h2 HO.strip HO.strip' HO.keys HO.keys' (by decide) (by decide))
  have HSm := hid (fun (wr : World) (qq : Pl) (h1 : Lies wr n qq) (hb : Below w.heap.size w wr) => same10 n n qq p wr hf hf h1 (hh.out wr hb))
  have HJl := hid HO.joined
  obtain ⟨hfp, hfq, hsum, hle, hle', _, _, _, _, _⟩ := HO
  obtain ⟨p1, _, p3, _⟩ := hfp
  obtain ⟨q1, _, q3, _⟩ := hfq
  obtain ⟨f1, _, f3, _⟩ := hf
  clear hh
  obtain ⟨plo, ps_, ⟨pB, pps, ppv, pks, pbf⟩⟩ := P
  obtain ⟨qlo, qs_, ⟨qB, qps, qpv, qks, qbf⟩⟩ := Q
  unfold JoinSay at HJ
  obtain ⟨lB, ps, pv, ks, bf⟩ := n
  obtain ⟨a1, c1, a2, c2, a3, c3, a4, c4⟩ := p
  dsimp only [nv, pcv] at *
  generalize hn1 : ps.length = n1 at *
  generalize hn2 : pv.length = n2 at *
  generalize hn3 : ks.length = n3 at *
  generalize hn4 : bf.length = n4 at *
  have HNN := hid (And.intro hn1 (And.intro hn2 (And.intro hn3 hn4)))
  clear hn1 hn2 hn3 hn4
  obtain ⟨NN, hNN⟩ : ∃ NN : Nd, NN = ⟨lB, ps, pv, ks, bf⟩ := ⟨_, rfl⟩
  have key : ∀ lb, Hid (lB = lb) → Calls Try.prog 5 #[.agg #[.bool lB, .slice a1 n1 c1, .slice a2 n2 c2, .slice a3 n3 c3, .slice a4 n4 c4]] w fun e w' => e = .returned (.bool true) ∧ Below w.heap.size w w' := by
    intro lb hlb
    go_enter Try.func5, Try.ntmps5
    obtain ⟨cA0, cA1, cA2, cA3, cA4⟩ := A0.cells
    have cAl := A0.lt
    go_wp2_with fail
    refine (HG.out).mono ?_
    rintro x w1 ⟨rfl, hb1⟩
    clear cA0 cA1 cA2 cA3 cA4 cAl
    have Ah1 := A0.later hb1
    replace hb1 := hb0.trans (hb1.mono hb0.size)
    clear HG
    obtain ⟨cA0, cA1, cA2, cA3, cA4⟩ := Ah1.cells
    have cAl := Ah1.lt
    go_wp2_with fail
    refine (T1.out _ hb1).mono ?_
    rintro x w2 ⟨⟨v, L, rfl, hO, hL⟩, hb2⟩
    clear cA0 cA1 cA2 cA3 cA4 cAl
    have Ah2 := Ah1.later hb2
    replace hb2 := hb1.trans (hb2.mono hb1.size)
    obtain ⟨g, c, q, q', rfl, hg, V, LL, V', LL'⟩ := hO.two hL
    clear hO hL L
    dsimp only at V V'
    generalize pps.length = m1 at *
    generalize ppv.length = m2 at *
    generalize pks.length = m3 at *
    generalize pbf.length = m4 at *
    generalize qps.length = m1' at *
    generalize qpv.length = m2' at *
    generalize qks.length = m3' at *
    generalize qbf.length = m4' at *
    have hs2 := hb2.size
    go_upto_region 8 with fail
    have eA : IntKind.i64.wrap ((m1 : Int) + (m3 : Int)) = (m1 : Int) + (m3 : Int) := by rw [IntKind.wrap_i64]; omega
    have eB : IntKind.i64.wrap ((m1' : Int) + (m3' : Int)) = (m1' : Int) + (m3' : Int) := by rw [IntKind.wrap_i64]; omega
    have eN : IntKind.i64.wrap ((n1 : Int) + (n3 : Int)) = (n1 : Int) + (n3 : Int) := by rw [IntKind.wrap_i64]; omega
    refine wp_region_quiet (C := fun u => Below w2.heap.size w2 u) (by kernel_rfl) (by kernel_rfl) (Below.refl _ w2).drew ?_
    change wpQuiet _ _ _ _ (_ :: _) _
    repeat
      first
        | go_big_quiet_skip
        | go_big_quiet_want
          first
            | refine quiet_v ?_ ?_ ?_
              rotate_left
              · intro u hu
                obtain ⟨z0, z1, z2, z3, z4, z5, z6⟩ := V.later hu
                obtain ⟨y0, y1, y2, y3, y4, y5, y6⟩ := V'.later hu
                go_simp
                with_reducible rfl
          go_simp
          go_big_quiet_on
    refine wpQuiet_nil (fun u hu => ?_)
    have hb3 := hb2.trans (hu.mono hb2.size)
    have Ah23 := Ah2.later hu
    have V3 := V.later hu
    have V3' := V'.later hu
    have L3 := LL.later hu
    have L3' := LL'.later hu
    clear Ah2 V V' LL LL' hu hb2
    obtain ⟨Ah2, V, V', LL, LL'⟩ : NBox u w.heap.size (.bool lB) (.slice a1 n1 c1) (.slice a2 n2 c2) (.slice a3 n3 c3) (.slice a4 n4 c4) ∧ _ ∧ _ ∧ _ ∧ _ := ⟨Ah23, V3, V3', L3, L3'⟩
    clear Ah23 V3 V3' L3 L3'
    generalize u = w3 at *
    go_upto_region 9 with fail
    refine wp_region_quiet (C := fun u => Below w3.heap.size w3 u) (by kernel_rfl) (by kernel_rfl) (Below.refl _ w3).drew ?_
    change wpQuiet _ _ _ _ (_ :: _) _
    repeat
      first
        | go_big_quiet_skip
        | go_big_quiet_want
          first
            | refine quiet_v ?_ ?_ ?_
              rotate_left
              · intro u hu
                obtain ⟨z0, z1, z2, z3, z4, z5, z6⟩ := V.later hu
                obtain ⟨y0, y1, y2, y3, y4, y5, y6⟩ := V'.later hu
                go_simp
                with_reducible rfl
          go_simp
          go_big_quiet_on
    refine wpQuiet_nil (fun u hu => ?_)
    have hb4 := hb3.trans (hu.mono hb3.size)
    have Ah24 := Ah2.later hu
    have V4 := V.later hu
    have V4' := V'.later hu
    have L4 := LL.later hu
    have L4' := LL'.later hu
    clear Ah2 V V' LL LL' hu hb3
    obtain ⟨Ah2, V, V', LL, LL'⟩ : NBox u w.heap.size (.bool lB) (.slice a1 n1 c1) (.slice a2 n2 c2) (.slice a3 n3 c3) (.slice a4 n4 c4) ∧ _ ∧ _ ∧ _ ∧ _ := ⟨Ah24, V4, V4', L4, L4'⟩
    clear Ah24 V4 V4' L4 L4'
    generalize u = w4 at *
    have hAB : (m1 : Int) + (m3 : Int) + ((m1' : Int) + (m3' : Int)) = (n1 : Int) + (n3 : Int) := by omega
    have hlt : ¬ (m1 : Int) + (m3 : Int) < (m1' : Int) + (m3' : Int) := by omega
    have hgt : ¬ (m1' : Int) + (m3' : Int) + 1 < (m1 : Int) + (m3 : Int) := by omega
    have hA0 : 0 ≤ (m1 : Int) + (m3 : Int) ∧ (m1 : Int) + (m3 : Int) ≤ 2000 := by omega
    have hB0 : 0 ≤ (m1' : Int) + (m3' : Int) ∧ (m1' : Int) + (m3' : Int) ≤ 2000 := by omega
    generalize (m1 : Int) + (m3 : Int) = SA at *
    generalize (m1' : Int) + (m3' : Int) = SB at *
    have eS : IntKind.i64.wrap (SA + SB) = (n1 : Int) + (n3 : Int) := by rw [IntKind.wrap_i64]; omega
    have eS1 : IntKind.i64.wrap (SB + 1) = SB + 1 := by rw [IntKind.wrap_i64]; omega
    obtain ⟨z0, z1, z2, z3, z4⟩ := Ah2.cells
    cases lB
    case false =>
      clear hlb
      go_wp2_with fail
      refine (awake9 _).mono ?_
      rintro x w5 ⟨rfl, hb5⟩
      clear z0 z1 z2 z3 z4
      go_wp2_with fail
      go_ret
      exact ⟨rfl, hb4.trans (hb5.mono hb4.size)⟩
    case true =>
      obtain ⟨hj1, hj2⟩ := HJl.out rfl
      rw [hj1, hj2] at HJ
      obtain ⟨hn1, hn2, hn3, hn4⟩ := HNN.out
      dsimp only at HJ
      rw [hn1, hn2, hn3, hn4] at HJ
      clear HJl hj1 hj2 hlb hn1 hn2 hn3 hn4 HNN
      go_upto_region 14 with fail
      clear z0 z1 z2 z3 z4
      have hs4 := hb4.size
      refine wp_region_mark [(some 77, [], false), (some 78, [(0, 77)], false), (some 79, [(1, 78)], false), (some 80, [], false), (some 81, [(3, 80)], false), (some 82, [(4, 81)], false), (some 83, [], false), (some 84, [(2, 79), (5, 82), (6, 83)], false), (some 76, [(7, 84)], false), (some 85, [(8, 76)], false), (some 86, [(8, 76)], false), (some 7, [], true), (none, [(11, 7), (9, 85)], true), (some 8, [(10, 86)], true)] 11
        (fun u => Below w4.heap.size w4 u)
        (fun i u u' => if i = 12 then Below w4.heap.size u u' ∧ (∀ k, QEx u k → QEx u' k) ∧ (∀ n q, OwnN u w4.heap.size n q → OwnN u' w4.heap.size n q) else Below u.heap.size u u')
        (fun i v e u => match i with | 0 => v = .slice (some ⟨g, 0, none⟩) 2 c | 1 => v = .pointer (some ⟨g, 0, none⟩) | 2 => v = .agg #[.string plo, .string ps_, .bool pB, .slice q.a1 m1 q.c1, .slice q.a2 m2 q.c2, .slice q.a3 m3 q.c3, .slice q.a4 m4 q.c4] | 3 => v = .slice (some ⟨g, 0, none⟩) 2 c | 4 => v = .pointer (some ⟨g, 7, none⟩) | 5 => v = .agg #[.string qlo, .string qs_, .bool qB, .slice q'.a1 m1' q'.c1, .slice q'.a2 m2' q'.c2, .slice q'.a3 m3' q'.c3, .slice q'.a4 m4' q'.c4] | 6 => v = av ⟨#[]⟩ ⟨#[]⟩ false | 7 => ∃ qq : Pl, v = .tuple #[.agg #[.string ⟨#[]⟩, .string ⟨#[]⟩, .bool true, .slice qq.a1 n1 qq.c1, .slice qq.a2 n2 qq.c2, .slice qq.a3 n3 qq.c3, .slice qq.a4 n4 qq.c4], .int .i64 0] ∧ OwnN u w4.heap.size ⟨true, ps, pv, ks, bf⟩ qq | 8 => ∃ qq : Pl, v = .tuple #[.agg #[.string ⟨#[]⟩, .string ⟨#[]⟩, .bool true, .slice qq.a1 n1 qq.c1, .slice qq.a2 n2 qq.c2, .slice qq.a3 n3 qq.c3, .slice qq.a4 n4 qq.c4], .int .i64 0] ∧ OwnN u w4.heap.size ⟨true, ps, pv, ks, bf⟩ qq | 9 => ∃ qq : Pl, v = .agg #[.string ⟨#[]⟩, .string ⟨#[]⟩, .bool true, .slice qq.a1 n1 qq.c1, .slice qq.a2 n2 qq.c2, .slice qq.a3 n3 qq.c3, .slice qq.a4 n4 qq.c4] ∧ OwnN u w4.heap.size ⟨true, ps, pv, ks, bf⟩ qq | 10 => v = .int .i64 0 | 11 => ∃ k, v = .pointer (some ⟨k, 0, none⟩) ∧ w4.heap.size ≤ k ∧ QEx u k | 12 => ∃ k, ∃ qq : Pl, e = .pointer (some ⟨k, 0, none⟩) ∧ QBox u k (.string ⟨#[]⟩) (.string ⟨#[]⟩) (.bool true) (.slice qq.a1 n1 qq.c1) (.slice qq.a2 n2 qq.c2) (.slice qq.a3 n3 qq.c3) (.slice qq.a4 n4 qq.c4) ∧ OwnN u w4.heap.size ⟨true, ps, pv, ks, bf⟩ qq | 13 => v = .int .i64 0 | _ => True)
        (by kernel_rfl) (by kernel_rfl) (Below.refl _ _).drew (fun i u u' h h' => ?_) (fun e i j v u u' hn h h' hv => ?_) (fun j hj hc v e e' u hv => ?_)
        ⟨?_, ?_, ?_, ?_, ?_, ?_, ?_, ?_, ?_, ?_, ?_, ?_, ?_, ?_, trivial⟩ ?_
      · by_cases h12 : i = 12
        · rw [if_pos h12] at h'; exact h.trans h'.1
        · rw [if_neg h12] at h'; exact h.trans (h'.mono h.size)
      · by_cases h12 : i = 12
        · rw [if_pos h12] at h'
          match j with
          | 0 => exact hv
          | 1 => exact hv
          | 2 => exact hv
          | 3 => exact hv
          | 4 => exact hv
          | 5 => exact hv
          | 6 => exact hv
          | 7 => obtain ⟨qq, e1, e2⟩ := hv; exact ⟨qq, e1, h'.2.2 _ _ e2⟩
          | 8 => obtain ⟨qq, e1, e2⟩ := hv; exact ⟨qq, e1, h'.2.2 _ _ e2⟩
          | 9 => obtain ⟨qq, e1, e2⟩ := hv; exact ⟨qq, e1, h'.2.2 _ _ e2⟩
          | 10 => exact hv
          | 11 => obtain ⟨k, e1, e2, e3⟩ := hv; exact ⟨k, e1, e2, h'.2.1 k e3⟩
          | 12 => subst h12; exact absurd hn (by decide)
          | 13 => exact hv
          | _ + 14 => trivial
        · rw [if_neg h12] at h'
          match j with
          | 0 => exact hv
          | 1 => exact hv
          | 2 => exact hv
          | 3 => exact hv
          | 4 => exact hv
          | 5 => exact hv
          | 6 => exact hv
          | 7 => obtain ⟨qq, e1, e2⟩ := hv; exact ⟨qq, e1, e2.later h'⟩
          | 8 => obtain ⟨qq, e1, e2⟩ := hv; exact ⟨qq, e1, e2.later h'⟩
          | 9 => obtain ⟨qq, e1, e2⟩ := hv; exact ⟨qq, e1, e2.later h'⟩
          | 10 => exact hv
          | 11 => obtain ⟨k, e1, e2, y0, y1, y2, y3, y4, y5, y6, e3⟩ := hv; exact ⟨k, e1, e2, _, _, _, _, _, _, _, e3.later h'⟩
          | 12 => obtain ⟨k, qq, e1, e2, e3⟩ := hv; exact ⟨k, qq, e1, e2.later h', e3.later h'⟩
          | 13 => exact hv
          | _ + 14 => trivial
      · match j with
        | 0 => exact hv
        | 1 => exact hv
        | 2 => exact hv
        | 3 => exact hv
        | 4 => exact hv
        | 5 => exact hv
        | 6 => exact hv
        | 7 => exact hv
        | 8 => exact hv
        | 9 => exact hv
        | 10 => exact hv
        | 11 => exact hv
        | 12 => exact absurd hc (by decide)
        | 13 => exact hv
        | _ + 14 => trivial
      · rintro e u hu
        exact opYields_val _ (by kernel_rfl) (by go_simp) ⟨Below.refl _ _, rfl⟩
      · rintro e u hu _ ⟨_, rfl⟩
        exact opYields_val (.pointer (some ⟨g, 0, none⟩)) (by kernel_rfl) (by go_simp) ⟨Below.refl _ _, rfl⟩
      · rintro e u hu _ ⟨_, rfl⟩
        obtain ⟨z0, z1, z2, z3, z4, z5, z6⟩ := V.later hu
        exact opYields_val (.agg #[.string plo, .string ps_, .bool pB, .slice q.a1 m1 q.c1, .slice q.a2 m2 q.c2, .slice q.a3 m3 q.c3, .slice q.a4 m4 q.c4]) (by kernel_rfl) (by go_simp) ⟨Below.refl _ _, rfl⟩
      · rintro e u hu
        exact opYields_val _ (by kernel_rfl) (by go_simp) ⟨Below.refl _ _, rfl⟩
      · rintro e u hu _ ⟨_, rfl⟩
        exact opYields_val (.pointer (some ⟨g, 7, none⟩)) (by kernel_rfl) (by go_simp) ⟨Below.refl _ _, rfl⟩
      · rintro e u hu _ ⟨_, rfl⟩
        obtain ⟨z0, z1, z2, z3, z4, z5, z6⟩ := V'.later hu
        exact opYields_val (.agg #[.string qlo, .string qs_, .bool qB, .slice q'.a1 m1' q'.c1, .slice q'.a2 m2' q'.c2, .slice q'.a3 m3' q'.c3, .slice q'.a4 m4' q'.c4]) (by kernel_rfl) (by go_simp) ⟨Below.refl _ _, rfl⟩
      · rintro e u hu
        exact opYields_val (av ⟨#[]⟩ ⟨#[]⟩ false) (by kernel_rfl) (by go_simp) ⟨Below.refl _ _, rfl⟩
      · rintro e u hu _ ⟨_, rfl⟩ _ ⟨_, rfl⟩ _ ⟨_, rfl⟩
        refine opYields_call 22 #[.agg #[.string plo, .string ps_, .bool pB, .slice q.a1 m1 q.c1, .slice q.a2 m2 q.c2, .slice q.a3 m3 q.c3, .slice q.a4 m4 q.c4], .agg #[.string qlo, .string qs_, .bool qB, .slice q'.a1 m1' q'.c1, .slice q'.a2 m2' q'.c2, .slice q'.a3 m3' q'.c3, .slice q'.a4 m4' q'.c4], av ⟨#[]⟩ ⟨#[]⟩ false] (by kernel_rfl) (by go_simp) ((HJ.out u q q' (LL.later hu) (LL'.later hu)).mono ?_)
        rintro x u' ⟨⟨qq, h1, h2⟩, h3⟩
        exact ⟨_, h1, h3, qq, rfl, h2.mono hu.size⟩
      · rintro e u hu _ ⟨_, qq, rfl, hO⟩
        exact opYields_val _ (by kernel_rfl) (by go_simp) ⟨Below.refl _ _, qq, rfl, hO⟩
      · rintro e u hu _ ⟨_, qq, rfl, hO⟩
        exact opYields_val (.agg #[.string ⟨#[]⟩, .string ⟨#[]⟩, .bool true, .slice qq.a1 n1 qq.c1, .slice qq.a2 n2 qq.c2, .slice qq.a3 n3 qq.c3, .slice qq.a4 n4 qq.c4]) (by kernel_rfl) (by go_simp) ⟨Below.refl _ _, qq, rfl, hO⟩
      · rintro e u hu _ ⟨_, qq, rfl, hO⟩
        exact opYields_val (.int .i64 0) (by kernel_rfl) (by go_simp) ⟨Below.refl _ _, rfl⟩
      · rintro e u hu
        exact opYields_val (.pointer (some ⟨u.heap.size, 0, none⟩)) (by kernel_rfl) (by go_simp) ⟨below_box u (.cells #[.string ⟨#[]⟩, .string ⟨#[]⟩, .bool false, .slice none 0 0, .slice none 0 0, .slice none 0 0, .slice none 0 0] 36), u.heap.size, rfl, hu.size, _, _, _, _, _, _, _, QBox.new u _ _ _ _ _ _ _⟩
      · rintro e u hu v11 ⟨he, hv11⟩ v9 ⟨_, hv9⟩
        obtain rfl := he rfl
        obtain ⟨k, rfl, hk, hq⟩ := hv11
        obtain ⟨qq, rfl, hO⟩ := hv9
        have hq' := hq
        obtain ⟨y0, y1, y2, y3, y4, y5, y6, hN⟩ := hq'
        obtain ⟨x0, x1, x2, x3, x4, x5, x6⟩ := hN.cells
        have f := hN.free
        have f0 := f 0
        have f1' := f 1
        have f2' := f 2
        have f3' := f 3
        have f4' := f 4
        have f5 := f 5
        have f6 := f 6
        clear f
        have p1 : Below w4.heap.size u (((((((u.setCell ⟨k, 0, none⟩ (.string ⟨#[]⟩)).setCell ⟨k, 1, none⟩ (.string ⟨#[]⟩)).setCell ⟨k, 2, none⟩ (.bool true)).setCell ⟨k, 3, none⟩ (.slice qq.a1 n1 qq.c1)).setCell ⟨k, 4, none⟩ (.slice qq.a2 n2 qq.c2)).setCell ⟨k, 5, none⟩ (.slice qq.a3 n3 qq.c3)).setCell ⟨k, 6, none⟩ (.slice qq.a4 n4 qq.c4)) := seven_set (Below.refl _ _) hk (.string ⟨#[]⟩) (.string ⟨#[]⟩) (.bool true) (.slice qq.a1 n1 qq.c1) (.slice qq.a2 n2 qq.c2) (.slice qq.a3 n3 qq.c3) (.slice qq.a4 n4 qq.c4)
        have p2 : ∀ k', QEx u k' → QEx (((((((u.setCell ⟨k, 0, none⟩ (.string ⟨#[]⟩)).setCell ⟨k, 1, none⟩ (.string ⟨#[]⟩)).setCell ⟨k, 2, none⟩ (.bool true)).setCell ⟨k, 3, none⟩ (.slice qq.a1 n1 qq.c1)).setCell ⟨k, 4, none⟩ (.slice qq.a2 n2 qq.c2)).setCell ⟨k, 5, none⟩ (.slice qq.a3 n3 qq.c3)).setCell ⟨k, 6, none⟩ (.slice qq.a4 n4 qq.c4)) k' := fun k' hk' => hk'.seven hq (.string ⟨#[]⟩) (.string ⟨#[]⟩) (.bool true) (.slice qq.a1 n1 qq.c1) (.slice qq.a2 n2 qq.c2) (.slice qq.a3 n3 qq.c3) (.slice qq.a4 n4 qq.c4)
        have p3 : ∀ n q, OwnN u w4.heap.size n q → OwnN (((((((u.setCell ⟨k, 0, none⟩ (.string ⟨#[]⟩)).setCell ⟨k, 1, none⟩ (.string ⟨#[]⟩)).setCell ⟨k, 2, none⟩ (.bool true)).setCell ⟨k, 3, none⟩ (.slice qq.a1 n1 qq.c1)).setCell ⟨k, 4, none⟩ (.slice qq.a2 n2 qq.c2)).setCell ⟨k, 5, none⟩ (.slice qq.a3 n3 qq.c3)).setCell ⟨k, 6, none⟩ (.slice qq.a4 n4 qq.c4)) w4.heap.size n q := fun _ _ h => h.piece hq (.string ⟨#[]⟩) (.string ⟨#[]⟩) (.bool true) (.slice qq.a1 n1 qq.c1) (.slice qq.a2 n2 qq.c2) (.slice qq.a3 n3 qq.c3) (.slice qq.a4 n4 qq.c4)
        have p4 : QBox (((((((u.setCell ⟨k, 0, none⟩ (.string ⟨#[]⟩)).setCell ⟨k, 1, none⟩ (.string ⟨#[]⟩)).setCell ⟨k, 2, none⟩ (.bool true)).setCell ⟨k, 3, none⟩ (.slice qq.a1 n1 qq.c1)).setCell ⟨k, 4, none⟩ (.slice qq.a2 n2 qq.c2)).setCell ⟨k, 5, none⟩ (.slice qq.a3 n3 qq.c3)).setCell ⟨k, 6, none⟩ (.slice qq.a4 n4 qq.c4)) k (.string ⟨#[]⟩) (.string ⟨#[]⟩) (.bool true) (.slice qq.a1 n1 qq.c1) (.slice qq.a2 n2 qq.c2) (.slice qq.a3 n3 qq.c3) (.slice qq.a4 n4 qq.c4) := hN.put (.string ⟨#[]⟩) (.string ⟨#[]⟩) (.bool true) (.slice qq.a1 n1 qq.c1) (.slice qq.a2 n2 qq.c2) (.slice qq.a3 n3 qq.c3) (.slice qq.a4 n4 qq.c4)
        have p5 := p3 _ _ hO
        generalize hW : (((((((u.setCell ⟨k, 0, none⟩ (.string ⟨#[]⟩)).setCell ⟨k, 1, none⟩ (.string ⟨#[]⟩)).setCell ⟨k, 2, none⟩ (.bool true)).setCell ⟨k, 3, none⟩ (.slice qq.a1 n1 qq.c1)).setCell ⟨k, 4, none⟩ (.slice qq.a2 n2 qq.c2)).setCell ⟨k, 5, none⟩ (.slice qq.a3 n3 qq.c3)).setCell ⟨k, 6, none⟩ (.slice qq.a4 n4 qq.c4)) = W at p1 p2 p3 p4 p5
        exact opYields_put (u' := W) (by kernel_rfl) (by rw [← hW]; go_simp) ⟨⟨p1, p2, p3⟩, k, qq, rfl, p4, p5⟩
      · rintro e u hu _ ⟨_, rfl⟩
        exact opYields_val (.int .i64 0) (by kernel_rfl) (by go_simp) ⟨Below.refl _ _, rfl⟩
      · rintro e u hu x0 x1 x2 x3 x4 x5 x6 x7 x8 x9 x10 x11 ⟨he, h11⟩ x12 ⟨_, h12⟩ x13 ⟨_, h13⟩
        obtain rfl := he rfl
        replace h13 : x13 = .int .i64 0 := h13
        subst h13
        obtain ⟨k, qq, rfl, hN, hO⟩ := h12
        simp only [givingAll, Act.put, List.setIfInBounds_toArray, List.set_cons_zero, List.set_cons_succ]
        have hb9 := hb4.trans (hu.mono hs4)
        have hs9 := hb9.size
        have A9 := Ah2.later hu
        have HS := HSm.out u qq hO.lies hb9
        obtain ⟨z0, z1, z2, z3, z4⟩ := A9.cells
        obtain ⟨y0, y1, y2, y3, y4, y5, y6⟩ := hN.cells
        have HSw : ∀ (T : Ending → Prop), Hid (T = fun x => Tells x ((⟨true, ps, pv, ks, bf⟩ : Nd) = ⟨true, ps, pv, ks, bf⟩)) → Hid (Calls Try.prog 23 #[.agg #[.bool true, .slice qq.a1 n1 qq.c1, .slice qq.a2 n2 qq.c2, .slice qq.a3 n3 qq.c3, .slice qq.a4 n4 qq.c4], .agg #[.bool true, .slice a1 n1 c1, .slice a2 n2 c2, .slice a3 n3 c3, .slice a4 n4 c4]] u fun x w' => x = .returned (.bool true) ∧ Below u.heap.size u w') := by
          intro T hT
          refine hid (HS.mono ?_)
          rintro x w' ⟨⟨b, hx, hb⟩, hbw⟩
          have : b = true := hb.2 (by first | rfl | trivial)
          exact ⟨by rw [hx, this], hbw⟩
        have HS2 := HSw _ (hid rfl)
        clear HSw HS HSm HJ hO
        go_wp2_with fail
        refine HS2.out.mono ?_
        rintro x w5 ⟨rfl, hb5⟩
        have Q5 := hN.later hb5
        replace hb5 := hb9.trans (hb5.mono hs9)
        clear z0 z1 z2 z3 z4 y0 y1 y2 y3 y4 y5 y6 hN
        obtain ⟨y0, y1, y2, y3, y4, y5, y6⟩ := Q5.cells
        go_wp2_with fail
        refine (awake9 _).mono ?_
        rintro x w6 ⟨rfl, hb6⟩
        clear y0 y1 y2 y3 y4 y5 y6
        go_wp2_with fail
        go_ret
        exact ⟨rfl, hb5.trans (hb6.mono hb5.size)⟩
  exact key lB (hid rfl)
end Go.Proofs.Ytlkcoaencliajaa.Key

namespace Go.Proofs.Ytlkcoaencliajaa.splitHalves
open Go.ChangeShapes Go.WideShapes Go.ChangeAt Go.RowKit Go.Joins
open Go.Op (bytesLess)
set_option linter.unusedVariables false

theorem own : ownKnob Try.prog.godebug = none := by kernel_rfl
theorem laidOut : laidOutB Try.prog = true := by kernel_rfl

set_option maxRecDepth 100000 in
set_option maxHeartbeats 4000000 in
theorem walk (n0 : Key.Nd) (p0 : Key.Pl) (w : World) (wl0 : Key.Lies w n0 p0) (wn0 : Key.Nd.In n0) (wp0 : Key.Pl.Ok p0) :
    Calls Try.prog 5 #[Key.nv n0 p0] w fun e w' => e = .returned (.bool true) ∧ Below w.heap.size w w' := by
  exact Key.splitHalves5 n0 p0 w wn0 wl0

set_option maxRecDepth 100000 in
theorem lifted (os : Os) (started : os.Started) (H : Type) (enc : TypeId × Value → H) :
    ReturnsInHanded {} Try.checked os 5 .any (Rows.splitHalvesSpec.pre6 enc Try.prog Try.f5 Rows.splitHalvesRow.domain false) (Rows.splitHalvesSpec.post enc Try.prog Try.f5 false true false false) := by
  refine returnsInHanded_of_change (C := Try.checked) own started (by kernel_rfl) Try.func5
    (ChangeSpec.witness6 (enc := enc) (C := Try.checked) false ⟨#[], #[.agg #[.bool false, .slice none 0 0, .slice none 0 0, .slice none 0 0, .slice none 0 0]], []⟩ 8 (by kernel_rfl) (by kernel_rfl) (by kernel_rfl) (by kernel_rfl)) ?_
  intro W base args ds gs before hval0 hW hcnd _
  have hval : ∀ (j : Nat) t v, Try.f5.params[j]? = some t → args[j]? = some v → Value.okWide Try.prog W .any base t v := hval0
  have hW' := hW
  obtain ⟨p, q, hA0, hV, rfl, hfz, hnd⟩ := hW
  have hA : DataW.TrodAll enc Try.prog W 0 (fun _ => true) true Try.f5.params.toList args.toList ds p := hA0
  rw [Try.params5] at hA hval
  obtain ⟨v0, vs0, d0, ds0, pp0, qq0, hargs, rfl, rfl, g0, r0⟩ := trodAll_cons hA
  obtain ⟨rfl, rfl, rfl⟩ := trodAll_nil r0
  obtain rfl : args = #[v0] := by cases args; simp_all
  obtain ⟨rfl, rfl⟩ := trodVars_none hV
  have k0 := g0
  have lt0 : ∀ x ∈ pp0, x.block < W.heap.size := by obtain ⟨m, hm⟩ := k0; exact DataW.trod_lt m _ _ _ hm
  obtain ⟨n0, p0, rfl, wl0, wn0, wp0⟩ := Key.opened_node (hval 0 27 v0 rfl rfl) g0
  clear hA0 hval0
  refine (walk n0 p0 W wl0 wn0 wp0).mono fun e W' ⟨he, bel⟩ => ?_
  subst he
  exact ⟨_, rfl, _, _, _, [], _, [], hW', trodAll_mk1 (shut_bool Try.underlying4 _), (trodAll_cons_mk (Below.trod laidOut (by kernel_rfl) (of_decide_eq_true (by kernel_rfl)) k0 bel lt0) trodAll_mk0), rfl, bel.frame _, fun h => by cases h⟩

theorem over : Rows.splitHalvesRow.holds Try.pinned (OpenSpec.ofChange Rows.splitHalvesSpec) :=
  OpenClaim.holds_of_wide 5 Try.f5 rfl rfl rfl rfl rfl rfl rfl ⟨rfl, rfl, rfl, rfl, rfl⟩ rfl rfl rfl rfl rfl (by kernel_rfl) Try.func5 (by kernel_rfl)
    (of_decide_eq_true (by kernel_rfl)) (by unfold Func.isWrapper; first | (rw [if_pos (by decide +kernel)]; kernel_rfl) | (rw [if_neg (by decide +kernel)]; exact ⟨rfl, rfl⟩))
    (fun os started H enc _ => lifted os started H enc)

/-- the statement -/
theorem proved : Rows.SplitHalvesSaid := over
#print axioms proved
end Go.Proofs.Ytlkcoaencliajaa.splitHalves
