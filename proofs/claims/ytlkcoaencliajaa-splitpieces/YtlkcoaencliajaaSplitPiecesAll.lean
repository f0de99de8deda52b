/-
  Proved: the call of the statement SplitPieces returns true for every node, range and two integers (a node's middle, it as one piece, as two, and as many as it must be, or the errors, are the document's), and they read afterwards as they read before. No condition.
  The frame of the row's step was written by the guide's proof-skeleton.mjs, turned; the walk is this text's own.
  Plain facts of pieces: a node's middle, it as one piece and as two; two leaves' pieces as one. No program is named here.
  Pieces: as values, in blocks, in slices, in rows of the call's own.
  Contracts of Between, the program's and the document's, and of Under, the document's.
  Contracts of Whole, the program's and the document's.
  Contract of each.
  Contracts of half, midOfPairs, midOfKids and Mid, the program's.
  Contracts of Halves and Pieces, the program's.
  Contract of Mid, the document's.
  Contracts of Halves and Pieces, the document's.
  Contract of Pieces, the document's.
  Contract of the document's Same (of pieces), for pieces that are the same.
  Contract of awake: the document's example.
  The sizes of what is trimmed.
  The walk of the statement SplitPieces.
-/
import Derived.Test.YtlkcoaencliajaaTp
import Derived.Test.YtlkcoaencliajaaTApp
import Derived.Test.YtlkcoaencliajaaUText
import Derived.Test.YtlkcoaencliajaaUUnder
import Derived.Test.YtlkcoaencliajaaQt
import Derived.Test.YtlkcoaencliajaaTTrimA
import Derived.Test.YtlkcoaencliajaaTTrimB
import Derived.Test.YtlkcoaencliajaaTShift
import Derived.Test.YtlkcoaencliajaaQu3
import Derived.Test.YtlkcoaencliajaaMayN
import Derived.Test.YtlkcoaencliajaaRefMay2
import Derived.Test.YtlkcoaencliajaaKidRef
import Derived.Test.YtlkcoaencliajaaSameRef
import Derived.Test.YtlkcoaencliajaaLead
import Derived.Test.YtlkcoaencliajaaSmall
import Derived.Test.YtlkcoaencliajaaOp
import Derived.WalkKit
import Derived.ProofKit
import Derived.OpenShut
import Derived.ShutString
import Derived.ChangeOld
import Derived.Below
import Derived.Carry
import Derived.Lib.SmallJoins
namespace Go.Proofs.Ytlkcoaencliajaa.Key
open Go.RowKit
open Go.Op (bytesLess)
set_option linter.unusedVariables false
set_option linter.unusedSimpArgs false

/-- a range without an end is the same whatever stands behind it -/
theorem free_in (lo hi hi' k : List UInt8) : inR ⟨lo, hi, false⟩ k = inR ⟨lo, hi', false⟩ k := by simp [inR]
theorem free_empty (lo hi hi' : List UInt8) : emptyR ⟨lo, hi, false⟩ = emptyR ⟨lo, hi', false⟩ := by unfold emptyR; rw [free_in lo hi hi']
theorem free_cut (x : Rng) (lo hi hi' : List UInt8) : cutR x ⟨lo, hi, false⟩ = cutR x ⟨lo, hi', false⟩ := by
  unfold cutR
  rw [show rawCut x ⟨lo, hi, false⟩ = rawCut x ⟨lo, hi', false⟩ by unfold rawCut; simp]
theorem free_under (lo hi hi' : List UInt8) : under ⟨lo, hi, false⟩ = under ⟨lo, hi', false⟩ := by
  unfold under underN
  rw [free_empty lo hi hi']
  rfl
theorem free_tch (pv : List ByteArray) (lo hi hi' : List UInt8) : tch pv ⟨lo, hi, false⟩ = tch pv ⟨lo, hi', false⟩ := by
  funext i
  unfold tch
  rw [free_cut _ lo hi hi']
theorem free_touch (m : M) (lo hi hi' : List UInt8) : touch m ⟨lo, hi, false⟩ = touch m ⟨lo, hi', false⟩ := by
  unfold touch
  rw [free_cut _ lo hi hi']
theorem free_some (l : List M) (lo hi hi' : List UInt8) : some' l ⟨lo, hi, false⟩ = some' l ⟨lo, hi', false⟩ := by
  unfold some'
  exact List.filter_congr fun m _ => free_touch m lo hi hi'
theorem free_inP (lo hi hi' : List UInt8) : inP ⟨lo, hi, false⟩ = inP ⟨lo, hi', false⟩ := by
  funext p
  exact free_in lo hi hi' _
theorem free_trimE (n : Nd) (lo hi hi' : List UInt8) (a : ByteArray) : trimE n ⟨lo, hi, false⟩ a = trimE n ⟨lo, hi', false⟩ a := by
  unfold trimE fitsT okT trimB
  rw [free_empty lo hi hi', free_under lo hi hi', free_tch n.pv lo hi hi', free_some n.bf lo hi hi']
theorem free_trimA (n : Nd) (lo hi hi' : List UInt8) (a : ByteArray) : trimA n ⟨lo, hi, false⟩ a = trimA n ⟨lo, hi', false⟩ a := by
  unfold trimA trimN trimF psT pvT ksT picks trimL
  rw [free_trimE n lo hi hi', free_tch n.pv lo hi hi', free_some n.bf lo hi hi', free_inP lo hi hi']

/-- all keys of a range begin so -/
def undS (r : Rng) : ByteArray := str (under r)
/-- a piece -/
structure Pc where
  lo : ByteArray
  strip : ByteArray
  node : Nd
def Pc.nil : Pc := ⟨⟨#[]⟩, ⟨#[]⟩, nilN⟩
def wholeE (n : Nd) (r : Rng) : Int := trimE n r (undS r)
def wholeP (n : Nd) (lo hi : ByteArray) (e : Bool) : Pc := if wholeE n (rg lo hi e) = 0 then ⟨lo, undS (rg lo hi e), trimA n (rg lo hi e) (undS (rg lo hi e))⟩ else Pc.nil
def halfN (n : Nat) : Nat := (n + 1) / 2
def midB (n : Nd) : Bool := if mayI n = 0 then if n.leaf then decide (2 ≤ n.ps.length) else decide (2 ≤ n.ks.length) else false
def keyAt (ps : List Pr) (i : Nat) : ByteArray := (ps.getD i Pr.nil).key
def midL (ps : List Pr) : ByteArray := str (between (keyAt ps (halfN ps.length - 1)).data.toList (keyAt ps (halfN ps.length)).data.toList)
def midK (n : Nd) : ByteArray := ahead n.pv (halfN n.ks.length)
def midS (n : Nd) : ByteArray := if midB n then if n.leaf then midL n.ps else midK n else ⟨#[]⟩
def goodB (n : Nd) (lo hi : ByteArray) (e : Bool) : Bool := midB n && (inR (rg lo hi e) (midS n).data.toList && !((midS n).data.toList == lo.data.toList))
def halvesE (n : Nd) (lo hi : ByteArray) (e : Bool) : Int :=
  if mayI n = 0 then if goodB n lo hi e then if wholeE n (rg lo (midS n) true) = 0 then wholeE n (rg (midS n) hi e) else wholeE n (rg lo (midS n) true) else 1 else 3
def halvesL (n : Nd) (lo hi : ByteArray) (e : Bool) : List Pc := if halvesE n lo hi e = 0 then [wholeP n lo (midS n) true, wholeP n (midS n) hi e] else []
def muchB (n : Nd) (fan pairs : Int) : Bool := if n.leaf then decide (pairs < (n.ps.length : Int)) else decide (fan < (n.ks.length : Int))
def oneL (n : Nd) (lo hi : ByteArray) (e : Bool) : List Pc := if wholeE n (rg lo hi e) = 0 then [wholeP n lo hi e] else []
def piecesE (n : Nd) (lo hi : ByteArray) (e : Bool) (fan pairs : Int) : Int := if muchB n fan pairs then halvesE n lo hi e else wholeE n (rg lo hi e)
def piecesL (n : Nd) (lo hi : ByteArray) (e : Bool) (fan pairs : Int) : List Pc := if muchB n fan pairs then halvesL n lo hi e else oneL n lo hi e

theorem free_wholeE (n : Nd) (lo hi hi' : ByteArray) : wholeE n (rg lo hi false) = wholeE n (rg lo hi' false) := by
  unfold wholeE undS rg
  rw [free_under _ hi.data.toList hi'.data.toList, free_trimE n _ hi.data.toList hi'.data.toList]
theorem free_wholeP (n : Nd) (lo hi hi' : ByteArray) : wholeP n lo hi false = wholeP n lo hi' false := by
  unfold wholeP
  rw [free_wholeE n lo hi hi']
  unfold undS rg
  rw [free_under _ hi.data.toList hi'.data.toList, free_trimA n _ hi.data.toList hi'.data.toList]
theorem whole_zero {n : Nd} {lo hi : ByteArray} {e : Bool} (h : wholeE n (rg lo hi e) = 0) : wholeP n lo hi e = ⟨lo, undS (rg lo hi e), trimN n (rg lo hi e) (undS (rg lo hi e))⟩ := by
  unfold wholeP
  rw [if_pos h, (trim_zero h).2.2.1]
theorem und_size (lo hi : ByteArray) (e : Bool) : (undS (rg lo hi e)).size ≤ lo.size := by
  unfold undS
  rw [str_size]
  unfold under
  rw [List.length_take]
  show min _ lo.data.toList.length ≤ _
  rw [← Lib.size_eq]
  omega
/-- where a key leads in a piece -/
theorem piece_leads {n : Nd} {lo hi : ByteArray} {e : Bool} {k : List UInt8} (h : wholeE n (rg lo hi e) = 0) (hk : inR (rg lo hi e) k = true) :
    has k (undS (rg lo hi e)).data.toList = true ∧ stepW (wholeP n lo hi e).node (k.drop (undS (rg lo hi e)).size) = stepW n k := by
  have h1 : has k (undS (rg lo hi e)).data.toList = true := by
    unfold undS
    rw [str_data]
    exact under_in hk
  refine ⟨h1, ?_⟩
  rw [whole_zero h]
  dsimp only
  have hs := has_split h1
  rw [Lib.size_eq]
  rw [hs] at hk
  have := trim_leads h hk
  rw [this, ← hs]

/-- of a leaf: what stands ahead of the middle, and what from it on -/
theorem pw_at {α : Type} {R : α → α → Prop} {l : List α} (h : l.Pairwise R) {i j : Nat} (hij : i < j) (hj : j < l.length) : R (l[i]'(by omega)) l[j] := List.pairwise_iff_getElem.1 h i j (by omega) hj hij
theorem keyAt_at {ps : List Pr} {i : Nat} (h : i < ps.length) : keyAt ps i = ps[i].key := by unfold keyAt; rw [getD_at h]
theorem half_lt {n : Nat} (h : 2 ≤ n) : 0 < halfN n ∧ halfN n < n := by unfold halfN; omega
theorem mid_two {ps : List Pr} (hr : ps.Pairwise lessP) (h2 : 2 ≤ ps.length) :
    bytesLess (keyAt ps (halfN ps.length - 1)).data.toList (midL ps).data.toList = true ∧ bytesLess (keyAt ps (halfN ps.length)).data.toList (midL ps).data.toList = false ∧ (midL ps).size ≤ (keyAt ps (halfN ps.length)).size := by
  obtain ⟨h0, h1⟩ := half_lt h2
  have hlt : bytesLess (keyAt ps (halfN ps.length - 1)).data.toList (keyAt ps (halfN ps.length)).data.toList = true := by
    rw [keyAt_at h1, keyAt_at (by omega)]
    exact pw_at hr (by omega) h1
  unfold midL
  rw [str_data, str_size, Lib.size_eq]
  unfold between
  rw [if_pos hlt]
  refine ⟨(common_less hlt).2, has_le (has_take _ _), ?_⟩
  rw [List.length_take]
  omega
theorem ahead_lt {ps : List Pr} (hr : ps.Pairwise lessP) (h2 : 2 ≤ ps.length) : (∀ x ∈ ps.take (halfN ps.length), bytesLess x.key.data.toList (midL ps).data.toList = true) ∧ ∀ x ∈ ps.drop (halfN ps.length), bytesLess x.key.data.toList (midL ps).data.toList = false := by
  obtain ⟨h0, h1⟩ := half_lt h2
  obtain ⟨m1, m2, _⟩ := mid_two hr h2
  rw [keyAt_at (by omega)] at m1
  rw [keyAt_at h1] at m2
  constructor
  · intro x hx
    obtain ⟨i, hi, rfl⟩ := List.getElem_of_mem hx
    rw [List.length_take] at hi
    rw [List.getElem_take]
    by_cases e : i = halfN ps.length - 1
    · subst e; exact m1
    · exact less_trans (pw_at hr (show i < halfN ps.length - 1 by omega) (by omega)) m1
  · intro x hx
    obtain ⟨i, hi, rfl⟩ := List.getElem_of_mem hx
    rw [List.length_drop] at hi
    rw [List.getElem_drop]
    by_cases e : i = 0
    · subst e; exact m2
    · exact less_le_trans (less_asymm (pw_at hr (show halfN ps.length < halfN ps.length + i by omega) (by omega))) m2
theorem filter_take {ps : List Pr} {p : Pr → Bool} {h : Nat} (h1 : ∀ x ∈ ps.take h, p x = true) (h2 : ∀ x ∈ ps.drop h, p x = false) : ps.filter p = ps.take h := by
  conv => lhs; rw [← List.take_append_drop h ps]
  rw [List.filter_append, List.filter_eq_self.2 h1, List.filter_eq_nil_iff.2 (fun x hx => by rw [h2 x hx]; simp), List.append_nil]
theorem filter_drop {ps : List Pr} {p : Pr → Bool} {h : Nat} (h1 : ∀ x ∈ ps.take h, p x = false) (h2 : ∀ x ∈ ps.drop h, p x = true) : ps.filter p = ps.drop h := by
  conv => lhs; rw [← List.take_append_drop h ps]
  rw [List.filter_append, List.filter_eq_self.2 h2, List.filter_eq_nil_iff.2 (fun x hx => by rw [h1 x hx]; simp), List.nil_append]
/-- all keys -/
abbrev allA : ByteArray := ⟨#[]⟩
theorem in_ahead (m : ByteArray) (k : List UInt8) : inR (rg allA m true) k = bytesLess k m.data.toList := by
  show (!bytesLess k [] && (!true || bytesLess k m.data.toList)) = _
  rw [less_nil]
  rfl
theorem in_from (m hi : ByteArray) (k : List UInt8) : inR (rg m hi false) k = !bytesLess k m.data.toList := by
  show (!bytesLess k m.data.toList && (!false || _)) = _
  simp
/-- the halves of a leaf -/
theorem leaf_halves {n : Nd} (hl : n.leaf = true) (h : mayI n = 0) (hm : midB n = true) :
    n.ps.filter (inP (rg allA (midS n) true)) = n.ps.take (halfN n.ps.length) ∧ n.ps.filter (inP (rg (midS n) allA false)) = n.ps.drop (halfN n.ps.length) := by
  have hs : midS n = midL n.ps := by unfold midS; rw [hm, if_pos rfl, hl, if_pos rfl]
  have h2 : 2 ≤ n.ps.length := by
    unfold midB at hm
    rw [if_pos h, hl, if_pos rfl] at hm
    exact of_decide_eq_true hm
  have hr : n.ps.Pairwise lessP := by
    have hb := (may_iff.1 h).2
    unfold fineB at hb
    rw [hl, if_pos rfl] at hb
    exact (leaf_iff.1 hb).2.2.2.2
  obtain ⟨a1, a2⟩ := ahead_lt hr h2
  rw [hs]
  constructor
  · refine filter_take (fun x hx => ?_) (fun x hx => ?_)
    · show inR _ _ = true
      rw [in_ahead]; exact a1 x hx
    · show inR _ _ = false
      rw [in_ahead]; exact a2 x hx
  · refine filter_drop (fun x hx => ?_) (fun x hx => ?_)
    · show inR _ _ = false
      rw [in_from, a1 x hx]; rfl
    · show inR _ _ = true
      rw [in_from, a2 x hx]; rfl
/-- each kid has a key -/
theorem kid_key {pv : List ByteArray} (h : upTo (pivAt pv) pv.length = true) {i : Nat} (hi : i ≤ pv.length) : ∃ k, kidC pv k = i := by
  have he : emptyR (rg (loOf pv i) (hiOf pv i) (endOf pv i)) = false := by
    rw [emptyR_eq]
    show (endOf pv i && !bytesLess (loOf pv i).data.toList (hiOf pv i).data.toList) = false
    unfold endOf loOf hiOf
    rw [if_pos hi]
    by_cases hlt : i < pv.length
    · have := upTo_at h hlt
      unfold pivAt at this
      rw [Bool.and_eq_true] at this
      rw [if_pos hlt, this.1]
      simp
    · rw [decide_eq_false hlt]; rfl
  have := in_lo he
  rw [in_kid h i hi] at this
  exact ⟨_, (of_decide_eq_true this).symm⟩
/-- the halves of a node with kids -/
theorem fork_tch {pv : List ByteArray} (h : upTo (pivAt pv) pv.length = true) {m : Nat} (hm : m < pv.length) {i : Nat} (hi : i ≤ pv.length) :
    tch pv (rg allA (pv[m]) true) i = decide (i ≤ m) ∧ tch pv (rg (pv[m]) allA false) i = decide (m < i) := by
  obtain ⟨k, hk⟩ := kid_key h hi
  constructor
  · rw [Bool.eq_iff_iff, tch_iff h hi, decide_eq_true_iff]
    constructor
    · rintro ⟨k', h1, rfl⟩
      rw [in_ahead, le_kid h hm] at h1
      exact of_decide_eq_true h1
    · intro hle
      exact ⟨k, by rw [in_ahead, le_kid h hm, hk]; exact decide_eq_true hle, hk⟩
  · rw [Bool.eq_iff_iff, tch_iff h hi, decide_eq_true_iff]
    constructor
    · rintro ⟨k', h1, rfl⟩
      rw [in_from, le_kid h hm, Bool.not_eq_true', decide_eq_false_iff_not] at h1
      omega
    · intro hle
      exact ⟨k, by rw [in_from, le_kid h hm, hk, Bool.not_eq_true', decide_eq_false_iff_not]; omega, hk⟩
theorem count_low {m J : Nat} (h : m < J) : ((List.range J).filter fun i => decide (i ≤ m)).length = m + 1 := by
  obtain ⟨d, rfl⟩ : ∃ d, J = m + 1 + d := ⟨J - (m + 1), by omega⟩
  rw [List.range_add, List.filter_append, List.filter_eq_self.2 (fun i hi => by rw [List.mem_range] at hi; exact decide_eq_true (by omega)), List.filter_eq_nil_iff.2 (fun i hi => by
    obtain ⟨j, hj, rfl⟩ := List.mem_map.1 hi
    rw [decide_eq_true_iff]
    omega), List.append_nil, List.length_range]
theorem count_high {m J : Nat} (h : m < J) : ((List.range J).filter fun i => decide (m < i)).length = J - (m + 1) := by
  obtain ⟨d, rfl⟩ : ∃ d, J = m + 1 + d := ⟨J - (m + 1), by omega⟩
  have h1 : ((List.range (m + 1)).filter fun i => decide (m < i)) = [] := List.filter_eq_nil_iff.2 (fun i hi => by
    rw [List.mem_range] at hi
    rw [decide_eq_true_iff]
    omega)
  have h2 : (((List.range d).map fun x => m + 1 + x).filter fun i => decide (m < i)) = (List.range d).map fun x => m + 1 + x := List.filter_eq_self.2 (fun i hi => by
    obtain ⟨j, hj, rfl⟩ := List.mem_map.1 hi
    exact decide_eq_true (by omega))
  rw [List.range_add, List.filter_append, h1, h2, List.nil_append, List.length_map, List.length_range]
  omega
theorem fork_halves {n : Nd} (hl : n.leaf = false) (h : mayI n = 0) (hm : midB n = true) (a b : ByteArray) :
    (ksT n (rg allA (midS n) true) a n.ks.length).length = halfN n.ks.length ∧ (ksT n (rg (midS n) allA false) b n.ks.length).length = n.ks.length - halfN n.ks.length := by
  have h2 : 2 ≤ n.ks.length := by
    unfold midB at hm
    rw [if_pos h, hl, if_neg (by simp)] at hm
    exact of_decide_eq_true hm
  obtain ⟨h0, h1⟩ := half_lt h2
  obtain ⟨hlen, hup⟩ := may_fork h hl
  have hlt : halfN n.ks.length - 1 < n.pv.length := by omega
  have hs : midS n = n.pv[halfN n.ks.length - 1] := by
    unfold midS midK
    rw [hm, if_pos rfl, hl, if_neg (by simp)]
    have := ahead_at hlt
    rw [show halfN n.ks.length - 1 + 1 = halfN n.ks.length by omega] at this
    exact this
  unfold ksT
  rw [List.length_map, List.length_map, hs]
  unfold picks
  constructor
  · rw [List.filter_congr (q := fun i => decide (i ≤ halfN n.ks.length - 1)) fun i hi => (fork_tch hup hlt (by rw [List.mem_range] at hi; omega)).1, count_low (by omega)]
    omega
  · rw [List.filter_congr (q := fun i => decide (halfN n.ks.length - 1 < i)) fun i hi => (fork_tch hup hlt (by rw [List.mem_range] at hi; omega)).2, count_high (by omega)]
    omega
theorem halves_zero {n : Nd} {lo hi : ByteArray} {e : Bool} (h : halvesE n lo hi e = 0) : mayI n = 0 ∧ goodB n lo hi e = true ∧ wholeE n (rg lo (midS n) true) = 0 ∧ wholeE n (rg (midS n) hi e) = 0 := by
  unfold halvesE at h
  split at h
  · rename_i h1
    split at h
    · rename_i h2
      split at h
      · rename_i h3
        exact ⟨h1, h2, h3, h⟩
      · rename_i h3; exact absurd h h3
    · cases h
  · cases h
theorem good_parts {n : Nd} {lo hi : ByteArray} {e : Bool} (h : goodB n lo hi e = true) : midB n = true ∧ inR (rg lo hi e) (midS n).data.toList = true ∧ (midS n).data.toList ≠ lo.data.toList := by
  unfold goodB at h
  rw [Bool.and_eq_true, Bool.and_eq_true, Bool.not_eq_true', beq_eq_false_iff_ne] at h
  exact ⟨h.1, h.2.1, h.2.2⟩
/-- how many are in the halves -/
theorem halves_count {n : Nd} (h : halvesE n allA allA false = 0) :
    (wholeP n allA (midS n) true).node.ps.length + (wholeP n allA (midS n) true).node.ks.length = halfN (n.ps.length + n.ks.length) ∧
    (wholeP n (midS n) allA false).node.ps.length + (wholeP n (midS n) allA false).node.ks.length = n.ps.length + n.ks.length - halfN (n.ps.length + n.ks.length) := by
  obtain ⟨hm, hg, h1, h2⟩ := halves_zero h
  obtain ⟨hb, _, _⟩ := good_parts hg
  rw [whole_zero h1, whole_zero h2]
  dsimp only
  cases hl : n.leaf
  · have e : n.ps = [] := by
      have := (may_iff.1 hm).2
      unfold fineB at this
      rw [hl, if_neg (by simp)] at this
      exact (fork_iff.1 this).1
    obtain ⟨q1, q2⟩ := fork_halves hl hm hb (undS (rg allA (midS n) true)) (undS (rg (midS n) allA false))
    unfold trimN
    rw [hl, if_neg (by simp), if_neg (by simp)]
    unfold trimF
    dsimp only
    rw [q1, q2, e]
    simp
  · have e : n.ks = [] := by
      have := (may_iff.1 hm).2
      unfold fineB at this
      rw [hl, if_pos rfl] at this
      exact (leaf_iff.1 this).2.1
    obtain ⟨q1, q2⟩ := leaf_halves hl hm hb
    have h2' : 2 ≤ n.ps.length := by
      unfold midB at hb
      rw [if_pos hm, hl, if_pos rfl] at hb
      exact of_decide_eq_true hb
    obtain ⟨_, h3⟩ := half_lt h2'
    unfold trimN
    rw [hl, if_pos rfl, if_pos rfl]
    unfold psT
    dsimp only
    rw [List.length_map, List.length_map, q1, q2, e, List.length_take, List.length_drop]
    simp
    omega
theorem halves_less (n : Nat) : halfN n + (n - halfN n) = n ∧ n - halfN n ≤ halfN n ∧ halfN n ≤ n - halfN n + 1 := by unfold halfN; omega

/-- a beginning put ahead of a pair's key -/
def addP (s : ByteArray) (p : Pr) : Pr := ⟨s ++ p.key, p.val⟩
def joinL (a b : Pc) : List Pr := a.node.ps.map (addP a.strip) ++ b.node.ps.map (addP b.strip)
def leafMayB (n : Nd) : Bool := n.leaf && decide (mayI n = 0)
def riseB (l : List Pr) : Bool := upTo (riseAt l) l.length
def withinB (l : List Pr) (r : Rng) : Bool := l.all (inP r)
def joinE (a b : Pc) (r : Rng) : Int :=
  if leafMayB a.node && leafMayB b.node then if !emptyR r && (withinB (joinL a b) r && riseB (joinL a b)) then if 16 < (joinL a b).length then 13 else 0 else 1 else 3
def joinN (a b : Pc) (s : ByteArray) : Nd := ⟨true, (joinL a b).map (cutP s), [], [], []⟩
def joinP (a b : Pc) (lo hi : ByteArray) (e : Bool) : Pc := if joinE a b (rg lo hi e) = 0 then ⟨lo, undS (rg lo hi e), joinN a b (undS (rg lo hi e))⟩ else Pc.nil
theorem join_zero {a b : Pc} {r : Rng} (h : joinE a b r = 0) : leafMayB a.node = true ∧ leafMayB b.node = true ∧ emptyR r = false ∧ withinB (joinL a b) r = true ∧ riseB (joinL a b) = true ∧ (joinL a b).length ≤ 16 := by
  unfold joinE at h
  split at h
  · rename_i h1
    split at h
    · rename_i h2
      split at h
      · cases h
      · rename_i h3
        rw [Bool.and_eq_true] at h1
        rw [Bool.and_eq_true, Bool.and_eq_true, Bool.not_eq_true'] at h2
        exact ⟨h1.1, h1.2, h2.1, h2.2.1, h2.2.2, by omega⟩
    · cases h
  · cases h
/-- what was cut off is put ahead again -/
theorem add_cut {r : Rng} {p : Pr} (h : fitsT r (undS r) = true) (hp : inP r p = true) : addP (undS r) (cutP (undS r) p) = p := by
  have h1 := cutT_has (fits_all h (show inR r p.key.data.toList = true from hp))
  unfold addP cutP
  obtain ⟨k, v⟩ := p
  dsimp only at *
  congr 1
  apply ba_ext
  rw [app_data]
  exact h1.symm
theorem map_add_cut {r : Rng} {ps : List Pr} (h : fitsT r (undS r) = true) : (psT ps r (undS r)).map (addP (undS r)) = ps.filter (inP r) := by
  unfold psT
  rw [List.map_map]
  conv => rhs; rw [← List.map_id (ps.filter (inP r))]
  exact List.map_congr_left fun p hp => add_cut h (List.mem_filter.1 hp).2
theorem cut_nil (p : Pr) : cutP ⟨#[]⟩ p = p := by
  unfold cutP
  obtain ⟨k, v⟩ := p
  congr 1
  apply ba_ext
  rw [cutT_data]
  rfl
theorem all_under : undS (rg allA allA false) = ⟨#[]⟩ := by rfl
/-- halves of a leaf, joined, are the whole -/
theorem halves_join {n : Nd} (hl : n.leaf = true) (h : halvesE n allA allA false = 0) :
    joinE (wholeP n allA (midS n) true) (wholeP n (midS n) allA false) (rg allA allA false) = 0 ∧ joinP (wholeP n allA (midS n) true) (wholeP n (midS n) allA false) allA allA false = ⟨allA, allA, n⟩ := by
  obtain ⟨hm, hg, h1, h2⟩ := halves_zero h
  obtain ⟨hb, _, _⟩ := good_parts hg
  obtain ⟨q1, q2⟩ := leaf_halves hl hm hb
  obtain ⟨⟨l1, _, _⟩, hf⟩ := may_iff.1 hm
  unfold fineB at hf
  rw [hl, if_pos rfl] at hf
  obtain ⟨e2, e3, e4, _, hr⟩ := leaf_iff.1 hf
  have m1 := may_trim h1
  have m2 := may_trim h2
  have hL : joinL (wholeP n allA (midS n) true) (wholeP n (midS n) allA false) = n.ps := by
    rw [whole_zero h1, whole_zero h2]
    unfold joinL trimN
    rw [hl, if_pos rfl, if_pos rfl]
    dsimp only
    rw [map_add_cut (trim_zero h1).2.1, map_add_cut (trim_zero h2).2.1, q1, q2, List.take_append_drop]
  have hE : joinE (wholeP n allA (midS n) true) (wholeP n (midS n) allA false) (rg allA allA false) = 0 := by
    unfold joinE
    rw [hL]
    have b1 : leafMayB (wholeP n allA (midS n) true).node = true := by
      rw [whole_zero h1]
      unfold leafMayB
      dsimp only
      rw [decide_eq_true m1]
      unfold trimN
      rw [hl, if_pos rfl]
      rfl
    have b2 : leafMayB (wholeP n (midS n) allA false).node = true := by
      rw [whole_zero h2]
      unfold leafMayB
      dsimp only
      rw [decide_eq_true m2]
      unfold trimN
      rw [hl, if_pos rfl]
      rfl
    have b3 : withinB n.ps (rg allA allA false) = true := by
      unfold withinB
      rw [List.all_eq_true]
      intro x _
      show inR _ _ = true
      rw [in_from]
      show (!bytesLess _ []) = true
      rw [less_nil]
      rfl
    have b4 : riseB n.ps = true := rise_iff.2 hr
    rw [b1, b2, b3, b4, show emptyR (rg allA allA false) = false from rfl]
    simp
    omega
  refine ⟨hE, ?_⟩
  unfold joinP joinN
  rw [if_pos hE, all_under, hL]
  obtain ⟨lf, ps, pv, ks, bf⟩ := n
  dsimp only at *
  subst hl e2 e3 e4
  congr 2
  conv => rhs; rw [← List.map_id ps]
  exact List.map_congr_left fun p _ => cut_nil p
/-- a key leads in two pieces put together where it leads in the one in which it stands -/
theorem find_pw {ps : List Pr} (hr : ps.Pairwise lessP) {i : Nat} (hi : i < ps.length) : getV ps ps[i].key.data.toList = ps[i].val ∧ getB ps ps[i].key.data.toList = true := by
  have hn : (ps.take i).any (isK ps[i].key.data.toList) = false := by
    rw [List.any_eq_false]
    intro x hx
    obtain ⟨j, hj, rfl⟩ := List.getElem_of_mem hx
    rw [List.length_take] at hj
    rw [List.getElem_take]
    unfold isK
    rw [beq_iff_eq]
    intro e
    have := pw_at hr (show j < i by omega) hi
    unfold lessP at this
    rw [e, less_self] at this
    cases this
  have hf := found_at (List.getElem?_eq_getElem hi) hn (by unfold isK; rw [beq_self_eq_true])
  unfold getV getB getP
  rw [hf]
  exact ⟨rfl, rfl⟩
theorem join_leads {a b : Pc} {lo hi : ByteArray} {e : Bool} (h : joinE a b (rg lo hi e) = 0) {i : Nat} (hi' : i < a.node.ps.length) :
    has (a.strip ++ a.node.ps[i].key).data.toList (undS (rg lo hi e)).data.toList = true ∧
    (mayI (joinP a b lo hi e).node = 0 → (stepW (joinP a b lo hi e).node ((a.strip ++ a.node.ps[i].key).data.toList.drop (undS (rg lo hi e)).size)).val = a.node.ps[i].val) := by
  obtain ⟨_, _, _, hw, _, _⟩ := join_zero h
  have hLi : i < (joinL a b).length := by unfold joinL; rw [List.length_append, List.length_map]; omega
  have hat? : (joinL a b)[i]? = some (addP a.strip a.node.ps[i]) := by
    unfold joinL
    rw [List.getElem?_append_left (by rw [List.length_map]; exact hi'), List.getElem?_map, List.getElem?_eq_getElem hi']
    rfl
  have hat : (joinL a b)[i] = addP a.strip a.node.ps[i] := by
    rw [List.getElem?_eq_getElem hLi] at hat?
    exact Option.some.inj hat?
  have hin : inR (rg lo hi e) (a.strip ++ a.node.ps[i].key).data.toList = true := by
    unfold withinB at hw
    rw [List.all_eq_true] at hw
    have := hw _ (List.getElem_mem hLi)
    rw [hat] at this
    exact this
  have hh : has (a.strip ++ a.node.ps[i].key).data.toList (undS (rg lo hi e)).data.toList = true := by
    unfold undS
    rw [str_data]
    exact under_in hin
  refine ⟨hh, fun hm => ?_⟩
  have hj : (joinP a b lo hi e).node = joinN a b (undS (rg lo hi e)) := by unfold joinP; rw [if_pos h]
  rw [hj] at hm ⊢
  have hf := (may_iff.1 hm).2
  unfold fineB at hf
  rw [show (joinN a b (undS (rg lo hi e))).leaf = true from rfl, if_pos rfl] at hf
  have hr := (leaf_iff.1 hf).2.2.2.2
  have hk : i < (joinN a b (undS (rg lo hi e))).ps.length := by
    show i < ((joinL a b).map _).length
    rw [List.length_map]; exact hLi
  have hx : (joinN a b (undS (rg lo hi e))).ps[i] = cutP (undS (rg lo hi e)) (addP a.strip a.node.ps[i]) := by
    have : (joinN a b (undS (rg lo hi e))).ps[i]? = some (cutP (undS (rg lo hi e)) (addP a.strip a.node.ps[i])) := by
      show ((joinL a b).map _)[i]? = _
      rw [List.getElem?_map, hat?]
      rfl
    rw [List.getElem?_eq_getElem hk] at this
    exact Option.some.inj this
  obtain ⟨v1, v2⟩ := find_pw hr hk
  rw [hx] at v1 v2
  have hd : (cutP (undS (rg lo hi e)) (addP a.strip a.node.ps[i])).key.data.toList = (a.strip ++ a.node.ps[i].key).data.toList.drop (undS (rg lo hi e)).size := by
    show (cutT _ (a.strip ++ a.node.ps[i].key)).data.toList = _
    rw [cutT_data, Lib.size_eq]
  rw [hd] at v1 v2
  unfold stepW
  rw [if_pos hm, show (joinN a b (undS (rg lo hi e))).leaf = true from rfl, if_pos rfl]
  unfold pairW
  rw [v2, if_pos rfl, v1]
  rfl
end Go.Proofs.Ytlkcoaencliajaa.Key

namespace Go.Proofs.Ytlkcoaencliajaa.Key
open Go.RowKit Draw
open Go.Op (bytesLess)
set_option linter.unusedVariables false
set_option linter.unusedSimpArgs false

/-- a piece, and where its node's lists lie -/
abbrev PcQ := Pc × Pl
def Pc.cells (x : PcQ) : List Value := [.string x.1.lo, .string x.1.strip, .bool x.1.node.leaf, .slice x.2.a1 x.1.node.ps.length x.2.c1, .slice x.2.a2 x.1.node.pv.length x.2.c2, .slice x.2.a3 x.1.node.ks.length x.2.c3, .slice x.2.a4 x.1.node.bf.length x.2.c4]
abbrev pcv (x : Pc) (q : Pl) : Value := .agg #[.string x.lo, .string x.strip, .bool x.node.leaf, .slice q.a1 x.node.ps.length q.c1, .slice q.a2 x.node.pv.length q.c2, .slice q.a3 x.node.ks.length q.c3, .slice q.a4 x.node.bf.length q.c4]
theorem cells_len (x : PcQ) : (Pc.cells x).length = 7 := rfl
theorem oneQ (x : PcQ) : ∀ u ∈ Pc.cells x, u.oneCell' = true := by
  intro u hu
  simp only [Pc.cells, List.mem_cons, List.not_mem_nil, or_false] at hu
  rcases hu with rfl | rfl | rfl | rfl | rfl | rfl | rfl <;> rfl
set_option maxRecDepth 100000 in
theorem info36 : (Try.prog.info? 36).map (fun i => (i.zero, i.size, i.bytes)) = some (some (.agg #[.string ⟨#[]⟩, .string ⟨#[]⟩, .bool false, .slice none 0 0, .slice none 0 0, .slice none 0 0, .slice none 0 0]), 7, 136) := by kernel_rfl

/-- a block that holds a piece -/
def QBox (w : World) (k : Nat) (v0 v1 v2 v3 v4 v5 v6 : Value) : Prop := w.heap[k]? = some (.cells #[v0, v1, v2, v3, v4, v5, v6] 36 (0, 0))
theorem QBox.new (w : World) (v0 v1 v2 v3 v4 v5 v6 : Value) : QBox (w.alloc (.cells #[v0, v1, v2, v3, v4, v5, v6] 36)) w.heap.size v0 v1 v2 v3 v4 v5 v6 := Go.heap_alloc_new _ _
theorem QBox.lt {w : World} {k : Nat} {v0 v1 v2 v3 v4 v5 v6 : Value} (h : QBox w k v0 v1 v2 v3 v4 v5 v6) : k < w.heap.size := (Array.getElem?_eq_some_iff.1 h).1
theorem QBox.below {w w' : World} {k B : Nat} {v0 v1 v2 v3 v4 v5 v6 : Value} (h : QBox w k v0 v1 v2 v3 v4 v5 v6) (hb : Below B w w') (hB : k < B) : QBox w' k v0 v1 v2 v3 v4 v5 v6 := (hb.block k hB).trans h
theorem QBox.later {w w' : World} {k : Nat} {v0 v1 v2 v3 v4 v5 v6 : Value} (h : QBox w k v0 v1 v2 v3 v4 v5 v6) (hb : Below w.heap.size w w') : QBox w' k v0 v1 v2 v3 v4 v5 v6 := h.below hb h.lt
theorem QBox.alloc {w : World} {k : Nat} {v0 v1 v2 v3 v4 v5 v6 : Value} (h : QBox w k v0 v1 v2 v3 v4 v5 v6) (o : Obj) : QBox (w.alloc o) k v0 v1 v2 v3 v4 v5 v6 := h.later (below_box w o)
theorem QBox.cells {w : World} {k : Nat} {v0 v1 v2 v3 v4 v5 v6 : Value} (h : QBox w k v0 v1 v2 v3 v4 v5 v6) :
    w.cell? ⟨k, 0, none⟩ = some v0 ∧ w.cell? ⟨k, 1, none⟩ = some v1 ∧ w.cell? ⟨k, 2, none⟩ = some v2 ∧ w.cell? ⟨k, 3, none⟩ = some v3 ∧ w.cell? ⟨k, 4, none⟩ = some v4 ∧ w.cell? ⟨k, 5, none⟩ = some v5 ∧ w.cell? ⟨k, 6, none⟩ = some v6 :=
  ⟨cell_of_row _ _ 0 _ _ _ h, cell_of_row _ _ 1 _ _ _ h, cell_of_row _ _ 2 _ _ _ h, cell_of_row _ _ 3 _ _ _ h, cell_of_row _ _ 4 _ _ _ h, cell_of_row _ _ 5 _ _ _ h, cell_of_row _ _ 6 _ _ _ h⟩
theorem QBox.free {w : World} {k : Nat} {v0 v1 v2 v3 v4 v5 v6 : Value} (h : QBox w k v0 v1 v2 v3 v4 v5 v6) (i : Nat) : w.frozen? ⟨k, i, none⟩ = false := frozen_of_row _ _ i _ _ h
theorem QBox.kept {w u : World} {row : Option Nat} {k : Nat} {v0 v1 v2 v3 v4 v5 v6 : Value} (h : QBox w k v0 v1 v2 v3 v4 v5 v6) (hg : w.grownBy u row) (hne : some k ≠ row) : QBox u k v0 v1 v2 v3 v4 v5 v6 := (hg.block k h.lt hne).trans h
theorem QBox.put0 {w : World} {k : Nat} {v0 v1 v2 v3 v4 v5 v6 : Value} (h : QBox w k v0 v1 v2 v3 v4 v5 v6) (y : Value) : QBox (w.setCell ⟨k, 0, none⟩ y) k y v1 v2 v3 v4 v5 v6 := Go.Joins.block_setCell h y
theorem QBox.put1 {w : World} {k : Nat} {v0 v1 v2 v3 v4 v5 v6 : Value} (h : QBox w k v0 v1 v2 v3 v4 v5 v6) (y : Value) : QBox (w.setCell ⟨k, 1, none⟩ y) k v0 y v2 v3 v4 v5 v6 := Go.Joins.block_setCell h y
theorem QBox.put2 {w : World} {k : Nat} {v0 v1 v2 v3 v4 v5 v6 : Value} (h : QBox w k v0 v1 v2 v3 v4 v5 v6) (y : Value) : QBox (w.setCell ⟨k, 2, none⟩ y) k v0 v1 y v3 v4 v5 v6 := Go.Joins.block_setCell h y
theorem QBox.put3 {w : World} {k : Nat} {v0 v1 v2 v3 v4 v5 v6 : Value} (h : QBox w k v0 v1 v2 v3 v4 v5 v6) (y : Value) : QBox (w.setCell ⟨k, 3, none⟩ y) k v0 v1 v2 y v4 v5 v6 := Go.Joins.block_setCell h y
theorem QBox.put4 {w : World} {k : Nat} {v0 v1 v2 v3 v4 v5 v6 : Value} (h : QBox w k v0 v1 v2 v3 v4 v5 v6) (y : Value) : QBox (w.setCell ⟨k, 4, none⟩ y) k v0 v1 v2 v3 y v5 v6 := Go.Joins.block_setCell h y
theorem QBox.put5 {w : World} {k : Nat} {v0 v1 v2 v3 v4 v5 v6 : Value} (h : QBox w k v0 v1 v2 v3 v4 v5 v6) (y : Value) : QBox (w.setCell ⟨k, 5, none⟩ y) k v0 v1 v2 v3 v4 y v6 := Go.Joins.block_setCell h y
theorem QBox.put6 {w : World} {k : Nat} {v0 v1 v2 v3 v4 v5 v6 : Value} (h : QBox w k v0 v1 v2 v3 v4 v5 v6) (y : Value) : QBox (w.setCell ⟨k, 6, none⟩ y) k v0 v1 v2 v3 v4 v5 y := Go.Joins.block_setCell h y
theorem QBox.put {w : World} {k : Nat} {v0 v1 v2 v3 v4 v5 v6 : Value} (h : QBox w k v0 v1 v2 v3 v4 v5 v6) (y0 y1 y2 y3 y4 y5 y6 : Value) :
    QBox (((((((w.setCell ⟨k, 0, none⟩ y0).setCell ⟨k, 1, none⟩ y1).setCell ⟨k, 2, none⟩ y2).setCell ⟨k, 3, none⟩ y3).setCell ⟨k, 4, none⟩ y4).setCell ⟨k, 5, none⟩ y5).setCell ⟨k, 6, none⟩ y6) k y0 y1 y2 y3 y4 y5 y6 :=
  ((((((h.put0 y0).put1 y1).put2 y2).put3 y3).put4 y4).put5 y5).put6 y6
theorem QBox.each {w : World} {k : Nat} {x : Pc} {q : Pl} (h : QBox w k (.string x.lo) (.string x.strip) (.bool x.node.leaf) (.slice q.a1 x.node.ps.length q.c1) (.slice q.a2 x.node.pv.length q.c2) (.slice q.a3 x.node.ks.length q.c3) (.slice q.a4 x.node.bf.length q.c4)) :
    ∀ j u, (Pc.cells (x, q))[j]? = some u → w.cell? ⟨k, j, none⟩ = some u := by
  intro j u hu
  obtain ⟨h0, h1, h2, h3, h4, h5, h6⟩ := h.cells
  have hj : j < 7 := by have := (List.getElem?_eq_some_iff.1 hu).1; simpa [Pc.cells] using this
  match j, hj with
  | 0, _ => rw [← hu]; exact h0
  | 1, _ => rw [← hu]; exact h1
  | 2, _ => rw [← hu]; exact h2
  | 3, _ => rw [← hu]; exact h3
  | 4, _ => rw [← hu]; exact h4
  | 5, _ => rw [← hu]; exact h5
  | 6, _ => rw [← hu]; exact h6
theorem seven_set {B k : Nat} {w w' : World} (h : Below B w w') (hk : B ≤ k) (v0 v1 v2 v3 v4 v5 v6 : Value) :
    Below B w (((((((w'.setCell ⟨k, 0, none⟩ v0).setCell ⟨k, 1, none⟩ v1).setCell ⟨k, 2, none⟩ v2).setCell ⟨k, 3, none⟩ v3).setCell ⟨k, 4, none⟩ v4).setCell ⟨k, 5, none⟩ v5).setCell ⟨k, 6, none⟩ v6) :=
  ((((((h.setCell (p := ⟨k, 0, none⟩) hk v0).setCell (p := ⟨k, 1, none⟩) hk v1).setCell (p := ⟨k, 2, none⟩) hk v2).setCell (p := ⟨k, 3, none⟩) hk v3).setCell (p := ⟨k, 4, none⟩) hk v4).setCell (p := ⟨k, 5, none⟩) hk v5).setCell (p := ⟨k, 6, none⟩) hk v6
theorem row_seven {w : World} {B k : Nat} {y0 y1 y2 y3 y4 y5 y6 : Value} {e : TypeId} {sz : Nat} {v : Value} {n : Nat} {xs : List Value} (h : w.ownsRow B e sz v n xs) (hk : k < B) :
    (((((((w.setCell ⟨k, 0, none⟩ y0).setCell ⟨k, 1, none⟩ y1).setCell ⟨k, 2, none⟩ y2).setCell ⟨k, 3, none⟩ y3).setCell ⟨k, 4, none⟩ y4).setCell ⟨k, 5, none⟩ y5).setCell ⟨k, 6, none⟩ y6).ownsRow B e sz v n xs := row_set (row_set (row_set (row_set (row_set (row_set (row_set h hk) hk) hk) hk) hk) hk) hk

/-- a node whose lists are the call's own, where they lie -/
def OwnN (w : World) (B : Nat) (n : Nd) (q : Pl) : Prop := Owns w B n (.slice q.a1 n.ps.length q.c1) (.slice q.a2 n.pv.length q.c2) (.slice q.a3 n.ks.length q.c3) (.slice q.a4 n.bf.length q.c4)
theorem Owns.put {w : World} {B : Nat} {n : Nd} {x1 x2 x3 x4 : Value} (h : Owns w B n x1 x2 x3 x4) : ∃ q : Pl, x1 = .slice q.a1 n.ps.length q.c1 ∧ x2 = .slice q.a2 n.pv.length q.c2 ∧ x3 = .slice q.a3 n.ks.length q.c3 ∧ x4 = .slice q.a4 n.bf.length q.c4 ∧ OwnN w B n q := by
  obtain ⟨q, rfl, rfl, rfl, rfl, _⟩ := h.lies
  exact ⟨q, rfl, rfl, rfl, rfl, h⟩
theorem OwnN.lies {w : World} {B : Nat} {n : Nd} {q : Pl} (h : OwnN w B n q) : Lies w n q := by
  obtain ⟨q', e1, e2, e3, e4, hl⟩ := Owns.lies h
  obtain ⟨a1, c1, a2, c2, a3, c3, a4, c4⟩ := q
  obtain ⟨b1, d1, b2, d2, b3, d3, b4, d4⟩ := q'
  simp only [Value.slice.injEq, true_and] at e1 e2 e3 e4
  obtain ⟨rfl, rfl⟩ := e1
  obtain ⟨rfl, rfl⟩ := e2
  obtain ⟨rfl, rfl⟩ := e3
  obtain ⟨rfl, rfl⟩ := e4
  exact hl
theorem OwnN.later {w w' : World} {B : Nat} {n : Nd} {q : Pl} (h : OwnN w B n q) (hb : Below w.heap.size w w') : OwnN w' B n q := Owns.later h hb
theorem OwnN.mono {w : World} {B B' : Nat} {n : Nd} {q : Pl} (h : OwnN w B n q) (hB : B' ≤ B) : OwnN w B' n q := ⟨row_mono h.o1 hB, row_mono h.o2 hB, row_mono h.o3 hB, row_mono h.o4 hB⟩
theorem OwnN.seven {w : World} {B k : Nat} {n : Nd} {q : Pl} (h : OwnN w B n q) (hk : k < B) (y0 y1 y2 y3 y4 y5 y6 : Value) :
    OwnN (((((((w.setCell ⟨k, 0, none⟩ y0).setCell ⟨k, 1, none⟩ y1).setCell ⟨k, 2, none⟩ y2).setCell ⟨k, 3, none⟩ y3).setCell ⟨k, 4, none⟩ y4).setCell ⟨k, 5, none⟩ y5).setCell ⟨k, 6, none⟩ y6) B n q :=
  ⟨row_seven h.o1 hk, row_seven h.o2 hk, row_seven h.o3 hk, row_seven h.o4 hk⟩
theorem OwnN.nil (w : World) (B : Nat) : OwnN w B nilN ⟨none, 0, none, 0, none, 0, none, 0⟩ := ⟨row_nil _ _ _ _, row_nil _ _ _ _, row_nil _ _ _ _, row_nil _ _ _ _⟩
/-- kept while a row of pieces grows -/
theorem OwnN.grown {w u : World} {B B' : Nat} {n : Nd} {q : Pl} {v : Value} {m : Nat} {xs : List Value} (h : OwnN w B n q) (ho : w.ownsRow B' 36 7 v m xs) (hg : w.grownBy u v.ownBlock) : OwnN u B n q :=
  ⟨row_kept h.o1 ho (by decide) hg, row_kept h.o2 ho (by decide) hg, row_kept h.o3 ho (by decide) hg, row_kept h.o4 ho (by decide) hg⟩
/-- pieces in a row of the call's own -/
structure OwnQ (w : World) (B : Nat) (v : Value) (L : List PcQ) : Prop where
  row : w.ownsRow B 36 7 v L.length (L.flatMap Pc.cells)
  node : ∀ x ∈ L, OwnN w B x.1.node x.2
theorem OwnQ.later {w w' : World} {B : Nat} {v : Value} {L : List PcQ} (h : OwnQ w B v L) (hb : Below w.heap.size w w') : OwnQ w' B v L := ⟨row_later h.row hb, fun x hx => (h.node x hx).later hb⟩
theorem OwnQ.mono {w : World} {B B' : Nat} {v : Value} {L : List PcQ} (h : OwnQ w B v L) (hB : B' ≤ B) : OwnQ w B' v L := ⟨row_mono h.row hB, fun x hx => (h.node x hx).mono hB⟩
theorem OwnQ.nil (w : World) (B : Nat) : OwnQ w B (.slice none 0 0) [] := ⟨row_nil _ _ _ _, fun x hx => by cases hx⟩
/-- .. one more behind them -/
theorem OwnQ.more {w u : World} {B : Nat} {v v' : Value} {L : List PcQ} {x : PcQ} (h : OwnQ w B v L) (hx : OwnN w B x.1.node x.2) (hr : u.ownsRow B 36 7 v' (L ++ [x]).length ((L ++ [x]).flatMap Pc.cells)) (hg : w.grownBy u v.ownBlock) : OwnQ u B v' (L ++ [x]) := by
  refine ⟨hr, fun y hy => ?_⟩
  rcases List.mem_append.1 hy with hy | hy
  · exact (h.node y hy).grown h.row hg
  · rw [List.mem_singleton] at hy
    subst hy
    exact hx.grown h.row hg
/-- a slice of pieces -/
structure PcAt (w : World) (b o : Nat) (x : PcQ) : Prop where
  c0 : w.cell? ⟨b, o, none⟩ = some (.string x.1.lo)
  c1 : w.cell? ⟨b, o + 1, none⟩ = some (.string x.1.strip)
  c2 : w.cell? ⟨b, o + 2, none⟩ = some (.bool x.1.node.leaf)
  c3 : w.cell? ⟨b, o + 3, none⟩ = some (.slice x.2.a1 x.1.node.ps.length x.2.c1)
  c4 : w.cell? ⟨b, o + 4, none⟩ = some (.slice x.2.a2 x.1.node.pv.length x.2.c2)
  c5 : w.cell? ⟨b, o + 5, none⟩ = some (.slice x.2.a3 x.1.node.ks.length x.2.c3)
  c6 : w.cell? ⟨b, o + 6, none⟩ = some (.slice x.2.a4 x.1.node.bf.length x.2.c4)
theorem PcAt.later {w w' : World} {b o : Nat} {x : PcQ} (h : PcAt w b o x) (hb : Below w.heap.size w w') : PcAt w' b o x := by
  have hB := World.block_lt_of_cell? w _ h.c0
  exact ⟨(hb.cell (p := ⟨b, o, none⟩) hB).trans h.c0, (hb.cell (p := ⟨b, o + 1, none⟩) hB).trans h.c1, (hb.cell (p := ⟨b, o + 2, none⟩) hB).trans h.c2, (hb.cell (p := ⟨b, o + 3, none⟩) hB).trans h.c3, (hb.cell (p := ⟨b, o + 4, none⟩) hB).trans h.c4, (hb.cell (p := ⟨b, o + 5, none⟩) hB).trans h.c5, (hb.cell (p := ⟨b, o + 6, none⟩) hB).trans h.c6⟩
def Pcs (w : World) (a : Option Addr) (L : List PcQ) : Prop := L = [] ∨ ∃ b off, a = some ⟨b, off, none⟩ ∧ ∀ i (h : i < L.length), PcAt w b (off + i * 7) L[i] ∧ Lies w L[i].1.node L[i].2
theorem Pcs.at {w : World} {a : Option Addr} {L : List PcQ} (h : Pcs w a L) {i : Nat} (hi : i < L.length) : ∃ b off, a = some ⟨b, off, none⟩ ∧ PcAt w b (off + i * 7) L[i] ∧ Lies w L[i].1.node L[i].2 := by
  rcases h with rfl | ⟨b, off, rfl, hc⟩
  · simp at hi
  · exact ⟨b, off, rfl, hc i hi⟩
theorem Pcs.later {w w' : World} {a : Option Addr} {L : List PcQ} (h : Pcs w a L) (hb : Below w.heap.size w w') : Pcs w' a L := by
  rcases h with rfl | ⟨b, off, rfl, hc⟩
  · exact .inl rfl
  · exact .inr ⟨b, off, rfl, fun i hi => ⟨(hc i hi).1.later hb, (hc i hi).2.later hb⟩⟩
theorem OwnQ.lies {w : World} {B : Nat} {v : Value} {L : List PcQ} (h : OwnQ w B v L) : ∃ a c, v = .slice a L.length c ∧ Pcs w a L := by
  obtain ⟨a, c, e, h1⟩ := row_cells Pc.cells 7 (fun _ => rfl) h.row
  refine ⟨a, c, e, ?_⟩
  rcases h1 with h1 | ⟨g, e, _, _, hc⟩
  · exact .inl h1
  · exact .inr ⟨g, 0, e, fun i hi => ⟨⟨hc i hi 0 _ (by omega) rfl, hc i hi 1 _ (by omega) rfl, hc i hi 2 _ (by omega) rfl, hc i hi 3 _ (by omega) rfl, hc i hi 4 _ (by omega) rfl, hc i hi 5 _ (by omega) rfl, hc i hi 6 _ (by omega) rfl⟩, (h.node _ (List.getElem_mem hi)).lies⟩⟩
end Go.Proofs.Ytlkcoaencliajaa.Key

namespace Go.Proofs.Ytlkcoaencliajaa.Key
open Go.RowKit
open Go.Op (bytesLess)

/-- whether all keys of a range begin with so many bytes of its first key, as the document asks it -/
theorem inside_all (r : Rng) (n : Nat) (h : emptyR r = false) : insideR r (ofR (r.lo.take n)) = allN r n := by
  unfold insideR allN
  rw [h]
  simp only [ofR, has_le (has_take r.lo n), Bool.not_false, Bool.true_and, Bool.false_or]
  cases succ (r.lo.take n) <;> simp
set_option maxRecDepth 100000 in
set_option maxHeartbeats 1000000 in
/-- Between, the program's -/
theorem between17 (a b : ByteArray) (w : World) (ha : a.size ≤ 1000000) (hb : b.size ≤ 1000000) :
    Calls Try.prog 55 #[.string a, .string b] w fun x w' => x = .returned (.string (str (between a.data.toList b.data.toList))) ∧ Below w.heap.size w w' := by
  cases hl : bytesLess a.toList b.toList
  · have H : between a.data.toList b.data.toList = [] := by rw [less_str] at hl; simp [between, hl]
    have H1 := hid H
    clear H
    go_enter Try.func55, Try.ntmps55
    go_wp2_with fail
    go_ret
    exact ⟨ret_str (by rw [H1.out]; rfl), Below.refl _ _⟩
  · have hl' := hl
    rw [less_str] at hl'
    have hc := (common_less hl').1
    rw [← Lib.size_eq] at hc
    have H : between a.data.toList b.data.toList = b.data.toList.take ((common a.data.toList b.data.toList).length + 1) := by simp [between, hl']
    have H1 := hid H
    have hz := str_size (common a.data.toList b.data.toList)
    have HC := common15 a b w ha hb
    generalize str (common a.data.toList b.data.toList) = S at *
    generalize (common a.data.toList b.data.toList).length = C at *
    clear H hl'
    go_enter Try.func55, Try.ntmps55
    go_wp2_with fail
    refine HC.mono ?_
    clear HC
    rintro x w' ⟨rfl, hbw⟩
    have hi : (C : Int) + 1 ≤ (b.size : Int) := by omega
    go_wp2_with fail
    go_ret
    exact ⟨ret_str (by rw [H1.out, cut_eq]), hbw⟩

theorem gt_yes {x y : ByteArray} (h : (!bytesLess x.toList y.toList) = true ∧ (!x.toList == y.toList) = true) : bytesLess y.data.toList x.data.toList = true := by
  rw [Lib.toList_data, Lib.toList_data] at h
  cases hc : bytesLess y.data.toList x.data.toList
  · have h1 : bytesLess x.data.toList y.data.toList = false := by simpa using h.1
    rw [less_same h1 hc] at h
    simp at h
  · rfl
theorem gt_no {x y : ByteArray} (h : (!bytesLess x.toList y.toList) = false ∨ (!x.toList == y.toList) = false) : bytesLess y.data.toList x.data.toList = false := by
  rw [Lib.toList_data, Lib.toList_data] at h
  rcases h with h | h
  · exact less_asymm (by simpa using h)
  · have h1 : x.data.toList = y.data.toList := by simpa using h
    rw [h1]
    exact less_self _
set_option maxRecDepth 100000 in
set_option maxHeartbeats 1000000 in
/-- Between, the document's -/
theorem between18 (a b : ByteArray) (w : World) (hb : b.size ≤ 1000000) :
    Calls Try.prog 32 #[.string a, .string b] w fun x w' => x = .returned (.string (str (between a.data.toList b.data.toList))) ∧ w' = w := by
  go_enter Try.func32, Try.ntmps32
  go_wp2_with fail
  go_loop [5] (fun n => ∃ j : Nat, j ≤ b.size + 1 ∧ n = .int .i64 j ∧ Hid (bytesLess a.data.toList b.data.toList = true → j ≤ (common a.data.toList b.data.toList).length + 1)) (fun n => b.size + 1 - (intOf n).toNat)
  case atStart => exact ⟨0, Nat.zero_le _, rfl, hid (fun _ => Nat.zero_le _)⟩
  case round =>
    obtain ⟨j, hj, rfl, hs⟩ := hrel
    go_wp2_with fail
    · have hg := gt_yes ‹_›
      rw [cut_data] at hg
      go_ret
      refine ⟨ret_str ?_, rfl⟩
      have hl : bytesLess a.data.toList b.data.toList = true := by
        cases h : bytesLess a.data.toList b.data.toList
        · rw [less_part j h] at hg
          cases hg
        · rfl
      have h1 := hs.out hl
      have h2 : ¬ j ≤ (common a.data.toList b.data.toList).length := fun h => by
        rw [common_part j h] at hg
        cases hg
      rw [cut_eq, between, hl, if_pos rfl, show j = (common a.data.toList b.data.toList).length + 1 by omega]
    · have hg := gt_no ‹_›
      rw [cut_data] at hg
      have hj1 : j ≤ b.size := by assumption
      refine ⟨⟨j + 1, by omega, rfl, hid fun hl => ?_⟩, by simp [intOf]; omega⟩
      have h1 := hs.out hl
      have h2 : j ≠ (common a.data.toList b.data.toList).length + 1 := fun h => by
        rw [h, (common_less hl).2] at hg
        cases hg
      omega
    · have hj1 : ¬ j ≤ b.size := by assumption
      go_ret
      refine ⟨ret_str ?_, rfl⟩
      have hl : bytesLess a.data.toList b.data.toList = false := by
        cases h : bytesLess a.data.toList b.data.toList
        · rfl
        · have h1 := hs.out h
          have h2 := (common_less h).1
          rw [← Lib.size_eq] at h2
          omega
      rw [between, hl]
      rfl
set_option maxRecDepth 100000 in
set_option maxHeartbeats 1000000 in
/-- Under, the document's -/
theorem under25 (lo hi : ByteArray) (e : Bool) (w : World) (h1 : lo.size ≤ 1000) :
    Calls Try.prog 36 #[.agg #[.string lo, .string hi, .bool e]] w fun x w' => x = .returned (.string (str (under (rg lo hi e)))) ∧ Below w.heap.size w w' := by
  cases hE : emptyR (rg lo hi e)
  · have HU := hid (best_under _ hE)
    have HI := hid (fun n => inside_all (rg lo hi e) n hE)
    have HE := empty28 lo hi e
    rw [hE] at HE
    clear hE
    go_enter Try.func36, Try.ntmps36
    go_wp2_with fail
    refine (HE _).mono ?_
    clear HE
    rintro x w' ⟨rfl, hbw⟩
    have hx := (Box.new w (.string lo) (.string hi) (.bool e)).later hbw
    have hb : Below w.heap.size w w' := (below_box _ _).trans (hbw.mono (by simp))
    clear hbw
    go_wp2_with fail
    go_loopw [3, 4] (fun p n wr => ∃ j : Nat, j ≤ lo.size ∧ n = .int .i64 ((j : Int) + 1) ∧ p = .string (str (lo.data.toList.take (bestN (rg lo hi e) j))) ∧ Below w.heap.size w wr ∧ Box wr w.heap.size (.string lo) (.string hi) (.bool e)) (fun _ n _ => lo.size + 1 - (intOf n).toNat)
    case atStart => exact ⟨0, Nat.zero_le _, rfl, rfl, hb, hx⟩
    case round =>
      obtain ⟨j, hj, rfl, hp, hbr, hxr⟩ := hrel
      obtain ⟨a0, a1, a2⟩ := hxr.cells
      by_cases hin : j < lo.size
      · have k1 : (j : Int) + 1 ≤ (lo.size : Int) := by omega
        have hPz : (lo.extract 0 (j + 1)).size ≤ 1000 := by simp; omega
        have hI : insideR (rg lo hi e) (rg (lo.extract 0 (j + 1)) (sucS (lo.extract 0 (j + 1)).data.toList) (sucO (lo.extract 0 (j + 1)).data.toList)) = allN (rg lo hi e) (j + 1) := by
          have := HI.out (j + 1)
          rw [← this]
          unfold rg sucS sucO ofR
          rw [str_data, cut_data]
        have hO := fun u => of27 (lo.extract 0 (j + 1)) u (by omega)
        have hN := fun u => inside31 lo hi (lo.extract 0 (j + 1)) (sucS (lo.extract 0 (j + 1)).data.toList) e (sucO (lo.extract 0 (j + 1)).data.toList) u
        rw [hI] at hN
        have hB : bestN (rg lo hi e) (j + 1) = if allN (rg lo hi e) (j + 1) then j + 1 else bestN (rg lo hi e) j := rfl
        generalize sucS (lo.extract 0 (j + 1)).data.toList = S at *
        generalize sucO (lo.extract 0 (j + 1)).data.toList = o at *
        generalize allN (rg lo hi e) (j + 1) = al at *
        have HB := hid hB
        have HO := hid hO
        have HN := hid hN
        have HP := hid hp
        clear hI hB hO hN hp
        go_wp2_with fail
        refine wp_region_quiet (C := fun u => Below wr.heap.size wr u) (by kernel_rfl) (by kernel_rfl) ((Below.refl _ wr).drew) ?_
        change wpQuiet _ _ _ _ (_ :: _) _
        refine wpQuiet_step (fun K hK => ?_)
        refine quiet_val (.agg #[.string lo, .string hi, .bool e]) (by kernel_rfl) (fun u hu => by obtain ⟨b0, b1, b2⟩ := (hxr.later hu).cells; go_simp) ?_
        go_simp
        refine hK _ ?_
        clear hK K
        refine wpQuiet_step (fun K hK => ?_)
        refine quiet_val (.pointer (some ⟨w.heap.size, 0, none⟩)) (by kernel_rfl) (fun u hu => by go_simp) ?_
        go_simp
        refine hK _ ?_
        clear hK K
        refine wpQuiet_step (fun K hK => ?_)
        refine quiet_val (.string lo) (by kernel_rfl) (fun u hu => by obtain ⟨b0, b1, b2⟩ := (hxr.later hu).cells; go_simp) ?_
        go_simp
        refine hK _ ?_
        clear hK K
        refine wpQuiet_step (fun K hK => ?_)
        refine quiet_val (.int .i64 ((j : Int) + 1)) (by kernel_rfl) (fun u hu => by go_simp) ?_
        go_simp
        refine hK _ ?_
        clear hK K
        refine wpQuiet_step (fun K hK => ?_)
        refine quiet_val (.string (lo.extract 0 (j + 1))) (by kernel_rfl) (fun u hu => by go_simp; intro h; omega) ?_
        go_simp
        refine hK _ ?_
        clear hK K
        refine wpQuiet_step (fun K hK => ?_)
        refine quiet_call (.agg #[.string (lo.extract 0 (j + 1)), .string S, .bool o]) 62 #[.string (lo.extract 0 (j + 1))] (by kernel_rfl) (fun u hu => by go_simp) (fun u hu => (HO.out u).mono fun x u' h => ⟨h.1, hu.trans (h.2.mono hu.size)⟩) ?_
        go_simp
        refine hK _ ?_
        clear hK K
        refine wpQuiet_step (fun K hK => ?_)
        refine quiet_call (.bool al) 61 #[.agg #[.string lo, .string hi, .bool e], .agg #[.string (lo.extract 0 (j + 1)), .string S, .bool o]] (by kernel_rfl) (fun u hu => by go_simp) (fun u hu => (HN.out u).mono fun x u' h => ⟨h.1, hu.trans (h.2.mono hu.size)⟩) ?_
        go_simp
        refine hK _ ?_
        clear hK K
        refine wpQuiet_nil (fun u hu => ?_)
        have hxu := hxr.later hu
        have hbu : Below w.heap.size w u := hbr.trans (hu.mono hbr.size)
        clear a0 a1 a2
        obtain ⟨a0, a1, a2⟩ := hxu.cells
        cases al
        · go_wp2_with fail
          exact ⟨⟨j + 1, by omega, rfl, by rw [HB.out]; exact HP.out, hbu, hxu⟩, by simp [intOf]; omega⟩
        · go_wp2_with fail
          exact ⟨⟨j + 1, by omega, rfl, by rw [HB.out, cut_eq]; rfl, hbu, hxu⟩, by simp [intOf]; omega⟩
      · have k1 : decide ((j : Int) + 1 ≤ (lo.size : Int)) = false := by simp; omega
        have HP := hid hp
        subst hp
        go_wp2_with fail
        go_ret
        refine ⟨ret_str ?_, hbr⟩
        have hj1 : j = (rg lo hi e).lo.length := by show j = lo.data.toList.length; rw [← Lib.size_eq]; omega
        rw [hj1, HU.out]
        rfl
  · have HU := hid (under_empty hE)
    have HE := empty28 lo hi e
    rw [hE] at HE
    clear hE
    go_enter Try.func36, Try.ntmps36
    go_wp2_with fail
    refine (HE _).mono ?_
    clear HE
    rintro x w' ⟨rfl, hbw⟩
    go_wp2_with fail
    go_ret
    exact ⟨ret_str (by rw [HU.out]; rfl), (below_box _ _).trans (hbw.mono (by simp))⟩
end Go.Proofs.Ytlkcoaencliajaa.Key

namespace Go.Proofs.Ytlkcoaencliajaa.Key
open Go.RowKit Draw
open Go.Op (bytesLess)
set_option linter.unusedVariables false
set_option linter.unusedSimpArgs false

/-- what Whole answers -/
def WholeSay (w w' : World) (x : Ending) (n : Nd) (lo hi : ByteArray) (e : Bool) : Prop :=
  ∃ q : Pl, x = .returned (.tuple #[pcv (wholeP n lo hi e) q, .int .i64 (wholeE n (rg lo hi e))]) ∧ OwnN w' w.heap.size (wholeP n lo hi e).node q
theorem whole_say_none {w w' : World} {x : Ending} {n : Nd} {lo hi : ByteArray} {e : Bool} {z : Int} (hz : wholeE n (rg lo hi e) = z) (h0 : z ≠ 0)
    (hx : x = .returned (.tuple #[.agg #[.string ⟨#[]⟩, .string ⟨#[]⟩, .bool false, .slice none 0 0, .slice none 0 0, .slice none 0 0, .slice none 0 0], .int .i64 z])) : WholeSay w w' x n lo hi e := by
  have e' : wholeP n lo hi e = Pc.nil := by unfold wholeP; rw [hz, if_neg h0]
  refine ⟨⟨none, 0, none, 0, none, 0, none, 0⟩, ?_, ?_⟩
  · rw [hx, hz, e']; rfl
  · rw [e']; exact OwnN.nil _ _
theorem whole_say_some {w w' : World} {x : Ending} {n : Nd} {lo hi : ByteArray} {e : Bool} {m : Nd} {s : ByteArray} {q : Pl} {B : Nat} (hz : wholeE n (rg lo hi e) = 0) (hs : undS (rg lo hi e) = s) (hm : trimA n (rg lo hi e) s = m)
    (hx : x = .returned (.tuple #[.agg #[.string lo, .string s, .bool m.leaf, .slice q.a1 m.ps.length q.c1, .slice q.a2 m.pv.length q.c2, .slice q.a3 m.ks.length q.c3, .slice q.a4 m.bf.length q.c4], .int .i64 0])) (hO : OwnN w' B m q) (hB : w.heap.size ≤ B) : WholeSay w w' x n lo hi e := by
  have e' : wholeP n lo hi e = ⟨lo, s, m⟩ := by unfold wholeP; rw [if_pos hz, hs, hm]
  refine ⟨q, ?_, ?_⟩
  · rw [hx, hz, e']
  · rw [e']; exact hO.mono hB
theorem boxes_nrq (w : World) (v0 v1 v2 v3 v4 r0 r1 r2 x0 x1 x2 x3 x4 x5 x6 : Value) :
    NBox (((w.alloc (.cells #[v0, v1, v2, v3, v4] 27)).alloc (.cells #[r0, r1, r2] 29)).alloc (.cells #[x0, x1, x2, x3, x4, x5, x6] 36)) w.heap.size v0 v1 v2 v3 v4 ∧
    Box (((w.alloc (.cells #[v0, v1, v2, v3, v4] 27)).alloc (.cells #[r0, r1, r2] 29)).alloc (.cells #[x0, x1, x2, x3, x4, x5, x6] 36)) (w.heap.size + 1) r0 r1 r2 ∧
    QBox (((w.alloc (.cells #[v0, v1, v2, v3, v4] 27)).alloc (.cells #[r0, r1, r2] 29)).alloc (.cells #[x0, x1, x2, x3, x4, x5, x6] 36)) (w.heap.size + 1 + 1) x0 x1 x2 x3 x4 x5 x6 ∧
    Below w.heap.size w (((w.alloc (.cells #[v0, v1, v2, v3, v4] 27)).alloc (.cells #[r0, r1, r2] 29)).alloc (.cells #[x0, x1, x2, x3, x4, x5, x6] 36)) := by
  have a1 : (w.alloc (.cells #[v0, v1, v2, v3, v4] 27)).heap.size = w.heap.size + 1 := by simp
  have a2 : ((w.alloc (.cells #[v0, v1, v2, v3, v4] 27)).alloc (.cells #[r0, r1, r2] 29)).heap.size = w.heap.size + 1 + 1 := by simp
  have h0 := NBox.new w v0 v1 v2 v3 v4
  have h1 := Box.new (w.alloc (.cells #[v0, v1, v2, v3, v4] 27)) r0 r1 r2
  have h2 := QBox.new ((w.alloc (.cells #[v0, v1, v2, v3, v4] 27)).alloc (.cells #[r0, r1, r2] 29)) x0 x1 x2 x3 x4 x5 x6
  rw [a1] at h1
  rw [a2] at h2
  exact ⟨(h0.alloc _).alloc _, h1.alloc _, h2, ((below_box w _).alloc (by simp) _).alloc (by simp; omega) _⟩

set_option maxRecDepth 100000 in
set_option maxHeartbeats 1000000 in
theorem whole12 (n : Nd) (p : Pl) (lo hi : ByteArray) (e : Bool) (w : World) (hf : Few n) (h : Lies w n p) (hlo : lo.size ≤ 1000) (hhi : hi.size ≤ 1000) :
    Calls Try.prog 12 #[nv n p, av lo hi e] w fun x w' => WholeSay w w' x n lo hi e ∧ Below w.heap.size w w' := by
  have HU := hid (fun wr => under24 lo hi e wr hlo hhi)
  have HT := hid (fun wr (hb : Below w.heap.size w wr) => trim10 n p lo hi e (undS (rg lo hi e)) wr hf (h.later hb) hlo hhi (Nat.le_trans (und_size lo hi e) hlo))
  unfold TrimSay at HT
  rw [show str (under (rg lo hi e)) = undS (rg lo hi e) from rfl] at HU
  obtain ⟨S, hS⟩ : ∃ S, undS (rg lo hi e) = S := ⟨_, rfl⟩
  obtain ⟨m, hm⟩ : ∃ m, trimA n (rg lo hi e) S = m := ⟨_, rfl⟩
  obtain ⟨z, hz⟩ : ∃ z, wholeE n (rg lo hi e) = z := ⟨_, rfl⟩
  have HS := hid (And.intro hS (And.intro hm hz))
  have hz' : trimE n (rg lo hi e) S = z := by rw [← hS]; exact hz
  rw [hS] at HU HT
  rw [hm, hz'] at HT
  clear h hf hz' hS hm hz
  obtain ⟨A0, R0, Q0, hb0⟩ := boxes_nrq w (.bool n.leaf) (.slice p.a1 n.ps.length p.c1) (.slice p.a2 n.pv.length p.c2) (.slice p.a3 n.ks.length p.c3) (.slice p.a4 n.bf.length p.c4) (.string lo) (.string hi) (.bool e) (.string ⟨#[]⟩) (.string ⟨#[]⟩) (.bool false) (.slice none 0 0) (.slice none 0 0) (.slice none 0 0) (.slice none 0 0)
  obtain ⟨lB, ps, ws, ks, bf⟩ := n
  obtain ⟨a1, c1, a2, c2, a3, c3, a4, c4⟩ := p
  obtain ⟨lm, ps', pv', ks', bf'⟩ := m
  dsimp only [nv] at *
  generalize ps.length = n1 at *
  generalize ws.length = n2 at *
  generalize ks.length = n3 at *
  generalize bf.length = n4 at *
  have key : ∀ z0, Hid (z = z0) → Calls Try.prog 12 #[.agg #[.bool lB, .slice a1 n1 c1, .slice a2 n2 c2, .slice a3 n3 c3, .slice a4 n4 c4], av lo hi e] w fun x w' => WholeSay w w' x ⟨lB, ps, ws, ks, bf⟩ lo hi e ∧ Below w.heap.size w w' := by
    intro z0 hz0
    by_cases h0 : z = 0
    all_goals
      clear hz0
      go_enter Try.func12, Try.ntmps12
      go_upto_region 1 with fail
      generalize ((w.alloc (.cells #[.bool lB, .slice a1 n1 c1, .slice a2 n2 c2, .slice a3 n3 c3, .slice a4 n4 c4] 27)).alloc (.cells #[.string lo, .string hi, .bool e] 29)).alloc (.cells #[.string ⟨#[]⟩, .string ⟨#[]⟩, .bool false, .slice none 0 0, .slice none 0 0, .slice none 0 0, .slice none 0 0] 36) = w3 at *
      generalize hk0 : w.heap.size = k0 at *
      generalize hk1 : k0 + 1 = k1 at *
      generalize hk2 : k1 + 1 = k2 at *
      have HQ0 := hid hk0
      have HQ := hid (And.intro hk1 hk2)
      clear hk0 hk1 hk2
      have hkk := HQ.out
      obtain ⟨r0, r1, r2⟩ := R0.cells
      go_wp2_with fail
      refine (HU.out _).mono ?_
      rintro x w4 ⟨rfl, hb4⟩
      have hs4 := hb4.size
      have A4 := A0.later hb4
      have R4 := R0.later hb4
      have Q4 := Q0.later hb4
      replace hb4 := hb0.trans (hb4.mono (by have := Q0.lt; omega))
      clear HU r0 r1 r2 A0 R0 Q0
      obtain ⟨r0, r1, r2⟩ := R4.cells
      obtain ⟨m0, m1, m2, m3, m4⟩ := A4.cells
      go_wp2_with fail
      refine (HT.out _ hb4).mono ?_
      rintro x w5 ⟨⟨x1, x2, x3, x4, rfl, hO⟩, hb5⟩
      obtain ⟨q, rfl, rfl, rfl, rfl, hN⟩ := hO.put
      have R5 := R4.later hb5
      have Q5 := Q4.later hb5
      have hq5 := Q4.lt
      replace hb5 := hb4.trans (hb5.mono (by omega))
      clear HT r0 r1 r2 m0 m1 m2 m3 m4 A4 R4 Q4 hO
      have N5 := NBox.new w5 (.bool lm) (.slice q.a1 ps'.length q.c1) (.slice q.a2 pv'.length q.c2) (.slice q.a3 ks'.length q.c3) (.slice q.a4 bf'.length q.c4)
      have bx := below_box w5 (.cells #[.bool lm, .slice q.a1 ps'.length q.c1, .slice q.a2 pv'.length q.c2, .slice q.a3 ks'.length q.c3, .slice q.a4 bf'.length q.c4] 27)
      have R6 := R5.later bx
      have Q6 := Q5.later bx
      have hN6 := hN.later bx
      have hb6 := hb5.trans (bx.mono (by have := Q5.lt; omega))
      clear R5 Q5 hN bx hb5
      go_upto_region 3 with fail
      generalize w5.heap.size = k5 at *
      generalize w5.alloc (.cells #[.bool lm, .slice q.a1 ps'.length q.c1, .slice q.a2 pv'.length q.c2, .slice q.a3 ks'.length q.c3, .slice q.a4 bf'.length q.c4] 27) = w6 at *
      obtain ⟨r0, r1, r2⟩ := R6.cells
      obtain ⟨m0, m1, m2, m3, m4⟩ := N5.cells
      have f := Q6.free
      have f0 := f 0
      have f1 := f 1
      have f2 := f 2
      have f3 := f 3
      have f4 := f 4
      have f5 := f 5
      have f6 := f 6
      clear f
      obtain ⟨z0, z1, z2, z3, z4, z5, z6⟩ := Q6.cells
    · skip
      subst h0
      have hb9 := seven_set hb6 (show k0 ≤ k2 by omega) (.string lo) (.string S) (.bool lm) (.slice q.a1 ps'.length q.c1) (.slice q.a2 pv'.length q.c2) (.slice q.a3 ks'.length q.c3) (.slice q.a4 bf'.length q.c4)
      have hN9 := hN6.seven (show k2 < w4.heap.size by omega) (.string lo) (.string S) (.bool lm) (.slice q.a1 ps'.length q.c1) (.slice q.a2 pv'.length q.c2) (.slice q.a3 ks'.length q.c3) (.slice q.a4 bf'.length q.c4)
      have hBB : k0 ≤ w4.heap.size := by omega
      go_wp2_with fail
      refine bodyPost_ret (v := .tuple #[.agg #[.string lo, .string S, .bool lm, .slice q.a1 ps'.length q.c1, .slice q.a2 pv'.length q.c2, .slice q.a3 ks'.length q.c3, .slice q.a4 bf'.length q.c4], .int .i64 0]) (by simp [results, Try.results12, go_sem, z0, z1, z2, z3, z4, z5, z6]) rfl ⟨?_, ?_⟩
      · exact whole_say_some HS.out.2.2 HS.out.1 HS.out.2.1 rfl hN9 (by rw [HQ0.out]; exact hBB)
      · rw [HQ0.out]; exact hb9
    · skip
      have hb9 := seven_set hb6 (show k0 ≤ k2 by omega) (.string ⟨#[]⟩) (.string ⟨#[]⟩) (.bool false) (.slice none 0 0) (.slice none 0 0) (.slice none 0 0) (.slice none 0 0)
      go_wp2_with fail
      refine bodyPost_ret (v := .tuple #[.agg #[.string ⟨#[]⟩, .string ⟨#[]⟩, .bool false, .slice none 0 0, .slice none 0 0, .slice none 0 0, .slice none 0 0], .int .i64 z]) (by simp [results, Try.results12, go_sem, z0, z1, z2, z3, z4, z5, z6]) rfl ⟨?_, ?_⟩
      · exact whole_say_none HS.out.2.2 h0 rfl
      · rw [HQ0.out]; exact hb9
  exact key z (hid rfl)
set_option maxRecDepth 100000 in
set_option maxHeartbeats 1000000 in
theorem whole13 (n : Nd) (p : Pl) (lo hi : ByteArray) (e : Bool) (w : World) (hf : Few n) (h : Lies w n p) (hd : ∀ m ∈ n.bf, 0 ≤ m.deep) (hlo : lo.size ≤ 1000) (hhi : hi.size ≤ 1000) :
    Calls Try.prog 13 #[nv n p, av lo hi e] w fun x w' => WholeSay w w' x n lo hi e ∧ Below w.heap.size w w' := by
  have HU := hid (fun wr => under25 lo hi e wr hlo)
  have HT := hid (fun wr (hb : Below w.heap.size w wr) => trim11 n p lo hi e (undS (rg lo hi e)) wr hf (h.later hb) hd hlo hhi (Nat.le_trans (und_size lo hi e) hlo))
  unfold TrimSay at HT
  rw [show str (under (rg lo hi e)) = undS (rg lo hi e) from rfl] at HU
  obtain ⟨S, hS⟩ : ∃ S, undS (rg lo hi e) = S := ⟨_, rfl⟩
  obtain ⟨m, hm⟩ : ∃ m, trimA n (rg lo hi e) S = m := ⟨_, rfl⟩
  obtain ⟨z, hz⟩ : ∃ z, wholeE n (rg lo hi e) = z := ⟨_, rfl⟩
  have HS := hid (And.intro hS (And.intro hm hz))
  have hz' : trimE n (rg lo hi e) S = z := by rw [← hS]; exact hz
  rw [hS] at HU HT
  rw [hm, hz'] at HT
  clear h hf hz' hS hm hz
  obtain ⟨A0, R0, Q0, hb0⟩ := boxes_nrq w (.bool n.leaf) (.slice p.a1 n.ps.length p.c1) (.slice p.a2 n.pv.length p.c2) (.slice p.a3 n.ks.length p.c3) (.slice p.a4 n.bf.length p.c4) (.string lo) (.string hi) (.bool e) (.string ⟨#[]⟩) (.string ⟨#[]⟩) (.bool false) (.slice none 0 0) (.slice none 0 0) (.slice none 0 0) (.slice none 0 0)
  obtain ⟨lB, ps, ws, ks, bf⟩ := n
  obtain ⟨a1, c1, a2, c2, a3, c3, a4, c4⟩ := p
  obtain ⟨lm, ps', pv', ks', bf'⟩ := m
  dsimp only [nv] at *
  generalize ps.length = n1 at *
  generalize ws.length = n2 at *
  generalize ks.length = n3 at *
  generalize bf.length = n4 at *
  have key : ∀ z0, Hid (z = z0) → Calls Try.prog 13 #[.agg #[.bool lB, .slice a1 n1 c1, .slice a2 n2 c2, .slice a3 n3 c3, .slice a4 n4 c4], av lo hi e] w fun x w' => WholeSay w w' x ⟨lB, ps, ws, ks, bf⟩ lo hi e ∧ Below w.heap.size w w' := by
    intro z0 hz0
    by_cases h0 : z = 0
    all_goals
      clear hz0
      go_enter Try.func13, Try.ntmps13
      go_upto_region 1 with fail
      generalize ((w.alloc (.cells #[.bool lB, .slice a1 n1 c1, .slice a2 n2 c2, .slice a3 n3 c3, .slice a4 n4 c4] 27)).alloc (.cells #[.string lo, .string hi, .bool e] 29)).alloc (.cells #[.string ⟨#[]⟩, .string ⟨#[]⟩, .bool false, .slice none 0 0, .slice none 0 0, .slice none 0 0, .slice none 0 0] 36) = w3 at *
      generalize hk0 : w.heap.size = k0 at *
      generalize hk1 : k0 + 1 = k1 at *
      generalize hk2 : k1 + 1 = k2 at *
      have HQ0 := hid hk0
      have HQ := hid (And.intro hk1 hk2)
      clear hk0 hk1 hk2
      have hkk := HQ.out
      obtain ⟨r0, r1, r2⟩ := R0.cells
      go_wp2_with fail
      refine (HU.out _).mono ?_
      rintro x w4 ⟨rfl, hb4⟩
      have hs4 := hb4.size
      have A4 := A0.later hb4
      have R4 := R0.later hb4
      have Q4 := Q0.later hb4
      replace hb4 := hb0.trans (hb4.mono (by have := Q0.lt; omega))
      clear HU r0 r1 r2 A0 R0 Q0
      obtain ⟨r0, r1, r2⟩ := R4.cells
      obtain ⟨m0, m1, m2, m3, m4⟩ := A4.cells
      go_wp2_with fail
      refine (HT.out _ hb4).mono ?_
      rintro x w5 ⟨⟨x1, x2, x3, x4, rfl, hO⟩, hb5⟩
      obtain ⟨q, rfl, rfl, rfl, rfl, hN⟩ := hO.put
      have R5 := R4.later hb5
      have Q5 := Q4.later hb5
      have hq5 := Q4.lt
      replace hb5 := hb4.trans (hb5.mono (by omega))
      clear HT r0 r1 r2 m0 m1 m2 m3 m4 A4 R4 Q4 hO
      have N5 := NBox.new w5 (.bool lm) (.slice q.a1 ps'.length q.c1) (.slice q.a2 pv'.length q.c2) (.slice q.a3 ks'.length q.c3) (.slice q.a4 bf'.length q.c4)
      have bx := below_box w5 (.cells #[.bool lm, .slice q.a1 ps'.length q.c1, .slice q.a2 pv'.length q.c2, .slice q.a3 ks'.length q.c3, .slice q.a4 bf'.length q.c4] 27)
      have R6 := R5.later bx
      have Q6 := Q5.later bx
      have hN6 := hN.later bx
      have hb6 := hb5.trans (bx.mono (by have := Q5.lt; omega))
      clear R5 Q5 hN bx hb5
      go_upto_region 3 with fail
      generalize w5.heap.size = k5 at *
      generalize w5.alloc (.cells #[.bool lm, .slice q.a1 ps'.length q.c1, .slice q.a2 pv'.length q.c2, .slice q.a3 ks'.length q.c3, .slice q.a4 bf'.length q.c4] 27) = w6 at *
      obtain ⟨r0, r1, r2⟩ := R6.cells
      obtain ⟨m0, m1, m2, m3, m4⟩ := N5.cells
      have f := Q6.free
      have f0 := f 0
      have f1 := f 1
      have f2 := f 2
      have f3 := f 3
      have f4 := f 4
      have f5 := f 5
      have f6 := f 6
      clear f
      obtain ⟨z0, z1, z2, z3, z4, z5, z6⟩ := Q6.cells
    · skip
      subst h0
      have hb9 := seven_set hb6 (show k0 ≤ k2 by omega) (.string lo) (.string S) (.bool lm) (.slice q.a1 ps'.length q.c1) (.slice q.a2 pv'.length q.c2) (.slice q.a3 ks'.length q.c3) (.slice q.a4 bf'.length q.c4)
      have hN9 := hN6.seven (show k2 < w4.heap.size by omega) (.string lo) (.string S) (.bool lm) (.slice q.a1 ps'.length q.c1) (.slice q.a2 pv'.length q.c2) (.slice q.a3 ks'.length q.c3) (.slice q.a4 bf'.length q.c4)
      have hBB : k0 ≤ w4.heap.size := by omega
      go_wp2_with fail
      refine bodyPost_ret (v := .tuple #[.agg #[.string lo, .string S, .bool lm, .slice q.a1 ps'.length q.c1, .slice q.a2 pv'.length q.c2, .slice q.a3 ks'.length q.c3, .slice q.a4 bf'.length q.c4], .int .i64 0]) (by simp [results, Try.results13, go_sem, z0, z1, z2, z3, z4, z5, z6]) rfl ⟨?_, ?_⟩
      · exact whole_say_some HS.out.2.2 HS.out.1 HS.out.2.1 rfl hN9 (by rw [HQ0.out]; exact hBB)
      · rw [HQ0.out]; exact hb9
    · skip
      have hb9 := seven_set hb6 (show k0 ≤ k2 by omega) (.string ⟨#[]⟩) (.string ⟨#[]⟩) (.bool false) (.slice none 0 0) (.slice none 0 0) (.slice none 0 0) (.slice none 0 0)
      go_wp2_with fail
      refine bodyPost_ret (v := .tuple #[.agg #[.string ⟨#[]⟩, .string ⟨#[]⟩, .bool false, .slice none 0 0, .slice none 0 0, .slice none 0 0, .slice none 0 0], .int .i64 z]) (by simp [results, Try.results13, go_sem, z0, z1, z2, z3, z4, z5, z6]) rfl ⟨?_, ?_⟩
      · exact whole_say_none HS.out.2.2 h0 rfl
      · rw [HQ0.out]; exact hb9
  exact key z (hid rfl)
end Go.Proofs.Ytlkcoaencliajaa.Key

namespace Go.Proofs.Ytlkcoaencliajaa.Key
open Go.RowKit Draw
open Go.Op (bytesLess)
set_option linter.unusedVariables false
set_option linter.unusedSimpArgs false

/-- a range, as it stands in a slice -/
structure Rg where
  lo : ByteArray
  hi : ByteArray
  e : Bool
structure RgAt (w : World) (b o : Nat) (r : Rg) : Prop where
  c0 : w.cell? ⟨b, o, none⟩ = some (.string r.lo)
  c1 : w.cell? ⟨b, o + 1, none⟩ = some (.string r.hi)
  c2 : w.cell? ⟨b, o + 2, none⟩ = some (.bool r.e)
theorem RgAt.later {w w' : World} {b o : Nat} {r : Rg} (h : RgAt w b o r) (hb : Below w.heap.size w w') : RgAt w' b o r := by
  have hB := World.block_lt_of_cell? w _ h.c0
  exact ⟨(hb.cell (p := ⟨b, o, none⟩) hB).trans h.c0, (hb.cell (p := ⟨b, o + 1, none⟩) hB).trans h.c1, (hb.cell (p := ⟨b, o + 2, none⟩) hB).trans h.c2⟩
/-- a slice of ranges -/
def Rgs (w : World) (b : Nat) (l : List Rg) : Prop := ∀ i (h : i < l.length), RgAt w b (0 + i * 3) l[i]
theorem Rgs.later {w w' : World} {b : Nat} {l : List Rg} (h : Rgs w b l) (hb : Below w.heap.size w w') : Rgs w' b l := fun i hi => (h i hi).later hb
def wE1 (n : Nd) (r : Rg) : Int := wholeE n (rg r.lo r.hi r.e)
def wP1 (n : Nd) (r : Rg) : Pc := wholeP n r.lo r.hi r.e
def eachE (n : Nd) : List Rg → Int
  | [] => 0
  | r :: l => if wE1 n r = 0 then eachE n l else wE1 n r
def eachL (n : Nd) (l : List Rg) : List Pc := if eachE n l = 0 then l.map (wP1 n) else []
theorem each_zero {n : Nd} {l : List Rg} (h : ∀ r ∈ l, wE1 n r = 0) : eachE n l = 0 := by
  induction l with
  | nil => rfl
  | cons r l ih => rw [eachE, if_pos (h r (List.mem_cons_self ..)), ih (fun x hx => h x (List.mem_cons_of_mem _ hx))]
theorem each_at {n : Nd} : ∀ {l : List Rg} {j : Nat} (hj : j < l.length), (∀ r ∈ l.take j, wE1 n r = 0) → wE1 n l[j] ≠ 0 → eachE n l = wE1 n l[j]
  | [], _, h, _, _ => by simp at h
  | r :: l, 0, _, _, h => by
    have h' : wE1 n r ≠ 0 := h
    rw [eachE, if_neg h']
    rfl
  | r :: l, j + 1, hj, h0, h => by
    rw [eachE, if_pos (h0 r (by simp))]
    exact each_at (l := l) (j := j) (by simpa using hj) (fun x hx => h0 x (by simp [hx])) h
/-- what each answers -/
def EachSay (w w' : World) (x : Ending) (n : Nd) (l : List Rg) : Prop :=
  ∃ v L, x = .returned (.tuple #[v, .int .i64 (eachE n l)]) ∧ OwnQ w' w.heap.size v L ∧ L.map Prod.fst = eachL n l
theorem each_none {w w' : World} {x : Ending} {n : Nd} {l : List Rg} {j : Nat} {z : Int} {r : Rg} (hr : l[j]? = some r) (h0 : ∀ r ∈ l.take j, wE1 n r = 0) (hz : wE1 n r = z) (hne : z ≠ 0) (hx : x = .returned (.tuple #[.slice none 0 0, .int .i64 z])) : EachSay w w' x n l := by
  obtain ⟨hj, rfl⟩ := List.getElem?_eq_some_iff.1 hr
  have h := each_at hj h0 (by rw [hz]; exact hne)
  rw [hz] at h
  refine ⟨.slice none 0 0, [], by rw [hx, h], OwnQ.nil _ _, ?_⟩
  unfold eachL
  rw [h, if_neg hne]
  rfl
theorem each_some {w w' : World} {x : Ending} {n : Nd} {l : List Rg} {v : Value} {L : List PcQ} {B : Nat} (h0 : ∀ r ∈ l, wE1 n r = 0) (hO : OwnQ w' B v L) (hB : w.heap.size ≤ B) (hL : L.map Prod.fst = l.map (wP1 n)) (hx : x = .returned (.tuple #[v, .int .i64 0])) : EachSay w w' x n l := by
  have h := each_zero h0
  refine ⟨v, L, by rw [hx, h], hO.mono hB, ?_⟩
  unfold eachL
  rw [h, if_pos rfl, hL]

set_option maxRecDepth 100000 in
set_option maxHeartbeats 1000000 in
theorem each39 (n : Nd) (p : Pl) (b : Nat) (c : Nat) (l : List Rg) (w : World) (hf : Few n) (h : Lies w n p) (hr : Rgs w b l) (hl : l.length ≤ 100) (hs : ∀ r ∈ l, r.lo.size ≤ 1000 ∧ r.hi.size ≤ 1000) :
    Calls Try.prog 39 #[nv n p, .slice (some ⟨b, 0, none⟩) l.length c] w fun x w' => EachSay w w' x n l ∧ Below w.heap.size w w' := by
  have HW := hid (fun (r : Rg) (hr : r ∈ l) (wr : World) (hb : Below w.heap.size w wr) => whole12 n p r.lo r.hi r.e wr hf (h.later hb) (hs r hr).1 (hs r hr).2)
  have HR := hid (fun (wr : World) (hb : Below w.heap.size w wr) => hr.later hb)
  have HN := hid (fun (w' : World) (x : Ending) (j : Nat) (z : Int) (r : Rg) => @each_none w w' x n l j z r)
  have HS := hid (fun (w' : World) (x : Ending) (v : Value) (L : List PcQ) (B : Nat) => @each_some w w' x n l v L B)
  have A0 := NBox.new w (.bool n.leaf) (.slice p.a1 n.ps.length p.c1) (.slice p.a2 n.pv.length p.c2) (.slice p.a3 n.ks.length p.c3) (.slice p.a4 n.bf.length p.c4)
  have hb0 := below_box w (.cells #[.bool n.leaf, .slice p.a1 n.ps.length p.c1, .slice p.a2 n.pv.length p.c2, .slice p.a3 n.ks.length p.c3, .slice p.a4 n.bf.length p.c4] 27)
  have H1 := hid (fun r => show wE1 n r = wholeE n (rg r.lo r.hi r.e) from rfl)
  have H2 := hid (fun r => show wP1 n r = wholeP n r.lo r.hi r.e from rfl)
  clear h hr hf hs
  have HSay : ∀ (SAY : World → Ending → Prop), Hid (SAY = fun w' x => EachSay w w' x n l) → Calls Try.prog 39 #[nv n p, .slice (some ⟨b, 0, none⟩) l.length c] w fun x w' => SAY w' x ∧ Below w.heap.size w w' := by
    intro SAY HSAY
    obtain ⟨lB, ps, pv, ks, bf⟩ := n
    obtain ⟨a1, c1, a2, c2, a3, c3, a4, c4⟩ := p
    dsimp only [nv] at *
    generalize ps.length = n1 at *
    generalize pv.length = n2 at *
    generalize ks.length = n3 at *
    generalize bf.length = n4 at *
    generalize hll : l.length = ll at *
    have HLL := hid hll
    clear hll
    go_enter Try.func39, Try.ntmps39
    go_upto_region 1 with fail
    generalize w.alloc (.cells #[.bool lB, .slice a1 n1 c1, .slice a2 n2 c2, .slice a3 n3 c3, .slice a4 n4 c4] 27) = w1 at *
    generalize hk0 : w.heap.size = k0 at *
    have HQ0 := hid hk0
    clear hk0
    go_wp2_with fail
    go_loopw [6, 13] (fun v i wr => ∃ (j : Nat) (L : List PcQ), j ≤ ll ∧ i = .int .i64 j ∧ NBox wr k0 (.bool lB) (.slice a1 n1 c1) (.slice a2 n2 c2) (.slice a3 n3 c3) (.slice a4 n4 c4) ∧ OwnQ wr (k0 + 1) v L ∧ L.length = j ∧ Hid (L.map Prod.fst = (l.take j).map (wP1 ⟨lB, ps, pv, ks, bf⟩)) ∧ Hid (∀ r ∈ l.take j, wE1 ⟨lB, ps, pv, ks, bf⟩ r = 0) ∧ Below (k0 + 1) w1 wr) (fun _ i _ => ll - (intOf i).toNat)
    case atStart => exact ⟨0, [], Nat.zero_le _, rfl, A0, OwnQ.nil _ _, rfl, hid (by simp), hid (by simp), Below.refl _ _⟩
    case round =>
      obtain ⟨j, L, hj, rfl, A1, ho, hLj, HM, HZ, hb⟩ := hrel
      by_cases hlt : j < ll
      · have hlt' : j < l.length := by rw [HLL.out]; exact hlt
        have hbw : Below k0 w _ := hb0.trans (hb.mono (by omega))
        obtain ⟨d0, d1, d2⟩ := HR.out _ hbw j hlt'
        obtain ⟨r, HX⟩ : ∃ r, Hid (l[j]? = some r) := ⟨_, hid (List.getElem?_eq_getElem hlt')⟩
        have hre : l[j] = r := by have := HX.out; rw [List.getElem?_eq_getElem hlt'] at this; exact Option.some.inj this
        have HWr := hid (HW.out r (by rw [← hre]; exact List.getElem_mem hlt'))
        have HR1 := hid (H1.out r)
        have HR2 := hid (H2.out r)
        have HREM := hid hre
        rw [hre] at d0 d1 d2
        clear hre
        obtain ⟨rlo, rhi, re⟩ := r
        dsimp only at d0 d1 d2
        simp only [Nat.zero_add] at d0 d1 d2
        have R1 := Box.new wr (.string rlo) (.string rhi) (.bool re)
        have bx := below_box wr (.cells #[.string rlo, .string rhi, .bool re] 29)
        have A2 := A1.later bx
        have ho2 := ho.later bx
        have hAl := A1.lt
        have hb2 := hb.trans (bx.mono (by omega))
        have hbw2 : Below k0 w _ := hb0.trans (hb2.mono (by omega))
        clear A1 ho hb bx hbw
        go_upto_region 5 with fail
        clear d0 d1 d2
        generalize hkr : wr.heap.size = kr at *
        generalize wr.alloc (.cells #[.string rlo, .string rhi, .bool re] 29) = w2 at *
        obtain ⟨r0, r1, r2⟩ := R1.cells
        obtain ⟨m0, m1, m2, m3, m4⟩ := A2.cells
        go_wp2_with fail
        refine (HWr.out w2 hbw2).mono ?_
        rintro x w3 ⟨⟨q, rfl, hN⟩, hb3⟩
        obtain ⟨P, hP⟩ : ∃ P, wholeP ⟨lB, ps, pv, ks, bf⟩ rlo rhi re = P := ⟨_, rfl⟩
        obtain ⟨z, hz⟩ : ∃ z, wholeE ⟨lB, ps, pv, ks, bf⟩ (rg rlo rhi re) = z := ⟨_, rfl⟩
        rw [hP] at hN
        rw [hP, hz]
        have HP := hid hP
        have HZ1 := hid (HR1.out.trans hz)
        clear hP hz HR1 HWr
        have A3 := A2.later hb3
        have ho3 := ho2.later hb3
        have hA3 := A3.lt
        have hR1 := R1.lt
        have hs3 := hb3.size
        replace hb3 := hb2.trans (hb3.mono (by have := hb2.size; omega))
        have hN3 := hN.mono (show k0 + 1 ≤ w2.heap.size by have := A2.lt; omega)
        have Q3 := QBox.new w3 (.string P.lo) (.string P.strip) (.bool P.node.leaf) (.slice q.a1 P.node.ps.length q.c1) (.slice q.a2 P.node.pv.length q.c2) (.slice q.a3 P.node.ks.length q.c3) (.slice q.a4 P.node.bf.length q.c4)
        have by3 := below_box w3 (.cells #[.string P.lo, .string P.strip, .bool P.node.leaf, .slice q.a1 P.node.ps.length q.c1, .slice q.a2 P.node.pv.length q.c2, .slice q.a3 P.node.ks.length q.c3, .slice q.a4 P.node.bf.length q.c4] 36)
        have A4 := A3.later by3
        have ho4 := ho3.later by3
        have hN4 := hN3.later by3
        have hb4 := hb3.trans (by3.mono (by have := hb3.size; omega))
        clear r0 r1 r2 m0 m1 m2 m3 m4 A2 ho2 hb2 A3 ho3 hb3 hN hN3 by3 hbw2
        go_upto_region 6 with fail
        generalize hk3 : w3.heap.size = k3 at *
        generalize w3.alloc (.cells #[.string P.lo, .string P.strip, .bool P.node.leaf, .slice q.a1 P.node.ps.length q.c1, .slice q.a2 P.node.pv.length q.c2, .slice q.a3 P.node.ks.length q.c3, .slice q.a4 P.node.bf.length q.c4] 36) = w4 at *
        by_cases h0 : z = 0
        case neg =>
          have hbw4 : Below k0 w w4 := hb0.trans (hb4.mono (by omega))
          go_wp2_with fail
          refine bodyPost_ret (v := .tuple #[.slice none 0 0, .int .i64 z]) (by simp [results, Try.results39, go_sem]) rfl ⟨?_, ?_⟩
          · rw [HSAY]; exact HN.out _ _ j z _ HX.out HZ HZ1.out h0 rfl
          · rw [HQ0.out]; exact hbw4
        case pos =>
          subst h0
          go_upto_region 8 with fail
          obtain ⟨y0, y1, y2, y3, y4, y5, y6⟩ := Q3.cells
          obtain ⟨bv, dv, cv, hv⟩ := row_slice ho4.row
          subst hv
          have hC := (QBox.new w4 (.string P.lo) (.string P.strip) (.bool P.node.leaf) (.slice q.a1 P.node.ps.length q.c1) (.slice q.a2 P.node.pv.length q.c2) (.slice q.a3 P.node.ks.length q.c3) (.slice q.a4 P.node.bf.length q.c4)).each
          have by4 := below_box w4 (.cells #[.string P.lo, .string P.strip, .bool P.node.leaf, .slice q.a1 P.node.ps.length q.c1, .slice q.a2 P.node.pv.length q.c2, .slice q.a3 P.node.ks.length q.c3, .slice q.a4 P.node.bf.length q.c4] 36)
          have A5 := A4.later by4
          have ho5 := ho4.later by4
          have hN5 := hN4.later by4
          have hb5 := hb4.trans (by4.mono (by have := A4.lt; omega))
          have hL4 : L.length ≤ 100 := by omega
          have hk4 := A4.lt
          have HZ2 := hid (show ∀ r ∈ l.take (j + 1), wE1 ⟨lB, ps, pv, ks, bf⟩ r = 0 from by
            intro r hr
            rw [List.take_succ_eq_append_getElem hlt', List.mem_append, List.mem_singleton] at hr
            rcases hr with hr | rfl
            · exact HZ r hr
            · rw [HREM.out]; exact HZ1.out)
          have HM2 := hid (show (L ++ [(P, q)]).map Prod.fst = (l.take (j + 1)).map (wP1 ⟨lB, ps, pv, ks, bf⟩) from by
            rw [List.take_succ_eq_append_getElem hlt', List.map_append, List.map_append, HM, HREM.out]
            show _ ++ [P] = _ ++ [wP1 _ _]
            rw [HR2.out, HP.out])
          clear A4 hN4 hb4 by4
          go_wp2_with (first | (at_builtin; refine appOne Pc.cells 7 136 42 36 _ (by omega) (fun _ => rfl) Try.underlying42 info36 rfl (by omega) oneQ rfl _ _ rfl (k0 + 1) _ L rfl ho5.row (P, q) w4.heap.size rfl hC (by omega) (by simp; omega) ?_; intro v' w11 h1 h2; have A7 := A5.kept h2 (row_ge ho5.row (Nat.lt_succ_self k0)); have hb7 := hb5.grown h2 (by simp; omega) (fun k hk => (World.ownsRow.lt ho5.row k hk).1); have hO7 := ho5.more (x := (P, q)) hN5 h1 h2; clear y0 y1 y2 y3 y4 y5 y6 A5 ho5 hN5 hb5 h1 h2 hC) | fail)
          go_roundw
          case rel => exact ⟨j + 1, _, by omega, by go_num, A7, hO7, by rw [List.length_append]; simp [hLj], HM2, HZ2, hb7⟩
          case measure => simp [intOf]; omega
      · obtain rfl : j = ll := by omega
        have hbw : Below k0 w wr := hb0.trans (hb.mono (by omega))
        obtain ⟨bv, dv, cv, hv⟩ := row_slice ho.row
        subst hv
        have hT : l.take l.length = l := List.take_length
        rw [← HLL.out] at HM HZ
        rw [hT] at HM HZ
        go_wp2_with fail
        refine bodyPost_ret (v := .tuple #[.slice bv dv cv, .int .i64 0]) (by simp [results, Try.results39, go_sem]) rfl ⟨?_, ?_⟩
        · rw [HSAY]; exact HS.out _ _ _ L (k0 + 1) HZ ho (by omega) HM rfl
        · rw [HQ0.out]; exact hbw
  exact HSay _ (hid rfl)
end Go.Proofs.Ytlkcoaencliajaa.Key

namespace Go.Proofs.Ytlkcoaencliajaa.Key
open Go.RowKit Draw
open Go.Op (bytesLess)
set_option linter.unusedVariables false
set_option linter.unusedSimpArgs false

set_option maxRecDepth 100000 in
set_option maxHeartbeats 600000 in
theorem half54 (n : Nat) (w : World) (hn : n ≤ 1000) : Calls Try.prog 54 #[.int .i64 n] w fun x w' => x = .returned (.int .i64 (halfN n)) ∧ w' = w := by
  have HH := hid (show ((halfN n : Nat) : Int) = ((n : Int) + 1) / 2 by
    unfold halfN
    omega)
  go_enter Try.func54, Try.ntmps54
  go_wp2_with fail
  go_ret
  exact ⟨by rw [HH.out]; rfl, rfl⟩

set_option maxRecDepth 100000 in
set_option maxHeartbeats 600000 in
theorem mid30 (a : Option Addr) (c : Nat) (ps : List Pr) (w : World) (hl : ps.length ≤ 1000) (h : Prs w a ps) (hk : ∀ x ∈ ps, x.key.size ≤ 1000) :
    Calls Try.prog 30 #[.slice a ps.length c] w fun x w' => x = .returned (.tuple #[.string (if 2 ≤ ps.length then midL ps else ⟨#[]⟩), .bool (decide (2 ≤ ps.length))]) ∧ Below w.heap.size w w' := by
  by_cases h2 : 2 ≤ ps.length
  case neg =>
    rw [if_neg h2, decide_eq_false h2]
    have e : (ps.length : Int) < 2 := by omega
    clear h hk
    generalize ps.length = n1 at *
    go_enter Try.func30, Try.ntmps30
    go_wp2_with fail
    exact bodyPost_ret (v := .tuple #[.string ⟨#[]⟩, .bool false]) (by simp [results, Try.results30, go_sem]) rfl ⟨rfl, Below.refl _ _⟩
  case pos =>
  rw [if_pos h2, decide_eq_true h2]
  obtain ⟨h0, h1⟩ := half_lt h2
  have HH := hid (fun w => half54 ps.length w hl)
  have e : ¬ (ps.length : Int) < 2 := by omega
  have hM : midL ps = str (between (keyAt ps (halfN ps.length - 1)).data.toList (keyAt ps (halfN ps.length)).data.toList) := rfl
  obtain ⟨i, hi⟩ : ∃ i, halfN ps.length = i + 1 := ⟨halfN ps.length - 1, by omega⟩
  rw [hi] at hM h1 HH
  rw [keyAt_at h1, Nat.add_sub_cancel, keyAt_at (by omega)] at hM
  obtain ⟨b, off, rfl, T0, T1⟩ := h.at2 (show i < ps.length by omega) h1
  have HB := hid (fun w => between17 ps[i].key ps[i + 1].key w (Nat.le_trans (hk _ (List.getElem_mem _)) (by decide)) (Nat.le_trans (hk _ (List.getElem_mem _)) (by decide)))
  rw [← hM] at HB
  generalize midL ps = ML at *
  generalize ps[i] = x at *
  generalize ps[i + 1] = y at *
  have hi1 : ((i + 1 : Nat) : Int) = (i : Int) + 1 := rfl
  have e1 : ((i : Int) + 1) < (ps.length : Int) := by omega
  have e2 : (i : Int) < (ps.length : Int) := by omega
  have e4 : 0 ≤ (i : Int) + 1 := by omega
  have e3 : IntKind.i64.wrap (i : Int) = (i : Int) := by rw [IntKind.wrap_i64]; omega
  rw [hi1] at HH
  clear h hk hM hi h0 h2
  generalize ps.length = n1 at *
  go_enter Try.func30, Try.ntmps30
  go_wp2_with fail
  refine (HH.out _).mono ?_
  rintro v w1 ⟨rfl, rfl⟩
  go_upto_region 4 with fail
  refine wp_region_quiet (C := fun u => Below w1.heap.size w1 u) (by kernel_rfl) (by kernel_rfl) (Below.refl _ w1).drew ?_
  change wpQuiet _ _ _ _ (_ :: _) _
  repeat
    first
      | go_big_quiet_skip
      | go_big_quiet_want
        first
          | refine quiet_v ?_ ?_ ?_
            rotate_left
            · intro u hu
              obtain ⟨m0, m1⟩ := T0.below hu T0.lt
              obtain ⟨z0, z1⟩ := T1.below hu T1.lt
              go_simp
              with_reducible rfl
          | refine quiet_c (.string ML) 55 #[.string x.key, .string y.key] ?_ (fun u hu => (HB.out u).mono fun x u' h => ⟨h.1, hu.trans (h.2.mono hu.size)⟩) ?_
            · intro u hu
              go_simp
              done
        go_simp
        go_big_quiet_on
  refine wpQuiet_nil (fun u hu => ?_)
  go_wp2_with fail
  exact bodyPost_ret (v := .tuple #[.string ML, .bool true]) (by simp [results, Try.results30, go_sem]) rfl ⟨rfl, hu⟩

set_option maxRecDepth 100000 in
set_option maxHeartbeats 600000 in
theorem mid31 (n : Nd) (p : Pl) (w : World) (hl : n.ks.length ≤ 1000) (hlen : n.pv.length + 1 = n.ks.length) (h : Txts w p.a2 n.pv) :
    Calls Try.prog 31 #[nv n p] w fun x w' => x = .returned (.tuple #[.string (if 2 ≤ n.ks.length then midK n else ⟨#[]⟩), .bool (decide (2 ≤ n.ks.length))]) ∧ Below w.heap.size w w' := by
  obtain ⟨lB, ps, pv, ks, bf⟩ := n
  obtain ⟨a1, c1, a2, c2, a3, c3, a4, c4⟩ := p
  dsimp only [nv] at *
  by_cases h2 : 2 ≤ ks.length
  case neg =>
    rw [if_neg h2, decide_eq_false h2]
    have e : (ks.length : Int) < 2 := by omega
    clear h hlen
    generalize ps.length = n1 at *
    generalize pv.length = n2 at *
    generalize ks.length = n3 at *
    generalize bf.length = n4 at *
    go_enter Try.func31, Try.ntmps31
    go_wp2_with fail
    exact bodyPost_ret (v := .tuple #[.string ⟨#[]⟩, .bool false]) (by simp [results, Try.results31, go_sem]) rfl ⟨rfl, below_box _ _⟩
  case pos =>
  rw [if_pos h2, decide_eq_true h2]
  obtain ⟨h0, h1⟩ := half_lt h2
  have HH := hid (fun w => half54 ks.length w hl)
  have e : ¬ (ks.length : Int) < 2 := by omega
  have hM : midK ⟨lB, ps, pv, ks, bf⟩ = ahead pv (halfN ks.length) := rfl
  obtain ⟨i, hi⟩ : ∃ i, halfN ks.length = i + 1 := ⟨halfN ks.length - 1, by omega⟩
  rw [hi] at hM h1 HH
  have hip : i < pv.length := by omega
  rw [ahead_at hip] at hM
  obtain ⟨b, off, rfl, T0⟩ := h.at hip
  rw [← hM] at T0
  generalize midK ⟨lB, ps, pv, ks, bf⟩ = ML at *
  have hi1 : ((i + 1 : Nat) : Int) = (i : Int) + 1 := rfl
  have e2 : (i : Int) < (pv.length : Int) := by omega
  have e3 : IntKind.i64.wrap (i : Int) = (i : Int) := by rw [IntKind.wrap_i64]; omega
  rw [hi1] at HH
  have A0 := NBox.new w (.bool lB) (.slice a1 ps.length c1) (.slice (some ⟨b, off, none⟩) pv.length c2) (.slice a3 ks.length c3) (.slice a4 bf.length c4)
  have hb0 := below_box w (.cells #[.bool lB, .slice a1 ps.length c1, .slice (some ⟨b, off, none⟩) pv.length c2, .slice a3 ks.length c3, .slice a4 bf.length c4] 27)
  have T1 := (hb0.cell (p := ⟨b, off + i, none⟩) (World.block_lt_of_cell? w _ T0)).trans T0
  clear h hM hi h0 h2 hlen T0 h1
  generalize ps.length = n1 at *
  generalize pv.length = n2 at *
  generalize ks.length = n3 at *
  generalize bf.length = n4 at *
  go_enter Try.func31, Try.ntmps31
  go_upto_region 1 with fail
  generalize w.alloc (.cells #[.bool lB, .slice a1 n1 c1, .slice (some ⟨b, off, none⟩) n2 c2, .slice a3 n3 c3, .slice a4 n4 c4] 27) = w1 at *
  obtain ⟨c0, c1, c2, c3, c4⟩ := A0.cells
  go_upto_region 3 with fail
  clear c0 c1 c2 c3 c4
  refine wp_region_quiet (C := fun u => Below w1.heap.size w1 u) (by kernel_rfl) (by kernel_rfl) (Below.refl _ w1).drew ?_
  change wpQuiet _ _ _ _ (_ :: _) _
  repeat
    first
      | go_big_quiet_skip
      | go_big_quiet_want
        first
          | refine quiet_v ?_ ?_ ?_
            rotate_left
            · intro u hu
              obtain ⟨m0, m1, m2, m3, m4⟩ := (A0.later hu).cells
              have z0 := (hu.cell (p := ⟨b, off + i, none⟩) (World.block_lt_of_cell? w1 _ T1)).trans T1
              go_simp
              with_reducible rfl
          | refine quiet_c (.int .i64 ((i : Int) + 1)) 54 #[.int .i64 n3] ?_ (fun u hu => (HH.out u).mono fun x u' h => ⟨h.1, by rw [h.2]; exact hu⟩) ?_
            · intro u hu
              go_simp
              done
        go_simp
        go_big_quiet_on
  refine wpQuiet_nil (fun u hu => ?_)
  go_wp2_with fail
  exact bodyPost_ret (v := .tuple #[.string ML, .bool true]) (by simp [results, Try.results31, go_sem]) rfl ⟨rfl, hb0.trans (hu.mono hb0.size)⟩

set_option maxRecDepth 100000 in
set_option maxHeartbeats 600000 in
/-- Mid, the program's -/
theorem mid10 (n : Nd) (p : Pl) (w : World) (hf : Few n) (h : Lies w n p) :
    Calls Try.prog 10 #[nv n p] w fun x w' => x = .returned (.tuple #[.string (midS n), .bool (midB n)]) ∧ Below w.heap.size w w' := by
  have hb0 := below_box w (.cells #[.bool n.leaf, .slice p.a1 n.ps.length p.c1, .slice p.a2 n.pv.length p.c2, .slice p.a3 n.ks.length p.c3, .slice p.a4 n.bf.length p.c4] 27)
  have A0 := NBox.new w (.bool n.leaf) (.slice p.a1 n.ps.length p.c1) (.slice p.a2 n.pv.length p.c2) (.slice p.a3 n.ks.length p.c3) (.slice p.a4 n.bf.length p.c4)
  have HM := hid (fun (wr : World) (hb : Below w.heap.size w wr) => may12 n p wr hf (h.later hb))
  by_cases hm : mayI n = 0
  case neg =>
    have HS := hid (show midS n = ⟨#[]⟩ ∧ midB n = false from by
      have : midB n = false := by unfold midB; rw [if_neg hm]
      exact ⟨by unfold midS; rw [this]; rfl, this⟩)
    generalize midS n = MS at *
    generalize midB n = MB at *
    have e : mayI n ≠ 0 := hm
    generalize mayI n = MI at *
    clear h hf
    obtain ⟨lB, ps, pv, ks, bf⟩ := n
    obtain ⟨a1, c1, a2, c2, a3, c3, a4, c4⟩ := p
    dsimp only [nv] at *
    generalize ps.length = n1 at *
    generalize pv.length = n2 at *
    generalize ks.length = n3 at *
    generalize bf.length = n4 at *
    go_enter Try.func10, Try.ntmps10
    obtain ⟨z0, z1, z2, z3, z4⟩ := A0.cells
    go_wp2_with fail
    refine (HM.out _ hb0).mono ?_
    rintro x w1 ⟨rfl, hb1⟩
    clear z0 z1 z2 z3 z4
    go_wp2_with fail
    exact bodyPost_ret (v := .tuple #[.string ⟨#[]⟩, .bool false]) (by simp [results, Try.results10, go_sem]) rfl ⟨by rw [HS.out.1, HS.out.2], hb0.trans (hb1.mono hb0.size)⟩
  case pos =>
  rw [hm] at HM
  cases hl : n.leaf
  case false =>
    obtain ⟨hlen, _⟩ := may_fork hm hl
    have HK := hid (fun (wr : World) (hb : Below w.heap.size w wr) => mid31 n p wr hf.l3 hlen (h.later hb).h2)
    have HS := hid (show midS n = (if 2 ≤ n.ks.length then midK n else ⟨#[]⟩) ∧ midB n = decide (2 ≤ n.ks.length) from by
      have : midB n = decide (2 ≤ n.ks.length) := by unfold midB; rw [if_pos hm, hl]; rfl
      refine ⟨?_, this⟩
      unfold midS
      rw [this, hl]
      by_cases e : 2 ≤ n.ks.length
      · rw [decide_eq_true e, if_pos rfl, if_pos e]; rfl
      · rw [decide_eq_false e, if_neg e]; rfl)
    rw [← HS.out.1, ← HS.out.2] at HK
    generalize midS n = MS at *
    generalize midB n = MB at *
    clear h hf hm HS
    obtain ⟨lB, ps, pv, ks, bf⟩ := n
    obtain ⟨a1, c1, a2, c2, a3, c3, a4, c4⟩ := p
    dsimp only [nv] at *
    subst hl
    clear hlen
    generalize ps.length = n1 at *
    generalize pv.length = n2 at *
    generalize ks.length = n3 at *
    generalize bf.length = n4 at *
    go_enter Try.func10, Try.ntmps10
    obtain ⟨z0, z1, z2, z3, z4⟩ := A0.cells
    go_wp2_with fail
    refine (HM.out _ hb0).mono ?_
    rintro x w1 ⟨rfl, hb1⟩
    have A1 := A0.later hb1
    replace hb1 := hb0.trans (hb1.mono hb0.size)
    clear z0 z1 z2 z3 z4
    obtain ⟨z0, z1, z2, z3, z4⟩ := A1.cells
    go_wp2_with fail
    refine (HK.out _ hb1).mono ?_
    rintro x w2 ⟨rfl, hb2⟩
    clear z0 z1 z2 z3 z4
    go_wp2_with fail
    exact bodyPost_ret (v := .tuple #[.string MS, .bool MB]) (by simp [results, Try.results10, go_sem]) rfl ⟨rfl, hb1.trans (hb2.mono hb1.size)⟩
  case true =>
    have hk : ∀ x ∈ n.ps, x.key.size ≤ 1000 := by
      intro x hx
      have hb := (may_iff.1 hm).2
      unfold fineB at hb
      rw [hl, if_pos rfl] at hb
      have := (leaf_iff.1 hb).2.2.2.1 x hx
      unfold okP at this
      rw [Bool.and_eq_true, decide_eq_true_iff] at this
      omega
    have HK := hid (fun (wr : World) (hb : Below w.heap.size w wr) => mid30 p.a1 p.c1 n.ps wr hf.l1 (h.later hb).h1 hk)
    have HS := hid (show midS n = (if 2 ≤ n.ps.length then midL n.ps else ⟨#[]⟩) ∧ midB n = decide (2 ≤ n.ps.length) from by
      have : midB n = decide (2 ≤ n.ps.length) := by unfold midB; rw [if_pos hm, hl]; rfl
      refine ⟨?_, this⟩
      unfold midS
      rw [this, hl]
      by_cases e : 2 ≤ n.ps.length
      · rw [decide_eq_true e, if_pos rfl, if_pos e]; rfl
      · rw [decide_eq_false e, if_neg e]; rfl)
    rw [← HS.out.1, ← HS.out.2] at HK
    generalize midS n = MS at *
    generalize midB n = MB at *
    clear h hf hm HS hk
    obtain ⟨lB, ps, pv, ks, bf⟩ := n
    obtain ⟨a1, c1, a2, c2, a3, c3, a4, c4⟩ := p
    dsimp only [nv] at *
    subst hl
    generalize ps.length = n1 at *
    generalize pv.length = n2 at *
    generalize ks.length = n3 at *
    generalize bf.length = n4 at *
    go_enter Try.func10, Try.ntmps10
    obtain ⟨z0, z1, z2, z3, z4⟩ := A0.cells
    go_wp2_with fail
    refine (HM.out _ hb0).mono ?_
    rintro x w1 ⟨rfl, hb1⟩
    have A1 := A0.later hb1
    replace hb1 := hb0.trans (hb1.mono hb0.size)
    clear z0 z1 z2 z3 z4
    obtain ⟨z0, z1, z2, z3, z4⟩ := A1.cells
    go_wp2_with fail
    refine (HK.out _ hb1).mono ?_
    rintro x w2 ⟨rfl, hb2⟩
    clear z0 z1 z2 z3 z4
    go_wp2_with fail
    exact bodyPost_ret (v := .tuple #[.string MS, .bool MB]) (by simp [results, Try.results10, go_sem]) rfl ⟨rfl, hb1.trans (hb2.mono hb1.size)⟩
end Go.Proofs.Ytlkcoaencliajaa.Key

namespace Go.Proofs.Ytlkcoaencliajaa.Key
open Go.RowKit Draw
open Go.Op (bytesLess)
set_option linter.unusedVariables false
set_option linter.unusedSimpArgs false

/-- pieces and an error's number, as they are handed back -/
def ListSay (w w' : World) (x : Ending) (L : List Pc) (z : Int) : Prop :=
  ∃ v L', x = .returned (.tuple #[v, .int .i64 z]) ∧ OwnQ w' w.heap.size v L' ∧ L'.map Prod.fst = L
theorem list_none {w w' : World} {x : Ending} {L : List Pc} {z z' : Int} (hz : z = z') (hL : L = []) (hx : x = .returned (.tuple #[.slice none 0 0, .int .i64 z'])) : ListSay w w' x L z := by
  subst hz hL
  exact ⟨_, [], hx, OwnQ.nil _ _, rfl⟩
theorem list_each {w w0 w' : World} {x : Ending} {n : Nd} {l : List Rg} {L : List Pc} {z : Int} (hz : eachE n l = z) (hL : eachL n l = L) (hw : w0.heap.size ≤ w.heap.size) (h : EachSay w w' x n l) : ListSay w0 w' x L z := by
  obtain ⟨v, L', hx, hO, he⟩ := h
  subst hz hL
  exact ⟨v, L', hx, hO.mono hw, he⟩
theorem halves_each {n : Nd} {lo hi : ByteArray} {e : Bool} (hm : mayI n = 0) (hg : goodB n lo hi e = true) :
    eachE n [⟨lo, midS n, true⟩, ⟨midS n, hi, e⟩] = halvesE n lo hi e ∧ eachL n [⟨lo, midS n, true⟩, ⟨midS n, hi, e⟩] = halvesL n lo hi e := by
  have h : eachE n [⟨lo, midS n, true⟩, ⟨midS n, hi, e⟩] = halvesE n lo hi e := by
    unfold halvesE
    rw [if_pos hm, if_pos hg]
    show (if wholeE n (rg lo (midS n) true) = 0 then (if wholeE n (rg (midS n) hi e) = 0 then 0 else wholeE n (rg (midS n) hi e)) else wholeE n (rg lo (midS n) true)) = _
    by_cases h1 : wholeE n (rg (midS n) hi e) = 0
    · rw [if_pos h1, h1]
    · rw [if_neg h1]
  refine ⟨h, ?_⟩
  unfold eachL halvesL
  rw [h]
  rfl
theorem one_list (n : Nd) (lo hi : ByteArray) (e : Bool) : eachE n [⟨lo, hi, e⟩] = wholeE n (rg lo hi e) ∧ eachL n [⟨lo, hi, e⟩] = oneL n lo hi e := by
  have h : eachE n [⟨lo, hi, e⟩] = wholeE n (rg lo hi e) := by
    show (if wholeE n (rg lo hi e) = 0 then 0 else wholeE n (rg lo hi e)) = _
    by_cases h1 : wholeE n (rg lo hi e) = 0
    · rw [if_pos h1, h1]
    · rw [if_neg h1]
  refine ⟨h, ?_⟩
  unfold eachL oneL
  rw [h]
  rfl
theorem mid_size {n : Nd} (h : mayI n = 0) : (midS n).size ≤ 16 := by
  unfold midS
  split
  · rename_i hm
    have hb := (may_iff.1 h).2
    unfold fineB at hb
    unfold midB at hm
    rw [if_pos h] at hm
    cases hl : n.leaf
    · rw [hl, if_neg (by simp)] at hb hm
      obtain ⟨_, h2, h3, _, _⟩ := fork_iff.1 hb
      obtain ⟨h0, h1⟩ := half_lt (of_decide_eq_true hm)
      rw [if_neg (by simp)]
      unfold midK
      rw [show halfN n.ks.length = halfN n.ks.length - 1 + 1 by omega, ahead_at (show halfN n.ks.length - 1 < n.pv.length by omega)]
      exact ((piv_iff.1 h3).2 _ (List.getElem_mem _)).2
    · rw [hl, if_pos rfl] at hb hm
      obtain ⟨_, _, _, h4, h5⟩ := leaf_iff.1 hb
      rw [if_pos rfl]
      obtain ⟨_, _, h6⟩ := mid_two h5 (of_decide_eq_true hm)
      obtain ⟨_, h1⟩ := half_lt (of_decide_eq_true hm)
      rw [keyAt_at h1] at h6
      have := h4 _ (List.getElem_mem h1)
      unfold okP at this
      rw [Bool.and_eq_true, decide_eq_true_iff] at this
      omega
  · show 0 ≤ 16
    omega
theorem boxes_nr (w : World) (v0 v1 v2 v3 v4 r0 r1 r2 : Value) :
    NBox ((w.alloc (.cells #[v0, v1, v2, v3, v4] 27)).alloc (.cells #[r0, r1, r2] 29)) w.heap.size v0 v1 v2 v3 v4 ∧ Box ((w.alloc (.cells #[v0, v1, v2, v3, v4] 27)).alloc (.cells #[r0, r1, r2] 29)) (w.heap.size + 1) r0 r1 r2 ∧
    Below w.heap.size w ((w.alloc (.cells #[v0, v1, v2, v3, v4] 27)).alloc (.cells #[r0, r1, r2] 29)) := by
  have h1 := Box.new (w.alloc (.cells #[v0, v1, v2, v3, v4] 27)) r0 r1 r2
  rw [show (w.alloc (.cells #[v0, v1, v2, v3, v4] 27)).heap.size = w.heap.size + 1 by simp] at h1
  exact ⟨(NBox.new w v0 v1 v2 v3 v4).alloc _, h1, (below_box w _).alloc (by simp) _⟩
theorem rgs_two (w : World) (a b c d : ByteArray) (e f : Bool) : Rgs (w.alloc (.cells #[.string a, .string b, .bool e, .string c, .string d, .bool f] 29)) w.heap.size [⟨a, b, e⟩, ⟨c, d, f⟩] := by
  have h : (w.alloc (.cells #[.string a, .string b, .bool e, .string c, .string d, .bool f] 29)).heap[w.heap.size]? = some (.cells #[.string a, .string b, .bool e, .string c, .string d, .bool f] 29 (0, 0)) := Go.heap_alloc_new _ _
  intro i hi
  match i, hi with
  | 0, _ => exact ⟨cell_of_row _ _ 0 _ _ _ h, cell_of_row _ _ 1 _ _ _ h, cell_of_row _ _ 2 _ _ _ h⟩
  | 1, _ => exact ⟨cell_of_row _ _ 3 _ _ _ h, cell_of_row _ _ 4 _ _ _ h, cell_of_row _ _ 5 _ _ _ h⟩
theorem rgs_one (w : World) (a b : ByteArray) (e : Bool) : Rgs (w.alloc (.cells #[.string a, .string b, .bool e] 29)) w.heap.size [⟨a, b, e⟩] := by
  have h : (w.alloc (.cells #[.string a, .string b, .bool e] 29)).heap[w.heap.size]? = some (.cells #[.string a, .string b, .bool e] 29 (0, 0)) := Go.heap_alloc_new _ _
  intro i hi
  match i, hi with
  | 0, _ => exact ⟨cell_of_row _ _ 0 _ _ _ h, cell_of_row _ _ 1 _ _ _ h, cell_of_row _ _ 2 _ _ _ h⟩

set_option maxRecDepth 100000 in
set_option maxHeartbeats 1000000 in
theorem halves14 (n : Nd) (p : Pl) (lo hi : ByteArray) (e : Bool) (w : World) (hf : Few n) (h : Lies w n p) (hlo : lo.size ≤ 1000) (hhi : hi.size ≤ 1000) :
    Calls Try.prog 14 #[nv n p, av lo hi e] w fun x w' => ListSay w w' x (halvesL n lo hi e) (halvesE n lo hi e) ∧ Below w.heap.size w w' := by
  have HM := hid (fun (wr : World) (hb : Below w.heap.size w wr) => may12 n p wr hf (h.later hb))
  have HD := hid (fun (wr : World) (hb : Below w.heap.size w wr) => mid10 n p wr hf (h.later hb))
  obtain ⟨A0, R0, hb0⟩ := boxes_nr w (.bool n.leaf) (.slice p.a1 n.ps.length p.c1) (.slice p.a2 n.pv.length p.c2) (.slice p.a3 n.ks.length p.c3) (.slice p.a4 n.bf.length p.c4) (.string lo) (.string hi) (.bool e)
  by_cases hm : mayI n = 0
  case neg =>
    have HE := hid (show halvesE n lo hi e = 3 ∧ halvesL n lo hi e = [] from by
      have : halvesE n lo hi e = 3 := by unfold halvesE; rw [if_neg hm]
      exact ⟨this, by unfold halvesL; rw [this]; rfl⟩)
    have hmz : mayI n ≠ 0 := hm
    generalize mayI n = MI at *
    generalize halvesE n lo hi e = ZE at *
    generalize halvesL n lo hi e = ZL at *
    clear HD h hf hm
    obtain ⟨lB, ps, pv, ks, bf⟩ := n
    obtain ⟨a1, c1, a2, c2, a3, c3, a4, c4⟩ := p
    dsimp only [nv] at *
    generalize ps.length = n1 at *
    generalize pv.length = n2 at *
    generalize ks.length = n3 at *
    generalize bf.length = n4 at *
    go_enter Try.func14, Try.ntmps14
    go_upto_region 1 with fail
    generalize (w.alloc (.cells #[.bool lB, .slice a1 n1 c1, .slice a2 n2 c2, .slice a3 n3 c3, .slice a4 n4 c4] 27)).alloc (.cells #[.string lo, .string hi, .bool e] 29) = w2 at *
    generalize hk0 : w.heap.size = k0 at *
    generalize hk1 : k0 + 1 = k1 at *
    have HQ0 := hid hk0
    have HQ := hid hk1
    clear hk0 hk1
    have hkk := HQ.out
    obtain ⟨m0, m1, m2, m3, m4⟩ := A0.cells
    go_wp2_with fail
    refine (HM.out _ hb0).mono ?_
    rintro x w3 ⟨rfl, hb3⟩
    have A3 := A0.later hb3
    have R3 := R0.later hb3
    replace hb3 := hb0.trans (hb3.mono (by have := R0.lt; omega))
    clear HM m0 m1 m2 m3 m4 A0 R0
    go_wp2_with fail
    refine bodyPost_ret (v := .tuple #[.slice none 0 0, .int .i64 3]) (by simp [results, Try.results14, go_sem]) rfl ⟨list_none HE.out.1 HE.out.2 rfl, ?_⟩
    rw [HQ0.out]; exact hb3
  case pos =>
  have HI := hid (fun wr => in32 lo hi (midS n) e wr)
  have hms := mid_size hm
  have HG := hid (show goodB n lo hi e = (midB n && (inR (rg lo hi e) (midS n).data.toList && !((midS n).data.toList == lo.data.toList))) from rfl)
  have HE1 := hid (fun (hg : goodB n lo hi e = false) => show halvesE n lo hi e = 1 ∧ halvesL n lo hi e = [] from by
    have : halvesE n lo hi e = 1 := by unfold halvesE; rw [if_pos hm, if_neg (by rw [hg]; simp)]
    exact ⟨this, by unfold halvesL; rw [this]; rfl⟩)
  have HE2 := hid (fun (hg : goodB n lo hi e = true) => halves_each hm hg)
  have HEa := hid (fun (wr : World) (b c : Nat) (hb : Below w.heap.size w wr) (hr : Rgs wr b [⟨lo, midS n, true⟩, ⟨midS n, hi, e⟩]) => each39 n p b c [⟨lo, midS n, true⟩, ⟨midS n, hi, e⟩] wr hf (h.later hb) hr (by simp) (by
    intro r hr
    simp only [List.mem_cons, List.not_mem_nil, or_false] at hr
    rcases hr with rfl | rfl
    · exact ⟨hlo, by show (midS n).size ≤ 1000; omega⟩
    · exact ⟨by show (midS n).size ≤ 1000; omega, hhi⟩))
  rw [hm] at HM
  generalize halvesE n lo hi e = ZE at *
  generalize halvesL n lo hi e = ZL at *
  generalize goodB n lo hi e = GB at *
  generalize midS n = MS at *
  generalize midB n = MB at *
  rw [show (MS.data.toList == lo.data.toList) = (MS.toList == lo.toList) by rw [Lib.toList_data, Lib.toList_data]] at HG
  clear h hf hm
  cases MB
  case false =>
    have HE := hid (HE1.out (by rw [HG.out]; rfl))
    clear HE1 HE2 HEa HI HG
    obtain ⟨lB, ps, pv, ks, bf⟩ := n
    obtain ⟨a1, c1, a2, c2, a3, c3, a4, c4⟩ := p
    dsimp only [nv] at *
    generalize ps.length = n1 at *
    generalize pv.length = n2 at *
    generalize ks.length = n3 at *
    generalize bf.length = n4 at *
    go_enter Try.func14, Try.ntmps14
    go_upto_region 1 with fail
    generalize (w.alloc (.cells #[.bool lB, .slice a1 n1 c1, .slice a2 n2 c2, .slice a3 n3 c3, .slice a4 n4 c4] 27)).alloc (.cells #[.string lo, .string hi, .bool e] 29) = w2 at *
    generalize hk0 : w.heap.size = k0 at *
    generalize hk1 : k0 + 1 = k1 at *
    have HQ0 := hid hk0
    have HQ := hid hk1
    clear hk0 hk1
    have hkk := HQ.out
    obtain ⟨m0, m1, m2, m3, m4⟩ := A0.cells
    go_wp2_with fail
    refine (HM.out _ hb0).mono ?_
    rintro x w3 ⟨rfl, hb3⟩
    have A3 := A0.later hb3
    have R3 := R0.later hb3
    replace hb3 := hb0.trans (hb3.mono (by have := R0.lt; omega))
    clear HM m0 m1 m2 m3 m4 A0 R0
    obtain ⟨m0, m1, m2, m3, m4⟩ := A3.cells
    obtain ⟨r0, r1, r2⟩ := R3.cells
    go_wp2_with fail
    refine (HD.out _ hb3).mono ?_
    rintro x w4 ⟨rfl, hb4⟩
    have A4 := A3.later hb4
    have R4 := R3.later hb4
    replace hb4 := hb3.trans (hb4.mono (by have := R3.lt; omega))
    clear HD m0 m1 m2 m3 m4 r0 r1 r2 A3 R3
    obtain ⟨m0, m1, m2, m3, m4⟩ := A4.cells
    obtain ⟨r0, r1, r2⟩ := R4.cells
    go_wp2_with fail
    refine bodyPost_ret (v := .tuple #[.slice none 0 0, .int .i64 1]) (by simp [results, Try.results14, go_sem]) rfl ⟨list_none HE.out.1 HE.out.2 rfl, ?_⟩
    rw [HQ0.out]; exact hb4
  case true =>
  cases g1 : inR (rg lo hi e) MS.data.toList
  case false =>
    have HE := hid (HE1.out (by rw [HG.out, g1]; rfl))
    rw [g1] at HI
    clear HE1 HE2 HEa HG g1
    obtain ⟨lB, ps, pv, ks, bf⟩ := n
    obtain ⟨a1, c1, a2, c2, a3, c3, a4, c4⟩ := p
    dsimp only [nv] at *
    generalize ps.length = n1 at *
    generalize pv.length = n2 at *
    generalize ks.length = n3 at *
    generalize bf.length = n4 at *
    go_enter Try.func14, Try.ntmps14
    go_upto_region 1 with fail
    generalize (w.alloc (.cells #[.bool lB, .slice a1 n1 c1, .slice a2 n2 c2, .slice a3 n3 c3, .slice a4 n4 c4] 27)).alloc (.cells #[.string lo, .string hi, .bool e] 29) = w2 at *
    generalize hk0 : w.heap.size = k0 at *
    generalize hk1 : k0 + 1 = k1 at *
    have HQ0 := hid hk0
    have HQ := hid hk1
    clear hk0 hk1
    have hkk := HQ.out
    obtain ⟨m0, m1, m2, m3, m4⟩ := A0.cells
    go_wp2_with fail
    refine (HM.out _ hb0).mono ?_
    rintro x w3 ⟨rfl, hb3⟩
    have A3 := A0.later hb3
    have R3 := R0.later hb3
    replace hb3 := hb0.trans (hb3.mono (by have := R0.lt; omega))
    clear HM m0 m1 m2 m3 m4 A0 R0
    obtain ⟨m0, m1, m2, m3, m4⟩ := A3.cells
    obtain ⟨r0, r1, r2⟩ := R3.cells
    go_wp2_with fail
    refine (HD.out _ hb3).mono ?_
    rintro x w4 ⟨rfl, hb4⟩
    have A4 := A3.later hb4
    have R4 := R3.later hb4
    replace hb4 := hb3.trans (hb4.mono (by have := R3.lt; omega))
    clear HD m0 m1 m2 m3 m4 r0 r1 r2 A3 R3
    obtain ⟨m0, m1, m2, m3, m4⟩ := A4.cells
    obtain ⟨r0, r1, r2⟩ := R4.cells
    go_wp2_with fail
    refine (HI.out _).mono ?_
    rintro x w5 ⟨rfl, hb5⟩
    have A5 := A4.later hb5
    have R5 := R4.later hb5
    replace hb5 := hb4.trans (hb5.mono (by have := R4.lt; omega))
    clear HI m0 m1 m2 m3 m4 r0 r1 r2 A4 R4
    obtain ⟨m0, m1, m2, m3, m4⟩ := A5.cells
    obtain ⟨r0, r1, r2⟩ := R5.cells
    go_wp2_with fail
    refine bodyPost_ret (v := .tuple #[.slice none 0 0, .int .i64 1]) (by simp [results, Try.results14, go_sem]) rfl ⟨list_none HE.out.1 HE.out.2 rfl, ?_⟩
    rw [HQ0.out]; exact hb5
  case true =>
  cases g2 : (MS.toList == lo.toList)
  case true =>
    have HE := hid (HE1.out (by rw [HG.out, g1, g2]; rfl))
    rw [g1] at HI
    clear HE1 HE2 HEa HG g1
    obtain ⟨lB, ps, pv, ks, bf⟩ := n
    obtain ⟨a1, c1, a2, c2, a3, c3, a4, c4⟩ := p
    dsimp only [nv] at *
    generalize ps.length = n1 at *
    generalize pv.length = n2 at *
    generalize ks.length = n3 at *
    generalize bf.length = n4 at *
    go_enter Try.func14, Try.ntmps14
    go_upto_region 1 with fail
    generalize (w.alloc (.cells #[.bool lB, .slice a1 n1 c1, .slice a2 n2 c2, .slice a3 n3 c3, .slice a4 n4 c4] 27)).alloc (.cells #[.string lo, .string hi, .bool e] 29) = w2 at *
    generalize hk0 : w.heap.size = k0 at *
    generalize hk1 : k0 + 1 = k1 at *
    have HQ0 := hid hk0
    have HQ := hid hk1
    clear hk0 hk1
    have hkk := HQ.out
    obtain ⟨m0, m1, m2, m3, m4⟩ := A0.cells
    go_wp2_with fail
    refine (HM.out _ hb0).mono ?_
    rintro x w3 ⟨rfl, hb3⟩
    have A3 := A0.later hb3
    have R3 := R0.later hb3
    replace hb3 := hb0.trans (hb3.mono (by have := R0.lt; omega))
    clear HM m0 m1 m2 m3 m4 A0 R0
    obtain ⟨m0, m1, m2, m3, m4⟩ := A3.cells
    obtain ⟨r0, r1, r2⟩ := R3.cells
    go_wp2_with fail
    refine (HD.out _ hb3).mono ?_
    rintro x w4 ⟨rfl, hb4⟩
    have A4 := A3.later hb4
    have R4 := R3.later hb4
    replace hb4 := hb3.trans (hb4.mono (by have := R3.lt; omega))
    clear HD m0 m1 m2 m3 m4 r0 r1 r2 A3 R3
    obtain ⟨m0, m1, m2, m3, m4⟩ := A4.cells
    obtain ⟨r0, r1, r2⟩ := R4.cells
    go_wp2_with fail
    refine (HI.out _).mono ?_
    rintro x w5 ⟨rfl, hb5⟩
    have A5 := A4.later hb5
    have R5 := R4.later hb5
    replace hb5 := hb4.trans (hb5.mono (by have := R4.lt; omega))
    clear HI m0 m1 m2 m3 m4 r0 r1 r2 A4 R4
    obtain ⟨m0, m1, m2, m3, m4⟩ := A5.cells
    obtain ⟨r0, r1, r2⟩ := R5.cells
    go_wp2_with fail
    refine bodyPost_ret (v := .tuple #[.slice none 0 0, .int .i64 1]) (by simp [results, Try.results14, go_sem]) rfl ⟨list_none HE.out.1 HE.out.2 rfl, ?_⟩
    rw [HQ0.out]; exact hb5
  case false =>
    have HE := hid (HE2.out (by rw [HG.out, g1, g2]; rfl))
    rw [g1] at HI
    clear HE1 HE2 HG g1
    obtain ⟨lB, ps, pv, ks, bf⟩ := n
    obtain ⟨a1, c1, a2, c2, a3, c3, a4, c4⟩ := p
    dsimp only [nv] at *
    generalize ps.length = n1 at *
    generalize pv.length = n2 at *
    generalize ks.length = n3 at *
    generalize bf.length = n4 at *
    go_enter Try.func14, Try.ntmps14
    go_upto_region 1 with fail
    generalize (w.alloc (.cells #[.bool lB, .slice a1 n1 c1, .slice a2 n2 c2, .slice a3 n3 c3, .slice a4 n4 c4] 27)).alloc (.cells #[.string lo, .string hi, .bool e] 29) = w2 at *
    generalize hk0 : w.heap.size = k0 at *
    generalize hk1 : k0 + 1 = k1 at *
    have HQ0 := hid hk0
    have HQ := hid hk1
    clear hk0 hk1
    have hkk := HQ.out
    obtain ⟨m0, m1, m2, m3, m4⟩ := A0.cells
    go_wp2_with fail
    refine (HM.out _ hb0).mono ?_
    rintro x w3 ⟨rfl, hb3⟩
    have A3 := A0.later hb3
    have R3 := R0.later hb3
    replace hb3 := hb0.trans (hb3.mono (by have := R0.lt; omega))
    clear HM m0 m1 m2 m3 m4 A0 R0
    obtain ⟨m0, m1, m2, m3, m4⟩ := A3.cells
    obtain ⟨r0, r1, r2⟩ := R3.cells
    go_wp2_with fail
    refine (HD.out _ hb3).mono ?_
    rintro x w4 ⟨rfl, hb4⟩
    have A4 := A3.later hb4
    have R4 := R3.later hb4
    replace hb4 := hb3.trans (hb4.mono (by have := R3.lt; omega))
    clear HD m0 m1 m2 m3 m4 r0 r1 r2 A3 R3
    obtain ⟨m0, m1, m2, m3, m4⟩ := A4.cells
    obtain ⟨r0, r1, r2⟩ := R4.cells
    go_wp2_with fail
    refine (HI.out _).mono ?_
    rintro x w5 ⟨rfl, hb5⟩
    have A5 := A4.later hb5
    have R5 := R4.later hb5
    replace hb5 := hb4.trans (hb5.mono (by have := R4.lt; omega))
    clear HI m0 m1 m2 m3 m4 r0 r1 r2 A4 R4
    obtain ⟨m0, m1, m2, m3, m4⟩ := A5.cells
    obtain ⟨r0, r1, r2⟩ := R5.cells
    have hb6 := hb5.alloc (show k0 ≤ w5.heap.size by have := R5.lt; omega) (.cells #[.string lo, .string MS, .bool true, .string MS, .string hi, .bool e] 29)
    have HG6 := HEa.out _ w5.heap.size 2 hb6 (rgs_two w5 lo MS MS hi true e)
    have hk5 : k0 ≤ w5.heap.size := by have := R5.lt; omega
    go_wp2_with fail
    refine HG6.mono ?_
    rintro x w7 ⟨hsay, hb7⟩
    have HX := hid (list_each (w0 := w) HE.out.1 HE.out.2 (by rw [HQ0.out]; simp; omega) hsay)
    obtain ⟨v, L, rfl, hO, he⟩ := hsay
    obtain ⟨bv, dv, cv, hv⟩ := row_slice hO.row
    subst hv
    go_wp2_with fail
    refine bodyPost_ret (v := .tuple #[.slice bv dv cv, .int .i64 (eachE ⟨lB, ps, pv, ks, bf⟩ [⟨lo, MS, true⟩, ⟨MS, hi, e⟩])]) (by simp [results, Try.results14, go_sem]) rfl ⟨HX.out, ?_⟩
    rw [HQ0.out]
    exact hb6.trans (hb7.mono (by simp; omega))

theorem list_mono {w w0 w' : World} {x : Ending} {L : List Pc} {z : Int} (hw : w0.heap.size ≤ w.heap.size) (h : ListSay w w' x L z) : ListSay w0 w' x L z := by
  obtain ⟨v, L', hx, hO, he⟩ := h
  exact ⟨v, L', hx, hO.mono hw, he⟩

set_option maxRecDepth 100000 in
set_option maxHeartbeats 1000000 in
theorem pieces16 (n : Nd) (p : Pl) (lo hi : ByteArray) (e : Bool) (fan pairs : Int) (w : World) (hf : Few n) (h : Lies w n p) (hlo : lo.size ≤ 1000) (hhi : hi.size ≤ 1000) :
    Calls Try.prog 16 #[nv n p, av lo hi e, .int .i64 fan, .int .i64 pairs] w fun x w' => ListSay w w' x (piecesL n lo hi e fan pairs) (piecesE n lo hi e fan pairs) ∧ Below w.heap.size w w' := by
  have HH := hid (fun (wr : World) (hb : Below w.heap.size w wr) => halves14 n p lo hi e wr hf (h.later hb) hlo hhi)
  have HO := hid (fun (wr : World) (b c : Nat) (hb : Below w.heap.size w wr) (hr : Rgs wr b [⟨lo, hi, e⟩]) => each39 n p b c [⟨lo, hi, e⟩] wr hf (h.later hb) hr (by simp) (by
    intro r hr
    rw [List.mem_singleton] at hr
    subst hr
    exact ⟨hlo, hhi⟩))
  obtain ⟨A0, R0, hb0⟩ := boxes_nr w (.bool n.leaf) (.slice p.a1 n.ps.length p.c1) (.slice p.a2 n.pv.length p.c2) (.slice p.a3 n.ks.length p.c3) (.slice p.a4 n.bf.length p.c4) (.string lo) (.string hi) (.bool e)
  have HE1 := hid (fun (hg : muchB n fan pairs = true) => show halvesE n lo hi e = piecesE n lo hi e fan pairs ∧ halvesL n lo hi e = piecesL n lo hi e fan pairs from by
    unfold piecesE piecesL; rw [hg]; exact ⟨rfl, rfl⟩)
  have HE2 := hid (fun (hg : muchB n fan pairs = false) => show eachE n [⟨lo, hi, e⟩] = piecesE n lo hi e fan pairs ∧ eachL n [⟨lo, hi, e⟩] = piecesL n lo hi e fan pairs from by
    rw [(one_list n lo hi e).1, (one_list n lo hi e).2]; unfold piecesE piecesL; rw [hg]; exact ⟨rfl, rfl⟩)
  have HG := hid (show muchB n fan pairs = if n.leaf then decide (pairs < (n.ps.length : Int)) else decide (fan < (n.ks.length : Int)) from rfl)
  generalize piecesE n lo hi e fan pairs = ZE at *
  generalize piecesL n lo hi e fan pairs = ZL at *
  generalize muchB n fan pairs = GB at *
  clear h hf
  obtain ⟨lB, ps, pv, ks, bf⟩ := n
  obtain ⟨a1, c1, a2, c2, a3, c3, a4, c4⟩ := p
  dsimp only [nv] at *
  have HN1 := hid (rfl : ps.length = ps.length)
  generalize ps.length = n1 at *
  generalize pv.length = n2 at *
  generalize ks.length = n3 at *
  generalize bf.length = n4 at *
  have key : ∀ gb, Hid (GB = gb) → Calls Try.prog 16 #[.agg #[.bool lB, .slice a1 n1 c1, .slice a2 n2 c2, .slice a3 n3 c3, .slice a4 n4 c4], av lo hi e, .int .i64 fan, .int .i64 pairs] w fun x w' => ListSay w w' x ZL ZE ∧ Below w.heap.size w w' := by
    intro gb hgb
    cases lB
    case false =>
     cases g1 : decide (fan < (n3 : Int))
     case false =>
      have HX := hid (HE2.out (by rw [HG.out]; exact g1))
      clear hgb HE1 HE2 HG HN1
      go_enter Try.func16, Try.ntmps16
      go_upto_region 1 with fail
      generalize hw2 : (w.alloc (.cells _ 27)).alloc (.cells #[.string lo, .string hi, .bool e] 29) = w2 at *
      clear hw2
      generalize hk0 : w.heap.size = k0 at *
      generalize hk1 : k0 + 1 = k1 at *
      have HQ0 := hid hk0
      have HQ := hid hk1
      clear hk0 hk1
      have hkk := HQ.out
      have hRl := R0.lt
      obtain ⟨m0, m1, m2, m3, m4⟩ := A0.cells
      obtain ⟨r0, r1, r2⟩ := R0.cells
      have hb6 := hb0.alloc (show k0 ≤ w2.heap.size by omega) (.cells #[.string lo, .string hi, .bool e] 29)
      have HG6 := HO.out _ w2.heap.size 1 hb6 (rgs_one w2 lo hi e)
      go_wp2_with fail
      refine HG6.mono ?_
      rintro x w7 ⟨hsay, hb7⟩
      have HY := hid (list_each (w0 := w) HX.out.1 HX.out.2 (by rw [HQ0.out]; simp; omega) hsay)
      obtain ⟨v, L, rfl, hO, he⟩ := hsay
      obtain ⟨bv, dv, cv, hv⟩ := row_slice hO.row
      subst hv
      go_wp2_with fail
      refine bodyPost_ret (v := .tuple #[.slice bv dv cv, .int .i64 (eachE ⟨false, ps, pv, ks, bf⟩ [⟨lo, hi, e⟩])]) (by simp [results, Try.results16, go_sem]) rfl ⟨HY.out, ?_⟩
      rw [HQ0.out]
      exact hb6.trans (hb7.mono (Nat.le_trans (show k0 ≤ w2.heap.size by omega) (by simp)))
     case true =>
      have HX := hid (HE1.out (by rw [HG.out]; exact g1))
      clear hgb HE1 HE2 HG HN1
      go_enter Try.func16, Try.ntmps16
      go_upto_region 1 with fail
      generalize hw2 : (w.alloc (.cells _ 27)).alloc (.cells #[.string lo, .string hi, .bool e] 29) = w2 at *
      clear hw2
      generalize hk0 : w.heap.size = k0 at *
      generalize hk1 : k0 + 1 = k1 at *
      have HQ0 := hid hk0
      have HQ := hid hk1
      clear hk0 hk1
      have hkk := HQ.out
      have hRl := R0.lt
      obtain ⟨m0, m1, m2, m3, m4⟩ := A0.cells
      obtain ⟨r0, r1, r2⟩ := R0.cells
      go_wp2_with fail
      refine (HH.out _ hb0).mono ?_
      rintro x w3 ⟨hsay, hb3⟩
      have HY := hid (list_mono (w0 := w) (by rw [HQ0.out]; omega) hsay)
      obtain ⟨v, L, rfl, hO, he⟩ := hsay
      obtain ⟨bv, dv, cv, hv⟩ := row_slice hO.row
      subst hv
      go_wp2_with fail
      refine bodyPost_ret (v := .tuple #[.slice bv dv cv, .int .i64 (halvesE ⟨false, ps, pv, ks, bf⟩ lo hi e)]) (by simp [results, Try.results16, go_sem]) rfl ⟨?_, ?_⟩
      · have := HY.out
        rw [HX.out.1, HX.out.2] at this
        rw [HX.out.1]
        exact this
      · rw [HQ0.out]
        exact hb0.trans (hb3.mono (by omega))
    case true =>
     cases g1 : decide (pairs < (n1 : Int))
     case false =>
      have HX := hid (HE2.out (by rw [HG.out]; exact g1))
      clear hgb HE1 HE2 HG HN1
      go_enter Try.func16, Try.ntmps16
      go_upto_region 1 with fail
      generalize hw2 : (w.alloc (.cells _ 27)).alloc (.cells #[.string lo, .string hi, .bool e] 29) = w2 at *
      clear hw2
      generalize hk0 : w.heap.size = k0 at *
      generalize hk1 : k0 + 1 = k1 at *
      have HQ0 := hid hk0
      have HQ := hid hk1
      clear hk0 hk1
      have hkk := HQ.out
      have hRl := R0.lt
      obtain ⟨m0, m1, m2, m3, m4⟩ := A0.cells
      obtain ⟨r0, r1, r2⟩ := R0.cells
      have hb6 := hb0.alloc (show k0 ≤ w2.heap.size by omega) (.cells #[.string lo, .string hi, .bool e] 29)
      have HG6 := HO.out _ w2.heap.size 1 hb6 (rgs_one w2 lo hi e)
      go_wp2_with fail
      refine HG6.mono ?_
      rintro x w7 ⟨hsay, hb7⟩
      have HY := hid (list_each (w0 := w) HX.out.1 HX.out.2 (by rw [HQ0.out]; simp; omega) hsay)
      obtain ⟨v, L, rfl, hO, he⟩ := hsay
      obtain ⟨bv, dv, cv, hv⟩ := row_slice hO.row
      subst hv
      go_wp2_with fail
      refine bodyPost_ret (v := .tuple #[.slice bv dv cv, .int .i64 (eachE ⟨true, ps, pv, ks, bf⟩ [⟨lo, hi, e⟩])]) (by simp [results, Try.results16, go_sem]) rfl ⟨HY.out, ?_⟩
      rw [HQ0.out]
      exact hb6.trans (hb7.mono (Nat.le_trans (show k0 ≤ w2.heap.size by omega) (by simp)))
     case true =>
      have HX := hid (HE1.out (by rw [HG.out]; exact g1))
      clear hgb HE1 HE2 HG HN1
      go_enter Try.func16, Try.ntmps16
      go_upto_region 1 with fail
      generalize hw2 : (w.alloc (.cells _ 27)).alloc (.cells #[.string lo, .string hi, .bool e] 29) = w2 at *
      clear hw2
      generalize hk0 : w.heap.size = k0 at *
      generalize hk1 : k0 + 1 = k1 at *
      have HQ0 := hid hk0
      have HQ := hid hk1
      clear hk0 hk1
      have hkk := HQ.out
      have hRl := R0.lt
      obtain ⟨m0, m1, m2, m3, m4⟩ := A0.cells
      obtain ⟨r0, r1, r2⟩ := R0.cells
      go_wp2_with fail
      refine (HH.out _ hb0).mono ?_
      rintro x w3 ⟨hsay, hb3⟩
      have HY := hid (list_mono (w0 := w) (by rw [HQ0.out]; omega) hsay)
      obtain ⟨v, L, rfl, hO, he⟩ := hsay
      obtain ⟨bv, dv, cv, hv⟩ := row_slice hO.row
      subst hv
      go_wp2_with fail
      refine bodyPost_ret (v := .tuple #[.slice bv dv cv, .int .i64 (halvesE ⟨true, ps, pv, ks, bf⟩ lo hi e)]) (by simp [results, Try.results16, go_sem]) rfl ⟨?_, ?_⟩
      · have := HY.out
        rw [HX.out.1, HX.out.2] at this
        rw [HX.out.1]
        exact this
      · rw [HQ0.out]
        exact hb0.trans (hb3.mono (by omega))
  exact key GB (hid rfl)
end Go.Proofs.Ytlkcoaencliajaa.Key

namespace Go.Proofs.Ytlkcoaencliajaa.Key
open Go.RowKit Draw
open Go.Op (bytesLess)
set_option linter.unusedVariables false
set_option linter.unusedSimpArgs false

theorem mid_no {n : Nd} (h : midB n = false) : midS n = ⟨#[]⟩ ∧ midB n = false := ⟨by unfold midS; rw [h]; rfl, h⟩
set_option maxRecDepth 100000 in
set_option maxHeartbeats 1000000 in
theorem mid11 (n : Nd) (p : Pl) (w : World) (hf : Few n) (h : Lies w n p) (hd : ∀ m ∈ n.bf, 0 ≤ m.deep) :
    Calls Try.prog 11 #[nv n p] w fun x w' => x = .returned (.tuple #[.string (midS n), .bool (midB n)]) ∧ Below w.heap.size w w' := by
  have hb0 := below_box w (.cells #[.bool n.leaf, .slice p.a1 n.ps.length p.c1, .slice p.a2 n.pv.length p.c2, .slice p.a3 n.ks.length p.c3, .slice p.a4 n.bf.length p.c4] 27)
  have A0 := NBox.new w (.bool n.leaf) (.slice p.a1 n.ps.length p.c1) (.slice p.a2 n.pv.length p.c2) (.slice p.a3 n.ks.length p.c3) (.slice p.a4 n.bf.length p.c4)
  have HM := hid (fun (wr : World) (hb : Below w.heap.size w wr) => may13 n p wr hf (h.later hb) hd)
  have HLi := hid (fun (wr : World) (hb : Below w.heap.size w wr) => h.later hb)
  by_cases hm : mayI n = 0
  case neg =>
    have HS := hid (mid_no (n := n) (by unfold midB; rw [if_neg hm]))
    generalize midS n = MS at *
    generalize midB n = MB at *
    have e : mayI n ≠ 0 := hm
    generalize mayI n = MI at *
    clear h hf hd HLi
    obtain ⟨lB, ps, pv, ks, bf⟩ := n
    obtain ⟨a1, c1, a2, c2, a3, c3, a4, c4⟩ := p
    dsimp only [nv] at *
    generalize ps.length = n1 at *
    generalize pv.length = n2 at *
    generalize ks.length = n3 at *
    generalize bf.length = n4 at *
    go_enter Try.func11, Try.ntmps11
    obtain ⟨z0, z1, z2, z3, z4⟩ := A0.cells
    go_wp2_with fail
    refine (HM.out _ hb0).mono ?_
    rintro x w1 ⟨rfl, hb1⟩
    have A1 := A0.later hb1
    replace hb1 := hb0.trans (hb1.mono hb0.size)
    clear z0 z1 z2 z3 z4
    obtain ⟨z0, z1, z2, z3, z4⟩ := A1.cells
    go_wp2_with fail
    exact bodyPost_ret (v := .tuple #[.string ⟨#[]⟩, .bool false]) (by simp [results, Try.results11, go_sem]) rfl ⟨by rw [HS.out.1, HS.out.2], hb1⟩
  case pos =>
  rw [hm] at HM
  cases hl : n.leaf
  case false =>
    obtain ⟨hlen, _⟩ := may_fork hm hl
    by_cases h2 : 2 ≤ n.ks.length
    case neg =>
      have HS := hid (mid_no (n := n) (by unfold midB; rw [if_pos hm, hl, if_neg (by simp), decide_eq_false h2]))
      have e : ¬ (1 : Int) < (n.ks.length : Int) := by omega
      generalize midS n = MS at *
      generalize midB n = MB at *
      clear h hf hd HLi hm hlen h2
      obtain ⟨lB, ps, pv, ks, bf⟩ := n
      obtain ⟨a1, c1, a2, c2, a3, c3, a4, c4⟩ := p
      dsimp only [nv] at *
      subst hl
      generalize ps.length = n1 at *
      generalize pv.length = n2 at *
      generalize ks.length = n3 at *
      generalize bf.length = n4 at *
      go_enter Try.func11, Try.ntmps11
      obtain ⟨z0, z1, z2, z3, z4⟩ := A0.cells
      go_wp2_with fail
      refine (HM.out _ hb0).mono ?_
      rintro x w1 ⟨rfl, hb1⟩
      have A1 := A0.later hb1
      replace hb1 := hb0.trans (hb1.mono hb0.size)
      clear z0 z1 z2 z3 z4
      obtain ⟨z0, z1, z2, z3, z4⟩ := A1.cells
      go_wp2_with fail
      exact bodyPost_ret (v := .tuple #[.string ⟨#[]⟩, .bool false]) (by simp [results, Try.results11, go_sem]) rfl ⟨by rw [HS.out.1, HS.out.2], hb1⟩
    case pos =>
    have HS := hid (show midS n = midK n ∧ midB n = true from by
      have : midB n = true := by unfold midB; rw [if_pos hm, hl, if_neg (by simp), decide_eq_true h2]
      exact ⟨by unfold midS; rw [this, hl]; rfl, this⟩)
    obtain ⟨h0, h1⟩ := half_lt h2
    have HR := hid (fun (wr : World) (hb : Below w.heap.size w wr) => range61 n p (halfN n.ks.length) wr hf.l2 hf.l3 h1 (h.later hb))
    have hK : loOf n.pv (halfN n.ks.length) = midK n := by unfold loOf; rw [if_pos (by omega)]; rfl
    rw [hK] at HR
    have hq : ((n.ks.length : Int) + 1) / 2 = ((halfN n.ks.length : Nat) : Int) := by unfold halfN; omega
    have e : (1 : Int) < (n.ks.length : Int) := by omega
    have hl3 := hf.l3
    generalize midS n = MS at *
    generalize midB n = MB at *
    generalize midK n = MK at *
    generalize hiOf n.pv (halfN n.ks.length) = HH at *
    generalize endOf n.pv (halfN n.ks.length) = HE at *
    generalize halfN n.ks.length = j at *
    rw [show av MK HH HE = Value.agg #[.string MK, .string HH, .bool HE] from rfl] at HR
    have hfd : ∀ w : World, (Instr.field 29 (.agg #[.string MK, .string HH, .bool HE]) 0).run Try.prog w = .ok (.string MK) w := fun _ => by kernel_rfl
    clear h hf hd HLi hm hlen h2 h1 hK
    obtain ⟨lB, ps, pv, ks, bf⟩ := n
    obtain ⟨a1, c1, a2, c2, a3, c3, a4, c4⟩ := p
    dsimp only [nv] at *
    subst hl
    generalize ps.length = n1 at *
    generalize pv.length = n2 at *
    generalize ks.length = n3 at *
    generalize bf.length = n4 at *
    go_enter Try.func11, Try.ntmps11
    obtain ⟨z0, z1, z2, z3, z4⟩ := A0.cells
    go_wp2_with fail
    refine (HM.out _ hb0).mono ?_
    rintro x w1 ⟨rfl, hb1⟩
    have A1 := A0.later hb1
    replace hb1 := hb0.trans (hb1.mono hb0.size)
    clear z0 z1 z2 z3 z4
    obtain ⟨z0, z1, z2, z3, z4⟩ := A1.cells
    go_upto_region 8 with fail
    rw [hq]
    go_wp2_with fail
    refine (HR.out _ hb1).mono ?_
    rintro x w2 ⟨rfl, hb2⟩
    clear z0 z1 z2 z3 z4
    go_wp2_with fail
    exact bodyPost_ret (v := .tuple #[.string MK, .bool true]) (by simp [results, Try.results11, go_sem]) rfl ⟨by rw [HS.out.1, HS.out.2], hb1.trans (hb2.mono hb1.size)⟩
  case true =>
    have hb := (may_iff.1 hm).2
    unfold fineB at hb
    rw [hl, if_pos rfl] at hb
    obtain ⟨_, hks, _, hok, _⟩ := leaf_iff.1 hb
    by_cases h2 : 2 ≤ n.ps.length
    case neg =>
      have HS := hid (mid_no (n := n) (by unfold midB; rw [if_pos hm, hl, if_pos rfl, decide_eq_false h2]))
      have e : ¬ (1 : Int) < (n.ps.length : Int) := by omega
      have e2 : ¬ (1 : Int) < (n.ks.length : Int) := by rw [hks]; decide
      generalize midS n = MS at *
      generalize midB n = MB at *
      clear h hf hd HLi hm hb hks hok h2
      obtain ⟨lB, ps, pv, ks, bf⟩ := n
      obtain ⟨a1, c1, a2, c2, a3, c3, a4, c4⟩ := p
      dsimp only [nv] at *
      subst hl
      generalize ps.length = n1 at *
      generalize pv.length = n2 at *
      generalize ks.length = n3 at *
      generalize bf.length = n4 at *
      go_enter Try.func11, Try.ntmps11
      obtain ⟨z0, z1, z2, z3, z4⟩ := A0.cells
      go_wp2_with fail
      refine (HM.out _ hb0).mono ?_
      rintro x w1 ⟨rfl, hb1⟩
      have A1 := A0.later hb1
      replace hb1 := hb0.trans (hb1.mono hb0.size)
      clear z0 z1 z2 z3 z4
      obtain ⟨z0, z1, z2, z3, z4⟩ := A1.cells
      go_wp2_with fail
      exact bodyPost_ret (v := .tuple #[.string ⟨#[]⟩, .bool false]) (by simp [results, Try.results11, go_sem]) rfl ⟨by rw [HS.out.1, HS.out.2], hb1⟩
    case pos =>
    have HS := hid (show midS n = midL n.ps ∧ midB n = true from by
      have : midB n = true := by unfold midB; rw [if_pos hm, hl, if_pos rfl, decide_eq_true h2]
      exact ⟨by unfold midS; rw [this, hl]; rfl, this⟩)
    have hk : ∀ x ∈ n.ps, x.key.size ≤ 1000 := by
      intro x hx
      have := hok x hx
      unfold okP at this
      rw [Bool.and_eq_true, decide_eq_true_iff] at this
      omega
    obtain ⟨h0, h1⟩ := half_lt h2
    have hM : midL n.ps = str (between (keyAt n.ps (halfN n.ps.length - 1)).data.toList (keyAt n.ps (halfN n.ps.length)).data.toList) := rfl
    obtain ⟨i, hi⟩ : ∃ i, halfN n.ps.length = i + 1 := ⟨halfN n.ps.length - 1, by omega⟩
    rw [hi] at hM h1
    rw [keyAt_at h1, Nat.add_sub_cancel, keyAt_at (by omega)] at hM
    have hq : ((n.ps.length : Int) + 1) / 2 = (i : Int) + 1 := by
      have : ((n.ps.length : Int) + 1) / 2 = ((halfN n.ps.length : Nat) : Int) := by unfold halfN; omega
      rw [this, hi]; rfl
    have hi' : i < n.ps.length := by omega
    obtain ⟨b, off, ha, T0, T1⟩ := h.h1.at2 hi' h1
    have HB := hid (fun w => between18 n.ps[i].key n.ps[i + 1].key w (Nat.le_trans (hk _ (List.getElem_mem _)) (by decide)))
    rw [← hM] at HB
    have T0' := hid (fun (wr : World) (hb : Below w.heap.size w wr) => T0.later hb)
    have T1' := hid (fun (wr : World) (hb : Below w.heap.size w wr) => T1.later hb)
    have e : (1 : Int) < (n.ps.length : Int) := by omega
    have e1 : ((i : Int) + 1) < (n.ps.length : Int) := by omega
    have e2 : (i : Int) < (n.ps.length : Int) := by omega
    have hl1 := hf.l1
    have e4 : 0 ≤ (i : Int) + 1 := by omega
    have e3 : IntKind.i64.wrap (i : Int) = (i : Int) := by rw [IntKind.wrap_i64]; omega
    generalize midS n = MS at *
    generalize midB n = MB at *
    generalize midL n.ps = ML at *
    generalize n.ps[i] = x at *
    generalize n.ps[i + 1] = y at *
    clear h hf hd HLi hm hb hks hok h2 h1 hM hi hi' hk T0 T1 h0
    obtain ⟨lB, ps, pv, ks, bf⟩ := n
    obtain ⟨a1, c1, a2, c2, a3, c3, a4, c4⟩ := p
    dsimp only [nv] at *
    subst hl ha
    generalize ps.length = n1 at *
    generalize pv.length = n2 at *
    generalize ks.length = n3 at *
    generalize bf.length = n4 at *
    go_enter Try.func11, Try.ntmps11
    obtain ⟨z0, z1, z2, z3, z4⟩ := A0.cells
    go_wp2_with fail
    refine (HM.out _ hb0).mono ?_
    rintro x w1 ⟨rfl, hb1⟩
    have A1 := A0.later hb1
    replace hb1 := hb0.trans (hb1.mono hb0.size)
    clear z0 z1 z2 z3 z4
    obtain ⟨z0, z1, z2, z3, z4⟩ := A1.cells
    go_upto_region 5 with fail
    rw [hq]
    clear z0 z1 z2 z3 z4
    have T0 := T0'.out _ hb1
    have T1 := T1'.out _ hb1
    refine wp_region_quiet (C := fun u => Below w1.heap.size w1 u) (by kernel_rfl) (by kernel_rfl) (Below.refl _ w1).drew ?_
    change wpQuiet _ _ _ _ (_ :: _) _
    repeat
      first
        | go_big_quiet_skip
        | go_big_quiet_want
          first
            | refine quiet_v ?_ ?_ ?_
              rotate_left
              · intro u hu
                obtain ⟨m0, m1⟩ := T0.below hu T0.lt
                obtain ⟨y0, y1⟩ := T1.below hu T1.lt
                obtain ⟨z0, z1, z2, z3, z4⟩ := (A1.later hu).cells
                go_simp
                with_reducible rfl
            | refine quiet_c (.string ML) 32 #[.string x.key, .string y.key] ?_ (fun u hu => (HB.out u).mono fun x u' h => ⟨h.1, by rw [h.2]; exact hu⟩) ?_
              · intro u hu
                go_simp
                done
          go_simp
          go_big_quiet_on
    refine wpQuiet_nil (fun u hu => ?_)
    go_wp2_with fail
    exact bodyPost_ret (v := .tuple #[.string ML, .bool true]) (by simp [results, Try.results11, go_sem]) rfl ⟨by rw [HS.out.1, HS.out.2], hb1.trans (hu.mono hb1.size)⟩
end Go.Proofs.Ytlkcoaencliajaa.Key

namespace Go.Proofs.Ytlkcoaencliajaa.Key
open Go.RowKit Draw
open Go.Op (bytesLess)
set_option linter.unusedVariables false
set_option linter.unusedSimpArgs false

theorem own_empty (w : World) (e : TypeId) (sz : Nat) : (w.alloc (.cells #[] e)).ownsRow w.heap.size e sz (.slice (some ⟨w.heap.size, 0, none⟩) 0 0) 0 [] :=
  ⟨by simp, .inr ⟨w.heap.size, 0, #[], rfl, Nat.le_refl _, Go.heap_alloc_new _ _, Nat.le_refl _, by unfold maxLen; omega, by simp, by simp⟩⟩
theorem ownQ_empty (w : World) : OwnQ (w.alloc (.cells #[] 36)) w.heap.size (.slice (some ⟨w.heap.size, 0, none⟩) 0 0) [] := ⟨own_empty w 36 7, fun x hx => by cases hx⟩
theorem ownQ_one (w : World) (P : Pc) (q : Pl) {B : Nat} (hB : B ≤ w.heap.size) (h : OwnN w B P.node q) : OwnQ (w.alloc (.cells #[.string P.lo, .string P.strip, .bool P.node.leaf, .slice q.a1 P.node.ps.length q.c1, .slice q.a2 P.node.pv.length q.c2, .slice q.a3 P.node.ks.length q.c3, .slice q.a4 P.node.bf.length q.c4] 36)) B (.slice (some ⟨w.heap.size, 0, none⟩) 1 1) [(P, q)] := by
  refine ⟨⟨rfl, .inr ⟨w.heap.size, 1, #[.string P.lo, .string P.strip, .bool P.node.leaf, .slice q.a1 P.node.ps.length q.c1, .slice q.a2 P.node.pv.length q.c2, .slice q.a3 P.node.ks.length q.c3, .slice q.a4 P.node.bf.length q.c4], rfl, hB, Go.heap_alloc_new _ _, Nat.le_refl _, by unfold maxLen; decide, rfl, rfl⟩⟩, fun x hx => ?_⟩
  rw [List.mem_singleton] at hx
  subst hx
  exact h.later (below_box w _)
theorem ownQ_two (w : World) (P1 P2 : Pc) (q1 q2 : Pl) {B : Nat} (hB : B ≤ w.heap.size) (h1 : OwnN w B P1.node q1) (h2 : OwnN w B P2.node q2) :
    OwnQ (w.alloc (.cells #[.string P1.lo, .string P1.strip, .bool P1.node.leaf, .slice q1.a1 P1.node.ps.length q1.c1, .slice q1.a2 P1.node.pv.length q1.c2, .slice q1.a3 P1.node.ks.length q1.c3, .slice q1.a4 P1.node.bf.length q1.c4, .string P2.lo, .string P2.strip, .bool P2.node.leaf, .slice q2.a1 P2.node.ps.length q2.c1, .slice q2.a2 P2.node.pv.length q2.c2, .slice q2.a3 P2.node.ks.length q2.c3, .slice q2.a4 P2.node.bf.length q2.c4] 36)) B (.slice (some ⟨w.heap.size, 0, none⟩) 2 2) [(P1, q1), (P2, q2)] := by
  refine ⟨⟨rfl, .inr ⟨w.heap.size, 2, #[.string P1.lo, .string P1.strip, .bool P1.node.leaf, .slice q1.a1 P1.node.ps.length q1.c1, .slice q1.a2 P1.node.pv.length q1.c2, .slice q1.a3 P1.node.ks.length q1.c3, .slice q1.a4 P1.node.bf.length q1.c4, .string P2.lo, .string P2.strip, .bool P2.node.leaf, .slice q2.a1 P2.node.ps.length q2.c1, .slice q2.a2 P2.node.pv.length q2.c2, .slice q2.a3 P2.node.ks.length q2.c3, .slice q2.a4 P2.node.bf.length q2.c4], rfl, hB, Go.heap_alloc_new _ _, Nat.le_refl _, by unfold maxLen; decide, rfl, rfl⟩⟩, fun x hx => ?_⟩
  simp only [List.mem_cons, List.not_mem_nil, or_false] at hx
  rcases hx with rfl | rfl
  · exact h1.later (below_box w _)
  · exact h2.later (below_box w _)
theorem list_nil {w w' : World} {x : Ending} {L : List Pc} {z z' : Int} {v : Value} {B : Nat} (hz : z = z') (hL : L = []) (hO : OwnQ w' B v []) (hB : w.heap.size ≤ B) (hx : x = .returned (.tuple #[v, .int .i64 z'])) : ListSay w w' x L z := by
  subst hz hL
  exact ⟨v, [], hx, hO.mono hB, rfl⟩
theorem good_eq (n : Nd) (lo hi : ByteArray) (e : Bool) : goodB n lo hi e = (midB n && (bytesLess lo.data.toList (midS n).data.toList && inR (rg lo hi e) (midS n).data.toList)) := by
  unfold goodB
  congr 1
  cases h1 : inR (rg lo hi e) (midS n).data.toList
  · simp
  · unfold inR at h1
    rw [Bool.and_eq_true, Bool.not_eq_true'] at h1
    have h2 : bytesLess (midS n).data.toList lo.data.toList = false := h1.1
    cases h3 : bytesLess lo.data.toList (midS n).data.toList
    · rw [less_same h2 h3]; simp
    · rw [Bool.true_and, Bool.true_and, Bool.not_eq_true', beq_eq_false_iff_ne]
      intro e'
      rw [e', less_self] at h3
      cases h3
theorem boxes_nro (w : World) (v0 v1 v2 v3 v4 r0 r1 r2 : Value) :
    NBox (((w.alloc (.cells #[v0, v1, v2, v3, v4] 27)).alloc (.cells #[r0, r1, r2] 29)).alloc (.cells #[] 36)) w.heap.size v0 v1 v2 v3 v4 ∧ Box (((w.alloc (.cells #[v0, v1, v2, v3, v4] 27)).alloc (.cells #[r0, r1, r2] 29)).alloc (.cells #[] 36)) (w.heap.size + 1) r0 r1 r2 ∧
    OwnQ (((w.alloc (.cells #[v0, v1, v2, v3, v4] 27)).alloc (.cells #[r0, r1, r2] 29)).alloc (.cells #[] 36)) (w.heap.size + 1 + 1) (.slice (some ⟨w.heap.size + 1 + 1, 0, none⟩) 0 0) [] ∧
    Below w.heap.size w (((w.alloc (.cells #[v0, v1, v2, v3, v4] 27)).alloc (.cells #[r0, r1, r2] 29)).alloc (.cells #[] 36)) := by
  obtain ⟨h1, h2, h3⟩ := boxes_nr w v0 v1 v2 v3 v4 r0 r1 r2
  have h4 := ownQ_empty ((w.alloc (.cells #[v0, v1, v2, v3, v4] 27)).alloc (.cells #[r0, r1, r2] 29))
  have hs : ((w.alloc (.cells #[v0, v1, v2, v3, v4] 27)).alloc (.cells #[r0, r1, r2] 29)).heap.size = w.heap.size + 1 + 1 := by simp
  rw [hs] at h4
  exact ⟨h1.alloc _, h2.alloc _, h4, h3.alloc (by omega) _⟩

set_option maxRecDepth 100000 in
set_option maxHeartbeats 2000000 in
theorem halves15 (n : Nd) (p : Pl) (lo hi : ByteArray) (e : Bool) (w : World) (hf : Few n) (h : Lies w n p) (hd : ∀ m ∈ n.bf, 0 ≤ m.deep) (hlo : lo.size ≤ 1000) (hhi : hi.size ≤ 1000) :
    Calls Try.prog 15 #[nv n p, av lo hi e] w fun x w' => ListSay w w' x (halvesL n lo hi e) (halvesE n lo hi e) ∧ Below w.heap.size w w' := by
  have HM := hid (fun (wr : World) (hb : Below w.heap.size w wr) => may13 n p wr hf (h.later hb) hd)
  have HD := hid (fun (wr : World) (hb : Below w.heap.size w wr) => mid11 n p wr hf (h.later hb) hd)
  obtain ⟨A0, R0, O0, hb0⟩ := boxes_nro w (.bool n.leaf) (.slice p.a1 n.ps.length p.c1) (.slice p.a2 n.pv.length p.c2) (.slice p.a3 n.ks.length p.c3) (.slice p.a4 n.bf.length p.c4) (.string lo) (.string hi) (.bool e)
  by_cases hm : mayI n = 0
  case neg =>
    have HE := hid (show halvesE n lo hi e = 3 ∧ halvesL n lo hi e = [] from by
      have : halvesE n lo hi e = 3 := by unfold halvesE; rw [if_neg hm]
      exact ⟨this, by unfold halvesL; rw [this]; rfl⟩)
    have hmz : mayI n ≠ 0 := hm
    generalize mayI n = MI at *
    generalize halvesE n lo hi e = ZE at *
    generalize halvesL n lo hi e = ZL at *
    clear HD h hf hm hd
    obtain ⟨lB, ps, pv, ks, bf⟩ := n
    obtain ⟨a1, c1, a2, c2, a3, c3, a4, c4⟩ := p
    dsimp only [nv] at *
    generalize ps.length = n1 at *
    generalize pv.length = n2 at *
    generalize ks.length = n3 at *
    generalize bf.length = n4 at *
    go_enter Try.func15, Try.ntmps15
    go_upto_region 2 with fail
    generalize ((w.alloc (.cells #[.bool lB, .slice a1 n1 c1, .slice a2 n2 c2, .slice a3 n3 c3, .slice a4 n4 c4] 27)).alloc (.cells #[.string lo, .string hi, .bool e] 29)).alloc (.cells #[] 36) = w2 at *
    generalize hk0 : w.heap.size = k0 at *
    generalize hk1 : k0 + 1 = k1 at *
    generalize hk2 : k1 + 1 = k2 at *
    have HQ0 := hid hk0
    have HQ := hid (And.intro hk1 hk2)
    clear hk0 hk1 hk2
    have hkk := HQ.out
    obtain ⟨m0, m1, m2, m3, m4⟩ := A0.cells
    go_wp2_with fail
    refine (HM.out _ hb0).mono ?_
    rintro x w3 ⟨rfl, hb3⟩
    have A3 := A0.later hb3
    have R3 := R0.later hb3
    have O3 := O0.later hb3
    replace hb3 := hb0.trans (hb3.mono (by have := R0.lt; omega))
    clear HM m0 m1 m2 m3 m4 A0 R0 O0
    go_wp2_with fail
    refine bodyPost_ret (v := .tuple #[.slice (some ⟨k2, 0, none⟩) 0 0, .int .i64 3]) (by simp [results, Try.results15, go_sem]) rfl ⟨list_nil HE.out.1 HE.out.2 O3 (by rw [HQ0.out]; omega) rfl, ?_⟩
    rw [HQ0.out]; exact hb3
  case pos =>
  have HI := hid (fun wr => in20 lo hi (midS n) e wr)
  have hms := mid_size hm
  have HG := hid (good_eq n lo hi e)
  have HE1 := hid (fun (hg : goodB n lo hi e = false) => show halvesE n lo hi e = 1 ∧ halvesL n lo hi e = [] from by
    have : halvesE n lo hi e = 1 := by unfold halvesE; rw [if_pos hm, if_neg (by rw [hg]; simp)]
    exact ⟨this, by unfold halvesL; rw [this]; rfl⟩)
  have HE2 := hid (fun (hg : goodB n lo hi e = true) (h1 : wholeE n (rg lo (midS n) true) ≠ 0) => show halvesE n lo hi e = wholeE n (rg lo (midS n) true) ∧ halvesL n lo hi e = [] from by
    have : halvesE n lo hi e = wholeE n (rg lo (midS n) true) := by unfold halvesE; rw [if_pos hm, if_pos hg, if_neg h1]
    exact ⟨this, by unfold halvesL; rw [this, if_neg h1]⟩)
  have HE3 := hid (fun (hg : goodB n lo hi e = true) (h1 : wholeE n (rg lo (midS n) true) = 0) (h2 : wholeE n (rg (midS n) hi e) ≠ 0) => show halvesE n lo hi e = wholeE n (rg (midS n) hi e) ∧ halvesL n lo hi e = [] from by
    have : halvesE n lo hi e = wholeE n (rg (midS n) hi e) := by unfold halvesE; rw [if_pos hm, if_pos hg, if_pos h1]
    exact ⟨this, by unfold halvesL; rw [this, if_neg h2]⟩)
  have HE4 := hid (fun (hg : goodB n lo hi e = true) (h1 : wholeE n (rg lo (midS n) true) = 0) (h2 : wholeE n (rg (midS n) hi e) = 0) => show halvesE n lo hi e = 0 ∧ halvesL n lo hi e = [wholeP n lo (midS n) true, wholeP n (midS n) hi e] from by
    have : halvesE n lo hi e = 0 := by unfold halvesE; rw [if_pos hm, if_pos hg, if_pos h1, h2]
    exact ⟨this, by unfold halvesL; rw [this, if_pos rfl]⟩)
  have HW1 := hid (fun (wr : World) (hb : Below w.heap.size w wr) => whole13 n p lo (midS n) true wr hf (h.later hb) hd hlo (by omega))
  obtain ⟨hi', hhi'⟩ : ∃ hi', hi' = if e then hi else ⟨#[]⟩ := ⟨_, rfl⟩
  have hE' : wholeE n (rg (midS n) hi' e) = wholeE n (rg (midS n) hi e) := by
    subst hhi'
    cases e
    · exact free_wholeE n _ _ _
    · rfl
  have hP' : wholeP n (midS n) hi' e = wholeP n (midS n) hi e := by
    subst hhi'
    cases e
    · exact free_wholeP n _ _ _
    · rfl
  have HW2 := hid (fun (wr : World) (hb : Below w.heap.size w wr) => whole13 n p (midS n) hi' e wr hf (h.later hb) hd (by omega) (by subst hhi'; cases e; exact Nat.zero_le _; exact hhi))
  unfold WholeSay at HW1 HW2
  rw [hE', hP'] at HW2
  clear hE' hP'
  rw [hm] at HM
  generalize halvesE n lo hi e = ZE at *
  generalize halvesL n lo hi e = ZL at *
  generalize goodB n lo hi e = GB at *
  generalize wholeE n (rg lo (midS n) true) = Z1 at *
  generalize wholeE n (rg (midS n) hi e) = Z2 at *
  generalize wholeP n lo (midS n) true = P1 at *
  generalize wholeP n (midS n) hi e = P2 at *
  generalize midS n = MS at *
  generalize midB n = MB at *
  have hle := le_str MS lo
  clear h hf hm hd
  cases MB
  case false =>
    have HE := hid (HE1.out (by rw [HG.out]; rfl))
    clear HE1 HE2 HE3 HE4 HW1 HW2 HI HG hle
    obtain ⟨lB, ps, pv, ks, bf⟩ := n
    obtain ⟨a1, c1, a2, c2, a3, c3, a4, c4⟩ := p
    dsimp only [nv] at *
    generalize ps.length = n1 at *
    generalize pv.length = n2 at *
    generalize ks.length = n3 at *
    generalize bf.length = n4 at *
    go_enter Try.func15, Try.ntmps15
    go_upto_region 2 with fail
    generalize ((w.alloc (.cells #[.bool lB, .slice a1 n1 c1, .slice a2 n2 c2, .slice a3 n3 c3, .slice a4 n4 c4] 27)).alloc (.cells #[.string lo, .string hi, .bool e] 29)).alloc (.cells #[] 36) = w2 at *
    generalize hk0 : w.heap.size = k0 at *
    generalize hk1 : k0 + 1 = k1 at *
    generalize hk2 : k1 + 1 = k2 at *
    have HQ0 := hid hk0
    have HQ := hid (And.intro hk1 hk2)
    clear hk0 hk1 hk2
    have hkk := HQ.out
    obtain ⟨m0, m1, m2, m3, m4⟩ := A0.cells
    go_wp2_with fail
    refine (HM.out _ hb0).mono ?_
    rintro x w3 ⟨rfl, hb3⟩
    have A3 := A0.later hb3
    have R3 := R0.later hb3
    have O3 := O0.later hb3
    replace hb3 := hb0.trans (hb3.mono (by have := R0.lt; omega))
    clear HM m0 m1 m2 m3 m4 A0 R0 O0
    obtain ⟨m0, m1, m2, m3, m4⟩ := A3.cells
    obtain ⟨r0, r1, r2⟩ := R3.cells
    go_wp2_with fail
    refine (HD.out _ hb3).mono ?_
    rintro x w4 ⟨rfl, hb4⟩
    have A4 := A3.later hb4
    have R4 := R3.later hb4
    have O4 := O3.later hb4
    replace hb4 := hb3.trans (hb4.mono (by have := R3.lt; omega))
    clear m0 m1 m2 m3 m4 r0 r1 r2 A3 R3 O3
    clear HD
    obtain ⟨m0, m1, m2, m3, m4⟩ := A4.cells
    obtain ⟨r0, r1, r2⟩ := R4.cells
    go_wp2_with fail
    refine bodyPost_ret (v := .tuple #[.slice (some ⟨k2, 0, none⟩) 0 0, .int .i64 1]) (by simp [results, Try.results15, go_sem]) rfl ⟨list_nil HE.out.1 HE.out.2 O4 (by rw [HQ0.out]; omega) rfl, ?_⟩
    rw [HQ0.out]; exact hb4
  case true =>
  cases g2 : bytesLess lo.data.toList MS.data.toList
  case false =>
    have HE := hid (HE1.out (by rw [HG.out, g2]; rfl))
    rw [g2] at hle
    clear HE1 HE2 HE3 HE4 HW1 HW2 HI HG g2
    obtain ⟨lB, ps, pv, ks, bf⟩ := n
    obtain ⟨a1, c1, a2, c2, a3, c3, a4, c4⟩ := p
    dsimp only [nv] at *
    generalize ps.length = n1 at *
    generalize pv.length = n2 at *
    generalize ks.length = n3 at *
    generalize bf.length = n4 at *
    go_enter Try.func15, Try.ntmps15
    go_upto_region 2 with fail
    generalize ((w.alloc (.cells #[.bool lB, .slice a1 n1 c1, .slice a2 n2 c2, .slice a3 n3 c3, .slice a4 n4 c4] 27)).alloc (.cells #[.string lo, .string hi, .bool e] 29)).alloc (.cells #[] 36) = w2 at *
    generalize hk0 : w.heap.size = k0 at *
    generalize hk1 : k0 + 1 = k1 at *
    generalize hk2 : k1 + 1 = k2 at *
    have HQ0 := hid hk0
    have HQ := hid (And.intro hk1 hk2)
    clear hk0 hk1 hk2
    have hkk := HQ.out
    obtain ⟨m0, m1, m2, m3, m4⟩ := A0.cells
    go_wp2_with fail
    refine (HM.out _ hb0).mono ?_
    rintro x w3 ⟨rfl, hb3⟩
    have A3 := A0.later hb3
    have R3 := R0.later hb3
    have O3 := O0.later hb3
    replace hb3 := hb0.trans (hb3.mono (by have := R0.lt; omega))
    clear HM m0 m1 m2 m3 m4 A0 R0 O0
    obtain ⟨m0, m1, m2, m3, m4⟩ := A3.cells
    obtain ⟨r0, r1, r2⟩ := R3.cells
    go_wp2_with fail
    refine (HD.out _ hb3).mono ?_
    rintro x w4 ⟨rfl, hb4⟩
    have A4 := A3.later hb4
    have R4 := R3.later hb4
    have O4 := O3.later hb4
    replace hb4 := hb3.trans (hb4.mono (by have := R3.lt; omega))
    clear m0 m1 m2 m3 m4 r0 r1 r2 A3 R3 O3
    clear HD
    obtain ⟨m0, m1, m2, m3, m4⟩ := A4.cells
    obtain ⟨r0, r1, r2⟩ := R4.cells
    go_wp2_with fail
    refine bodyPost_ret (v := .tuple #[.slice (some ⟨k2, 0, none⟩) 0 0, .int .i64 1]) (by simp [results, Try.results15, go_sem]) rfl ⟨list_nil HE.out.1 HE.out.2 O4 (by rw [HQ0.out]; omega) rfl, ?_⟩
    rw [HQ0.out]; exact hb4
  case true =>
  rw [g2] at hle
  cases g1 : inR (rg lo hi e) MS.data.toList
  case false =>
    have HE := hid (HE1.out (by rw [HG.out, g1, g2]; rfl))
    rw [g1] at HI
    clear HE1 HE2 HE3 HE4 HW1 HW2 HG g1 g2
    obtain ⟨lB, ps, pv, ks, bf⟩ := n
    obtain ⟨a1, c1, a2, c2, a3, c3, a4, c4⟩ := p
    dsimp only [nv] at *
    generalize ps.length = n1 at *
    generalize pv.length = n2 at *
    generalize ks.length = n3 at *
    generalize bf.length = n4 at *
    go_enter Try.func15, Try.ntmps15
    go_upto_region 2 with fail
    generalize ((w.alloc (.cells #[.bool lB, .slice a1 n1 c1, .slice a2 n2 c2, .slice a3 n3 c3, .slice a4 n4 c4] 27)).alloc (.cells #[.string lo, .string hi, .bool e] 29)).alloc (.cells #[] 36) = w2 at *
    generalize hk0 : w.heap.size = k0 at *
    generalize hk1 : k0 + 1 = k1 at *
    generalize hk2 : k1 + 1 = k2 at *
    have HQ0 := hid hk0
    have HQ := hid (And.intro hk1 hk2)
    clear hk0 hk1 hk2
    have hkk := HQ.out
    obtain ⟨m0, m1, m2, m3, m4⟩ := A0.cells
    go_wp2_with fail
    refine (HM.out _ hb0).mono ?_
    rintro x w3 ⟨rfl, hb3⟩
    have A3 := A0.later hb3
    have R3 := R0.later hb3
    have O3 := O0.later hb3
    replace hb3 := hb0.trans (hb3.mono (by have := R0.lt; omega))
    clear HM m0 m1 m2 m3 m4 A0 R0 O0
    obtain ⟨m0, m1, m2, m3, m4⟩ := A3.cells
    obtain ⟨r0, r1, r2⟩ := R3.cells
    go_wp2_with fail
    refine (HD.out _ hb3).mono ?_
    rintro x w4 ⟨rfl, hb4⟩
    have A4 := A3.later hb4
    have R4 := R3.later hb4
    have O4 := O3.later hb4
    replace hb4 := hb3.trans (hb4.mono (by have := R3.lt; omega))
    clear m0 m1 m2 m3 m4 r0 r1 r2 A3 R3 O3
    clear HD
    obtain ⟨m0, m1, m2, m3, m4⟩ := A4.cells
    obtain ⟨r0, r1, r2⟩ := R4.cells
    go_wp2_with fail
    refine (HI.out _).mono ?_
    rintro x w5 ⟨rfl, hb5⟩
    have A5 := A4.later hb5
    have R5 := R4.later hb5
    have O5 := O4.later hb5
    replace hb5 := hb4.trans (hb5.mono (by have := R4.lt; omega))
    clear m0 m1 m2 m3 m4 r0 r1 r2 A4 R4 O4
    clear HI
    obtain ⟨m0, m1, m2, m3, m4⟩ := A5.cells
    obtain ⟨r0, r1, r2⟩ := R5.cells
    go_wp2_with fail
    refine bodyPost_ret (v := .tuple #[.slice (some ⟨k2, 0, none⟩) 0 0, .int .i64 1]) (by simp [results, Try.results15, go_sem]) rfl ⟨list_nil HE.out.1 HE.out.2 O5 (by rw [HQ0.out]; omega) rfl, ?_⟩
    rw [HQ0.out]; exact hb5
  case true =>
  have hgb : GB = true := by rw [HG.out, g1, g2]; rfl
  rw [g1] at HI
  have HE2 := hid (HE2.out hgb)
  have HE3 := hid (HE3.out hgb)
  have HE4 := hid (HE4.out hgb)
  clear HE1 HG g1 g2 hgb
  obtain ⟨lB, ps, pv, ks, bf⟩ := n
  obtain ⟨a1, c1, a2, c2, a3, c3, a4, c4⟩ := p
  dsimp only [nv] at *
  generalize ps.length = n1 at *
  generalize pv.length = n2 at *
  generalize ks.length = n3 at *
  generalize bf.length = n4 at *
  go_enter Try.func15, Try.ntmps15
  go_upto_region 2 with fail
  generalize ((w.alloc (.cells #[.bool lB, .slice a1 n1 c1, .slice a2 n2 c2, .slice a3 n3 c3, .slice a4 n4 c4] 27)).alloc (.cells #[.string lo, .string hi, .bool e] 29)).alloc (.cells #[] 36) = w2 at *
  generalize hk0 : w.heap.size = k0 at *
  generalize hk1 : k0 + 1 = k1 at *
  generalize hk2 : k1 + 1 = k2 at *
  have HQ0 := hid hk0
  have HQ := hid (And.intro hk1 hk2)
  clear hk0 hk1 hk2
  have hkk := HQ.out
  obtain ⟨m0, m1, m2, m3, m4⟩ := A0.cells
  go_wp2_with fail
  refine (HM.out _ hb0).mono ?_
  rintro x w3 ⟨rfl, hb3⟩
  have A3 := A0.later hb3
  have R3 := R0.later hb3
  have O3 := O0.later hb3
  replace hb3 := hb0.trans (hb3.mono (by have := R0.lt; omega))
  clear HM m0 m1 m2 m3 m4 A0 R0 O0
  obtain ⟨m0, m1, m2, m3, m4⟩ := A3.cells
  obtain ⟨r0, r1, r2⟩ := R3.cells
  go_wp2_with fail
  refine (HD.out _ hb3).mono ?_
  rintro x w4 ⟨rfl, hb4⟩
  have A4 := A3.later hb4
  have R4 := R3.later hb4
  have O4 := O3.later hb4
  replace hb4 := hb3.trans (hb4.mono (by have := R3.lt; omega))
  clear m0 m1 m2 m3 m4 r0 r1 r2 A3 R3 O3
  clear HD
  obtain ⟨m0, m1, m2, m3, m4⟩ := A4.cells
  obtain ⟨r0, r1, r2⟩ := R4.cells
  go_wp2_with fail
  refine (HI.out _).mono ?_
  rintro x w5 ⟨rfl, hb5⟩
  have A5 := A4.later hb5
  have R5 := R4.later hb5
  have O5 := O4.later hb5
  replace hb5 := hb4.trans (hb5.mono (by have := R4.lt; omega))
  clear m0 m1 m2 m3 m4 r0 r1 r2 A4 R4 O4
  clear HI
  obtain ⟨m0, m1, m2, m3, m4⟩ := A5.cells
  obtain ⟨r0, r1, r2⟩ := R5.cells
  go_wp2_with fail
  refine (HW1.out _ hb5).mono ?_
  rintro x w6 ⟨⟨q1, rfl, N1⟩, hb6⟩
  have hk6 := R5.lt
  have hk62 := (World.ownsRow.lt O5.row k2 rfl).2
  have A6 := A5.later hb6
  have R6 := R5.later hb6
  have O6 := O5.later hb6
  replace hb6 := hb5.trans (hb6.mono (by omega))
  clear m0 m1 m2 m3 m4 r0 r1 r2 A5 R5 O5
  have N1 := N1.mono (show k2 + 1 ≤ w5.heap.size by omega)
  have Q1 := QBox.new w6 (.string P1.lo) (.string P1.strip) (.bool P1.node.leaf) (.slice q1.a1 P1.node.ps.length q1.c1) (.slice q1.a2 P1.node.pv.length q1.c2) (.slice q1.a3 P1.node.ks.length q1.c3) (.slice q1.a4 P1.node.bf.length q1.c4)
  have bx := below_box w6 (.cells #[.string P1.lo, .string P1.strip, .bool P1.node.leaf, .slice q1.a1 P1.node.ps.length q1.c1, .slice q1.a2 P1.node.pv.length q1.c2, .slice q1.a3 P1.node.ks.length q1.c3, .slice q1.a4 P1.node.bf.length q1.c4] 36)
  have A7 := A6.later bx
  have R7 := R6.later bx
  have O7 := O6.later bx
  have N1 := N1.later bx
  have hb7 := hb6.trans (bx.mono (by have := R6.lt; omega))
  have hk7 := R6.lt
  clear A6 R6 O6 bx hb6 HW1
  go_upto_region 8 with fail
  generalize hkq : w6.heap.size = kq at *
  generalize w6.alloc (.cells #[.string P1.lo, .string P1.strip, .bool P1.node.leaf, .slice q1.a1 P1.node.ps.length q1.c1, .slice q1.a2 P1.node.pv.length q1.c2, .slice q1.a3 P1.node.ks.length q1.c3, .slice q1.a4 P1.node.bf.length q1.c4] 36) = w7 at *
  by_cases h1 : Z1 = 0
  case neg =>
    have HE := hid (HE2.out h1)
    go_wp2_with fail
    refine bodyPost_ret (v := .tuple #[.slice (some ⟨k2, 0, none⟩) 0 0, .int .i64 Z1]) (by simp [results, Try.results15, go_sem]) rfl ⟨list_nil HE.out.1 HE.out.2 O7 (by rw [HQ0.out]; omega) rfl, ?_⟩
    rw [HQ0.out]; exact hb7
  case pos =>
  subst h1
  go_upto_region 10 with fail
  obtain ⟨m0, m1, m2, m3, m4⟩ := A7.cells
  obtain ⟨r0, r1, r2⟩ := R7.cells
  have R8 := Box.new w7 (.string MS) (.string hi) (.bool e)
  have bx := below_box w7 (.cells #[.string MS, .string hi, .bool e] 29)
  have A8 := A7.later bx
  have RA := R7.later bx
  have O8 := O7.later bx
  have N1 := N1.later bx
  have hkq8 := Q1.lt
  have Q1 := Q1.later bx
  have hk8 := A7.lt
  have hb8 := hb7.trans (bx.mono (by omega))
  clear A7 R7 O7 bx hb7
  go_upto_region 11 with fail
  clear m0 m1 m2 m3 m4 r0 r1 r2
  generalize hkr : w7.heap.size = kr at *
  generalize w7.alloc (.cells #[.string MS, .string hi, .bool e] 29) = w8 at *
  have hqr : kq < kr := by omega
  have hend : ∀ w9, Box w9 kr (.string MS) (.string hi') (.bool e) → NBox w9 k0 (.bool lB) (.slice a1 n1 c1) (.slice a2 n2 c2) (.slice a3 n3 c3) (.slice a4 n4 c4) → OwnQ w9 k2 (.slice (some ⟨k2, 0, none⟩) 0 0) [] → OwnN w9 (k2 + 1) P1.node q1 → QBox w9 kq (.string P1.lo) (.string P1.strip) (.bool P1.node.leaf) (.slice q1.a1 P1.node.ps.length q1.c1) (.slice q1.a2 P1.node.pv.length q1.c2) (.slice q1.a3 P1.node.ks.length q1.c3) (.slice q1.a4 P1.node.bf.length q1.c4) → Below k0 w w9 → True := fun _ _ _ _ _ _ _ => trivial
  clear hend
  cases e
  case true =>
    have hhe : hi' = hi := hhi'
    subst hhe
    clear hhi'
    have A9 := A8
    have R9 := R8
    have O9 := O8
    have hb9 := hb8
    clear A8 R8 O8 hb8
    obtain ⟨s0, s1, s2⟩ := RA.cells
    go_upto_region 13 with fail
    clear s0 s1 s2 RA
    obtain ⟨m0, m1, m2, m3, m4⟩ := A9.cells
    obtain ⟨r0, r1, r2⟩ := R9.cells
    go_wp2_with fail
    refine (HW2.out _ hb9).mono ?_
    rintro x w10 ⟨⟨q2, rfl, N2⟩, hb10⟩
    have hk10 := A9.lt
    have hk10' := R9.lt
    have O10 := O9.later hb10
    have N1 := N1.later hb10
    have Q1 := Q1.later hb10
    replace hb10 := hb9.trans (hb10.mono (by omega))
    have N2 := N2.mono (show k2 + 1 ≤ w8.heap.size by omega)
    clear m0 m1 m2 m3 m4 r0 r1 r2 A9 R9 O9 hb9
    have Q2 := QBox.new w10 (.string P2.lo) (.string P2.strip) (.bool P2.node.leaf) (.slice q2.a1 P2.node.ps.length q2.c1) (.slice q2.a2 P2.node.pv.length q2.c2) (.slice q2.a3 P2.node.ks.length q2.c3) (.slice q2.a4 P2.node.bf.length q2.c4)
    have bx := below_box w10 (.cells #[.string P2.lo, .string P2.strip, .bool P2.node.leaf, .slice q2.a1 P2.node.ps.length q2.c1, .slice q2.a2 P2.node.pv.length q2.c2, .slice q2.a3 P2.node.ks.length q2.c3, .slice q2.a4 P2.node.bf.length q2.c4] 36)
    have hk11 := Q1.lt
    have O11 := O10.later bx
    have N1 := N1.later bx
    have N2 := N2.later bx
    have Q1 := Q1.later bx
    have hb11 := hb10.trans (bx.mono (by omega))
    clear O10 bx hb10 HW2
    go_upto_region 14 with fail
    generalize hkt : w10.heap.size = kt at *
    generalize w10.alloc (.cells #[.string P2.lo, .string P2.strip, .bool P2.node.leaf, .slice q2.a1 P2.node.ps.length q2.c1, .slice q2.a2 P2.node.pv.length q2.c2, .slice q2.a3 P2.node.ks.length q2.c3, .slice q2.a4 P2.node.bf.length q2.c4] 36) = w11 at *
    by_cases h2 : Z2 = 0
    case neg =>
      have HE := hid (HE3.out (by first | trivial | rfl) h2)
      go_wp2_with fail
      refine bodyPost_ret (v := .tuple #[.slice (some ⟨k2, 0, none⟩) 0 0, .int .i64 Z2]) (by simp [results, Try.results15, go_sem]) rfl ⟨list_nil HE.out.1 HE.out.2 O11 (by rw [HQ0.out]; omega) rfl, ?_⟩
      rw [HQ0.out]; exact hb11
    case pos =>
      subst h2
      have HE := hid (HE4.out (by first | trivial | rfl) (by first | trivial | rfl))
      go_upto_region 16 with fail
      obtain ⟨y0, y1, y2, y3, y4, y5, y6⟩ := Q1.cells
      obtain ⟨z0, z1, z2, z3, z4, z5, z6⟩ := Q2.cells
      have hk12 := Q1.lt
      have HO := ownQ_two w11 P1 P2 q1 q2 (show k2 + 1 ≤ w11.heap.size by omega) N1 N2
      have hb12 := hb11.alloc (show k0 ≤ w11.heap.size by omega) (.cells #[.string P1.lo, .string P1.strip, .bool P1.node.leaf, .slice q1.a1 P1.node.ps.length q1.c1, .slice q1.a2 P1.node.pv.length q1.c2, .slice q1.a3 P1.node.ks.length q1.c3, .slice q1.a4 P1.node.bf.length q1.c4, .string P2.lo, .string P2.strip, .bool P2.node.leaf, .slice q2.a1 P2.node.ps.length q2.c1, .slice q2.a2 P2.node.pv.length q2.c2, .slice q2.a3 P2.node.ks.length q2.c3, .slice q2.a4 P2.node.bf.length q2.c4] 36)
      go_wp2_with fail
      refine bodyPost_ret (v := .tuple #[.slice (some ⟨w11.heap.size, 0, none⟩) 2 2, .int .i64 0]) (by simp [results, Try.results15, go_sem]) rfl ⟨⟨_, _, by rw [HE.out.1], HO.mono (by rw [HQ0.out]; omega), HE.out.2.symm⟩, ?_⟩
      rw [HQ0.out]; exact hb12
  case false =>
    have hhe : hi' = ⟨#[]⟩ := hhi'
    subst hhe
    clear hhi'
    obtain ⟨r0, r1, r2⟩ := R8.cells
    obtain ⟨s0, s1, s2⟩ := RA.cells
    have f1 : w8.frozen? ⟨kr, 1, none⟩ = false := frozen_of_row _ _ 1 _ _ R8
    have R9 : Box (w8.setCell ⟨kr, 1, none⟩ (.string ⟨#[]⟩)) kr (.string MS) (.string ⟨#[]⟩) (.bool false) := Go.Joins.block_setCell R8 (.string ⟨#[]⟩)
    have A9 := A8.far (k' := kr) (i := 1) (u := .string ⟨#[]⟩) (by omega)
    have Q1 : QBox (w8.setCell ⟨kr, 1, none⟩ (.string ⟨#[]⟩)) kq (.string P1.lo) (.string P1.strip) (.bool P1.node.leaf) (.slice q1.a1 P1.node.ps.length q1.c1) (.slice q1.a2 P1.node.pv.length q1.c2) (.slice q1.a3 P1.node.ks.length q1.c3) (.slice q1.a4 P1.node.bf.length q1.c4) := by unfold QBox; rw [Below.heap_setCell _ _ _ _ (show kq ≠ kr by omega)]; exact Q1
    have O9 : OwnQ (w8.setCell ⟨kr, 1, none⟩ (.string ⟨#[]⟩)) k2 (.slice (some ⟨k2, 0, none⟩) 0 0) [] := ⟨row_type O8.row R8 (by decide), fun x hx => by cases hx⟩
    have N1 : OwnN (w8.setCell ⟨kr, 1, none⟩ (.string ⟨#[]⟩)) (k2 + 1) P1.node q1 := ⟨row_type N1.o1 R8 (by decide), row_type N1.o2 R8 (by decide), row_type N1.o3 R8 (by decide), row_type N1.o4 R8 (by decide)⟩
    have hb9 := hb8.setCell (p := ⟨kr, 1, none⟩) (show k0 ≤ kr by omega) (.string ⟨#[]⟩)
    go_upto_region 13 with fail
    clear r0 r1 r2 s0 s1 s2 RA f1 A8 R8 O8 hb8
    have hsz : (w8.setCell ⟨kr, 1, none⟩ (.string ⟨#[]⟩)).heap.size = w8.heap.size := by simp
    generalize w8.setCell ⟨kr, 1, none⟩ (.string ⟨#[]⟩) = w9 at *
    obtain ⟨m0, m1, m2, m3, m4⟩ := A9.cells
    obtain ⟨r0, r1, r2⟩ := R9.cells
    go_wp2_with fail
    refine (HW2.out _ hb9).mono ?_
    rintro x w10 ⟨⟨q2, rfl, N2⟩, hb10⟩
    have hk10 := A9.lt
    have hk10' := R9.lt
    have O10 := O9.later hb10
    have N1 := N1.later hb10
    have Q1 := Q1.later hb10
    replace hb10 := hb9.trans (hb10.mono (by omega))
    have N2 := N2.mono (show k2 + 1 ≤ w9.heap.size by omega)
    clear m0 m1 m2 m3 m4 r0 r1 r2 A9 R9 O9 hb9
    have Q2 := QBox.new w10 (.string P2.lo) (.string P2.strip) (.bool P2.node.leaf) (.slice q2.a1 P2.node.ps.length q2.c1) (.slice q2.a2 P2.node.pv.length q2.c2) (.slice q2.a3 P2.node.ks.length q2.c3) (.slice q2.a4 P2.node.bf.length q2.c4)
    have bx := below_box w10 (.cells #[.string P2.lo, .string P2.strip, .bool P2.node.leaf, .slice q2.a1 P2.node.ps.length q2.c1, .slice q2.a2 P2.node.pv.length q2.c2, .slice q2.a3 P2.node.ks.length q2.c3, .slice q2.a4 P2.node.bf.length q2.c4] 36)
    have hk11 := Q1.lt
    have O11 := O10.later bx
    have N1 := N1.later bx
    have N2 := N2.later bx
    have Q1 := Q1.later bx
    have hb11 := hb10.trans (bx.mono (by omega))
    clear O10 bx hb10 HW2
    go_upto_region 14 with fail
    generalize hkt : w10.heap.size = kt at *
    generalize w10.alloc (.cells #[.string P2.lo, .string P2.strip, .bool P2.node.leaf, .slice q2.a1 P2.node.ps.length q2.c1, .slice q2.a2 P2.node.pv.length q2.c2, .slice q2.a3 P2.node.ks.length q2.c3, .slice q2.a4 P2.node.bf.length q2.c4] 36) = w11 at *
    by_cases h2 : Z2 = 0
    case neg =>
      have HE := hid (HE3.out (by first | trivial | rfl) h2)
      go_wp2_with fail
      refine bodyPost_ret (v := .tuple #[.slice (some ⟨k2, 0, none⟩) 0 0, .int .i64 Z2]) (by simp [results, Try.results15, go_sem]) rfl ⟨list_nil HE.out.1 HE.out.2 O11 (by rw [HQ0.out]; omega) rfl, ?_⟩
      rw [HQ0.out]; exact hb11
    case pos =>
      subst h2
      have HE := hid (HE4.out (by first | trivial | rfl) (by first | trivial | rfl))
      go_upto_region 16 with fail
      obtain ⟨y0, y1, y2, y3, y4, y5, y6⟩ := Q1.cells
      obtain ⟨z0, z1, z2, z3, z4, z5, z6⟩ := Q2.cells
      have hk12 := Q1.lt
      have HO := ownQ_two w11 P1 P2 q1 q2 (show k2 + 1 ≤ w11.heap.size by omega) N1 N2
      have hb12 := hb11.alloc (show k0 ≤ w11.heap.size by omega) (.cells #[.string P1.lo, .string P1.strip, .bool P1.node.leaf, .slice q1.a1 P1.node.ps.length q1.c1, .slice q1.a2 P1.node.pv.length q1.c2, .slice q1.a3 P1.node.ks.length q1.c3, .slice q1.a4 P1.node.bf.length q1.c4, .string P2.lo, .string P2.strip, .bool P2.node.leaf, .slice q2.a1 P2.node.ps.length q2.c1, .slice q2.a2 P2.node.pv.length q2.c2, .slice q2.a3 P2.node.ks.length q2.c3, .slice q2.a4 P2.node.bf.length q2.c4] 36)
      go_wp2_with fail
      refine bodyPost_ret (v := .tuple #[.slice (some ⟨w11.heap.size, 0, none⟩) 2 2, .int .i64 0]) (by simp [results, Try.results15, go_sem]) rfl ⟨⟨_, _, by rw [HE.out.1], HO.mono (by rw [HQ0.out]; omega), HE.out.2.symm⟩, ?_⟩
      rw [HQ0.out]; exact hb12
end Go.Proofs.Ytlkcoaencliajaa.Key

namespace Go.Proofs.Ytlkcoaencliajaa.Key
open Go.RowKit Draw
open Go.Op (bytesLess)
set_option linter.unusedVariables false
set_option linter.unusedSimpArgs false

set_option maxRecDepth 100000 in
set_option maxHeartbeats 1000000 in
theorem pieces17 (n : Nd) (p : Pl) (lo hi : ByteArray) (e : Bool) (fan pairs : Int) (w : World) (hf : Few n) (h : Lies w n p) (hd : ∀ m ∈ n.bf, 0 ≤ m.deep) (hlo : lo.size ≤ 1000) (hhi : hi.size ≤ 1000) :
    Calls Try.prog 17 #[nv n p, av lo hi e, .int .i64 fan, .int .i64 pairs] w fun x w' => ListSay w w' x (piecesL n lo hi e fan pairs) (piecesE n lo hi e fan pairs) ∧ Below w.heap.size w w' := by
  have HH := hid (fun (wr : World) (hb : Below w.heap.size w wr) => halves15 n p lo hi e wr hf (h.later hb) hd hlo hhi)
  have HO := hid (fun (wr : World) (hb : Below w.heap.size w wr) => whole13 n p lo hi e wr hf (h.later hb) hd hlo hhi)
  unfold WholeSay at HO
  obtain ⟨A0, R0, hb0⟩ := boxes_nr w (.bool n.leaf) (.slice p.a1 n.ps.length p.c1) (.slice p.a2 n.pv.length p.c2) (.slice p.a3 n.ks.length p.c3) (.slice p.a4 n.bf.length p.c4) (.string lo) (.string hi) (.bool e)
  have HE1 := hid (fun (hg : muchB n fan pairs = true) => show halvesE n lo hi e = piecesE n lo hi e fan pairs ∧ halvesL n lo hi e = piecesL n lo hi e fan pairs from by
    unfold piecesE piecesL; rw [hg]; exact ⟨rfl, rfl⟩)
  have HE2 := hid (fun (hg : muchB n fan pairs = false) => show (wholeE n (rg lo hi e) = 0 → piecesE n lo hi e fan pairs = 0 ∧ piecesL n lo hi e fan pairs = [wholeP n lo hi e]) ∧ (wholeE n (rg lo hi e) ≠ 0 → piecesE n lo hi e fan pairs = wholeE n (rg lo hi e) ∧ piecesL n lo hi e fan pairs = []) from by
    unfold piecesE piecesL oneL
    rw [hg, if_neg (by simp), if_neg (by simp)]
    exact ⟨fun h => ⟨h, by rw [if_pos h]⟩, fun h => ⟨rfl, by rw [if_neg h]⟩⟩)
  have HG := hid (show muchB n fan pairs = if n.leaf then decide (pairs < (n.ps.length : Int)) else decide (fan < (n.ks.length : Int)) from rfl)
  generalize piecesE n lo hi e fan pairs = ZE at *
  generalize piecesL n lo hi e fan pairs = ZL at *
  generalize muchB n fan pairs = GB at *
  generalize wholeE n (rg lo hi e) = Z1 at *
  generalize wholeP n lo hi e = P at *
  clear h hf hd
  obtain ⟨lB, ps, pv, ks, bf⟩ := n
  obtain ⟨a1, c1, a2, c2, a3, c3, a4, c4⟩ := p
  dsimp only [nv] at *
  generalize ps.length = n1 at *
  generalize pv.length = n2 at *
  generalize ks.length = n3 at *
  generalize bf.length = n4 at *
  cases lB
  case false =>
     cases g1 : decide (fan < (n3 : Int))
     case false =>
      have HX := hid (HE2.out (by rw [HG.out]; exact g1))
      clear HE1 HE2
      clear HG
      go_enter Try.func17, Try.ntmps17
      go_upto_region 1 with fail
      generalize hw2 : (w.alloc (.cells _ 27)).alloc (.cells #[.string lo, .string hi, .bool e] 29) = w2 at *
      clear hw2
      generalize hk0 : w.heap.size = k0 at *
      generalize hk1 : k0 + 1 = k1 at *
      have HQ0 := hid hk0
      have HQ := hid hk1
      clear hk0 hk1
      have hkk := HQ.out
      have hRl := R0.lt
      obtain ⟨m0, m1, m2, m3, m4⟩ := A0.cells
      obtain ⟨r0, r1, r2⟩ := R0.cells
      go_wp2_with fail
      refine (HO.out _ hb0).mono ?_
      rintro x w3 ⟨⟨q, rfl, N3⟩, hb3⟩
      have hs3' := hb3.size
      replace hb3 := hb0.trans (hb3.mono (by omega))
      clear m0 m1 m2 m3 m4 r0 r1 r2
      have Q4 := QBox.new w3 (.string P.lo) (.string P.strip) (.bool P.node.leaf) (.slice q.a1 P.node.ps.length q.c1) (.slice q.a2 P.node.pv.length q.c2) (.slice q.a3 P.node.ks.length q.c3) (.slice q.a4 P.node.bf.length q.c4)
      have bx := below_box w3 (.cells #[.string P.lo, .string P.strip, .bool P.node.leaf, .slice q.a1 P.node.ps.length q.c1, .slice q.a2 P.node.pv.length q.c2, .slice q.a3 P.node.ks.length q.c3, .slice q.a4 P.node.bf.length q.c4] 36)
      have hs3 := hb3.size
      have hk3 : k0 ≤ w3.heap.size := by omega
      have N4 := N3.later bx
      have hb4 := hb3.trans (bx.mono hk3)
      clear hb3 N3 bx
      go_upto_region 7 with fail
      generalize hkq : w3.heap.size = kq at *
      generalize w3.alloc (.cells #[.string P.lo, .string P.strip, .bool P.node.leaf, .slice q.a1 P.node.ps.length q.c1, .slice q.a2 P.node.pv.length q.c2, .slice q.a3 P.node.ks.length q.c3, .slice q.a4 P.node.bf.length q.c4] 36) = w4 at *
      have hq4 := Q4.lt
      by_cases h0 : Z1 = 0
      case neg =>
        have HX2 := hid (HX.out.2 h0)
        have hb5 := hb4.alloc (show k0 ≤ w4.heap.size by omega) (.cells #[] 36)
        go_wp2_with fail
        refine bodyPost_ret (v := .tuple #[.slice (some ⟨w4.heap.size, 0, none⟩) 0 0, .int .i64 Z1]) (by simp [results, Try.results17, go_sem]) rfl ⟨list_nil HX2.out.1 HX2.out.2 (ownQ_empty w4) (by rw [HQ0.out]; omega) rfl, ?_⟩
        rw [HQ0.out]; exact hb5
      case pos =>
        have HX2 := hid (HX.out.1 h0)
        clear HX
        subst h0
        go_upto_region 9 with fail
        obtain ⟨y0, y1, y2, y3, y4, y5, y6⟩ := Q4.cells
        have hOO := ownQ_one w4 P q (show k0 ≤ w4.heap.size by omega) (N4.mono (by omega))
        have hb5 := hb4.alloc (show k0 ≤ w4.heap.size by omega) (.cells #[.string P.lo, .string P.strip, .bool P.node.leaf, .slice q.a1 P.node.ps.length q.c1, .slice q.a2 P.node.pv.length q.c2, .slice q.a3 P.node.ks.length q.c3, .slice q.a4 P.node.bf.length q.c4] 36)
        go_wp2_with fail
        refine bodyPost_ret (v := .tuple #[.slice (some ⟨w4.heap.size, 0, none⟩) 1 1, .int .i64 0]) (by simp [results, Try.results17, go_sem]) rfl ⟨⟨_, _, by rw [HX2.out.1], hOO.mono (by rw [HQ0.out]; exact Nat.le_refl _), HX2.out.2.symm⟩, ?_⟩
        rw [HQ0.out]; exact hb5
     case true =>
      have HX := hid (HE1.out (by rw [HG.out]; exact g1))
      clear HE1 HE2
      clear HG
      go_enter Try.func17, Try.ntmps17
      go_upto_region 1 with fail
      generalize hw2 : (w.alloc (.cells _ 27)).alloc (.cells #[.string lo, .string hi, .bool e] 29) = w2 at *
      clear hw2
      generalize hk0 : w.heap.size = k0 at *
      generalize hk1 : k0 + 1 = k1 at *
      have HQ0 := hid hk0
      have HQ := hid hk1
      clear hk0 hk1
      have hkk := HQ.out
      have hRl := R0.lt
      obtain ⟨m0, m1, m2, m3, m4⟩ := A0.cells
      obtain ⟨r0, r1, r2⟩ := R0.cells
      go_wp2_with fail
      refine (HH.out _ hb0).mono ?_
      rintro x w3 ⟨hsay, hb3⟩
      have HY := hid (list_mono (w0 := w) (by rw [HQ0.out]; omega) hsay)
      obtain ⟨v, L, rfl, hO, he⟩ := hsay
      obtain ⟨bv, dv, cv, hv⟩ := row_slice hO.row
      subst hv
      go_wp2_with fail
      refine bodyPost_ret (v := .tuple #[.slice bv dv cv, .int .i64 (halvesE ⟨false, ps, pv, ks, bf⟩ lo hi e)]) (by simp [results, Try.results17, go_sem]) rfl ⟨?_, ?_⟩
      · have := HY.out
        rw [HX.out.1, HX.out.2] at this
        rw [HX.out.1]
        exact this
      · rw [HQ0.out]
        exact hb0.trans (hb3.mono (by omega))
  case true =>
     cases g1 : decide (pairs < (n1 : Int))
     case false =>
      have HX := hid (HE2.out (by rw [HG.out]; exact g1))
      clear HE1 HE2
      cases g0 : decide (fan < (n3 : Int))
      all_goals
        clear HG
        go_enter Try.func17, Try.ntmps17
        go_upto_region 1 with fail
        generalize hw2 : (w.alloc (.cells _ 27)).alloc (.cells #[.string lo, .string hi, .bool e] 29) = w2 at *
        clear hw2
        generalize hk0 : w.heap.size = k0 at *
        generalize hk1 : k0 + 1 = k1 at *
        have HQ0 := hid hk0
        have HQ := hid hk1
        clear hk0 hk1
        have hkk := HQ.out
        have hRl := R0.lt
        obtain ⟨m0, m1, m2, m3, m4⟩ := A0.cells
        obtain ⟨r0, r1, r2⟩ := R0.cells
        go_wp2_with fail
        refine (HO.out _ hb0).mono ?_
        rintro x w3 ⟨⟨q, rfl, N3⟩, hb3⟩
        have hs3' := hb3.size
        replace hb3 := hb0.trans (hb3.mono (by omega))
        clear m0 m1 m2 m3 m4 r0 r1 r2
        have Q4 := QBox.new w3 (.string P.lo) (.string P.strip) (.bool P.node.leaf) (.slice q.a1 P.node.ps.length q.c1) (.slice q.a2 P.node.pv.length q.c2) (.slice q.a3 P.node.ks.length q.c3) (.slice q.a4 P.node.bf.length q.c4)
        have bx := below_box w3 (.cells #[.string P.lo, .string P.strip, .bool P.node.leaf, .slice q.a1 P.node.ps.length q.c1, .slice q.a2 P.node.pv.length q.c2, .slice q.a3 P.node.ks.length q.c3, .slice q.a4 P.node.bf.length q.c4] 36)
        have hs3 := hb3.size
        have hk3 : k0 ≤ w3.heap.size := by omega
        have N4 := N3.later bx
        have hb4 := hb3.trans (bx.mono hk3)
        clear hb3 N3 bx
        go_upto_region 7 with fail
        generalize hkq : w3.heap.size = kq at *
        generalize w3.alloc (.cells #[.string P.lo, .string P.strip, .bool P.node.leaf, .slice q.a1 P.node.ps.length q.c1, .slice q.a2 P.node.pv.length q.c2, .slice q.a3 P.node.ks.length q.c3, .slice q.a4 P.node.bf.length q.c4] 36) = w4 at *
        have hq4 := Q4.lt
        by_cases h0 : Z1 = 0
        case neg =>
          have HX2 := hid (HX.out.2 h0)
          have hb5 := hb4.alloc (show k0 ≤ w4.heap.size by omega) (.cells #[] 36)
          go_wp2_with fail
          refine bodyPost_ret (v := .tuple #[.slice (some ⟨w4.heap.size, 0, none⟩) 0 0, .int .i64 Z1]) (by simp [results, Try.results17, go_sem]) rfl ⟨list_nil HX2.out.1 HX2.out.2 (ownQ_empty w4) (by rw [HQ0.out]; omega) rfl, ?_⟩
          rw [HQ0.out]; exact hb5
        case pos =>
          have HX2 := hid (HX.out.1 h0)
          clear HX
          subst h0
          go_upto_region 9 with fail
          obtain ⟨y0, y1, y2, y3, y4, y5, y6⟩ := Q4.cells
          have hOO := ownQ_one w4 P q (show k0 ≤ w4.heap.size by omega) (N4.mono (by omega))
          have hb5 := hb4.alloc (show k0 ≤ w4.heap.size by omega) (.cells #[.string P.lo, .string P.strip, .bool P.node.leaf, .slice q.a1 P.node.ps.length q.c1, .slice q.a2 P.node.pv.length q.c2, .slice q.a3 P.node.ks.length q.c3, .slice q.a4 P.node.bf.length q.c4] 36)
          go_wp2_with fail
          refine bodyPost_ret (v := .tuple #[.slice (some ⟨w4.heap.size, 0, none⟩) 1 1, .int .i64 0]) (by simp [results, Try.results17, go_sem]) rfl ⟨⟨_, _, by rw [HX2.out.1], hOO.mono (by rw [HQ0.out]; exact Nat.le_refl _), HX2.out.2.symm⟩, ?_⟩
          rw [HQ0.out]; exact hb5
     case true =>
      have HX := hid (HE1.out (by rw [HG.out]; exact g1))
      clear HE1 HE2
      cases g0 : decide (fan < (n3 : Int))
      all_goals
        clear HG
        go_enter Try.func17, Try.ntmps17
        go_upto_region 1 with fail
        generalize hw2 : (w.alloc (.cells _ 27)).alloc (.cells #[.string lo, .string hi, .bool e] 29) = w2 at *
        clear hw2
        generalize hk0 : w.heap.size = k0 at *
        generalize hk1 : k0 + 1 = k1 at *
        have HQ0 := hid hk0
        have HQ := hid hk1
        clear hk0 hk1
        have hkk := HQ.out
        have hRl := R0.lt
        obtain ⟨m0, m1, m2, m3, m4⟩ := A0.cells
        obtain ⟨r0, r1, r2⟩ := R0.cells
        go_wp2_with fail
        refine (HH.out _ hb0).mono ?_
        rintro x w3 ⟨hsay, hb3⟩
        have HY := hid (list_mono (w0 := w) (by rw [HQ0.out]; omega) hsay)
        obtain ⟨v, L, rfl, hO, he⟩ := hsay
        obtain ⟨bv, dv, cv, hv⟩ := row_slice hO.row
        subst hv
        go_wp2_with fail
        refine bodyPost_ret (v := .tuple #[.slice bv dv cv, .int .i64 (halvesE ⟨true, ps, pv, ks, bf⟩ lo hi e)]) (by simp [results, Try.results17, go_sem]) rfl ⟨?_, ?_⟩
        · have := HY.out
          rw [HX.out.1, HX.out.2] at this
          rw [HX.out.1]
          exact this
        · rw [HQ0.out]
          exact hb0.trans (hb3.mono (by omega))
end Go.Proofs.Ytlkcoaencliajaa.Key

namespace Go.Proofs.Ytlkcoaencliajaa.Key
open Go.RowKit Draw
open Go.Op (bytesLess)
set_option linter.unusedVariables false
set_option linter.unusedSimpArgs false

theorem same_yes (n : Nd) (p p' : Pl) (w : World) (hf : Few n) (h : Lies w n p) (h' : Lies w n p') : Calls Try.prog 23 #[nv n p, nv n p'] w fun x w' => x = .returned (.bool true) ∧ Below w.heap.size w w' := by
  refine (same10 n n p p' w hf hf h h').mono ?_
  rintro x w' ⟨⟨b, hx, hb⟩, hbw⟩
  have : b = true := hb.2 rfl
  exact ⟨by rw [hx, this], hbw⟩

set_option maxRecDepth 100000 in
set_option maxHeartbeats 1000000 in
theorem same18 (a a' : Option Addr) (c c' : Nat) (L L' : List PcQ) (w : World) (hl : L.length ≤ 1000) (he : L.map Prod.fst = L'.map Prod.fst) (hf : ∀ x ∈ L, Few x.1.node) (h : Pcs w a L) (h' : Pcs w a' L') :
    Calls Try.prog 18 #[.slice a L.length c, .slice a' L'.length c'] w fun x w' => x = .returned (.bool true) ∧ Below w.heap.size w w' := by
  have hlen : L'.length = L.length := by have := congrArg List.length he; simpa using this.symm
  have HP := hid (fun (wr : World) (hb : Below w.heap.size w wr) => h.later hb)
  have HP' := hid (fun (wr : World) (hb : Below w.heap.size w wr) => h'.later hb)
  have HE := hid (fun (j : Nat) (hj : j < L.length) (hj' : j < L'.length) => show L[j].1 = L'[j].1 from by
    have := congrArg (fun l => l[j]?) he
    simp only [List.getElem?_map, List.getElem?_eq_getElem hj, List.getElem?_eq_getElem hj', Option.map_some, Option.some.injEq] at this
    exact this)
  have HF := hid (fun (x : PcQ) (hx : x ∈ L) => hf x hx)
  rw [hlen]
  have HN := hid hlen
  clear h h' hf he hlen
  obtain ⟨n1, hn1⟩ : ∃ n1, L.length = n1 := ⟨_, rfl⟩
  rw [hn1] at hl ⊢
  have HN1 := hid hn1
  clear hn1
  go_enter Try.func18, Try.ntmps18
  go_wp2_with fail
  go_loopw [13] (fun i wr => ∃ (j : Nat), j ≤ n1 ∧ i = .int .i64 j ∧ Below w.heap.size w wr) (fun i _ => n1 - (intOf i).toNat)
  case atStart => exact ⟨0, Nat.zero_le _, rfl, Below.refl _ _⟩
  case round =>
    obtain ⟨j, hj, rfl, hb⟩ := hrel
    by_cases hlt : j < n1
    · have h1 : j < L.length := by rw [HN1.out]; exact hlt
      have h2 : j < L'.length := by rw [HN.out]; exact h1
      obtain ⟨b, off, rfl, T, l1⟩ := (HP.out wr hb).at h1
      obtain ⟨b', off', rfl, T', l2⟩ := (HP'.out wr hb).at h2
      have e := HE.out j h1 h2
      have hfew := HF.out _ (List.getElem_mem h1)
      generalize L[j] = x at *
      generalize L'[j] = y at *
      obtain ⟨P, q⟩ := x
      obtain ⟨P', q'⟩ := y
      dsimp only at e T T' l1 l2 hfew
      subst e
      have HS := hid (fun (u : World) (hu : Below wr.heap.size wr u) => same_yes P.node q q' u hfew (l1.later hu) (l2.later hu))
      have e2 : (j : Int) < (n1 : Int) := by omega
      have e3 : IntKind.i64.wrap (j : Int) = (j : Int) := by rw [IntKind.wrap_i64]; omega
      clear l1 l2 hfew
      go_upto_region 6 with fail
      refine wp_region_quiet (C := fun u => Below wr.heap.size wr u) (by kernel_rfl) (by kernel_rfl) (Below.refl _ wr).drew ?_
      change wpQuiet _ _ _ _ (_ :: _) _
      repeat
        first
          | go_big_quiet_skip
          | go_big_quiet_want
            first
              | refine quiet_v ?_ ?_ ?_
                rotate_left
                · intro u hu
                  obtain ⟨x0, x1, x2, x3, x4, x5, x6⟩ := T.later hu
                  obtain ⟨y0, y1, y2, y3, y4, y5, y6⟩ := T'.later hu
                  dsimp only at x0 x1 x2 x3 x4 x5 x6 y0 y1 y2 y3 y4 y5 y6
                  go_simp
                  with_reducible rfl
              | refine quiet_c (.bool true) 23 #[nv P.node q, nv P.node q'] ?_ (fun u hu => (HS.out u hu).mono fun x u' h => ⟨h.1, hu.trans (h.2.mono hu.size)⟩) ?_
                · intro u hu
                  go_simp
                  done
            go_simp
            go_big_quiet_on
      refine wpQuiet_nil (fun u hu => ?_)
      have hb2 := hb.trans (hu.mono hb.size)
      go_wp2_with fail
      go_roundw
      case rel => exact ⟨j + 1, by omega, by go_num, hb2⟩
      case measure => simp [intOf]; omega
    · obtain rfl : j = n1 := by omega
      go_wp2_with fail
      go_ret
      exact ⟨rfl, hb⟩
end Go.Proofs.Ytlkcoaencliajaa.Key

namespace Go.Proofs.Ytlkcoaencliajaa.Key
open Go.RowKit Draw
set_option linter.unusedVariables false
set_option linter.unusedSimpArgs false

def awN : Nd := ⟨true, [⟨⟨#[97]⟩, ⟨#[]⟩⟩, ⟨⟨#[97, 98, 99]⟩, ⟨#[]⟩⟩, ⟨⟨#[97, 98, 100]⟩, ⟨#[]⟩⟩], [], [], []⟩
theorem aw_b : midB awN = true := by kernel_rfl
theorem aw_s : midS awN = ⟨#[97, 98, 100]⟩ := by kernel_rfl
theorem aw_few : Few awN := ⟨by decide, by decide, by decide, by decide⟩
theorem aw_lies {w : World} {k : Nat} (h : w.heap[k]? = some (.cells #[.string ⟨#[97]⟩, .string ⟨#[]⟩, .string ⟨#[97, 98, 99]⟩, .string ⟨#[]⟩, .string ⟨#[97, 98, 100]⟩, .string ⟨#[]⟩] 64 (0, 0))) : Lies w awN ⟨some ⟨k, 0, none⟩, 3, none, 0, none, 0, none, 0⟩ := by
  refine ⟨.inr ⟨k, 0, rfl, fun i hi => ?_⟩, .inl rfl, .inl rfl, .inl rfl⟩
  have hi' : i < 3 := hi
  match i, hi' with
  | 0, _ => exact ⟨cell_of_row _ _ 0 _ _ _ h, cell_of_row _ _ 1 _ _ _ h⟩
  | 1, _ => exact ⟨cell_of_row _ _ 2 _ _ _ h, cell_of_row _ _ 3 _ _ _ h⟩
  | 2, _ => exact ⟨cell_of_row _ _ 4 _ _ _ h, cell_of_row _ _ 5 _ _ _ h⟩

set_option maxRecDepth 100000 in
set_option maxHeartbeats 1000000 in
theorem awake9 (w : World) : Calls Try.prog 9 #[] w fun x w' => x = .returned (.bool true) ∧ Below w.heap.size w w' := by
  have hP : (w.alloc (.cells #[.string ⟨#[97]⟩, .string ⟨#[]⟩, .string ⟨#[97, 98, 99]⟩, .string ⟨#[]⟩, .string ⟨#[97, 98, 100]⟩, .string ⟨#[]⟩] 64)).heap[w.heap.size]? = some (.cells #[.string ⟨#[97]⟩, .string ⟨#[]⟩, .string ⟨#[97, 98, 99]⟩, .string ⟨#[]⟩, .string ⟨#[97, 98, 100]⟩, .string ⟨#[]⟩] 64 (0, 0)) := Go.heap_alloc_new _ _
  have HT := hid (mid10 awN ⟨some ⟨w.heap.size, 0, none⟩, 3, none, 0, none, 0, none, 0⟩ _ aw_few (aw_lies hP))
  rw [aw_b, aw_s] at HT
  have hb0 := below_box w (.cells #[.string ⟨#[97]⟩, .string ⟨#[]⟩, .string ⟨#[97, 98, 99]⟩, .string ⟨#[]⟩, .string ⟨#[97, 98, 100]⟩, .string ⟨#[]⟩] 64)
  clear hP
  go_enter Try.func9, Try.ntmps9
  go_wp2_with fail
  refine HT.out.mono ?_
  rintro x w1 ⟨rfl, hb1⟩
  replace hb1 := hb0.trans (hb1.mono hb0.size)
  go_wp2_with fail
  go_ret
  exact ⟨rfl, hb1⟩
end Go.Proofs.Ytlkcoaencliajaa.Key

namespace Go.Proofs.Ytlkcoaencliajaa.Key
open Go.RowKit Draw
open Go.Op (bytesLess)
set_option linter.unusedVariables false

/-- the size of what is trimmed -/
theorem trim_few {n : Nd} (hf : Few n) (r : Rng) (a : ByteArray) : Few (trimA n r a) := by
  unfold trimA
  split
  · unfold trimN
    split
    · exact ⟨Nat.le_trans (psT_le _ _ _) hf.l1, Nat.zero_le _, Nat.zero_le _, Nat.zero_le _⟩
    · exact ⟨Nat.zero_le _, Nat.le_trans (pvT_le _ _ _ _) hf.l3, Nat.le_trans (ksT_le _ _ _ _) hf.l3, Nat.le_trans (trim_length _ _ _) hf.l4⟩
  · exact ⟨Nat.zero_le _, Nat.zero_le _, Nat.zero_le _, Nat.zero_le _⟩
theorem short_deep (m : M) (a : ByteArray) : (shortM m a).deep = m.deep ∨ (shortM m a).deep = 0 := by
  unfold shortM
  split
  · exact .inl rfl
  · split
    · exact .inl rfl
    · exact .inr rfl
theorem trim_deep {n : Nd} (hd : ∀ m ∈ n.bf, 0 ≤ m.deep ∧ m.deep ≤ 65535) (r : Rng) (a : ByteArray) : ∀ m ∈ (trimA n r a).bf, 0 ≤ m.deep ∧ m.deep ≤ 65535 := by
  unfold trimA
  split
  · unfold trimN
    split
    · intro m hm; cases hm
    · intro m hm
      have hm' : m ∈ trimL n.bf r a := hm
      obtain ⟨x, hx, rfl⟩ := List.mem_map.1 hm'
      have h0 := hd x (List.mem_filter.1 hx).1
      rcases short_deep x a with h | h
      · rw [h]; exact h0
      · rw [h]; omega
  · intro m hm; cases hm

/-- the sizes of what is trimmed -/
theorem trim_small {n : Nd} (hs : Small n) {r : Rng} {a : ByteArray} (h : trimE n r a = 0) : Small (trimA n r a) := by
  have hm := may_trim h
  have he := (trim_zero h).2.2.1
  have hd := trim_deep hs.db r a
  have hf := trim_few hs.few r a
  obtain ⟨z1, z2⟩ := may_sizes hm
  rw [he] at hd hf ⊢
  refine ⟨hf, fun m hx => (z2 m hx).1, fun m hx => Nat.le_trans (z2 m hx).2 (by decide), fun x hx => Nat.le_trans (z1 x hx).2 (by decide), hd, ?_⟩
  unfold trimN
  split
  · intro x hx; cases hx
  · intro x hx
    have hx' : x ∈ ksT n r a n.ks.length := hx
    unfold ksT at hx'
    obtain ⟨i, hi, rfl⟩ := List.mem_map.1 hx'
    obtain ⟨hij, _⟩ := mem_picks.1 hi
    rw [getD_at hij]
    have hq := hs.de _ (List.getElem_mem hij)
    exact ⟨hq.1, hq.2⟩
end Go.Proofs.Ytlkcoaencliajaa.Key

namespace Go.Proofs.Ytlkcoaencliajaa.Key
open Go.RowKit Draw
open Go.Op (bytesLess)
set_option linter.unusedVariables false
set_option linter.unusedSimpArgs false

theorem OwnN.alloc {w : World} {B : Nat} {n : Nd} {q : Pl} (h : OwnN w B n q) (o : Obj) : OwnN (w.alloc o) B n q := h.later (below_box w o)
theorem Pcs.alloc {w : World} {a : Option Addr} {L : List PcQ} (h : Pcs w a L) (o : Obj) : Pcs (w.alloc o) a L := h.later (below_box w o)
theorem OwnQ.pcs {w : World} {B : Nat} {a : Option Addr} {n c : Nat} {L : List PcQ} (h : OwnQ w B (.slice a n c) L) : Pcs w a L := by
  obtain ⟨a', c', e, hp⟩ := h.lies
  simp only [Value.slice.injEq] at e
  rw [e.1]
  exact hp
theorem whole_few {n : Nd} (hf : Few n) (lo hi : ByteArray) (e : Bool) : Few (wholeP n lo hi e).node := by
  unfold wholeP
  split
  · exact trim_few hf _ _
  · exact ⟨Nat.zero_le _, Nat.zero_le _, Nat.zero_le _, Nat.zero_le _⟩
theorem halves_few {n : Nd} (hf : Few n) (lo hi : ByteArray) (e : Bool) : ∀ P ∈ halvesL n lo hi e, Few P.node := by
  intro P hP
  unfold halvesL at hP
  split at hP
  · simp only [List.mem_cons, List.not_mem_nil, or_false] at hP
    rcases hP with rfl | rfl
    · exact whole_few hf _ _ _
    · exact whole_few hf _ _ _
  · cases hP
theorem pieces_few {n : Nd} (hf : Few n) (lo hi : ByteArray) (e : Bool) (fan pairs : Int) : ∀ P ∈ piecesL n lo hi e fan pairs, Few P.node := by
  intro P hP
  unfold piecesL at hP
  split at hP
  · exact halves_few hf lo hi e P hP
  · unfold oneL at hP
    split at hP
    · rw [List.mem_singleton] at hP
      subst hP
      exact whole_few hf _ _ _
    · cases hP
theorem halves_len (n : Nd) (lo hi : ByteArray) (e : Bool) : (halvesL n lo hi e).length ≤ 2 := by
  unfold halvesL
  split
  · exact Nat.le_refl _
  · exact Nat.zero_le _
theorem pieces_len (n : Nd) (lo hi : ByteArray) (e : Bool) (fan pairs : Int) : (piecesL n lo hi e fan pairs).length ≤ 2 := by
  unfold piecesL
  split
  · exact halves_len _ _ _ _
  · unfold oneL
    split
    · show 1 ≤ 2; omega
    · exact Nat.zero_le _
/-- two lists of the same pieces -/
theorem same_lists {L L' : List PcQ} {l : List Pc} (h : L.map Prod.fst = l) (h' : L'.map Prod.fst = l) (hl : l.length ≤ 2) (hf : ∀ P ∈ l, Few P.node) (a a' : Option Addr) (c c' : Nat) (w : World) (hp : Pcs w a L) (hp' : Pcs w a' L') :
    Calls Try.prog 18 #[.slice a L.length c, .slice a' L'.length c'] w fun x w' => x = .returned (.bool true) ∧ Below w.heap.size w w' := by
  subst h
  exact same18 a a' c c' L L' w (by rw [List.length_map] at hl; omega) h'.symm (fun x hx => hf _ (List.mem_map_of_mem hx)) hp hp'

set_option maxRecDepth 100000 in
set_option maxHeartbeats 4000000 in
theorem splitPieces3 (n : Nd) (p : Pl) (lo hi : ByteArray) (e : Bool) (fan pairs : Int) (w : World) (hn : n.In) (h : Lies w n p) (hlo : lo.size ≤ maxLen) (hhi : hi.size ≤ maxLen) :
    Calls Try.prog 3 #[nv n p, av lo hi e, .int .i64 fan, .int .i64 pairs] w fun e w' => e = .returned (.bool true) ∧ Below w.heap.size w w' := by
  obtain ⟨A0, R0, hb0⟩ := boxes_nr w (.bool n.leaf) (.slice p.a1 n.ps.length p.c1) (.slice p.a2 n.pv.length p.c2) (.slice p.a3 n.ks.length p.c3) (.slice p.a4 n.bf.length p.c4) (.string lo) (.string hi) (.bool e)
  have HG := hid (great7 n p _ hn.long (h.later hb0))
  have HS := hid (fun g => @small_of n g hn)
  have HR := hid (great9 lo hi e)
  have hh := hid (fun (wr : World) (hb : Below w.heap.size w wr) => h.later hb)
  clear hn h
  cases g1 : greatN n
  case true =>
    rw [g1] at HG
    clear HS hh g1 HR
    obtain ⟨lB, ps, pv, ks, bf⟩ := n
    obtain ⟨a1, c1, a2, c2, a3, c3, a4, c4⟩ := p
    dsimp only [nv] at *
    generalize ps.length = n1 at *
    generalize pv.length = n2 at *
    generalize ks.length = n3 at *
    generalize bf.length = n4 at *
    go_enter Try.func3, Try.ntmps3
    obtain ⟨cA0, cA1, cA2, cA3, cA4⟩ := A0.cells
    have cAl := A0.lt
    obtain ⟨cR0, cR1, cR2⟩ := R0.cells
    have cRl := R0.lt
    go_wp2_with fail
    refine (HG.out).mono ?_
    rintro x w1 ⟨rfl, hb1⟩
    clear cA0 cA1 cA2 cA3 cA4 cAl cR0 cR1 cR2 cRl
    have Ah1 := A0.later hb1
    have Rh1 := R0.later hb1
    replace hb1 := hb0.trans (hb1.mono hb0.size)
    obtain ⟨cA0, cA1, cA2, cA3, cA4⟩ := Ah1.cells
    have cAl := Ah1.lt
    obtain ⟨cR0, cR1, cR2⟩ := Rh1.cells
    have cRl := Rh1.lt
    go_wp2_with fail
    refine (awake9 _).mono ?_
    rintro x w2 ⟨rfl, hb2⟩
    clear cA0 cA1 cA2 cA3 cA4 cAl cR0 cR1 cR2 cRl
    have Ah2 := Ah1.later hb2
    have Rh2 := Rh1.later hb2
    replace hb2 := hb1.trans (hb2.mono hb1.size)
    go_wp2_with fail
    go_ret
    exact ⟨rfl, hb2⟩
  case false =>
  rw [g1] at HG
  have hsm := HS.out g1
  clear HS g1
  cases g2 : (decide (300 < lo.size) || decide (300 < hi.size))
  case true =>
    rw [g2] at HR
    clear hh hsm g2
    obtain ⟨lB, ps, pv, ks, bf⟩ := n
    obtain ⟨a1, c1, a2, c2, a3, c3, a4, c4⟩ := p
    dsimp only [nv] at *
    generalize ps.length = n1 at *
    generalize pv.length = n2 at *
    generalize ks.length = n3 at *
    generalize bf.length = n4 at *
    go_enter Try.func3, Try.ntmps3
    obtain ⟨cA0, cA1, cA2, cA3, cA4⟩ := A0.cells
    have cAl := A0.lt
    obtain ⟨cR0, cR1, cR2⟩ := R0.cells
    have cRl := R0.lt
    go_wp2_with fail
    refine (HG.out).mono ?_
    rintro x w1 ⟨rfl, hb1⟩
    clear cA0 cA1 cA2 cA3 cA4 cAl cR0 cR1 cR2 cRl
    have Ah1 := A0.later hb1
    have Rh1 := R0.later hb1
    replace hb1 := hb0.trans (hb1.mono hb0.size)
    obtain ⟨cA0, cA1, cA2, cA3, cA4⟩ := Ah1.cells
    have cAl := Ah1.lt
    obtain ⟨cR0, cR1, cR2⟩ := Rh1.cells
    have cRl := Rh1.lt
    go_wp2_with fail
    refine (HR.out _).mono ?_
    rintro x w2 ⟨rfl, hb2⟩
    clear cA0 cA1 cA2 cA3 cA4 cAl cR0 cR1 cR2 cRl
    have Ah2 := Ah1.later hb2
    have Rh2 := Rh1.later hb2
    replace hb2 := hb1.trans (hb2.mono hb1.size)
    obtain ⟨cA0, cA1, cA2, cA3, cA4⟩ := Ah2.cells
    have cAl := Ah2.lt
    obtain ⟨cR0, cR1, cR2⟩ := Rh2.cells
    have cRl := Rh2.lt
    go_wp2_with fail
    refine (awake9 _).mono ?_
    rintro x w3 ⟨rfl, hb3⟩
    clear cA0 cA1 cA2 cA3 cA4 cAl cR0 cR1 cR2 cRl
    have Ah3 := Ah2.later hb3
    have Rh3 := Rh2.later hb3
    replace hb3 := hb2.trans (hb3.mono hb2.size)
    go_wp2_with fail
    go_ret
    exact ⟨rfl, hb3⟩
  case false =>
  rw [g2] at HR
  have hlr : lo.size ≤ 1000 ∧ hi.size ≤ 1000 := by simp at g2; omega
  clear g2
  have hf := hsm.few
  have hd : ∀ m ∈ n.bf, 0 ≤ m.deep := fun m hm => (hsm.db m hm).1
  clear hsm
  have M10 := hid (fun wr hb => mid10 n p wr hf (hh.out wr hb))
  have M11 := hid (fun wr hb => mid11 n p wr hf (hh.out wr hb) hd)
  have M12 := hid (fun wr hb => whole12 n p lo hi e wr hf (hh.out wr hb) hlr.1 hlr.2)
  have M13 := hid (fun wr hb => whole13 n p lo hi e wr hf (hh.out wr hb) hd hlr.1 hlr.2)
  have M14 := hid (fun wr hb => halves14 n p lo hi e wr hf (hh.out wr hb) hlr.1 hlr.2)
  have M15 := hid (fun wr hb => halves15 n p lo hi e wr hf (hh.out wr hb) hd hlr.1 hlr.2)
  have M16 := hid (fun wr hb => pieces16 n p lo hi e fan pairs wr hf (hh.out wr hb) hlr.1 hlr.2)
  have M17 := hid (fun wr hb => pieces17 n p lo hi e fan pairs wr hf (hh.out wr hb) hd hlr.1 hlr.2)
  have F1 := hid (whole_few hf lo hi e)
  have F2 := hid (And.intro (halves_len n lo hi e) (halves_few hf lo hi e))
  have F3 := hid (And.intro (pieces_len n lo hi e fan pairs) (pieces_few hf lo hi e fan pairs))
  unfold WholeSay at M12 M13
  unfold ListSay at M14 M15 M16 M17
  generalize wholeP n lo hi e = P at *
  generalize wholeE n (rg lo hi e) = ZW at *
  generalize halvesL n lo hi e = HL at *
  generalize halvesE n lo hi e = ZH at *
  generalize piecesL n lo hi e fan pairs = PL at *
  generalize piecesE n lo hi e fan pairs = ZP at *
  generalize midS n = MS at *
  generalize midB n = MB at *
  clear hh hf hd
  obtain ⟨lB, ps, pv, ks, bf⟩ := n
  obtain ⟨a1, c1, a2, c2, a3, c3, a4, c4⟩ := p
  dsimp only [nv] at *
  generalize ps.length = n1 at *
  generalize pv.length = n2 at *
  generalize ks.length = n3 at *
  generalize bf.length = n4 at *
  go_enter Try.func3, Try.ntmps3
  obtain ⟨cA0, cA1, cA2, cA3, cA4⟩ := A0.cells
  have cAl := A0.lt
  obtain ⟨cR0, cR1, cR2⟩ := R0.cells
  have cRl := R0.lt
  go_wp2_with fail
  refine (HG.out).mono ?_
  rintro x w1 ⟨rfl, hb1⟩
  clear cA0 cA1 cA2 cA3 cA4 cAl cR0 cR1 cR2 cRl
  have Ah1 := A0.later hb1
  have Rh1 := R0.later hb1
  replace hb1 := hb0.trans (hb1.mono hb0.size)
  obtain ⟨cA0, cA1, cA2, cA3, cA4⟩ := Ah1.cells
  have cAl := Ah1.lt
  obtain ⟨cR0, cR1, cR2⟩ := Rh1.cells
  have cRl := Rh1.lt
  go_wp2_with fail
  refine (HR.out _).mono ?_
  rintro x w2 ⟨rfl, hb2⟩
  clear cA0 cA1 cA2 cA3 cA4 cAl cR0 cR1 cR2 cRl
  have Ah2 := Ah1.later hb2
  have Rh2 := Rh1.later hb2
  replace hb2 := hb1.trans (hb2.mono hb1.size)
  obtain ⟨cA0, cA1, cA2, cA3, cA4⟩ := Ah2.cells
  have cAl := Ah2.lt
  obtain ⟨cR0, cR1, cR2⟩ := Rh2.cells
  have cRl := Rh2.lt
  go_wp2_with fail
  refine (M10.out _ hb2).mono ?_
  rintro x w3 ⟨rfl, hb3⟩
  clear cA0 cA1 cA2 cA3 cA4 cAl cR0 cR1 cR2 cRl
  have Ah3 := Ah2.later hb3
  have Rh3 := Rh2.later hb3
  replace hb3 := hb2.trans (hb3.mono hb2.size)
  obtain ⟨cA0, cA1, cA2, cA3, cA4⟩ := Ah3.cells
  have cAl := Ah3.lt
  obtain ⟨cR0, cR1, cR2⟩ := Rh3.cells
  have cRl := Rh3.lt
  go_wp2_with fail
  refine (M11.out _ hb3).mono ?_
  rintro x w4 ⟨rfl, hb4⟩
  clear cA0 cA1 cA2 cA3 cA4 cAl cR0 cR1 cR2 cRl
  have Ah4 := Ah3.later hb4
  have Rh4 := Rh3.later hb4
  replace hb4 := hb3.trans (hb4.mono hb3.size)
  clear HG HR M10 M11
  obtain ⟨cA0, cA1, cA2, cA3, cA4⟩ := Ah4.cells
  have cAl := Ah4.lt
  obtain ⟨cR0, cR1, cR2⟩ := Rh4.cells
  have cRl := Rh4.lt
  go_wp2_with fail
  refine (M12.out _ hb4).mono ?_
  rintro x w5 ⟨⟨q1, rfl, U1⟩, hb5⟩
  clear cA0 cA1 cA2 cA3 cA4 cAl cR0 cR1 cR2 cRl
  have Ah5 := Ah4.later hb5
  have Rh5 := Rh4.later hb5
  replace hb5 := hb4.trans (hb5.mono hb4.size)
  have ah6 := QBox.new w5 (.string P.lo) (.string P.strip) (.bool P.node.leaf) (.slice q1.a1 P.node.ps.length q1.c1) (.slice q1.a2 P.node.pv.length q1.c2) (.slice q1.a3 P.node.ks.length q1.c3) (.slice q1.a4 P.node.bf.length q1.c4)
  have Ah6 := Ah5.alloc (.cells #[.string P.lo, .string P.strip, .bool P.node.leaf, .slice q1.a1 P.node.ps.length q1.c1, .slice q1.a2 P.node.pv.length q1.c2, .slice q1.a3 P.node.ks.length q1.c3, .slice q1.a4 P.node.bf.length q1.c4] 36)
  have Rh6 := Rh5.alloc (.cells #[.string P.lo, .string P.strip, .bool P.node.leaf, .slice q1.a1 P.node.ps.length q1.c1, .slice q1.a2 P.node.pv.length q1.c2, .slice q1.a3 P.node.ks.length q1.c3, .slice q1.a4 P.node.bf.length q1.c4] 36)
  have U1h6 := U1.alloc (.cells #[.string P.lo, .string P.strip, .bool P.node.leaf, .slice q1.a1 P.node.ps.length q1.c1, .slice q1.a2 P.node.pv.length q1.c2, .slice q1.a3 P.node.ks.length q1.c3, .slice q1.a4 P.node.bf.length q1.c4] 36)
  have hb6 := hb5.alloc hb5.size (.cells #[.string P.lo, .string P.strip, .bool P.node.leaf, .slice q1.a1 P.node.ps.length q1.c1, .slice q1.a2 P.node.pv.length q1.c2, .slice q1.a3 P.node.ks.length q1.c3, .slice q1.a4 P.node.bf.length q1.c4] 36)
  go_upto_region 6 with fail
  generalize hka : w5.heap.size = ka at *
  clear hka
  generalize w5.alloc (.cells #[.string P.lo, .string P.strip, .bool P.node.leaf, .slice q1.a1 P.node.ps.length q1.c1, .slice q1.a2 P.node.pv.length q1.c2, .slice q1.a3 P.node.ks.length q1.c3, .slice q1.a4 P.node.bf.length q1.c4] 36) = w6 at *
  obtain ⟨cA0, cA1, cA2, cA3, cA4⟩ := Ah6.cells
  have cAl := Ah6.lt
  obtain ⟨cR0, cR1, cR2⟩ := Rh6.cells
  have cRl := Rh6.lt
  obtain ⟨ca0, ca1, ca2, ca3, ca4, ca5, ca6⟩ := ah6.cells
  have cal := ah6.lt
  go_wp2_with fail
  refine (M13.out _ hb6).mono ?_
  rintro x w7 ⟨⟨q2, rfl, U2⟩, hb7⟩
  clear cA0 cA1 cA2 cA3 cA4 cAl cR0 cR1 cR2 cRl ca0 ca1 ca2 ca3 ca4 ca5 ca6 cal
  have Ah7 := Ah6.later hb7
  have Rh7 := Rh6.later hb7
  have U1h7 := U1h6.later hb7
  have ah7 := ah6.later hb7
  replace hb7 := hb6.trans (hb7.mono hb6.size)
  have bh8 := QBox.new w7 (.string P.lo) (.string P.strip) (.bool P.node.leaf) (.slice q2.a1 P.node.ps.length q2.c1) (.slice q2.a2 P.node.pv.length q2.c2) (.slice q2.a3 P.node.ks.length q2.c3) (.slice q2.a4 P.node.bf.length q2.c4)
  have Ah8 := Ah7.alloc (.cells #[.string P.lo, .string P.strip, .bool P.node.leaf, .slice q2.a1 P.node.ps.length q2.c1, .slice q2.a2 P.node.pv.length q2.c2, .slice q2.a3 P.node.ks.length q2.c3, .slice q2.a4 P.node.bf.length q2.c4] 36)
  have Rh8 := Rh7.alloc (.cells #[.string P.lo, .string P.strip, .bool P.node.leaf, .slice q2.a1 P.node.ps.length q2.c1, .slice q2.a2 P.node.pv.length q2.c2, .slice q2.a3 P.node.ks.length q2.c3, .slice q2.a4 P.node.bf.length q2.c4] 36)
  have U1h8 := U1h7.alloc (.cells #[.string P.lo, .string P.strip, .bool P.node.leaf, .slice q2.a1 P.node.ps.length q2.c1, .slice q2.a2 P.node.pv.length q2.c2, .slice q2.a3 P.node.ks.length q2.c3, .slice q2.a4 P.node.bf.length q2.c4] 36)
  have ah8 := ah7.alloc (.cells #[.string P.lo, .string P.strip, .bool P.node.leaf, .slice q2.a1 P.node.ps.length q2.c1, .slice q2.a2 P.node.pv.length q2.c2, .slice q2.a3 P.node.ks.length q2.c3, .slice q2.a4 P.node.bf.length q2.c4] 36)
  have U2h8 := U2.alloc (.cells #[.string P.lo, .string P.strip, .bool P.node.leaf, .slice q2.a1 P.node.ps.length q2.c1, .slice q2.a2 P.node.pv.length q2.c2, .slice q2.a3 P.node.ks.length q2.c3, .slice q2.a4 P.node.bf.length q2.c4] 36)
  have hb8 := hb7.alloc hb7.size (.cells #[.string P.lo, .string P.strip, .bool P.node.leaf, .slice q2.a1 P.node.ps.length q2.c1, .slice q2.a2 P.node.pv.length q2.c2, .slice q2.a3 P.node.ks.length q2.c3, .slice q2.a4 P.node.bf.length q2.c4] 36)
  go_upto_region 7 with fail
  generalize hkb : w7.heap.size = kb at *
  clear hkb
  generalize w7.alloc (.cells #[.string P.lo, .string P.strip, .bool P.node.leaf, .slice q2.a1 P.node.ps.length q2.c1, .slice q2.a2 P.node.pv.length q2.c2, .slice q2.a3 P.node.ks.length q2.c3, .slice q2.a4 P.node.bf.length q2.c4] 36) = w8 at *
  clear M12 M13
  obtain ⟨cA0, cA1, cA2, cA3, cA4⟩ := Ah8.cells
  have cAl := Ah8.lt
  obtain ⟨cR0, cR1, cR2⟩ := Rh8.cells
  have cRl := Rh8.lt
  obtain ⟨ca0, ca1, ca2, ca3, ca4, ca5, ca6⟩ := ah8.cells
  have cal := ah8.lt
  obtain ⟨cb0, cb1, cb2, cb3, cb4, cb5, cb6⟩ := bh8.cells
  have cbl := bh8.lt
  go_wp2_with fail
  refine (M14.out _ hb8).mono ?_
  rintro x w9 ⟨⟨v3, L3, rfl, hO3, hL3⟩, hb9⟩
  clear cA0 cA1 cA2 cA3 cA4 cAl cR0 cR1 cR2 cRl ca0 ca1 ca2 ca3 ca4 ca5 ca6 cal cb0 cb1 cb2 cb3 cb4 cb5 cb6 cbl
  have Ah9 := Ah8.later hb9
  have Rh9 := Rh8.later hb9
  have U1h9 := U1h8.later hb9
  have ah9 := ah8.later hb9
  have U2h9 := U2h8.later hb9
  have bh9 := bh8.later hb9
  replace hb9 := hb8.trans (hb9.mono hb8.size)
  obtain ⟨s3, d3, rfl, S3⟩ := hO3.lies
  clear hO3 M14
  obtain ⟨cA0, cA1, cA2, cA3, cA4⟩ := Ah9.cells
  have cAl := Ah9.lt
  obtain ⟨cR0, cR1, cR2⟩ := Rh9.cells
  have cRl := Rh9.lt
  obtain ⟨ca0, ca1, ca2, ca3, ca4, ca5, ca6⟩ := ah9.cells
  have cal := ah9.lt
  obtain ⟨cb0, cb1, cb2, cb3, cb4, cb5, cb6⟩ := bh9.cells
  have cbl := bh9.lt
  go_wp2_with fail
  refine (M15.out _ hb9).mono ?_
  rintro x w10 ⟨⟨v4, L4, rfl, hO4, hL4⟩, hb10⟩
  clear cA0 cA1 cA2 cA3 cA4 cAl cR0 cR1 cR2 cRl ca0 ca1 ca2 ca3 ca4 ca5 ca6 cal cb0 cb1 cb2 cb3 cb4 cb5 cb6 cbl
  have Ah10 := Ah9.later hb10
  have Rh10 := Rh9.later hb10
  have U1h10 := U1h9.later hb10
  have ah10 := ah9.later hb10
  have U2h10 := U2h9.later hb10
  have bh10 := bh9.later hb10
  have S3h10 := S3.later hb10
  replace hb10 := hb9.trans (hb10.mono hb9.size)
  obtain ⟨s4, d4, rfl, S4⟩ := hO4.lies
  clear hO4 M15
  obtain ⟨cA0, cA1, cA2, cA3, cA4⟩ := Ah10.cells
  have cAl := Ah10.lt
  obtain ⟨cR0, cR1, cR2⟩ := Rh10.cells
  have cRl := Rh10.lt
  obtain ⟨ca0, ca1, ca2, ca3, ca4, ca5, ca6⟩ := ah10.cells
  have cal := ah10.lt
  obtain ⟨cb0, cb1, cb2, cb3, cb4, cb5, cb6⟩ := bh10.cells
  have cbl := bh10.lt
  go_wp2_with fail
  refine (M16.out _ hb10).mono ?_
  rintro x w11 ⟨⟨v5, L5, rfl, hO5, hL5⟩, hb11⟩
  clear cA0 cA1 cA2 cA3 cA4 cAl cR0 cR1 cR2 cRl ca0 ca1 ca2 ca3 ca4 ca5 ca6 cal cb0 cb1 cb2 cb3 cb4 cb5 cb6 cbl
  have Ah11 := Ah10.later hb11
  have Rh11 := Rh10.later hb11
  have U1h11 := U1h10.later hb11
  have ah11 := ah10.later hb11
  have U2h11 := U2h10.later hb11
  have bh11 := bh10.later hb11
  have S3h11 := S3h10.later hb11
  have S4h11 := S4.later hb11
  replace hb11 := hb10.trans (hb11.mono hb10.size)
  obtain ⟨s5, d5, rfl, S5⟩ := hO5.lies
  clear hO5 M16
  obtain ⟨cA0, cA1, cA2, cA3, cA4⟩ := Ah11.cells
  have cAl := Ah11.lt
  obtain ⟨cR0, cR1, cR2⟩ := Rh11.cells
  have cRl := Rh11.lt
  obtain ⟨ca0, ca1, ca2, ca3, ca4, ca5, ca6⟩ := ah11.cells
  have cal := ah11.lt
  obtain ⟨cb0, cb1, cb2, cb3, cb4, cb5, cb6⟩ := bh11.cells
  have cbl := bh11.lt
  go_wp2_with fail
  refine (M17.out _ hb11).mono ?_
  rintro x w12 ⟨⟨v6, L6, rfl, hO6, hL6⟩, hb12⟩
  clear cA0 cA1 cA2 cA3 cA4 cAl cR0 cR1 cR2 cRl ca0 ca1 ca2 ca3 ca4 ca5 ca6 cal cb0 cb1 cb2 cb3 cb4 cb5 cb6 cbl
  have Ah12 := Ah11.later hb12
  have Rh12 := Rh11.later hb12
  have U1h12 := U1h11.later hb12
  have ah12 := ah11.later hb12
  have U2h12 := U2h11.later hb12
  have bh12 := bh11.later hb12
  have S3h12 := S3h11.later hb12
  have S4h12 := S4h11.later hb12
  have S5h12 := S5.later hb12
  replace hb12 := hb11.trans (hb12.mono hb11.size)
  obtain ⟨s6, d6, rfl, S6⟩ := hO6.lies
  clear hO6 M17
  obtain ⟨cA0, cA1, cA2, cA3, cA4⟩ := Ah12.cells
  have cAl := Ah12.lt
  obtain ⟨cR0, cR1, cR2⟩ := Rh12.cells
  have cRl := Rh12.lt
  obtain ⟨ca0, ca1, ca2, ca3, ca4, ca5, ca6⟩ := ah12.cells
  have cal := ah12.lt
  obtain ⟨cb0, cb1, cb2, cb3, cb4, cb5, cb6⟩ := bh12.cells
  have cbl := bh12.lt
  go_upto_region 11 with fail
  have V1 := (ownQ_one w12 P q1 (show 0 ≤ w12.heap.size from Nat.zero_le _) (U1h12.mono (Nat.zero_le _))).pcs
  have V2 := (ownQ_one (w12.alloc (.cells #[.string P.lo, .string P.strip, .bool P.node.leaf, .slice q1.a1 P.node.ps.length q1.c1, .slice q1.a2 P.node.pv.length q1.c2, .slice q1.a3 P.node.ks.length q1.c3, .slice q1.a4 P.node.bf.length q1.c4] 36)) P q2 (Nat.zero_le _) ((U2h12.mono (Nat.zero_le _)).alloc _)).pcs
  have V1 := V1.alloc (.cells #[.string P.lo, .string P.strip, .bool P.node.leaf, .slice q2.a1 P.node.ps.length q2.c1, .slice q2.a2 P.node.pv.length q2.c2, .slice q2.a3 P.node.ks.length q2.c3, .slice q2.a4 P.node.bf.length q2.c4] 36)
  rw [show (w12.alloc (.cells #[.string P.lo, .string P.strip, .bool P.node.leaf, .slice q1.a1 P.node.ps.length q1.c1, .slice q1.a2 P.node.pv.length q1.c2, .slice q1.a3 P.node.ks.length q1.c3, .slice q1.a4 P.node.bf.length q1.c4] 36)).heap.size = w12.heap.size + 1 by simp] at V2
  have SS := same_lists (L := [(P, q1)]) (L' := [(P, q2)]) (l := [P]) rfl rfl (show 1 ≤ 2 by omega) (fun x hx => by rw [List.mem_singleton] at hx; subst hx; exact F1.out) _ _ 1 1 _ V1 V2
  have hbS := (hb12.alloc hb12.size (.cells #[.string P.lo, .string P.strip, .bool P.node.leaf, .slice q1.a1 P.node.ps.length q1.c1, .slice q1.a2 P.node.pv.length q1.c2, .slice q1.a3 P.node.ks.length q1.c3, .slice q1.a4 P.node.bf.length q1.c4] 36)).alloc (by simp; have := hb12.size; omega) (.cells #[.string P.lo, .string P.strip, .bool P.node.leaf, .slice q2.a1 P.node.ps.length q2.c1, .slice q2.a2 P.node.pv.length q2.c2, .slice q2.a3 P.node.ks.length q2.c3, .slice q2.a4 P.node.bf.length q2.c4] 36)
  have S3z := (S3h12.alloc (.cells #[.string P.lo, .string P.strip, .bool P.node.leaf, .slice q1.a1 P.node.ps.length q1.c1, .slice q1.a2 P.node.pv.length q1.c2, .slice q1.a3 P.node.ks.length q1.c3, .slice q1.a4 P.node.bf.length q1.c4] 36)).alloc (.cells #[.string P.lo, .string P.strip, .bool P.node.leaf, .slice q2.a1 P.node.ps.length q2.c1, .slice q2.a2 P.node.pv.length q2.c2, .slice q2.a3 P.node.ks.length q2.c3, .slice q2.a4 P.node.bf.length q2.c4] 36)
  have S4z := (S4h12.alloc (.cells #[.string P.lo, .string P.strip, .bool P.node.leaf, .slice q1.a1 P.node.ps.length q1.c1, .slice q1.a2 P.node.pv.length q1.c2, .slice q1.a3 P.node.ks.length q1.c3, .slice q1.a4 P.node.bf.length q1.c4] 36)).alloc (.cells #[.string P.lo, .string P.strip, .bool P.node.leaf, .slice q2.a1 P.node.ps.length q2.c1, .slice q2.a2 P.node.pv.length q2.c2, .slice q2.a3 P.node.ks.length q2.c3, .slice q2.a4 P.node.bf.length q2.c4] 36)
  have S5z := (S5h12.alloc (.cells #[.string P.lo, .string P.strip, .bool P.node.leaf, .slice q1.a1 P.node.ps.length q1.c1, .slice q1.a2 P.node.pv.length q1.c2, .slice q1.a3 P.node.ks.length q1.c3, .slice q1.a4 P.node.bf.length q1.c4] 36)).alloc (.cells #[.string P.lo, .string P.strip, .bool P.node.leaf, .slice q2.a1 P.node.ps.length q2.c1, .slice q2.a2 P.node.pv.length q2.c2, .slice q2.a3 P.node.ks.length q2.c3, .slice q2.a4 P.node.bf.length q2.c4] 36)
  have S6z := (S6.alloc (.cells #[.string P.lo, .string P.strip, .bool P.node.leaf, .slice q1.a1 P.node.ps.length q1.c1, .slice q1.a2 P.node.pv.length q1.c2, .slice q1.a3 P.node.ks.length q1.c3, .slice q1.a4 P.node.bf.length q1.c4] 36)).alloc (.cells #[.string P.lo, .string P.strip, .bool P.node.leaf, .slice q2.a1 P.node.ps.length q2.c1, .slice q2.a2 P.node.pv.length q2.c2, .slice q2.a3 P.node.ks.length q2.c3, .slice q2.a4 P.node.bf.length q2.c4] 36)
  clear V1 V2
  go_wp2_with fail
  refine SS.mono ?_
  rintro x wz ⟨rfl, hbz⟩
  clear cA0 cA1 cA2 cA3 cA4 cAl cR0 cR1 cR2 cRl ca0 ca1 ca2 ca3 ca4 ca5 ca6 cal cb0 cb1 cb2 cb3 cb4 cb5 cb6 cbl
  have S3z := S3z.later hbz
  have S4z := S4z.later hbz
  have S5z := S5z.later hbz
  have S6z := S6z.later hbz
  replace hbz := hbS.trans (hbz.mono hbS.size)
  clear SS hbS
  go_wp2_with fail
  refine (same_lists hL3 hL4 F2.out.1 F2.out.2 _ _ _ _ _ S3z S4z).mono ?_
  rintro x wy ⟨rfl, hby⟩
  have S5y := S5z.later hby
  have S6y := S6z.later hby
  replace hby := hbz.trans (hby.mono hbz.size)
  go_wp2_with fail
  refine (same_lists hL5 hL6 F3.out.1 F3.out.2 _ _ _ _ _ S5y S6y).mono ?_
  rintro x wx ⟨rfl, hbx⟩
  replace hbx := hby.trans (hbx.mono hby.size)
  go_wp2_with fail
  refine (awake9 _).mono ?_
  rintro x wu ⟨rfl, hbu⟩
  replace hbu := hbx.trans (hbu.mono hbx.size)
  go_wp2_with fail
  go_ret
  exact ⟨rfl, hbu⟩
end Go.Proofs.Ytlkcoaencliajaa.Key

namespace Go.Proofs.Ytlkcoaencliajaa.splitPieces
open Go.ChangeShapes Go.WideShapes Go.ChangeAt Go.RowKit Go.Joins
open Go.Op (bytesLess)
set_option linter.unusedVariables false

theorem own : ownKnob Try.prog.godebug = none := by kernel_rfl
theorem laidOut : laidOutB Try.prog = true := by kernel_rfl
theorem cells29 : Try.prog.cellsOf 29 = 3 := by kernel_rfl

set_option maxRecDepth 100000 in
set_option maxHeartbeats 4000000 in
theorem walk (n0 : Key.Nd) (p0 : Key.Pl) (lo1 hi1 : ByteArray) (e1 : Bool) (n2 : Int) (n3 : Int) (w : World) (wl0 : Key.Lies w n0 p0) (wn0 : Key.Nd.In n0) (wp0 : Key.Pl.Ok p0) (wlo1 : lo1.size ≤ maxLen) (whi1 : hi1.size ≤ maxLen) (wi2 : (Lit.int .i64 n2).wf = true) (wi3 : (Lit.int .i64 n3).wf = true) :
    Calls Try.prog 3 #[Key.nv n0 p0, Key.av lo1 hi1 e1, .int .i64 n2, .int .i64 n3] w fun e w' => e = .returned (.bool true) ∧ Below w.heap.size w w' := by
  exact Key.splitPieces3 n0 p0 lo1 hi1 e1 n2 n3 w wn0 wl0 wlo1 whi1

set_option maxRecDepth 100000 in
theorem lifted (os : Os) (started : os.Started) (H : Type) (enc : TypeId × Value → H) :
    ReturnsInHanded {} Try.checked os 3 .any (Rows.splitPiecesSpec.pre6 enc Try.prog Try.f3 Rows.splitPiecesRow.domain false) (Rows.splitPiecesSpec.post enc Try.prog Try.f3 false true false false) := by
  refine returnsInHanded_of_change (C := Try.checked) own started (by kernel_rfl) Try.func3
    (ChangeSpec.witness6 (enc := enc) (C := Try.checked) false ⟨#[], #[.agg #[.bool false, .slice none 0 0, .slice none 0 0, .slice none 0 0, .slice none 0 0], .agg #[.string ByteArray.empty, .string ByteArray.empty, .bool false], .int .i64 0, .int .i64 0], []⟩ 8 (by kernel_rfl) (by kernel_rfl) (by kernel_rfl) (by kernel_rfl)) ?_
  intro W base args ds gs before hval0 hW hcnd _
  have hval : ∀ (j : Nat) t v, Try.f3.params[j]? = some t → args[j]? = some v → Value.okWide Try.prog W .any base t v := hval0
  have hW' := hW
  obtain ⟨p, q, hA0, hV, rfl, hfz, hnd⟩ := hW
  have hA : DataW.TrodAll enc Try.prog W 0 (fun _ => true) true Try.f3.params.toList args.toList ds p := hA0
  rw [Try.params3] at hA hval
  obtain ⟨v0, vs0, d0, ds0, pp0, qq0, hargs, rfl, rfl, g0, r0⟩ := trodAll_cons hA
  obtain ⟨v1, vs1, d1, ds1, pp1, qq1, rfl, rfl, rfl, g1, r1⟩ := trodAll_cons r0
  obtain ⟨v2, vs2, d2, ds2, pp2, qq2, rfl, rfl, rfl, g2, r2⟩ := trodAll_cons r1
  obtain ⟨v3, vs3, d3, ds3, pp3, qq3, rfl, rfl, rfl, g3, r3⟩ := trodAll_cons r2
  obtain ⟨rfl, rfl, rfl⟩ := trodAll_nil r3
  obtain rfl : args = #[v0, v1, v2, v3] := by cases args; simp_all
  obtain ⟨rfl, rfl⟩ := trodVars_none hV
  have k0 := g0
  have lt0 : ∀ x ∈ pp0, x.block < W.heap.size := by obtain ⟨m, hm⟩ := k0; exact DataW.trod_lt m _ _ _ hm
  obtain ⟨n0, p0, rfl, wl0, wn0, wp0⟩ := Key.opened_node (hval 0 27 v0 rfl rfl) g0
  have k1 := g1
  have lt1 : ∀ x ∈ pp1, x.block < W.heap.size := by obtain ⟨m, hm⟩ := k1; exact DataW.trod_lt m _ _ _ hm
  obtain ⟨x1, y1, z1, dx1, dy1, dz1, mm1, rfl, rfl, rfl, hx1, hy1, hz1⟩ := open_agg3 Try.underlying29 (by kernel_rfl) cells29 (hval 1 29 v1 rfl rfl) g1
  obtain ⟨lo1, el1, rfl, wlo1⟩ := DataW.trod_string Try.underlying9 hx1
  obtain ⟨hi1, eh1, rfl, whi1⟩ := DataW.trod_string Try.underlying9 hy1
  obtain ⟨e1, ee1, rfl⟩ := DataW.trod_bool Try.underlying4 hz1
  simp at el1 eh1 ee1
  subst el1 eh1 ee1
  have k2 := g2
  have lt2 : ∀ x ∈ pp2, x.block < W.heap.size := by obtain ⟨m, hm⟩ := k2; exact DataW.trod_lt m _ _ _ hm
  obtain ⟨n2, rfl, rfl, rfl, wi2⟩ := open_int Try.underlying3 (hval 2 3 v2 rfl rfl) g2
  have k3 := g3
  have lt3 : ∀ x ∈ pp3, x.block < W.heap.size := by obtain ⟨m, hm⟩ := k3; exact DataW.trod_lt m _ _ _ hm
  obtain ⟨n3, rfl, rfl, rfl, wi3⟩ := open_int Try.underlying3 (hval 3 3 v3 rfl rfl) g3
  clear hA0 hval0
  refine (walk n0 p0 lo1 hi1 e1 n2 n3 W wl0 wn0 wp0 wlo1 whi1 wi2 wi3).mono fun e W' ⟨he, bel⟩ => ?_
  subst he
  exact ⟨_, rfl, _, _, _, [], _, [], hW', trodAll_mk1 (shut_bool Try.underlying4 _), (trodAll_cons_mk (Below.trod laidOut (by kernel_rfl) (of_decide_eq_true (by kernel_rfl)) k0 bel lt0) (trodAll_cons_mk (Below.trod laidOut (by kernel_rfl) (of_decide_eq_true (by kernel_rfl)) k1 bel lt1) (trodAll_cons_mk (Below.trod laidOut (by kernel_rfl) (of_decide_eq_true (by kernel_rfl)) k2 bel lt2) (trodAll_cons_mk (Below.trod laidOut (by kernel_rfl) (of_decide_eq_true (by kernel_rfl)) k3 bel lt3) trodAll_mk0)))), rfl, bel.frame _, fun h => by cases h⟩

theorem over : Rows.splitPiecesRow.holds Try.pinned (OpenSpec.ofChange Rows.splitPiecesSpec) :=
  OpenClaim.holds_of_wide 3 Try.f3 rfl rfl rfl rfl rfl rfl rfl ⟨rfl, rfl, rfl, rfl, rfl⟩ rfl rfl rfl rfl rfl (by kernel_rfl) Try.func3 (by kernel_rfl)
    (of_decide_eq_true (by kernel_rfl)) (by unfold Func.isWrapper; first | (rw [if_pos (by decide +kernel)]; kernel_rfl) | (rw [if_neg (by decide +kernel)]; exact ⟨rfl, rfl⟩))
    (fun os started H enc _ => lifted os started H enc)

/-- the statement -/
theorem proved : Rows.SplitPiecesSaid := over
#print axioms proved
end Go.Proofs.Ytlkcoaencliajaa.splitPieces
