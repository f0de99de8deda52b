/-
  Proved: the call of the statement SplitJoins returns true for every two pieces, range and integer (two pieces put together, or the error, are the document's; a key leads in them where it leads in the one in which it stands), and they read afterwards as they read before. No condition.
  The frame of the row's step was written by the guide's proof-skeleton.mjs, turned; the walk is this text's own.
  Plain facts of pieces: a node's middle, it as one piece and as two; two leaves' pieces as one. No program is named here.
  Pieces: as values, in blocks, in slices, in rows of the call's own.
  Contracts of lifted, unstripped, within, rise and leafMay.
  Contracts of rise, the program's, and of Rise, the document's.
  Contracts of Between, the program's and the document's, and of Under, the document's.
  Contract of Join, the program's.
  Contract of Join, the program's: the walk.
  A law for regions that draw, whose last operation waits for all others and writes a slot that one of them may have looked at, and whose operations are each told what holds until they come up. No program is named here.
  Contract of Join, the document's.
  Contract of the document's Same (of pieces), for pieces that are the same.
  Contracts of half, midOfPairs, midOfKids and Mid, the program's.
  Contract of awake: the document's example.
  The walk of the statement SplitJoins.
  Pieces that come in.
-/
import Derived.Test.YtlkcoaencliajaaTp
import Derived.Test.YtlkcoaencliajaaTApp
import Derived.Test.YtlkcoaencliajaaQu3
import Derived.Test.YtlkcoaencliajaaLGo
import Derived.Test.YtlkcoaencliajaaMayN
import Derived.Test.YtlkcoaencliajaaTm
import Derived.Test.YtlkcoaencliajaaLx
import Derived.Test.YtlkcoaencliajaaUText
import Derived.Test.YtlkcoaencliajaaUUnder
import Derived.Test.YtlkcoaencliajaaQt
import Derived.Laws.AppendOwnNone
import Derived.Test.YtlkcoaencliajaaKd
import Derived.Test.YtlkcoaencliajaaRefMay2
import Derived.Test.YtlkcoaencliajaaSameRef
import Derived.Test.YtlkcoaencliajaaTShift
import Derived.Test.YtlkcoaencliajaaSmall
import Derived.Test.YtlkcoaencliajaaLead
import Derived.Test.YtlkcoaencliajaaLOverSay
import Derived.Test.YtlkcoaencliajaaOp
import Derived.WalkKit
import Derived.ProofKit
import Derived.OpenShut
import Derived.ShutString
import Derived.ChangeOld
import Derived.Below
import Derived.Carry
import Derived.Lib.SmallJoins
namespace Go.Proofs.Ytlkcoaencliajaa.Key
open Go.RowKit
open Go.Op (bytesLess)
set_option linter.unusedVariables false
set_option linter.unusedSimpArgs false

/-- a range without an end is the same whatever stands behind it -/
theorem free_in (lo hi hi' k : List UInt8) : inR ⟨lo, hi, false⟩ k = inR ⟨lo, hi', false⟩ k := by simp [inR]
theorem free_empty (lo hi hi' : List UInt8) : emptyR ⟨lo, hi, false⟩ = emptyR ⟨lo, hi', false⟩ := by unfold emptyR; rw [free_in lo hi hi']
theorem free_cut (x : Rng) (lo hi hi' : List UInt8) : cutR x ⟨lo, hi, false⟩ = cutR x ⟨lo, hi', false⟩ := by
  unfold cutR
  rw [show rawCut x ⟨lo, hi, false⟩ = rawCut x ⟨lo, hi', false⟩ by unfold rawCut; simp]
theorem free_under (lo hi hi' : List UInt8) : under ⟨lo, hi, false⟩ = under ⟨lo, hi', false⟩ := by
  unfold under underN
  rw [free_empty lo hi hi']
  rfl
theorem free_tch (pv : List ByteArray) (lo hi hi' : List UInt8) : tch pv ⟨lo, hi, false⟩ = tch pv ⟨lo, hi', false⟩ := by
  funext i
  unfold tch
  rw [free_cut _ lo hi hi']
theorem free_touch (m : M) (lo hi hi' : List UInt8) : touch m ⟨lo, hi, false⟩ = touch m ⟨lo, hi', false⟩ := by
  unfold touch
  rw [free_cut _ lo hi hi']
theorem free_some (l : List M) (lo hi hi' : List UInt8) : some' l ⟨lo, hi, false⟩ = some' l ⟨lo, hi', false⟩ := by
  unfold some'
  exact List.filter_congr fun m _ => free_touch m lo hi hi'
theorem free_inP (lo hi hi' : List UInt8) : inP ⟨lo, hi, false⟩ = inP ⟨lo, hi', false⟩ := by
  funext p
  exact free_in lo hi hi' _
theorem free_trimE (n : Nd) (lo hi hi' : List UInt8) (a : ByteArray) : trimE n ⟨lo, hi, false⟩ a = trimE n ⟨lo, hi', false⟩ a := by
  unfold trimE fitsT okT trimB
  rw [free_empty lo hi hi', free_under lo hi hi', free_tch n.pv lo hi hi', free_some n.bf lo hi hi']
theorem free_trimA (n : Nd) (lo hi hi' : List UInt8) (a : ByteArray) : trimA n ⟨lo, hi, false⟩ a = trimA n ⟨lo, hi', false⟩ a := by
  unfold trimA trimN trimF psT pvT ksT picks trimL
  rw [free_trimE n lo hi hi', free_tch n.pv lo hi hi', free_some n.bf lo hi hi', free_inP lo hi hi']

/-- all keys of a range begin so -/
def undS (r : Rng) : ByteArray := str (under r)
/-- a piece -/
structure Pc where
  lo : ByteArray
  strip : ByteArray
  node : Nd
def Pc.nil : Pc := ⟨⟨#[]⟩, ⟨#[]⟩, nilN⟩
def wholeE (n : Nd) (r : Rng) : Int := trimE n r (undS r)
def wholeP (n : Nd) (lo hi : ByteArray) (e : Bool) : Pc := if wholeE n (rg lo hi e) = 0 then ⟨lo, undS (rg lo hi e), trimA n (rg lo hi e) (undS (rg lo hi e))⟩ else Pc.nil
def halfN (n : Nat) : Nat := (n + 1) / 2
def midB (n : Nd) : Bool := if mayI n = 0 then if n.leaf then decide (2 ≤ n.ps.length) else decide (2 ≤ n.ks.length) else false
def keyAt (ps : List Pr) (i : Nat) : ByteArray := (ps.getD i Pr.nil).key
def midL (ps : List Pr) : ByteArray := str (between (keyAt ps (halfN ps.length - 1)).data.toList (keyAt ps (halfN ps.length)).data.toList)
def midK (n : Nd) : ByteArray := ahead n.pv (halfN n.ks.length)
def midS (n : Nd) : ByteArray := if midB n then if n.leaf then midL n.ps else midK n else ⟨#[]⟩
def goodB (n : Nd) (lo hi : ByteArray) (e : Bool) : Bool := midB n && (inR (rg lo hi e) (midS n).data.toList && !((midS n).data.toList == lo.data.toList))
def halvesE (n : Nd) (lo hi : ByteArray) (e : Bool) : Int :=
  if mayI n = 0 then if goodB n lo hi e then if wholeE n (rg lo (midS n) true) = 0 then wholeE n (rg (midS n) hi e) else wholeE n (rg lo (midS n) true) else 1 else 3
def halvesL (n : Nd) (lo hi : ByteArray) (e : Bool) : List Pc := if halvesE n lo hi e = 0 then [wholeP n lo (midS n) true, wholeP n (midS n) hi e] else []
def muchB (n : Nd) (fan pairs : Int) : Bool := if n.leaf then decide (pairs < (n.ps.length : Int)) else decide (fan < (n.ks.length : Int))
def oneL (n : Nd) (lo hi : ByteArray) (e : Bool) : List Pc := if wholeE n (rg lo hi e) = 0 then [wholeP n lo hi e] else []
def piecesE (n : Nd) (lo hi : ByteArray) (e : Bool) (fan pairs : Int) : Int := if muchB n fan pairs then halvesE n lo hi e else wholeE n (rg lo hi e)
def piecesL (n : Nd) (lo hi : ByteArray) (e : Bool) (fan pairs : Int) : List Pc := if muchB n fan pairs then halvesL n lo hi e else oneL n lo hi e

theorem free_wholeE (n : Nd) (lo hi hi' : ByteArray) : wholeE n (rg lo hi false) = wholeE n (rg lo hi' false) := by
  unfold wholeE undS rg
  rw [free_under _ hi.data.toList hi'.data.toList, free_trimE n _ hi.data.toList hi'.data.toList]
theorem free_wholeP (n : Nd) (lo hi hi' : ByteArray) : wholeP n lo hi false = wholeP n lo hi' false := by
  unfold wholeP
  rw [free_wholeE n lo hi hi']
  unfold undS rg
  rw [free_under _ hi.data.toList hi'.data.toList, free_trimA n _ hi.data.toList hi'.data.toList]
theorem whole_zero {n : Nd} {lo hi : ByteArray} {e : Bool} (h : wholeE n (rg lo hi e) = 0) : wholeP n lo hi e = ⟨lo, undS (rg lo hi e), trimN n (rg lo hi e) (undS (rg lo hi e))⟩ := by
  unfold wholeP
  rw [if_pos h, (trim_zero h).2.2.1]
theorem und_size (lo hi : ByteArray) (e : Bool) : (undS (rg lo hi e)).size ≤ lo.size := by
  unfold undS
  rw [str_size]
  unfold under
  rw [List.length_take]
  show min _ lo.data.toList.length ≤ _
  rw [← Lib.size_eq]
  omega
/-- where a key leads in a piece -/
theorem piece_leads {n : Nd} {lo hi : ByteArray} {e : Bool} {k : List UInt8} (h : wholeE n (rg lo hi e) = 0) (hk : inR (rg lo hi e) k = true) :
    has k (undS (rg lo hi e)).data.toList = true ∧ stepW (wholeP n lo hi e).node (k.drop (undS (rg lo hi e)).size) = stepW n k := by
  have h1 : has k (undS (rg lo hi e)).data.toList = true := by
    unfold undS
    rw [str_data]
    exact under_in hk
  refine ⟨h1, ?_⟩
  rw [whole_zero h]
  dsimp only
  have hs := has_split h1
  rw [Lib.size_eq]
  rw [hs] at hk
  have := trim_leads h hk
  rw [this, ← hs]

/-- of a leaf: what stands ahead of the middle, and what from it on -/
theorem pw_at {α : Type} {R : α → α → Prop} {l : List α} (h : l.Pairwise R) {i j : Nat} (hij : i < j) (hj : j < l.length) : R (l[i]'(by omega)) l[j] := List.pairwise_iff_getElem.1 h i j (by omega) hj hij
theorem keyAt_at {ps : List Pr} {i : Nat} (h : i < ps.length) : keyAt ps i = ps[i].key := by unfold keyAt; rw [getD_at h]
theorem half_lt {n : Nat} (h : 2 ≤ n) : 0 < halfN n ∧ halfN n < n := by unfold halfN; omega
theorem mid_two {ps : List Pr} (hr : ps.Pairwise lessP) (h2 : 2 ≤ ps.length) :
    bytesLess (keyAt ps (halfN ps.length - 1)).data.toList (midL ps).data.toList = true ∧ bytesLess (keyAt ps (halfN ps.length)).data.toList (midL ps).data.toList = false ∧ (midL ps).size ≤ (keyAt ps (halfN ps.length)).size := by
  obtain ⟨h0, h1⟩ := half_lt h2
  have hlt : bytesLess (keyAt ps (halfN ps.length - 1)).data.toList (keyAt ps (halfN ps.length)).data.toList = true := by
    rw [keyAt_at h1, keyAt_at (by omega)]
    exact pw_at hr (by omega) h1
  unfold midL
  rw [str_data, str_size, Lib.size_eq]
  unfold between
  rw [if_pos hlt]
  refine ⟨(common_less hlt).2, has_le (has_take _ _), ?_⟩
  rw [List.length_take]
  omega
theorem ahead_lt {ps : List Pr} (hr : ps.Pairwise lessP) (h2 : 2 ≤ ps.length) : (∀ x ∈ ps.take (halfN ps.length), bytesLess x.key.data.toList (midL ps).data.toList = true) ∧ ∀ x ∈ ps.drop (halfN ps.length), bytesLess x.key.data.toList (midL ps).data.toList = false := by
  obtain ⟨h0, h1⟩ := half_lt h2
  obtain ⟨m1, m2, _⟩ := mid_two hr h2
  rw [keyAt_at (by omega)] at m1
  rw [keyAt_at h1] at m2
  constructor
  · intro x hx
    obtain ⟨i, hi, rfl⟩ := List.getElem_of_mem hx
    rw [List.length_take] at hi
    rw [List.getElem_take]
    by_cases e : i = halfN ps.length - 1
    · subst e; exact m1
    · exact less_trans (pw_at hr (show i < halfN ps.length - 1 by omega) (by omega)) m1
  · intro x hx
    obtain ⟨i, hi, rfl⟩ := List.getElem_of_mem hx
    rw [List.length_drop] at hi
    rw [List.getElem_drop]
    by_cases e : i = 0
    · subst e; exact m2
    · exact less_le_trans (less_asymm (pw_at hr (show halfN ps.length < halfN ps.length + i by omega) (by omega))) m2
theorem filter_take {ps : List Pr} {p : Pr → Bool} {h : Nat} (h1 : ∀ x ∈ ps.take h, p x = true) (h2 : ∀ x ∈ ps.drop h, p x = false) : ps.filter p = ps.take h := by
  conv => lhs; rw [← List.take_append_drop h ps]
  rw [List.filter_append, List.filter_eq_self.2 h1, List.filter_eq_nil_iff.2 (fun x hx => by rw [h2 x hx]; simp), List.append_nil]
theorem filter_drop {ps : List Pr} {p : Pr → Bool} {h : Nat} (h1 : ∀ x ∈ ps.take h, p x = false) (h2 : ∀ x ∈ ps.drop h, p x = true) : ps.filter p = ps.drop h := by
  conv => lhs; rw [← List.take_append_drop h ps]
  rw [List.filter_append, List.filter_eq_self.2 h2, List.filter_eq_nil_iff.2 (fun x hx => by rw [h1 x hx]; simp), List.nil_append]
/-- all keys -/
abbrev allA : ByteArray := ⟨#[]⟩
theorem in_ahead (m : ByteArray) (k : List UInt8) : inR (rg allA m true) k = bytesLess k m.data.toList := by
  show (!bytesLess k [] && (!true || bytesLess k m.data.toList)) = _
  rw [less_nil]
  rfl
theorem in_from (m hi : ByteArray) (k : List UInt8) : inR (rg m hi false) k = !bytesLess k m.data.toList := by
  show (!bytesLess k m.data.toList && (!false || _)) = _
  simp
/-- the halves of a leaf -/
theorem leaf_halves {n : Nd} (hl : n.leaf = true) (h : mayI n = 0) (hm : midB n = true) :
    n.ps.filter (inP (rg allA (midS n) true)) = n.ps.take (halfN n.ps.length) ∧ n.ps.filter (inP (rg (midS n) allA false)) = n.ps.drop (halfN n.ps.length) := by
  have hs : midS n = midL n.ps := by unfold midS; rw [hm, if_pos rfl, hl, if_pos rfl]
  have h2 : 2 ≤ n.ps.length := by
    unfold midB at hm
    rw [if_pos h, hl, if_pos rfl] at hm
    exact of_decide_eq_true hm
  have hr : n.ps.Pairwise lessP := by
    have hb := (may_iff.1 h).2
    unfold fineB at hb
    rw [hl, if_pos rfl] at hb
    exact (leaf_iff.1 hb).2.2.2.2
  obtain ⟨a1, a2⟩ := ahead_lt hr h2
  rw [hs]
  constructor
  · refine filter_take (fun x hx => ?_) (fun x hx => ?_)
    · show inR _ _ = true
      rw [in_ahead]; exact a1 x hx
    · show inR _ _ = false
      rw [in_ahead]; exact a2 x hx
  · refine filter_drop (fun x hx => ?_) (fun x hx => ?_)
    · show inR _ _ = false
      rw [in_from, a1 x hx]; rfl
    · show inR _ _ = true
      rw [in_from, a2 x hx]; rfl
/-- each kid has a key -/
theorem kid_key {pv : List ByteArray} (h : upTo (pivAt pv) pv.length = true) {i : Nat} (hi : i ≤ pv.length) : ∃ k, kidC pv k = i := by
  have he : emptyR (rg (loOf pv i) (hiOf pv i) (endOf pv i)) = false := by
    rw [emptyR_eq]
    show (endOf pv i && !bytesLess (loOf pv i).data.toList (hiOf pv i).data.toList) = false
    unfold endOf loOf hiOf
    rw [if_pos hi]
    by_cases hlt : i < pv.length
    · have := upTo_at h hlt
      unfold pivAt at this
      rw [Bool.and_eq_true] at this
      rw [if_pos hlt, this.1]
      simp
    · rw [decide_eq_false hlt]; rfl
  have := in_lo he
  rw [in_kid h i hi] at this
  exact ⟨_, (of_decide_eq_true this).symm⟩
/-- the halves of a node with kids -/
theorem fork_tch {pv : List ByteArray} (h : upTo (pivAt pv) pv.length = true) {m : Nat} (hm : m < pv.length) {i : Nat} (hi : i ≤ pv.length) :
    tch pv (rg allA (pv[m]) true) i = decide (i ≤ m) ∧ tch pv (rg (pv[m]) allA false) i = decide (m < i) := by
  obtain ⟨k, hk⟩ := kid_key h hi
  constructor
  · rw [Bool.eq_iff_iff, tch_iff h hi, decide_eq_true_iff]
    constructor
    · rintro ⟨k', h1, rfl⟩
      rw [in_ahead, le_kid h hm] at h1
      exact of_decide_eq_true h1
    · intro hle
      exact ⟨k, by rw [in_ahead, le_kid h hm, hk]; exact decide_eq_true hle, hk⟩
  · rw [Bool.eq_iff_iff, tch_iff h hi, decide_eq_true_iff]
    constructor
    · rintro ⟨k', h1, rfl⟩
      rw [in_from, le_kid h hm, Bool.not_eq_true', decide_eq_false_iff_not] at h1
      omega
    · intro hle
      exact ⟨k, by rw [in_from, le_kid h hm, hk, Bool.not_eq_true', decide_eq_false_iff_not]; omega, hk⟩
theorem count_low {m J : Nat} (h : m < J) : ((List.range J).filter fun i => decide (i ≤ m)).length = m + 1 := by
  obtain ⟨d, rfl⟩ : ∃ d, J = m + 1 + d := ⟨J - (m + 1), by omega⟩
  rw [List.range_add, List.filter_append, List.filter_eq_self.2 (fun i hi => by rw [List.mem_range] at hi; exact decide_eq_true (by omega)), List.filter_eq_nil_iff.2 (fun i hi => by
    obtain ⟨j, hj, rfl⟩ := List.mem_map.1 hi
    rw [decide_eq_true_iff]
    omega), List.append_nil, List.length_range]
theorem count_high {m J : Nat} (h : m < J) : ((List.range J).filter fun i => decide (m < i)).length = J - (m + 1) := by
  obtain ⟨d, rfl⟩ : ∃ d, J = m + 1 + d := ⟨J - (m + 1), by omega⟩
  have h1 : ((List.range (m + 1)).filter fun i => decide (m < i)) = [] := List.filter_eq_nil_iff.2 (fun i hi => by
    rw [List.mem_range] at hi
    rw [decide_eq_true_iff]
    omega)
  have h2 : (((List.range d).map fun x => m + 1 + x).filter fun i => decide (m < i)) = (List.range d).map fun x => m + 1 + x := List.filter_eq_self.2 (fun i hi => by
    obtain ⟨j, hj, rfl⟩ := List.mem_map.1 hi
    exact decide_eq_true (by omega))
  rw [List.range_add, List.filter_append, h1, h2, List.nil_append, List.length_map, List.length_range]
  omega
theorem fork_halves {n : Nd} (hl : n.leaf = false) (h : mayI n = 0) (hm : midB n = true) (a b : ByteArray) :
    (ksT n (rg allA (midS n) true) a n.ks.length).length = halfN n.ks.length ∧ (ksT n (rg (midS n) allA false) b n.ks.length).length = n.ks.length - halfN n.ks.length := by
  have h2 : 2 ≤ n.ks.length := by
    unfold midB at hm
    rw [if_pos h, hl, if_neg (by simp)] at hm
    exact of_decide_eq_true hm
  obtain ⟨h0, h1⟩ := half_lt h2
  obtain ⟨hlen, hup⟩ := may_fork h hl
  have hlt : halfN n.ks.length - 1 < n.pv.length := by omega
  have hs : midS n = n.pv[halfN n.ks.length - 1] := by
    unfold midS midK
    rw [hm, if_pos rfl, hl, if_neg (by simp)]
    have := ahead_at hlt
    rw [show halfN n.ks.length - 1 + 1 = halfN n.ks.length by omega] at this
    exact this
  unfold ksT
  rw [List.length_map, List.length_map, hs]
  unfold picks
  constructor
  · rw [List.filter_congr (q := fun i => decide (i ≤ halfN n.ks.length - 1)) fun i hi => (fork_tch hup hlt (by rw [List.mem_range] at hi; omega)).1, count_low (by omega)]
    omega
  · rw [List.filter_congr (q := fun i => decide (halfN n.ks.length - 1 < i)) fun i hi => (fork_tch hup hlt (by rw [List.mem_range] at hi; omega)).2, count_high (by omega)]
    omega
theorem halves_zero {n : Nd} {lo hi : ByteArray} {e : Bool} (h : halvesE n lo hi e = 0) : mayI n = 0 ∧ goodB n lo hi e = true ∧ wholeE n (rg lo (midS n) true) = 0 ∧ wholeE n (rg (midS n) hi e) = 0 := by
  unfold halvesE at h
  split at h
  · rename_i h1
    split at h
    · rename_i h2
      split at h
      · rename_i h3
        exact ⟨h1, h2, h3, h⟩
      · rename_i h3; exact absurd h h3
    · cases h
  · cases h
theorem good_parts {n : Nd} {lo hi : ByteArray} {e : Bool} (h : goodB n lo hi e = true) : midB n = true ∧ inR (rg lo hi e) (midS n).data.toList = true ∧ (midS n).data.toList ≠ lo.data.toList := by
  unfold goodB at h
  rw [Bool.and_eq_true, Bool.and_eq_true, Bool.not_eq_true', beq_eq_false_iff_ne] at h
  exact ⟨h.1, h.2.1, h.2.2⟩
/-- how many are in the halves -/
theorem halves_count {n : Nd} (h : halvesE n allA allA false = 0) :
    (wholeP n allA (midS n) true).node.ps.length + (wholeP n allA (midS n) true).node.ks.length = halfN (n.ps.length + n.ks.length) ∧
    (wholeP n (midS n) allA false).node.ps.length + (wholeP n (midS n) allA false).node.ks.length = n.ps.length + n.ks.length - halfN (n.ps.length + n.ks.length) := by
  obtain ⟨hm, hg, h1, h2⟩ := halves_zero h
  obtain ⟨hb, _, _⟩ := good_parts hg
  rw [whole_zero h1, whole_zero h2]
  dsimp only
  cases hl : n.leaf
  · have e : n.ps = [] := by
      have := (may_iff.1 hm).2
      unfold fineB at this
      rw [hl, if_neg (by simp)] at this
      exact (fork_iff.1 this).1
    obtain ⟨q1, q2⟩ := fork_halves hl hm hb (undS (rg allA (midS n) true)) (undS (rg (midS n) allA false))
    unfold trimN
    rw [hl, if_neg (by simp), if_neg (by simp)]
    unfold trimF
    dsimp only
    rw [q1, q2, e]
    simp
  · have e : n.ks = [] := by
      have := (may_iff.1 hm).2
      unfold fineB at this
      rw [hl, if_pos rfl] at this
      exact (leaf_iff.1 this).2.1
    obtain ⟨q1, q2⟩ := leaf_halves hl hm hb
    have h2' : 2 ≤ n.ps.length := by
      unfold midB at hb
      rw [if_pos hm, hl, if_pos rfl] at hb
      exact of_decide_eq_true hb
    obtain ⟨_, h3⟩ := half_lt h2'
    unfold trimN
    rw [hl, if_pos rfl, if_pos rfl]
    unfold psT
    dsimp only
    rw [List.length_map, List.length_map, q1, q2, e, List.length_take, List.length_drop]
    simp
    omega
theorem halves_less (n : Nat) : halfN n + (n - halfN n) = n ∧ n - halfN n ≤ halfN n ∧ halfN n ≤ n - halfN n + 1 := by unfold halfN; omega

/-- a beginning put ahead of a pair's key -/
def addP (s : ByteArray) (p : Pr) : Pr := ⟨s ++ p.key, p.val⟩
def joinL (a b : Pc) : List Pr := a.node.ps.map (addP a.strip) ++ b.node.ps.map (addP b.strip)
def leafMayB (n : Nd) : Bool := n.leaf && decide (mayI n = 0)
def riseB (l : List Pr) : Bool := upTo (riseAt l) l.length
def withinB (l : List Pr) (r : Rng) : Bool := l.all (inP r)
def joinE (a b : Pc) (r : Rng) : Int :=
  if leafMayB a.node && leafMayB b.node then if !emptyR r && (withinB (joinL a b) r && riseB (joinL a b)) then if 16 < (joinL a b).length then 13 else 0 else 1 else 3
def joinN (a b : Pc) (s : ByteArray) : Nd := ⟨true, (joinL a b).map (cutP s), [], [], []⟩
def joinP (a b : Pc) (lo hi : ByteArray) (e : Bool) : Pc := if joinE a b (rg lo hi e) = 0 then ⟨lo, undS (rg lo hi e), joinN a b (undS (rg lo hi e))⟩ else Pc.nil
theorem join_zero {a b : Pc} {r : Rng} (h : joinE a b r = 0) : leafMayB a.node = true ∧ leafMayB b.node = true ∧ emptyR r = false ∧ withinB (joinL a b) r = true ∧ riseB (joinL a b) = true ∧ (joinL a b).length ≤ 16 := by
  unfold joinE at h
  split at h
  · rename_i h1
    split at h
    · rename_i h2
      split at h
      · cases h
      · rename_i h3
        rw [Bool.and_eq_true] at h1
        rw [Bool.and_eq_true, Bool.and_eq_true, Bool.not_eq_true'] at h2
        exact ⟨h1.1, h1.2, h2.1, h2.2.1, h2.2.2, by omega⟩
    · cases h
  · cases h
/-- what was cut off is put ahead again -/
theorem add_cut {r : Rng} {p : Pr} (h : fitsT r (undS r) = true) (hp : inP r p = true) : addP (undS r) (cutP (undS r) p) = p := by
  have h1 := cutT_has (fits_all h (show inR r p.key.data.toList = true from hp))
  unfold addP cutP
  obtain ⟨k, v⟩ := p
  dsimp only at *
  congr 1
  apply ba_ext
  rw [app_data]
  exact h1.symm
theorem map_add_cut {r : Rng} {ps : List Pr} (h : fitsT r (undS r) = true) : (psT ps r (undS r)).map (addP (undS r)) = ps.filter (inP r) := by
  unfold psT
  rw [List.map_map]
  conv => rhs; rw [← List.map_id (ps.filter (inP r))]
  exact List.map_congr_left fun p hp => add_cut h (List.mem_filter.1 hp).2
theorem cut_nil (p : Pr) : cutP ⟨#[]⟩ p = p := by
  unfold cutP
  obtain ⟨k, v⟩ := p
  congr 1
  apply ba_ext
  rw [cutT_data]
  rfl
theorem all_under : undS (rg allA allA false) = ⟨#[]⟩ := by rfl
/-- halves of a leaf, joined, are the whole -/
theorem halves_join {n : Nd} (hl : n.leaf = true) (h : halvesE n allA allA false = 0) :
    joinE (wholeP n allA (midS n) true) (wholeP n (midS n) allA false) (rg allA allA false) = 0 ∧ joinP (wholeP n allA (midS n) true) (wholeP n (midS n) allA false) allA allA false = ⟨allA, allA, n⟩ := by
  obtain ⟨hm, hg, h1, h2⟩ := halves_zero h
  obtain ⟨hb, _, _⟩ := good_parts hg
  obtain ⟨q1, q2⟩ := leaf_halves hl hm hb
  obtain ⟨⟨l1, _, _⟩, hf⟩ := may_iff.1 hm
  unfold fineB at hf
  rw [hl, if_pos rfl] at hf
  obtain ⟨e2, e3, e4, _, hr⟩ := leaf_iff.1 hf
  have m1 := may_trim h1
  have m2 := may_trim h2
  have hL : joinL (wholeP n allA (midS n) true) (wholeP n (midS n) allA false) = n.ps := by
    rw [whole_zero h1, whole_zero h2]
    unfold joinL trimN
    rw [hl, if_pos rfl, if_pos rfl]
    dsimp only
    rw [map_add_cut (trim_zero h1).2.1, map_add_cut (trim_zero h2).2.1, q1, q2, List.take_append_drop]
  have hE : joinE (wholeP n allA (midS n) true) (wholeP n (midS n) allA false) (rg allA allA false) = 0 := by
    unfold joinE
    rw [hL]
    have b1 : leafMayB (wholeP n allA (midS n) true).node = true := by
      rw [whole_zero h1]
      unfold leafMayB
      dsimp only
      rw [decide_eq_true m1]
      unfold trimN
      rw [hl, if_pos rfl]
      rfl
    have b2 : leafMayB (wholeP n (midS n) allA false).node = true := by
      rw [whole_zero h2]
      unfold leafMayB
      dsimp only
      rw [decide_eq_true m2]
      unfold trimN
      rw [hl, if_pos rfl]
      rfl
    have b3 : withinB n.ps (rg allA allA false) = true := by
      unfold withinB
      rw [List.all_eq_true]
      intro x _
      show inR _ _ = true
      rw [in_from]
      show (!bytesLess _ []) = true
      rw [less_nil]
      rfl
    have b4 : riseB n.ps = true := rise_iff.2 hr
    rw [b1, b2, b3, b4, show emptyR (rg allA allA false) = false from rfl]
    simp
    omega
  refine ⟨hE, ?_⟩
  unfold joinP joinN
  rw [if_pos hE, all_under, hL]
  obtain ⟨lf, ps, pv, ks, bf⟩ := n
  dsimp only at *
  subst hl e2 e3 e4
  congr 2
  conv => rhs; rw [← List.map_id ps]
  exact List.map_congr_left fun p _ => cut_nil p
/-- a key leads in two pieces put together where it leads in the one in which it stands -/
theorem find_pw {ps : List Pr} (hr : ps.Pairwise lessP) {i : Nat} (hi : i < ps.length) : getV ps ps[i].key.data.toList = ps[i].val ∧ getB ps ps[i].key.data.toList = true := by
  have hn : (ps.take i).any (isK ps[i].key.data.toList) = false := by
    rw [List.any_eq_false]
    intro x hx
    obtain ⟨j, hj, rfl⟩ := List.getElem_of_mem hx
    rw [List.length_take] at hj
    rw [List.getElem_take]
    unfold isK
    rw [beq_iff_eq]
    intro e
    have := pw_at hr (show j < i by omega) hi
    unfold lessP at this
    rw [e, less_self] at this
    cases this
  have hf := found_at (List.getElem?_eq_getElem hi) hn (by unfold isK; rw [beq_self_eq_true])
  unfold getV getB getP
  rw [hf]
  exact ⟨rfl, rfl⟩
theorem join_leads {a b : Pc} {lo hi : ByteArray} {e : Bool} (h : joinE a b (rg lo hi e) = 0) {i : Nat} (hi' : i < a.node.ps.length) :
    has (a.strip ++ a.node.ps[i].key).data.toList (undS (rg lo hi e)).data.toList = true ∧
    (mayI (joinP a b lo hi e).node = 0 → (stepW (joinP a b lo hi e).node ((a.strip ++ a.node.ps[i].key).data.toList.drop (undS (rg lo hi e)).size)).val = a.node.ps[i].val) := by
  obtain ⟨_, _, _, hw, _, _⟩ := join_zero h
  have hLi : i < (joinL a b).length := by unfold joinL; rw [List.length_append, List.length_map]; omega
  have hat? : (joinL a b)[i]? = some (addP a.strip a.node.ps[i]) := by
    unfold joinL
    rw [List.getElem?_append_left (by rw [List.length_map]; exact hi'), List.getElem?_map, List.getElem?_eq_getElem hi']
    rfl
  have hat : (joinL a b)[i] = addP a.strip a.node.ps[i] := by
    rw [List.getElem?_eq_getElem hLi] at hat?
    exact Option.some.inj hat?
  have hin : inR (rg lo hi e) (a.strip ++ a.node.ps[i].key).data.toList = true := by
    unfold withinB at hw
    rw [List.all_eq_true] at hw
    have := hw _ (List.getElem_mem hLi)
    rw [hat] at this
    exact this
  have hh : has (a.strip ++ a.node.ps[i].key).data.toList (undS (rg lo hi e)).data.toList = true := by
    unfold undS
    rw [str_data]
    exact under_in hin
  refine ⟨hh, fun hm => ?_⟩
  have hj : (joinP a b lo hi e).node = joinN a b (undS (rg lo hi e)) := by unfold joinP; rw [if_pos h]
  rw [hj] at hm ⊢
  have hf := (may_iff.1 hm).2
  unfold fineB at hf
  rw [show (joinN a b (undS (rg lo hi e))).leaf = true from rfl, if_pos rfl] at hf
  have hr := (leaf_iff.1 hf).2.2.2.2
  have hk : i < (joinN a b (undS (rg lo hi e))).ps.length := by
    show i < ((joinL a b).map _).length
    rw [List.length_map]; exact hLi
  have hx : (joinN a b (undS (rg lo hi e))).ps[i] = cutP (undS (rg lo hi e)) (addP a.strip a.node.ps[i]) := by
    have : (joinN a b (undS (rg lo hi e))).ps[i]? = some (cutP (undS (rg lo hi e)) (addP a.strip a.node.ps[i])) := by
      show ((joinL a b).map _)[i]? = _
      rw [List.getElem?_map, hat?]
      rfl
    rw [List.getElem?_eq_getElem hk] at this
    exact Option.some.inj this
  obtain ⟨v1, v2⟩ := find_pw hr hk
  rw [hx] at v1 v2
  have hd : (cutP (undS (rg lo hi e)) (addP a.strip a.node.ps[i])).key.data.toList = (a.strip ++ a.node.ps[i].key).data.toList.drop (undS (rg lo hi e)).size := by
    show (cutT _ (a.strip ++ a.node.ps[i].key)).data.toList = _
    rw [cutT_data, Lib.size_eq]
  rw [hd] at v1 v2
  unfold stepW
  rw [if_pos hm, show (joinN a b (undS (rg lo hi e))).leaf = true from rfl, if_pos rfl]
  unfold pairW
  rw [v2, if_pos rfl, v1]
  rfl
end Go.Proofs.Ytlkcoaencliajaa.Key

namespace Go.Proofs.Ytlkcoaencliajaa.Key
open Go.RowKit Draw
open Go.Op (bytesLess)
set_option linter.unusedVariables false
set_option linter.unusedSimpArgs false

/-- a piece, and where its node's lists lie -/
abbrev PcQ := Pc × Pl
def Pc.cells (x : PcQ) : List Value := [.string x.1.lo, .string x.1.strip, .bool x.1.node.leaf, .slice x.2.a1 x.1.node.ps.length x.2.c1, .slice x.2.a2 x.1.node.pv.length x.2.c2, .slice x.2.a3 x.1.node.ks.length x.2.c3, .slice x.2.a4 x.1.node.bf.length x.2.c4]
abbrev pcv (x : Pc) (q : Pl) : Value := .agg #[.string x.lo, .string x.strip, .bool x.node.leaf, .slice q.a1 x.node.ps.length q.c1, .slice q.a2 x.node.pv.length q.c2, .slice q.a3 x.node.ks.length q.c3, .slice q.a4 x.node.bf.length q.c4]
theorem cells_len (x : PcQ) : (Pc.cells x).length = 7 := rfl
theorem oneQ (x : PcQ) : ∀ u ∈ Pc.cells x, u.oneCell' = true := by
  intro u hu
  simp only [Pc.cells, List.mem_cons, List.not_mem_nil, or_false] at hu
  rcases hu with rfl | rfl | rfl | rfl | rfl | rfl | rfl <;> rfl
set_option maxRecDepth 100000 in
theorem info36 : (Try.prog.info? 36).map (fun i => (i.zero, i.size, i.bytes)) = some (some (.agg #[.string ⟨#[]⟩, .string ⟨#[]⟩, .bool false, .slice none 0 0, .slice none 0 0, .slice none 0 0, .slice none 0 0]), 7, 136) := by kernel_rfl

/-- a block that holds a piece -/
def QBox (w : World) (k : Nat) (v0 v1 v2 v3 v4 v5 v6 : Value) : Prop := w.heap[k]? = some (.cells #[v0, v1, v2, v3, v4, v5, v6] 36 (0, 0))
theorem QBox.new (w : World) (v0 v1 v2 v3 v4 v5 v6 : Value) : QBox (w.alloc (.cells #[v0, v1, v2, v3, v4, v5, v6] 36)) w.heap.size v0 v1 v2 v3 v4 v5 v6 := Go.heap_alloc_new _ _
theorem QBox.lt {w : World} {k : Nat} {v0 v1 v2 v3 v4 v5 v6 : Value} (h : QBox w k v0 v1 v2 v3 v4 v5 v6) : k < w.heap.size := (Array.getElem?_eq_some_iff.1 h).1
theorem QBox.below {w w' : World} {k B : Nat} {v0 v1 v2 v3 v4 v5 v6 : Value} (h : QBox w k v0 v1 v2 v3 v4 v5 v6) (hb : Below B w w') (hB : k < B) : QBox w' k v0 v1 v2 v3 v4 v5 v6 := (hb.block k hB).trans h
theorem QBox.later {w w' : World} {k : Nat} {v0 v1 v2 v3 v4 v5 v6 : Value} (h : QBox w k v0 v1 v2 v3 v4 v5 v6) (hb : Below w.heap.size w w') : QBox w' k v0 v1 v2 v3 v4 v5 v6 := h.below hb h.lt
theorem QBox.alloc {w : World} {k : Nat} {v0 v1 v2 v3 v4 v5 v6 : Value} (h : QBox w k v0 v1 v2 v3 v4 v5 v6) (o : Obj) : QBox (w.alloc o) k v0 v1 v2 v3 v4 v5 v6 := h.later (below_box w o)
theorem QBox.cells {w : World} {k : Nat} {v0 v1 v2 v3 v4 v5 v6 : Value} (h : QBox w k v0 v1 v2 v3 v4 v5 v6) :
    w.cell? ⟨k, 0, none⟩ = some v0 ∧ w.cell? ⟨k, 1, none⟩ = some v1 ∧ w.cell? ⟨k, 2, none⟩ = some v2 ∧ w.cell? ⟨k, 3, none⟩ = some v3 ∧ w.cell? ⟨k, 4, none⟩ = some v4 ∧ w.cell? ⟨k, 5, none⟩ = some v5 ∧ w.cell? ⟨k, 6, none⟩ = some v6 :=
  ⟨cell_of_row _ _ 0 _ _ _ h, cell_of_row _ _ 1 _ _ _ h, cell_of_row _ _ 2 _ _ _ h, cell_of_row _ _ 3 _ _ _ h, cell_of_row _ _ 4 _ _ _ h, cell_of_row _ _ 5 _ _ _ h, cell_of_row _ _ 6 _ _ _ h⟩
theorem QBox.free {w : World} {k : Nat} {v0 v1 v2 v3 v4 v5 v6 : Value} (h : QBox w k v0 v1 v2 v3 v4 v5 v6) (i : Nat) : w.frozen? ⟨k, i, none⟩ = false := frozen_of_row _ _ i _ _ h
theorem QBox.kept {w u : World} {row : Option Nat} {k : Nat} {v0 v1 v2 v3 v4 v5 v6 : Value} (h : QBox w k v0 v1 v2 v3 v4 v5 v6) (hg : w.grownBy u row) (hne : some k ≠ row) : QBox u k v0 v1 v2 v3 v4 v5 v6 := (hg.block k h.lt hne).trans h
theorem QBox.put0 {w : World} {k : Nat} {v0 v1 v2 v3 v4 v5 v6 : Value} (h : QBox w k v0 v1 v2 v3 v4 v5 v6) (y : Value) : QBox (w.setCell ⟨k, 0, none⟩ y) k y v1 v2 v3 v4 v5 v6 := Go.Joins.block_setCell h y
theorem QBox.put1 {w : World} {k : Nat} {v0 v1 v2 v3 v4 v5 v6 : Value} (h : QBox w k v0 v1 v2 v3 v4 v5 v6) (y : Value) : QBox (w.setCell ⟨k, 1, none⟩ y) k v0 y v2 v3 v4 v5 v6 := Go.Joins.block_setCell h y
theorem QBox.put2 {w : World} {k : Nat} {v0 v1 v2 v3 v4 v5 v6 : Value} (h : QBox w k v0 v1 v2 v3 v4 v5 v6) (y : Value) : QBox (w.setCell ⟨k, 2, none⟩ y) k v0 v1 y v3 v4 v5 v6 := Go.Joins.block_setCell h y
theorem QBox.put3 {w : World} {k : Nat} {v0 v1 v2 v3 v4 v5 v6 : Value} (h : QBox w k v0 v1 v2 v3 v4 v5 v6) (y : Value) : QBox (w.setCell ⟨k, 3, none⟩ y) k v0 v1 v2 y v4 v5 v6 := Go.Joins.block_setCell h y
theorem QBox.put4 {w : World} {k : Nat} {v0 v1 v2 v3 v4 v5 v6 : Value} (h : QBox w k v0 v1 v2 v3 v4 v5 v6) (y : Value) : QBox (w.setCell ⟨k, 4, none⟩ y) k v0 v1 v2 v3 y v5 v6 := Go.Joins.block_setCell h y
theorem QBox.put5 {w : World} {k : Nat} {v0 v1 v2 v3 v4 v5 v6 : Value} (h : QBox w k v0 v1 v2 v3 v4 v5 v6) (y : Value) : QBox (w.setCell ⟨k, 5, none⟩ y) k v0 v1 v2 v3 v4 y v6 := Go.Joins.block_setCell h y
theorem QBox.put6 {w : World} {k : Nat} {v0 v1 v2 v3 v4 v5 v6 : Value} (h : QBox w k v0 v1 v2 v3 v4 v5 v6) (y : Value) : QBox (w.setCell ⟨k, 6, none⟩ y) k v0 v1 v2 v3 v4 v5 y := Go.Joins.block_setCell h y
theorem QBox.put {w : World} {k : Nat} {v0 v1 v2 v3 v4 v5 v6 : Value} (h : QBox w k v0 v1 v2 v3 v4 v5 v6) (y0 y1 y2 y3 y4 y5 y6 : Value) :
    QBox (((((((w.setCell ⟨k, 0, none⟩ y0).setCell ⟨k, 1, none⟩ y1).setCell ⟨k, 2, none⟩ y2).setCell ⟨k, 3, none⟩ y3).setCell ⟨k, 4, none⟩ y4).setCell ⟨k, 5, none⟩ y5).setCell ⟨k, 6, none⟩ y6) k y0 y1 y2 y3 y4 y5 y6 :=
  ((((((h.put0 y0).put1 y1).put2 y2).put3 y3).put4 y4).put5 y5).put6 y6
theorem QBox.each {w : World} {k : Nat} {x : Pc} {q : Pl} (h : QBox w k (.string x.lo) (.string x.strip) (.bool x.node.leaf) (.slice q.a1 x.node.ps.length q.c1) (.slice q.a2 x.node.pv.length q.c2) (.slice q.a3 x.node.ks.length q.c3) (.slice q.a4 x.node.bf.length q.c4)) :
    ∀ j u, (Pc.cells (x, q))[j]? = some u → w.cell? ⟨k, j, none⟩ = some u := by
  intro j u hu
  obtain ⟨h0, h1, h2, h3, h4, h5, h6⟩ := h.cells
  have hj : j < 7 := by have := (List.getElem?_eq_some_iff.1 hu).1; simpa [Pc.cells] using this
  match j, hj with
  | 0, _ => rw [← hu]; exact h0
  | 1, _ => rw [← hu]; exact h1
  | 2, _ => rw [← hu]; exact h2
  | 3, _ => rw [← hu]; exact h3
  | 4, _ => rw [← hu]; exact h4
  | 5, _ => rw [← hu]; exact h5
  | 6, _ => rw [← hu]; exact h6
theorem seven_set {B k : Nat} {w w' : World} (h : Below B w w') (hk : B ≤ k) (v0 v1 v2 v3 v4 v5 v6 : Value) :
    Below B w (((((((w'.setCell ⟨k, 0, none⟩ v0).setCell ⟨k, 1, none⟩ v1).setCell ⟨k, 2, none⟩ v2).setCell ⟨k, 3, none⟩ v3).setCell ⟨k, 4, none⟩ v4).setCell ⟨k, 5, none⟩ v5).setCell ⟨k, 6, none⟩ v6) :=
  ((((((h.setCell (p := ⟨k, 0, none⟩) hk v0).setCell (p := ⟨k, 1, none⟩) hk v1).setCell (p := ⟨k, 2, none⟩) hk v2).setCell (p := ⟨k, 3, none⟩) hk v3).setCell (p := ⟨k, 4, none⟩) hk v4).setCell (p := ⟨k, 5, none⟩) hk v5).setCell (p := ⟨k, 6, none⟩) hk v6
theorem row_seven {w : World} {B k : Nat} {y0 y1 y2 y3 y4 y5 y6 : Value} {e : TypeId} {sz : Nat} {v : Value} {n : Nat} {xs : List Value} (h : w.ownsRow B e sz v n xs) (hk : k < B) :
    (((((((w.setCell ⟨k, 0, none⟩ y0).setCell ⟨k, 1, none⟩ y1).setCell ⟨k, 2, none⟩ y2).setCell ⟨k, 3, none⟩ y3).setCell ⟨k, 4, none⟩ y4).setCell ⟨k, 5, none⟩ y5).setCell ⟨k, 6, none⟩ y6).ownsRow B e sz v n xs := row_set (row_set (row_set (row_set (row_set (row_set (row_set h hk) hk) hk) hk) hk) hk) hk

/-- a node whose lists are the call's own, where they lie -/
def OwnN (w : World) (B : Nat) (n : Nd) (q : Pl) : Prop := Owns w B n (.slice q.a1 n.ps.length q.c1) (.slice q.a2 n.pv.length q.c2) (.slice q.a3 n.ks.length q.c3) (.slice q.a4 n.bf.length q.c4)
theorem Owns.put {w : World} {B : Nat} {n : Nd} {x1 x2 x3 x4 : Value} (h : Owns w B n x1 x2 x3 x4) : ∃ q : Pl, x1 = .slice q.a1 n.ps.length q.c1 ∧ x2 = .slice q.a2 n.pv.length q.c2 ∧ x3 = .slice q.a3 n.ks.length q.c3 ∧ x4 = .slice q.a4 n.bf.length q.c4 ∧ OwnN w B n q := by
  obtain ⟨q, rfl, rfl, rfl, rfl, _⟩ := h.lies
  exact ⟨q, rfl, rfl, rfl, rfl, h⟩
theorem OwnN.lies {w : World} {B : Nat} {n : Nd} {q : Pl} (h : OwnN w B n q) : Lies w n q := by
  obtain ⟨q', e1, e2, e3, e4, hl⟩ := Owns.lies h
  obtain ⟨a1, c1, a2, c2, a3, c3, a4, c4⟩ := q
  obtain ⟨b1, d1, b2, d2, b3, d3, b4, d4⟩ := q'
  simp only [Value.slice.injEq, true_and] at e1 e2 e3 e4
  obtain ⟨rfl, rfl⟩ := e1
  obtain ⟨rfl, rfl⟩ := e2
  obtain ⟨rfl, rfl⟩ := e3
  obtain ⟨rfl, rfl⟩ := e4
  exact hl
theorem OwnN.later {w w' : World} {B : Nat} {n : Nd} {q : Pl} (h : OwnN w B n q) (hb : Below w.heap.size w w') : OwnN w' B n q := Owns.later h hb
theorem OwnN.mono {w : World} {B B' : Nat} {n : Nd} {q : Pl} (h : OwnN w B n q) (hB : B' ≤ B) : OwnN w B' n q := ⟨row_mono h.o1 hB, row_mono h.o2 hB, row_mono h.o3 hB, row_mono h.o4 hB⟩
theorem OwnN.seven {w : World} {B k : Nat} {n : Nd} {q : Pl} (h : OwnN w B n q) (hk : k < B) (y0 y1 y2 y3 y4 y5 y6 : Value) :
    OwnN (((((((w.setCell ⟨k, 0, none⟩ y0).setCell ⟨k, 1, none⟩ y1).setCell ⟨k, 2, none⟩ y2).setCell ⟨k, 3, none⟩ y3).setCell ⟨k, 4, none⟩ y4).setCell ⟨k, 5, none⟩ y5).setCell ⟨k, 6, none⟩ y6) B n q :=
  ⟨row_seven h.o1 hk, row_seven h.o2 hk, row_seven h.o3 hk, row_seven h.o4 hk⟩
theorem OwnN.nil (w : World) (B : Nat) : OwnN w B nilN ⟨none, 0, none, 0, none, 0, none, 0⟩ := ⟨row_nil _ _ _ _, row_nil _ _ _ _, row_nil _ _ _ _, row_nil _ _ _ _⟩
/-- kept while a row of pieces grows -/
theorem OwnN.grown {w u : World} {B B' : Nat} {n : Nd} {q : Pl} {v : Value} {m : Nat} {xs : List Value} (h : OwnN w B n q) (ho : w.ownsRow B' 36 7 v m xs) (hg : w.grownBy u v.ownBlock) : OwnN u B n q :=
  ⟨row_kept h.o1 ho (by decide) hg, row_kept h.o2 ho (by decide) hg, row_kept h.o3 ho (by decide) hg, row_kept h.o4 ho (by decide) hg⟩
/-- pieces in a row of the call's own -/
structure OwnQ (w : World) (B : Nat) (v : Value) (L : List PcQ) : Prop where
  row : w.ownsRow B 36 7 v L.length (L.flatMap Pc.cells)
  node : ∀ x ∈ L, OwnN w B x.1.node x.2
theorem OwnQ.later {w w' : World} {B : Nat} {v : Value} {L : List PcQ} (h : OwnQ w B v L) (hb : Below w.heap.size w w') : OwnQ w' B v L := ⟨row_later h.row hb, fun x hx => (h.node x hx).later hb⟩
theorem OwnQ.mono {w : World} {B B' : Nat} {v : Value} {L : List PcQ} (h : OwnQ w B v L) (hB : B' ≤ B) : OwnQ w B' v L := ⟨row_mono h.row hB, fun x hx => (h.node x hx).mono hB⟩
theorem OwnQ.nil (w : World) (B : Nat) : OwnQ w B (.slice none 0 0) [] := ⟨row_nil _ _ _ _, fun x hx => by cases hx⟩
/-- .. one more behind them -/
theorem OwnQ.more {w u : World} {B : Nat} {v v' : Value} {L : List PcQ} {x : PcQ} (h : OwnQ w B v L) (hx : OwnN w B x.1.node x.2) (hr : u.ownsRow B 36 7 v' (L ++ [x]).length ((L ++ [x]).flatMap Pc.cells)) (hg : w.grownBy u v.ownBlock) : OwnQ u B v' (L ++ [x]) := by
  refine ⟨hr, fun y hy => ?_⟩
  rcases List.mem_append.1 hy with hy | hy
  · exact (h.node y hy).grown h.row hg
  · rw [List.mem_singleton] at hy
    subst hy
    exact hx.grown h.row hg
/-- a slice of pieces -/
structure PcAt (w : World) (b o : Nat) (x : PcQ) : Prop where
  c0 : w.cell? ⟨b, o, none⟩ = some (.string x.1.lo)
  c1 : w.cell? ⟨b, o + 1, none⟩ = some (.string x.1.strip)
  c2 : w.cell? ⟨b, o + 2, none⟩ = some (.bool x.1.node.leaf)
  c3 : w.cell? ⟨b, o + 3, none⟩ = some (.slice x.2.a1 x.1.node.ps.length x.2.c1)
  c4 : w.cell? ⟨b, o + 4, none⟩ = some (.slice x.2.a2 x.1.node.pv.length x.2.c2)
  c5 : w.cell? ⟨b, o + 5, none⟩ = some (.slice x.2.a3 x.1.node.ks.length x.2.c3)
  c6 : w.cell? ⟨b, o + 6, none⟩ = some (.slice x.2.a4 x.1.node.bf.length x.2.c4)
theorem PcAt.later {w w' : World} {b o : Nat} {x : PcQ} (h : PcAt w b o x) (hb : Below w.heap.size w w') : PcAt w' b o x := by
  have hB := World.block_lt_of_cell? w _ h.c0
  exact ⟨(hb.cell (p := ⟨b, o, none⟩) hB).trans h.c0, (hb.cell (p := ⟨b, o + 1, none⟩) hB).trans h.c1, (hb.cell (p := ⟨b, o + 2, none⟩) hB).trans h.c2, (hb.cell (p := ⟨b, o + 3, none⟩) hB).trans h.c3, (hb.cell (p := ⟨b, o + 4, none⟩) hB).trans h.c4, (hb.cell (p := ⟨b, o + 5, none⟩) hB).trans h.c5, (hb.cell (p := ⟨b, o + 6, none⟩) hB).trans h.c6⟩
def Pcs (w : World) (a : Option Addr) (L : List PcQ) : Prop := L = [] ∨ ∃ b off, a = some ⟨b, off, none⟩ ∧ ∀ i (h : i < L.length), PcAt w b (off + i * 7) L[i] ∧ Lies w L[i].1.node L[i].2
theorem Pcs.at {w : World} {a : Option Addr} {L : List PcQ} (h : Pcs w a L) {i : Nat} (hi : i < L.length) : ∃ b off, a = some ⟨b, off, none⟩ ∧ PcAt w b (off + i * 7) L[i] ∧ Lies w L[i].1.node L[i].2 := by
  rcases h with rfl | ⟨b, off, rfl, hc⟩
  · simp at hi
  · exact ⟨b, off, rfl, hc i hi⟩
theorem Pcs.later {w w' : World} {a : Option Addr} {L : List PcQ} (h : Pcs w a L) (hb : Below w.heap.size w w') : Pcs w' a L := by
  rcases h with rfl | ⟨b, off, rfl, hc⟩
  · exact .inl rfl
  · exact .inr ⟨b, off, rfl, fun i hi => ⟨(hc i hi).1.later hb, (hc i hi).2.later hb⟩⟩
theorem OwnQ.lies {w : World} {B : Nat} {v : Value} {L : List PcQ} (h : OwnQ w B v L) : ∃ a c, v = .slice a L.length c ∧ Pcs w a L := by
  obtain ⟨a, c, e, h1⟩ := row_cells Pc.cells 7 (fun _ => rfl) h.row
  refine ⟨a, c, e, ?_⟩
  rcases h1 with h1 | ⟨g, e, _, _, hc⟩
  · exact .inl h1
  · exact .inr ⟨g, 0, e, fun i hi => ⟨⟨hc i hi 0 _ (by omega) rfl, hc i hi 1 _ (by omega) rfl, hc i hi 2 _ (by omega) rfl, hc i hi 3 _ (by omega) rfl, hc i hi 4 _ (by omega) rfl, hc i hi 5 _ (by omega) rfl, hc i hi 6 _ (by omega) rfl⟩, (h.node _ (List.getElem_mem hi)).lies⟩⟩
end Go.Proofs.Ytlkcoaencliajaa.Key

namespace Go.Proofs.Ytlkcoaencliajaa.Key
open Go.RowKit Draw
open Go.Op (bytesLess)
set_option linter.unusedVariables false
set_option linter.unusedSimpArgs false

/-- those pairs from whose keys a lift goes -/
def liftP (s d : ByteArray) (p : Pr) : Pr := ⟨upS (lf s d) p.key.data.toList, p.val⟩
def liftL (ps : List Pr) (s d : ByteArray) : List Pr := (ps.filter fun p => upB (lf s d) p.key.data.toList).map (liftP s d)
theorem lift_at {ps : List Pr} {s d : ByteArray} {j : Nat} {x : Pr} (h : ps[j]? = some x) : liftL (ps.take (j + 1)) s d = if upB (lf s d) x.key.data.toList then liftL (ps.take j) s d ++ [liftP s d x] else liftL (ps.take j) s d := by
  obtain ⟨hj, rfl⟩ := List.getElem?_eq_some_iff.1 h
  unfold liftL
  rw [List.take_succ_eq_append_getElem hj, List.filter_append, List.map_append]
  cases hp : upB (lf s d) ps[j].key.data.toList <;> simp [hp]
theorem lift_le (ps : List Pr) (s d : ByteArray) : (liftL ps s d).length ≤ ps.length := by
  unfold liftL
  rw [List.length_map]
  exact List.length_filter_le _ _
theorem lift_add (ps : List Pr) (d : ByteArray) : liftL ps ⟨#[]⟩ d = ps.map (addP d) := by
  have h : ∀ k : ByteArray, has k.data.toList (⟨#[]⟩ : ByteArray).data.toList = true := fun k => has_iff.2 ⟨_, rfl⟩
  unfold liftL
  rw [List.filter_eq_self.2 (fun p _ => upB_eq (h p.key))]
  refine List.map_congr_left fun p _ => ?_
  unfold liftP addP
  rw [upS_yes (h p.key)]
  congr 2
  apply ba_ext
  rw [ext_data]
  rfl
theorem lift_cut {ps : List Pr} {s : ByteArray} (h : ∀ p ∈ ps, has p.key.data.toList s.data.toList = true) : liftL ps s ⟨#[]⟩ = ps.map (cutP s) := by
  unfold liftL
  rw [List.filter_eq_self.2 (fun p hp => upB_eq (h p hp))]
  refine List.map_congr_left fun p hp => ?_
  unfold liftP cutP cutT
  rw [upS_yes (h p hp)]
  congr 1

set_option maxRecDepth 100000 in
set_option maxHeartbeats 1000000 in
theorem lifted46 (a : Option Addr) (c : Nat) (ps : List Pr) (s d : ByteArray) (w : World) (hl : ps.length ≤ 1000) (h : Prs w a ps) (hd : d.size ≤ 1000000) (hk : ∀ x ∈ ps, x.key.size ≤ 1000000) :
    Calls Try.prog 46 #[.slice a ps.length c, lv s d] w fun x w' => ∃ v, x = .returned v ∧ w'.ownsRow w.heap.size 64 2 v (liftL ps s d).length ((liftL ps s d).flatMap Pr.cells) ∧ Below w.heap.size w w' := by
  have HP := hid (fun (wr : World) (hb : Below w.heap.size w wr) => h.later hb)
  have HU := hid (fun (x : Pr) (hx : x ∈ ps) wr => up11 s d x.key wr hd (hk x hx))
  have HS := hid (fun j x (hx : ps[j]? = some x) => lift_at (s := s) (d := d) hx)
  have HT := hid (show liftL (ps.take ps.length) s d = liftL ps s d by rw [List.take_length])
  have HL := hid (fun j => lift_le (ps.take j) s d)
  have H0 := hid (show liftL (ps.take 0) s d = [] from rfl)
  have B0 := Pair.new w (.string s) (.string d)
  have hb0 := below_box w (.cells #[.string s, .string d] 70)
  clear h hk
  generalize hn1 : ps.length = n1 at *
  have HN := hid hn1
  clear hn1
  go_enter Try.func46, Try.ntmps46
  go_upto_region 1 with fail
  generalize w.alloc (.cells #[.string s, .string d] 70) = w1 at *
  generalize hk0 : w.heap.size = k0 at *
  have HQ0 := hid hk0
  clear hk0
  go_wp2_with fail
  go_loopw [5, 12] (fun v i wr => ∃ (j : Nat), j ≤ n1 ∧ i = .int .i64 j ∧ Pair wr k0 (.string s) (.string d) ∧ wr.ownsRow (k0 + 1) 64 2 v (liftL (ps.take j) s d).length ((liftL (ps.take j) s d).flatMap Pr.cells) ∧ Below (k0 + 1) w1 wr) (fun _ i _ => n1 - (intOf i).toNat)
  case atStart => exact ⟨0, Nat.zero_le _, rfl, B0, by rw [H0.out]; exact row_nil _ _ _ _, Below.refl _ _⟩
  case round =>
    obtain ⟨j, hj, rfl, B1, ho, hb⟩ := hrel
    have hBl := B1.lt
    by_cases hlt : j < n1
    · have hlt' : j < ps.length := by rw [HN.out]; exact hlt
      have hbw : Below k0 w wr := hb0.trans (hb.mono (by omega))
      obtain ⟨b, off, ha, c0, c1⟩ := (HP.out wr hbw).at hlt'
      subst ha
      obtain ⟨x, hx⟩ : ∃ x, ps[j]? = some x := ⟨_, List.getElem?_eq_getElem hlt'⟩
      have hxe : ps[j] = x := by rw [List.getElem?_eq_getElem hlt'] at hx; exact Option.some.inj hx
      have HUx := hid (HU.out x (by rw [← hxe]; exact List.getElem_mem hlt'))
      rw [hxe] at c0 c1
      have HSx := hid (HS.out j x hx)
      have HLj := HL.out j
      rw [List.length_take, Nat.min_eq_left (Nat.le_of_lt hlt')] at HLj
      obtain ⟨l, hl'⟩ : ∃ l, liftL (ps.take j) s d = l := ⟨_, rfl⟩
      rw [hl'] at HLj ho HSx
      clear hl' hx hxe
      have P1 := PBox.new wr x
      have bx := below_box wr (.cells #[.string x.key, .string x.val] 64)
      have B2 := B1.later bx
      have ho2 := row_later ho bx
      have hb2 := hb.trans (bx.mono (by omega))
      obtain ⟨xk, xv⟩ := x
      dsimp only at *
      clear B1 ho hb bx hbw
      go_upto_region 5 with fail
      clear c0 c1
      generalize hkp : wr.heap.size = kp at *
      generalize wr.alloc (.cells #[.string xk, .string xv] 64) = w2 at *
      obtain ⟨r0, r1⟩ := B2.cells
      obtain ⟨d0, d1⟩ := P1.two
      dsimp only at d0 d1
      go_wp2_with fail
      refine (HUx.out _).mono ?_
      rintro x w3 ⟨rfl, hb3⟩
      have B3 := B2.later hb3
      have P3 := P1.later hb3
      have ho3 := row_later ho2 hb3
      have hP3 := P1.lt
      have hs3 := hb3.size
      replace hb3 := hb2.trans (hb3.mono (by have := B2.lt; omega))
      have HX := hid (show liftP s d (Pr.mk xk xv) = ⟨upS (lf s d) xk.data.toList, xv⟩ from rfl)
      clear r0 r1 d0 d1 B2 P1 ho2 hb2 HUx
      generalize upS (lf s d) xk.data.toList = U at *
      cases hup : upB (lf s d) xk.data.toList
      · rw [hup] at HSx
        go_wp2_with fail
        go_roundw
        case rel => exact ⟨j + 1, by omega, by go_num, B3, by rw [HSx.out, if_neg (by simp)]; exact ho3, hb3⟩
        case measure => simp [intOf]; omega
      · rw [hup] at HSx
        have HSy := hid (HSx.out.trans (if_pos rfl))
        clear HSx
        obtain ⟨d0, d1⟩ := P3.two
        dsimp only at d0 d1
        obtain ⟨n', c', q', rfl⟩ := row_slice ho3
        have hC := (PBox.new w3 ⟨U, xv⟩).each
        have by3 := below_box w3 (.cells #[.string U, .string xv] 64)
        have B4 := B3.later by3
        have ho4 := row_later ho3 by3
        have hb4 := hb3.trans (by3.mono (by have := B3.lt; omega))
        have hB4 := B3.lt
        clear B3 ho3 hb3 by3
        go_wp2_with (first | (at_builtin; refine appOne Pr.cells 2 32 22 64 _ (by omega) (fun _ => rfl) Try.underlying22 info64 rfl (by omega) Key.oneP rfl _ _ rfl (k0 + 1) _ l rfl ho4 ⟨U, xv⟩ w3.heap.size rfl hC (by omega) (by simp; omega) ?_; intro v' w11 h1 h2; have B5 := B4.kept h2 (row_ge ho4 (Nat.lt_succ_self k0)); have hb5 := hb4.grown h2 (by simp; omega) (fun k hk => (World.ownsRow.lt ho4 k hk).1); clear d0 d1 B4 ho4 hb4 h2 hC) | fail)
        go_roundw
        case rel => exact ⟨j + 1, by omega, by go_num, B5, by rw [HSy.out, HX.out]; exact h1, hb5⟩
        case measure => simp [intOf]; omega
    · obtain rfl : j = n1 := by omega
      have hTT := HT.out
      rw [hTT] at ho
      have hbw : Below k0 w wr := hb0.trans (hb.mono (by omega))
      obtain ⟨n', c', q', rfl⟩ := row_slice ho
      go_wp2_with fail
      go_ret
      exact ⟨_, rfl, row_mono ho (by rw [HQ0.out]; omega), by rw [HQ0.out]; exact hbw⟩

set_option maxRecDepth 100000 in
set_option maxHeartbeats 600000 in
theorem unstripped42 (x : Pc) (q : Pl) (w : World) (hl : x.node.ps.length ≤ 1000) (h : Prs w q.a1 x.node.ps) (hd : x.strip.size ≤ 1000000) (hk : ∀ p ∈ x.node.ps, p.key.size ≤ 1000000) :
    Calls Try.prog 42 #[pcv x q] w fun e w' => ∃ v, e = .returned v ∧ w'.ownsRow w.heap.size 64 2 v (x.node.ps.map (addP x.strip)).length ((x.node.ps.map (addP x.strip)).flatMap Pr.cells) ∧ Below w.heap.size w w' := by
  have HL := hid (fun (wr : World) (hb : Below w.heap.size w wr) => lifted46 q.a1 q.c1 x.node.ps ⟨#[]⟩ x.strip wr hl (h.later hb) hd hk)
  rw [lift_add] at HL
  have Q0 := QBox.new w (.string x.lo) (.string x.strip) (.bool x.node.leaf) (.slice q.a1 x.node.ps.length q.c1) (.slice q.a2 x.node.pv.length q.c2) (.slice q.a3 x.node.ks.length q.c3) (.slice q.a4 x.node.bf.length q.c4)
  have hb0 := below_box w (.cells #[.string x.lo, .string x.strip, .bool x.node.leaf, .slice q.a1 x.node.ps.length q.c1, .slice q.a2 x.node.pv.length q.c2, .slice q.a3 x.node.ks.length q.c3, .slice q.a4 x.node.bf.length q.c4] 36)
  clear h hk
  obtain ⟨lo, st, lB, ps, pv, ks, bf⟩ := x
  obtain ⟨a1, c1, a2, c2, a3, c3, a4, c4⟩ := q
  dsimp only [pcv] at *
  generalize ps.map (addP st) = R at *
  generalize ps.length = n1 at *
  generalize pv.length = n2 at *
  generalize ks.length = n3 at *
  generalize bf.length = n4 at *
  go_enter Try.func42, Try.ntmps42
  go_upto_region 1 with fail
  generalize w.alloc (.cells #[.string lo, .string st, .bool lB, .slice a1 n1 c1, .slice a2 n2 c2, .slice a3 n3 c3, .slice a4 n4 c4] 36) = w1 at *
  obtain ⟨z0, z1, z2, z3, z4, z5, z6⟩ := Q0.cells
  go_wp2_with fail
  refine (HL.out _ hb0).mono ?_
  rintro x w2 ⟨v, rfl, ho, hb2⟩
  have hQl := Q0.lt
  go_wp2_with fail
  go_ret
  exact ⟨v, rfl, row_mono ho (by omega), hb0.trans (hb2.mono (by omega))⟩

set_option maxRecDepth 100000 in
set_option maxHeartbeats 600000 in
theorem leafMay41 (n : Nd) (p : Pl) (w : World) (hf : Few n) (h : Lies w n p) :
    Calls Try.prog 41 #[nv n p] w fun x w' => x = .returned (.bool (leafMayB n)) ∧ Below w.heap.size w w' := by
  have HM := hid (fun (wr : World) (hb : Below w.heap.size w wr) => may12 n p wr hf (h.later hb))
  have A0 := NBox.new w (.bool n.leaf) (.slice p.a1 n.ps.length p.c1) (.slice p.a2 n.pv.length p.c2) (.slice p.a3 n.ks.length p.c3) (.slice p.a4 n.bf.length p.c4)
  have hb0 := below_box w (.cells #[.bool n.leaf, .slice p.a1 n.ps.length p.c1, .slice p.a2 n.pv.length p.c2, .slice p.a3 n.ks.length p.c3, .slice p.a4 n.bf.length p.c4] 27)
  have HG := hid (show leafMayB n = (n.leaf && decide (mayI n = 0)) from rfl)
  generalize mayI n = MI at *
  generalize leafMayB n = R at *
  clear h hf
  obtain ⟨lB, ps, pv, ks, bf⟩ := n
  obtain ⟨a1, c1, a2, c2, a3, c3, a4, c4⟩ := p
  dsimp only [nv] at *
  generalize ps.length = n1 at *
  generalize pv.length = n2 at *
  generalize ks.length = n3 at *
  generalize bf.length = n4 at *
  cases lB
  case false =>
    have HE := hid (show R = false from by rw [HG.out]; rfl)
    clear HG
    go_enter Try.func41, Try.ntmps41
    go_wp2_with fail
    go_ret
    exact ⟨by rw [HE.out]; rfl, hb0⟩
  case true =>
    have HE := hid (show R = decide (MI = 0) from by rw [HG.out]; rfl)
    clear HG
    by_cases hm : MI = 0
    · subst hm
      go_enter Try.func41, Try.ntmps41
      obtain ⟨z0, z1, z2, z3, z4⟩ := A0.cells
      go_wp2_with fail
      refine (HM.out _ hb0).mono ?_
      rintro x w2 ⟨rfl, hb2⟩
      clear z0 z1 z2 z3 z4
      go_wp2_with fail
      go_ret
      exact ⟨by rw [HE.out]; rfl, hb0.trans (hb2.mono hb0.size)⟩
    · have hm' : decide (MI = 0) = false := decide_eq_false hm
      go_enter Try.func41, Try.ntmps41
      obtain ⟨z0, z1, z2, z3, z4⟩ := A0.cells
      go_wp2_with fail
      refine (HM.out _ hb0).mono ?_
      rintro x w2 ⟨rfl, hb2⟩
      clear z0 z1 z2 z3 z4
      have hx : (MI == 0) = false := by simpa using hm
      go_wp2_with fail
      go_ret
      exact ⟨by rw [HE.out, hm']; rfl, hb0.trans (hb2.mono hb0.size)⟩

set_option maxRecDepth 100000 in
set_option maxHeartbeats 600000 in
theorem within44 (a : Option Addr) (c : Nat) (ps : List Pr) (lo hi : ByteArray) (e : Bool) (w : World) (hl : ps.length ≤ 100000) (h : Prs w a ps) :
    Calls Try.prog 44 #[.slice a ps.length c, av lo hi e] w fun x w' => x = .returned (.bool (withinB ps (rg lo hi e))) ∧ Below w.heap.size w w' := by
  have HP := hid (fun (wr : World) (hb : Below w.heap.size w wr) => h.later hb)
  have HI := hid (fun k wr => in32 lo hi k e wr)
  have HY := hid (fun (j : Nat) (x : Pr) (hx : ps[j]? = some x) => show (ps.take (j + 1)).all (inP (rg lo hi e)) = ((ps.take j).all (inP (rg lo hi e)) && inP (rg lo hi e) x) from by
    obtain ⟨hj, rfl⟩ := List.getElem?_eq_some_iff.1 hx
    exact all_take_succ ps (inP (rg lo hi e)) hj)
  have HNo := hid (fun (j : Nat) (x : Pr) (hx : ps[j]? = some x) (hp : inP (rg lo hi e) x = false) => show withinB ps (rg lo hi e) = false from by
    obtain ⟨hj, rfl⟩ := List.getElem?_eq_some_iff.1 hx
    exact all_not ps (inP (rg lo hi e)) hj hp)
  have HT := hid (show (ps.take ps.length).all (inP (rg lo hi e)) = withinB ps (rg lo hi e) by rw [List.take_length]; rfl)
  have R0 := Box.new w (.string lo) (.string hi) (.bool e)
  have hb0 := below_box w (.cells #[.string lo, .string hi, .bool e] 29)
  have HD := hid (fun (p : Pr) => show inP (rg lo hi e) p = inR (rg lo hi e) p.key.data.toList from rfl)
  generalize withinB ps (rg lo hi e) = WB at *
  clear h
  generalize hn1 : ps.length = n1 at *
  have HN := hid hn1
  clear hn1
  go_enter Try.func44, Try.ntmps44
  go_upto_region 1 with fail
  generalize w.alloc (.cells #[.string lo, .string hi, .bool e] 29) = w1 at *
  generalize hk0 : w.heap.size = k0 at *
  have HQ0 := hid hk0
  clear hk0
  go_wp2_with fail
  go_loopw [9] (fun i wr => ∃ (j : Nat), j ≤ n1 ∧ i = .int .i64 j ∧ Box wr k0 (.string lo) (.string hi) (.bool e) ∧ Hid ((ps.take j).all (inP (rg lo hi e)) = true) ∧ Below (k0 + 1) w1 wr) (fun i _ => n1 - (intOf i).toNat)
  case atStart => exact ⟨0, Nat.zero_le _, rfl, R0, hid rfl, Below.refl _ _⟩
  case round =>
    obtain ⟨j, hj, rfl, R1, hall, hb⟩ := hrel
    have hRl := R1.lt
    by_cases hlt : j < n1
    · have hlt' : j < ps.length := by rw [HN.out]; exact hlt
      have hbw : Below k0 w wr := hb0.trans (hb.mono (by omega))
      obtain ⟨b, off, ha, c0, c1⟩ := (HP.out wr hbw).at hlt'
      subst ha
      obtain ⟨x, hx⟩ : ∃ x, ps[j] = x := ⟨_, rfl⟩
      have hx? : ps[j]? = some x := by rw [List.getElem?_eq_getElem hlt', hx]
      have HYj := hid (HY.out j x hx?)
      have HNj := hid (HNo.out j x hx?)
      clear hx?
      have HDx := hid (HD.out x)
      have HIx := hid (HI.out x.key)
      have HX := hid hx
      rw [hx] at c0 c1
      clear hx
      have P1 := PBox.new wr x
      have bx := below_box wr (.cells #[.string x.key, .string x.val] 64)
      have R2 := R1.later bx
      have hb2 := hb.trans (bx.mono (by omega))
      obtain ⟨xk, xv⟩ := x
      dsimp only at *
      clear R1 hb bx hbw
      go_upto_region 4 with fail
      clear c0 c1
      generalize hkp : wr.heap.size = kp at *
      generalize wr.alloc (.cells #[.string xk, .string xv] 64) = w2 at *
      obtain ⟨r0, r1, r2⟩ := R2.cells
      obtain ⟨d0, d1⟩ := P1.two
      dsimp only at d0 d1
      go_wp2_with fail
      refine (HIx.out _).mono ?_
      rintro x w3 ⟨rfl, hb3⟩
      have R3 := R2.later hb3
      have hR3 := R2.lt
      replace hb3 := hb2.trans (hb3.mono (by omega))
      clear r0 r1 r2 d0 d1 R2 P1 hb2 HIx
      cases hin : inR (rg lo hi e) xk.data.toList
      · have HF := hid (HNj.out (by rw [HDx.out, hin]))
        have hbz : Below k0 w w3 := hb0.trans (hb3.mono (by omega))
        go_wp2_with fail
        go_ret
        exact ⟨by rw [HF.out]; rfl, by rw [HQ0.out]; exact hbz⟩
      · have HF : Hid ((ps.take (j + 1)).all (inP (rg lo hi e)) = true) := hid (by rw [HYj.out, hall, HDx.out, hin]; rfl)
        go_wp2_with fail
        go_roundw
        case rel => exact ⟨j + 1, by omega, by go_num, R3, HF, hb3⟩
        case measure => simp [intOf]; omega
    · obtain rfl : j = n1 := by omega
      have HF := hid (HT.out.symm.trans hall)
      have hbz : Below k0 w wr := hb0.trans (hb.mono (by omega))
      go_wp2_with fail
      go_ret
      exact ⟨by rw [HF.out]; rfl, by rw [HQ0.out]; exact hbz⟩
end Go.Proofs.Ytlkcoaencliajaa.Key

namespace Go.Proofs.Ytlkcoaencliajaa.Key
open Go.RowKit Draw
open Go.Op (bytesLess)
set_option linter.unusedVariables false
set_option linter.unusedSimpArgs false

set_option maxRecDepth 100000 in
set_option maxHeartbeats 600000 in
theorem rise45 (a : Option Addr) (c : Nat) (ps : List Pr) (w : World) (hl : ps.length ≤ 100000) (h : Prs w a ps) :
    Calls Try.prog 45 #[.slice a ps.length c] w fun x w' => x = .returned (.bool (riseB ps)) ∧ Below w.heap.size w w' := by
  have HY := hid (fun (m : Nat) (x y : Pr) (hx : ps[m]? = some x) (hy : ps[m + 1]? = some y) => show riseAt ps (m + 1) = bytesLess x.key.data.toList y.key.data.toList from by
    obtain ⟨hm, rfl⟩ := List.getElem?_eq_some_iff.1 hx
    obtain ⟨hn, rfl⟩ := List.getElem?_eq_some_iff.1 hy
    exact riseAt_at hn)
  have HNo := hid (fun (j : Nat) (hj : j < ps.length) (hp : riseAt ps j = false) => show riseB ps = false from upTo_no hj hp)
  have HT := hid (fun (m : Nat) (hm : m + 1 = ps.length ∨ ps.length ≤ 1 ∧ m = 0) (hu : upTo (riseAt ps) (m + 1) = true) => show riseB ps = true from by
    unfold riseB
    rcases hm with hm | ⟨hm, rfl⟩
    · rw [← hm]; exact hu
    · exact upTo_mono hu hm)
  generalize riseB ps = R at *
  generalize hn1 : ps.length = n1 at *
  have HN := hid hn1
  clear hn1
  go_enter Try.func45, Try.ntmps45
  go_wp2_with fail
  go_loopw [3] (fun i wr => ∃ (m : Nat), i = .int .i64 ((m : Int) + 1) ∧ (m + 1 ≤ n1 ∨ m = 0) ∧ Hid (upTo (riseAt ps) (m + 1) = true) ∧ Below w.heap.size w wr) (fun i _ => n1 + 1 - (intOf i).toNat)
  case atStart => exact ⟨0, rfl, .inr rfl, hid rfl, Below.refl _ _⟩
  case round =>
    obtain ⟨m, rfl, hm, hup, hb⟩ := hrel
    by_cases hlt : m + 1 < n1
    · have hlt' : m + 1 < ps.length := by rw [HN.out]; exact hlt
      obtain ⟨b, off, rfl, T0, T1⟩ := (h.later hb).at2 (show m < ps.length by omega) hlt'
      obtain ⟨x, hx⟩ : ∃ x, ps[m]? = some x := ⟨_, List.getElem?_eq_getElem (by omega)⟩
      obtain ⟨y, hy⟩ : ∃ y, ps[m + 1]? = some y := ⟨_, List.getElem?_eq_getElem hlt'⟩
      have hxe : ps[m]'(by omega) = x := by rw [List.getElem?_eq_getElem (by omega)] at hx; exact Option.some.inj hx
      have hye : ps[m + 1] = y := by rw [List.getElem?_eq_getElem hlt'] at hy; exact Option.some.inj hy
      have HYm := hid (HY.out m x y hx hy)
      rw [hxe] at T0
      rw [hye] at T1
      clear hx hy hxe hye
      obtain ⟨xk, xv⟩ := x
      obtain ⟨yk, yv⟩ := y
      have e1 : ((m : Int) + 1) < (n1 : Int) := by omega
      have e2 : (m : Int) < (n1 : Int) := by omega
      have e4 : 0 ≤ (m : Int) + 1 := by omega
      have e3 : IntKind.i64.wrap (m : Int) = (m : Int) := by rw [IntKind.wrap_i64]; omega
      have hls := less_str xk yk
      cases q : bytesLess xk.data.toList yk.data.toList
      all_goals
        rw [q] at HYm hls
        skip
        go_upto_region 4 with fail
        refine wp_region_quiet (C := fun u => Below wr.heap.size wr u) (by kernel_rfl) (by kernel_rfl) (Below.refl _ wr).drew ?_
        change wpQuiet _ _ _ _ (_ :: _) _
        repeat
          first
            | go_big_quiet_skip
            | go_big_quiet_want
              refine quiet_v ?_ ?_ ?_
              rotate_left
              · intro u hu
                obtain ⟨m0, m1⟩ := T0.below hu T0.lt
                obtain ⟨z0, z1⟩ := T1.below hu T1.lt
                dsimp only at m0 m1 z0 z1
                go_simp
                with_reducible rfl
              go_simp
              go_big_quiet_on
        refine wpQuiet_nil (fun u hu => ?_)
        have hb2 := hb.trans (hu.mono hb.size)
      · have HF := hid (HNo.out (m + 1) hlt HYm.out)
        go_wp2_with fail
        go_ret
        exact ⟨by rw [HF.out]; rfl, hb2⟩
      · have HF : Hid (upTo (riseAt ps) (m + 1 + 1) = true) := hid (by rw [upTo, hup, HYm.out]; rfl)
        go_wp2_with fail
        go_roundw
        case rel => exact ⟨m + 1, by go_num, .inl (by omega), HF, hb2⟩
        case measure => simp [intOf]; omega
    · have e1 : ¬ ((m : Int) + 1) < (n1 : Int) := by omega
      have HF := hid (HT.out m (by omega) hup)
      go_wp2_with fail
      go_ret
      exact ⟨by rw [HF.out]; rfl, hb⟩

set_option maxRecDepth 100000 in
set_option maxHeartbeats 600000 in
theorem rise50 (a : Option Addr) (c : Nat) (ps : List Pr) (w : World) (hl : ps.length ≤ 100000) (h : Prs w a ps) :
    Calls Try.prog 50 #[.slice a ps.length c] w fun x w' => x = .returned (.bool (riseB ps)) ∧ Below w.heap.size w w' := by
  have HY := hid (fun (m : Nat) (x y : Pr) (hx : ps[m]? = some x) (hy : ps[m + 1]? = some y) => show riseAt ps (m + 1) = bytesLess x.key.data.toList y.key.data.toList from by
    obtain ⟨hm, rfl⟩ := List.getElem?_eq_some_iff.1 hx
    obtain ⟨hn, rfl⟩ := List.getElem?_eq_some_iff.1 hy
    exact riseAt_at hn)
  have HNo := hid (fun (j : Nat) (hj : j < ps.length) (hp : riseAt ps j = false) => show riseB ps = false from upTo_no hj hp)
  have HT := hid (fun (m : Nat) (hm : m + 1 = ps.length ∨ ps.length ≤ 1 ∧ m = 0) (hu : upTo (riseAt ps) (m + 1) = true) => show riseB ps = true from by
    unfold riseB
    rcases hm with hm | ⟨hm, rfl⟩
    · rw [← hm]; exact hu
    · exact upTo_mono hu hm)
  generalize riseB ps = R at *
  generalize hn1 : ps.length = n1 at *
  have HN := hid hn1
  clear hn1
  go_enter Try.func50, Try.ntmps50
  go_wp2_with fail
  go_loopw [3] (fun i wr => ∃ (m : Nat), i = .int .i64 ((m : Int) + 1) ∧ (m + 1 ≤ n1 ∨ m = 0) ∧ Hid (upTo (riseAt ps) (m + 1) = true) ∧ Below w.heap.size w wr) (fun i _ => n1 + 1 - (intOf i).toNat)
  case atStart => exact ⟨0, rfl, .inr rfl, hid rfl, Below.refl _ _⟩
  case round =>
    obtain ⟨m, rfl, hm, hup, hb⟩ := hrel
    by_cases hlt : m + 1 < n1
    · have hlt' : m + 1 < ps.length := by rw [HN.out]; exact hlt
      obtain ⟨b, off, rfl, T0, T1⟩ := (h.later hb).at2 (show m < ps.length by omega) hlt'
      obtain ⟨x, hx⟩ : ∃ x, ps[m]? = some x := ⟨_, List.getElem?_eq_getElem (by omega)⟩
      obtain ⟨y, hy⟩ : ∃ y, ps[m + 1]? = some y := ⟨_, List.getElem?_eq_getElem hlt'⟩
      have hxe : ps[m]'(by omega) = x := by rw [List.getElem?_eq_getElem (by omega)] at hx; exact Option.some.inj hx
      have hye : ps[m + 1] = y := by rw [List.getElem?_eq_getElem hlt'] at hy; exact Option.some.inj hy
      have HYm := hid (HY.out m x y hx hy)
      rw [hxe] at T0
      rw [hye] at T1
      clear hx hy hxe hye
      obtain ⟨xk, xv⟩ := x
      obtain ⟨yk, yv⟩ := y
      have e1 : ((m : Int) + 1) < (n1 : Int) := by omega
      have e2 : (m : Int) < (n1 : Int) := by omega
      have e4 : 0 ≤ (m : Int) + 1 := by omega
      have e3 : IntKind.i64.wrap (m : Int) = (m : Int) := by rw [IntKind.wrap_i64]; omega
      have hls := less_str xk yk
      cases q : bytesLess xk.data.toList yk.data.toList
      all_goals
        rw [q] at HYm hls
        have hle := le_str yk xk
        rw [q] at hle
        go_upto_region 4 with fail
        refine wp_region_quiet (C := fun u => Below wr.heap.size wr u) (by kernel_rfl) (by kernel_rfl) (Below.refl _ wr).drew ?_
        change wpQuiet _ _ _ _ (_ :: _) _
        repeat
          first
            | go_big_quiet_skip
            | go_big_quiet_want
              refine quiet_v ?_ ?_ ?_
              rotate_left
              · intro u hu
                obtain ⟨m0, m1⟩ := T0.below hu T0.lt
                obtain ⟨z0, z1⟩ := T1.below hu T1.lt
                dsimp only at m0 m1 z0 z1
                go_simp
                with_reducible rfl
              go_simp
              go_big_quiet_on
        refine wpQuiet_nil (fun u hu => ?_)
        have hb2 := hb.trans (hu.mono hb.size)
      · have HF := hid (HNo.out (m + 1) hlt HYm.out)
        go_wp2_with fail
        go_ret
        exact ⟨by rw [HF.out]; rfl, hb2⟩
      · have HF : Hid (upTo (riseAt ps) (m + 1 + 1) = true) := hid (by rw [upTo, hup, HYm.out]; rfl)
        go_wp2_with fail
        go_roundw
        case rel => exact ⟨m + 1, by go_num, .inl (by omega), HF, hb2⟩
        case measure => simp [intOf]; omega
    · have e1 : ¬ ((m : Int) + 1) < (n1 : Int) := by omega
      have HF := hid (HT.out m (by omega) hup)
      go_wp2_with fail
      go_ret
      exact ⟨by rw [HF.out]; rfl, hb⟩
end Go.Proofs.Ytlkcoaencliajaa.Key

namespace Go.Proofs.Ytlkcoaencliajaa.Key
open Go.RowKit
open Go.Op (bytesLess)

/-- whether all keys of a range begin with so many bytes of its first key, as the document asks it -/
theorem inside_all (r : Rng) (n : Nat) (h : emptyR r = false) : insideR r (ofR (r.lo.take n)) = allN r n := by
  unfold insideR allN
  rw [h]
  simp only [ofR, has_le (has_take r.lo n), Bool.not_false, Bool.true_and, Bool.false_or]
  cases succ (r.lo.take n) <;> simp
set_option maxRecDepth 100000 in
set_option maxHeartbeats 1000000 in
/-- Between, the program's -/
theorem between17 (a b : ByteArray) (w : World) (ha : a.size ≤ 1000000) (hb : b.size ≤ 1000000) :
    Calls Try.prog 55 #[.string a, .string b] w fun x w' => x = .returned (.string (str (between a.data.toList b.data.toList))) ∧ Below w.heap.size w w' := by
  cases hl : bytesLess a.toList b.toList
  · have H : between a.data.toList b.data.toList = [] := by rw [less_str] at hl; simp [between, hl]
    have H1 := hid H
    clear H
    go_enter Try.func55, Try.ntmps55
    go_wp2_with fail
    go_ret
    exact ⟨ret_str (by rw [H1.out]; rfl), Below.refl _ _⟩
  · have hl' := hl
    rw [less_str] at hl'
    have hc := (common_less hl').1
    rw [← Lib.size_eq] at hc
    have H : between a.data.toList b.data.toList = b.data.toList.take ((common a.data.toList b.data.toList).length + 1) := by simp [between, hl']
    have H1 := hid H
    have hz := str_size (common a.data.toList b.data.toList)
    have HC := common15 a b w ha hb
    generalize str (common a.data.toList b.data.toList) = S at *
    generalize (common a.data.toList b.data.toList).length = C at *
    clear H hl'
    go_enter Try.func55, Try.ntmps55
    go_wp2_with fail
    refine HC.mono ?_
    clear HC
    rintro x w' ⟨rfl, hbw⟩
    have hi : (C : Int) + 1 ≤ (b.size : Int) := by omega
    go_wp2_with fail
    go_ret
    exact ⟨ret_str (by rw [H1.out, cut_eq]), hbw⟩

theorem gt_yes {x y : ByteArray} (h : (!bytesLess x.toList y.toList) = true ∧ (!x.toList == y.toList) = true) : bytesLess y.data.toList x.data.toList = true := by
  rw [Lib.toList_data, Lib.toList_data] at h
  cases hc : bytesLess y.data.toList x.data.toList
  · have h1 : bytesLess x.data.toList y.data.toList = false := by simpa using h.1
    rw [less_same h1 hc] at h
    simp at h
  · rfl
theorem gt_no {x y : ByteArray} (h : (!bytesLess x.toList y.toList) = false ∨ (!x.toList == y.toList) = false) : bytesLess y.data.toList x.data.toList = false := by
  rw [Lib.toList_data, Lib.toList_data] at h
  rcases h with h | h
  · exact less_asymm (by simpa using h)
  · have h1 : x.data.toList = y.data.toList := by simpa using h
    rw [h1]
    exact less_self _
set_option maxRecDepth 100000 in
set_option maxHeartbeats 1000000 in
/-- Between, the document's -/
theorem between18 (a b : ByteArray) (w : World) (hb : b.size ≤ 1000000) :
    Calls Try.prog 32 #[.string a, .string b] w fun x w' => x = .returned (.string (str (between a.data.toList b.data.toList))) ∧ w' = w := by
  go_enter Try.func32, Try.ntmps32
  go_wp2_with fail
  go_loop [5] (fun n => ∃ j : Nat, j ≤ b.size + 1 ∧ n = .int .i64 j ∧ Hid (bytesLess a.data.toList b.data.toList = true → j ≤ (common a.data.toList b.data.toList).length + 1)) (fun n => b.size + 1 - (intOf n).toNat)
  case atStart => exact ⟨0, Nat.zero_le _, rfl, hid (fun _ => Nat.zero_le _)⟩
  case round =>
    obtain ⟨j, hj, rfl, hs⟩ := hrel
    go_wp2_with fail
    · have hg := gt_yes ‹_›
      rw [cut_data] at hg
      go_ret
      refine ⟨ret_str ?_, rfl⟩
      have hl : bytesLess a.data.toList b.data.toList = true := by
        cases h : bytesLess a.data.toList b.data.toList
        · rw [less_part j h] at hg
          cases hg
        · rfl
      have h1 := hs.out hl
      have h2 : ¬ j ≤ (common a.data.toList b.data.toList).length := fun h => by
        rw [common_part j h] at hg
        cases hg
      rw [cut_eq, between, hl, if_pos rfl, show j = (common a.data.toList b.data.toList).length + 1 by omega]
    · have hg := gt_no ‹_›
      rw [cut_data] at hg
      have hj1 : j ≤ b.size := by assumption
      refine ⟨⟨j + 1, by omega, rfl, hid fun hl => ?_⟩, by simp [intOf]; omega⟩
      have h1 := hs.out hl
      have h2 : j ≠ (common a.data.toList b.data.toList).length + 1 := fun h => by
        rw [h, (common_less hl).2] at hg
        cases hg
      omega
    · have hj1 : ¬ j ≤ b.size := by assumption
      go_ret
      refine ⟨ret_str ?_, rfl⟩
      have hl : bytesLess a.data.toList b.data.toList = false := by
        cases h : bytesLess a.data.toList b.data.toList
        · rfl
        · have h1 := hs.out h
          have h2 := (common_less h).1
          rw [← Lib.size_eq] at h2
          omega
      rw [between, hl]
      rfl
set_option maxRecDepth 100000 in
set_option maxHeartbeats 1000000 in
/-- Under, the document's -/
theorem under25 (lo hi : ByteArray) (e : Bool) (w : World) (h1 : lo.size ≤ 1000) :
    Calls Try.prog 36 #[.agg #[.string lo, .string hi, .bool e]] w fun x w' => x = .returned (.string (str (under (rg lo hi e)))) ∧ Below w.heap.size w w' := by
  cases hE : emptyR (rg lo hi e)
  · have HU := hid (best_under _ hE)
    have HI := hid (fun n => inside_all (rg lo hi e) n hE)
    have HE := empty28 lo hi e
    rw [hE] at HE
    clear hE
    go_enter Try.func36, Try.ntmps36
    go_wp2_with fail
    refine (HE _).mono ?_
    clear HE
    rintro x w' ⟨rfl, hbw⟩
    have hx := (Box.new w (.string lo) (.string hi) (.bool e)).later hbw
    have hb : Below w.heap.size w w' := (below_box _ _).trans (hbw.mono (by simp))
    clear hbw
    go_wp2_with fail
    go_loopw [3, 4] (fun p n wr => ∃ j : Nat, j ≤ lo.size ∧ n = .int .i64 ((j : Int) + 1) ∧ p = .string (str (lo.data.toList.take (bestN (rg lo hi e) j))) ∧ Below w.heap.size w wr ∧ Box wr w.heap.size (.string lo) (.string hi) (.bool e)) (fun _ n _ => lo.size + 1 - (intOf n).toNat)
    case atStart => exact ⟨0, Nat.zero_le _, rfl, rfl, hb, hx⟩
    case round =>
      obtain ⟨j, hj, rfl, hp, hbr, hxr⟩ := hrel
      obtain ⟨a0, a1, a2⟩ := hxr.cells
      by_cases hin : j < lo.size
      · have k1 : (j : Int) + 1 ≤ (lo.size : Int) := by omega
        have hPz : (lo.extract 0 (j + 1)).size ≤ 1000 := by simp; omega
        have hI : insideR (rg lo hi e) (rg (lo.extract 0 (j + 1)) (sucS (lo.extract 0 (j + 1)).data.toList) (sucO (lo.extract 0 (j + 1)).data.toList)) = allN (rg lo hi e) (j + 1) := by
          have := HI.out (j + 1)
          rw [← this]
          unfold rg sucS sucO ofR
          rw [str_data, cut_data]
        have hO := fun u => of27 (lo.extract 0 (j + 1)) u (by omega)
        have hN := fun u => inside31 lo hi (lo.extract 0 (j + 1)) (sucS (lo.extract 0 (j + 1)).data.toList) e (sucO (lo.extract 0 (j + 1)).data.toList) u
        rw [hI] at hN
        have hB : bestN (rg lo hi e) (j + 1) = if allN (rg lo hi e) (j + 1) then j + 1 else bestN (rg lo hi e) j := rfl
        generalize sucS (lo.extract 0 (j + 1)).data.toList = S at *
        generalize sucO (lo.extract 0 (j + 1)).data.toList = o at *
        generalize allN (rg lo hi e) (j + 1) = al at *
        have HB := hid hB
        have HO := hid hO
        have HN := hid hN
        have HP := hid hp
        clear hI hB hO hN hp
        go_wp2_with fail
        refine wp_region_quiet (C := fun u => Below wr.heap.size wr u) (by kernel_rfl) (by kernel_rfl) ((Below.refl _ wr).drew) ?_
        change wpQuiet _ _ _ _ (_ :: _) _
        refine wpQuiet_step (fun K hK => ?_)
        refine quiet_val (.agg #[.string lo, .string hi, .bool e]) (by kernel_rfl) (fun u hu => by obtain ⟨b0, b1, b2⟩ := (hxr.later hu).cells; go_simp) ?_
        go_simp
        refine hK _ ?_
        clear hK K
        refine wpQuiet_step (fun K hK => ?_)
        refine quiet_val (.pointer (some ⟨w.heap.size, 0, none⟩)) (by kernel_rfl) (fun u hu => by go_simp) ?_
        go_simp
        refine hK _ ?_
        clear hK K
        refine wpQuiet_step (fun K hK => ?_)
        refine quiet_val (.string lo) (by kernel_rfl) (fun u hu => by obtain ⟨b0, b1, b2⟩ := (hxr.later hu).cells; go_simp) ?_
        go_simp
        refine hK _ ?_
        clear hK K
        refine wpQuiet_step (fun K hK => ?_)
        refine quiet_val (.int .i64 ((j : Int) + 1)) (by kernel_rfl) (fun u hu => by go_simp) ?_
        go_simp
        refine hK _ ?_
        clear hK K
        refine wpQuiet_step (fun K hK => ?_)
        refine quiet_val (.string (lo.extract 0 (j + 1))) (by kernel_rfl) (fun u hu => by go_simp; intro h; omega) ?_
        go_simp
        refine hK _ ?_
        clear hK K
        refine wpQuiet_step (fun K hK => ?_)
        refine quiet_call (.agg #[.string (lo.extract 0 (j + 1)), .string S, .bool o]) 62 #[.string (lo.extract 0 (j + 1))] (by kernel_rfl) (fun u hu => by go_simp) (fun u hu => (HO.out u).mono fun x u' h => ⟨h.1, hu.trans (h.2.mono hu.size)⟩) ?_
        go_simp
        refine hK _ ?_
        clear hK K
        refine wpQuiet_step (fun K hK => ?_)
        refine quiet_call (.bool al) 61 #[.agg #[.string lo, .string hi, .bool e], .agg #[.string (lo.extract 0 (j + 1)), .string S, .bool o]] (by kernel_rfl) (fun u hu => by go_simp) (fun u hu => (HN.out u).mono fun x u' h => ⟨h.1, hu.trans (h.2.mono hu.size)⟩) ?_
        go_simp
        refine hK _ ?_
        clear hK K
        refine wpQuiet_nil (fun u hu => ?_)
        have hxu := hxr.later hu
        have hbu : Below w.heap.size w u := hbr.trans (hu.mono hbr.size)
        clear a0 a1 a2
        obtain ⟨a0, a1, a2⟩ := hxu.cells
        cases al
        · go_wp2_with fail
          exact ⟨⟨j + 1, by omega, rfl, by rw [HB.out]; exact HP.out, hbu, hxu⟩, by simp [intOf]; omega⟩
        · go_wp2_with fail
          exact ⟨⟨j + 1, by omega, rfl, by rw [HB.out, cut_eq]; rfl, hbu, hxu⟩, by simp [intOf]; omega⟩
      · have k1 : decide ((j : Int) + 1 ≤ (lo.size : Int)) = false := by simp; omega
        have HP := hid hp
        subst hp
        go_wp2_with fail
        go_ret
        refine ⟨ret_str ?_, hbr⟩
        have hj1 : j = (rg lo hi e).lo.length := by show j = lo.data.toList.length; rw [← Lib.size_eq]; omega
        rw [hj1, HU.out]
        rfl
  · have HU := hid (under_empty hE)
    have HE := empty28 lo hi e
    rw [hE] at HE
    clear hE
    go_enter Try.func36, Try.ntmps36
    go_wp2_with fail
    refine (HE _).mono ?_
    clear HE
    rintro x w' ⟨rfl, hbw⟩
    go_wp2_with fail
    go_ret
    exact ⟨ret_str (by rw [HU.out]; rfl), (below_box _ _).trans (hbw.mono (by simp))⟩
end Go.Proofs.Ytlkcoaencliajaa.Key

namespace Go.Proofs.Ytlkcoaencliajaa.Key
open Go.RowKit Draw
open Go.Op (bytesLess)
set_option linter.unusedVariables false
set_option linter.unusedSimpArgs false

/-- what Join answers -/
def JoinSay (w w' : World) (x : Ending) (a b : Pc) (lo hi : ByteArray) (e : Bool) : Prop :=
  ∃ q : Pl, x = .returned (.tuple #[pcv (joinP a b lo hi e) q, .int .i64 (joinE a b (rg lo hi e))]) ∧ OwnN w' w.heap.size (joinP a b lo hi e).node q
theorem join_none {w w' : World} {x : Ending} {a b : Pc} {lo hi : ByteArray} {e : Bool} {z : Int} (hz : joinE a b (rg lo hi e) = z) (h0 : z ≠ 0)
    (hx : x = .returned (.tuple #[.agg #[.string ⟨#[]⟩, .string ⟨#[]⟩, .bool false, .slice none 0 0, .slice none 0 0, .slice none 0 0, .slice none 0 0], .int .i64 z])) : JoinSay w w' x a b lo hi e := by
  have e' : joinP a b lo hi e = Pc.nil := by unfold joinP; rw [hz, if_neg h0]
  refine ⟨⟨none, 0, none, 0, none, 0, none, 0⟩, ?_, ?_⟩
  · rw [hx, hz, e']; rfl
  · rw [e']; exact OwnN.nil _ _
theorem join_some {w w' : World} {x : Ending} {a b : Pc} {lo hi : ByteArray} {e : Bool} {s : ByteArray} {l : List Pr} {ad : Option Addr} {c : Nat} {B : Nat} (hz : joinE a b (rg lo hi e) = 0) (hs : undS (rg lo hi e) = s) (hl : (joinL a b).map (cutP s) = l)
    (hx : x = .returned (.tuple #[.agg #[.string lo, .string s, .bool true, .slice ad l.length c, .slice none 0 0, .slice none 0 0, .slice none 0 0], .int .i64 0])) (hO : w'.ownsRow B 64 2 (.slice ad l.length c) l.length (l.flatMap Pr.cells)) (hB : w.heap.size ≤ B) : JoinSay w w' x a b lo hi e := by
  have e' : joinP a b lo hi e = ⟨lo, s, ⟨true, l, [], [], []⟩⟩ := by unfold joinP joinN; rw [if_pos hz, hs, hl]
  refine ⟨⟨ad, c, none, 0, none, 0, none, 0⟩, ?_, ?_⟩
  · rw [hx, hz, e']; rfl
  · rw [e']; exact ⟨row_mono hO hB, row_nil _ _ _ _, row_nil _ _ _ _, row_nil _ _ _ _⟩
theorem boxes_qqrq (w : World) (v0 v1 v2 v3 v4 v5 v6 x0 x1 x2 x3 x4 x5 x6 r0 r1 r2 y0 y1 y2 y3 y4 y5 y6 : Value) :
    QBox ((((w.alloc (.cells #[v0, v1, v2, v3, v4, v5, v6] 36)).alloc (.cells #[x0, x1, x2, x3, x4, x5, x6] 36)).alloc (.cells #[r0, r1, r2] 29)).alloc (.cells #[y0, y1, y2, y3, y4, y5, y6] 36)) w.heap.size v0 v1 v2 v3 v4 v5 v6 ∧
    QBox ((((w.alloc (.cells #[v0, v1, v2, v3, v4, v5, v6] 36)).alloc (.cells #[x0, x1, x2, x3, x4, x5, x6] 36)).alloc (.cells #[r0, r1, r2] 29)).alloc (.cells #[y0, y1, y2, y3, y4, y5, y6] 36)) (w.heap.size + 1) x0 x1 x2 x3 x4 x5 x6 ∧
    Box ((((w.alloc (.cells #[v0, v1, v2, v3, v4, v5, v6] 36)).alloc (.cells #[x0, x1, x2, x3, x4, x5, x6] 36)).alloc (.cells #[r0, r1, r2] 29)).alloc (.cells #[y0, y1, y2, y3, y4, y5, y6] 36)) (w.heap.size + 1 + 1) r0 r1 r2 ∧
    QBox ((((w.alloc (.cells #[v0, v1, v2, v3, v4, v5, v6] 36)).alloc (.cells #[x0, x1, x2, x3, x4, x5, x6] 36)).alloc (.cells #[r0, r1, r2] 29)).alloc (.cells #[y0, y1, y2, y3, y4, y5, y6] 36)) (w.heap.size + 1 + 1 + 1) y0 y1 y2 y3 y4 y5 y6 ∧
    Below w.heap.size w ((((w.alloc (.cells #[v0, v1, v2, v3, v4, v5, v6] 36)).alloc (.cells #[x0, x1, x2, x3, x4, x5, x6] 36)).alloc (.cells #[r0, r1, r2] 29)).alloc (.cells #[y0, y1, y2, y3, y4, y5, y6] 36)) := by
  have a1 : (w.alloc (.cells #[v0, v1, v2, v3, v4, v5, v6] 36)).heap.size = w.heap.size + 1 := by simp
  have a2 : ((w.alloc (.cells #[v0, v1, v2, v3, v4, v5, v6] 36)).alloc (.cells #[x0, x1, x2, x3, x4, x5, x6] 36)).heap.size = w.heap.size + 1 + 1 := by simp
  have a3 : (((w.alloc (.cells #[v0, v1, v2, v3, v4, v5, v6] 36)).alloc (.cells #[x0, x1, x2, x3, x4, x5, x6] 36)).alloc (.cells #[r0, r1, r2] 29)).heap.size = w.heap.size + 1 + 1 + 1 := by simp
  have h0 := QBox.new w v0 v1 v2 v3 v4 v5 v6
  have h1 := QBox.new (w.alloc (.cells #[v0, v1, v2, v3, v4, v5, v6] 36)) x0 x1 x2 x3 x4 x5 x6
  have h2 := Box.new ((w.alloc (.cells #[v0, v1, v2, v3, v4, v5, v6] 36)).alloc (.cells #[x0, x1, x2, x3, x4, x5, x6] 36)) r0 r1 r2
  have h3 := QBox.new (((w.alloc (.cells #[v0, v1, v2, v3, v4, v5, v6] 36)).alloc (.cells #[x0, x1, x2, x3, x4, x5, x6] 36)).alloc (.cells #[r0, r1, r2] 29)) y0 y1 y2 y3 y4 y5 y6
  rw [a1] at h1
  rw [a2] at h2
  rw [a3] at h3
  exact ⟨((h0.alloc _).alloc _).alloc _, (h1.alloc _).alloc _, h2.alloc _, h3, (((below_box w _).alloc (by simp) _).alloc (by simp; omega) _).alloc (by simp; omega) _⟩
/-- a row of the call's own, and what another row holds behind it -/
theorem yRow {ops : Array Oper} {o : Oper} {a : Act} {w : World} {K : Value → World → Prop} (hw : Region.wanted o (yielded ops a.tmps) = true) (s x : Operand)
    (ho : o.op = .call { callee := .builtin .append, args := #[s, x], argTypes := #[22, 22] })
    (B B' : Nat) (v y : Value) (l l' : List Pr) (hs : a.eval s = v) (hown : w.ownsRow B 64 2 v l.length (l.flatMap Pr.cells)) (hx : a.eval x = y) (hown' : w.ownsRow B' 64 2 y l'.length (l'.flatMap Pr.cells)) (hsz : l.length + l'.length ≤ 90000) (hB : B ≤ w.heap.size)
    (h : ∀ v' w', w'.ownsRow B 64 2 v' (l ++ l').length ((l ++ l').flatMap Pr.cells) → w.grownBy w' v.ownBlock → K v' w') : opYields Try.prog ops o a w K := by
  obtain ⟨i0, hi, hz0, hz1, hz2⟩ := info_parts info64
  have hc := fun g hg => World.ownsRow.cells hown' (g := g) hg
  rcases hown'.2 with ⟨e, h0⟩ | ⟨g, cap, cur, e, _⟩
  · have hy : l' = [] := List.eq_nil_of_length_eq_zero h0
    subst hy
    have hrun := run_append_owned_none (P := Try.prog) (w := w) B 22 o.type 64 i0 2 Try.underlying22 hi v l.length (l.flatMap Pr.cells) hown
    refine opYields_val v hw ?_ (h v w (by rw [List.append_nil]; exact hown) ⟨rfl, rfl, rfl, Nat.le_refl _, fun _ _ _ => rfl⟩)
    rw [e] at hx
    simp [execOp, ho, resolve, invoke, builtin, hs, hx, hrun, Result.andThen]
  · refine opYields_append hw s x 22 ho B 64 i0 _ 2 32 Try.underlying22 hi hz0 hz1 hz2 rfl (by omega) v _ _ hs hown ⟨g, 0, none⟩ l'.length cap (l'.flatMap Pr.cells) (by rw [hx, e]) (flat_len Pr.cells 2 (fun _ => rfl) l') (fun j u hu => hc g (by rw [e]; rfl) j u hu) (fun u hu => ?_) (by unfold maxLen; omega) ?_ hB ?_
    · obtain ⟨z, hz, hu⟩ := List.mem_flatMap.1 hu
      exact Key.oneP z u hu
    · have : (l.length + l'.length) * 32 ≤ 90000 * 32 := Nat.mul_le_mul hsz (Nat.le_refl _)
      omega
    · intro v' w' h1 h2
      refine h v' w' ?_ h2
      rw [List.length_append, List.flatMap_append]
      exact h1
end Go.Proofs.Ytlkcoaencliajaa.Key

namespace Go.Proofs.Ytlkcoaencliajaa.Key
open Go.RowKit Draw
open Go.Op (bytesLess)
set_option linter.unusedVariables false
set_option linter.unusedSimpArgs false

theorem joinL_small {a b : Pc} (fa : Few a.node) (fb : Few b.node) : (joinL a b).length ≤ 2000 := by
  unfold joinL
  rw [List.length_append, List.length_map, List.length_map]
  have := fa.l1
  have := fb.l1
  omega
theorem joinL_key {a b : Pc} (hsa : a.strip.size ≤ 1000) (hsb : b.strip.size ≤ 1000) (hka : ∀ x ∈ a.node.ps, x.key.size ≤ 1000) (hkb : ∀ x ∈ b.node.ps, x.key.size ≤ 1000) : ∀ x ∈ joinL a b, x.key.size ≤ 1000000 := by
  intro x hx
  unfold joinL at hx
  rcases List.mem_append.1 hx with hx | hx
  · obtain ⟨y, hy, rfl⟩ := List.mem_map.1 hx
    show (a.strip ++ y.key).size ≤ _
    rw [ByteArray.size_append]
    have := hka y hy
    omega
  · obtain ⟨y, hy, rfl⟩ := List.mem_map.1 hx
    show (b.strip ++ y.key).size ≤ _
    rw [ByteArray.size_append]
    have := hkb y hy
    omega
theorem Prs.kept {w u : World} {a : Option Addr} {l : List Pr} {k : Nat} (h : Prs w a l) (hg : w.grownBy u (some k)) (hne : ∀ b o, a = some ⟨b, o, none⟩ → b ≠ k) : Prs u a l := by
  rcases h with rfl | ⟨b, off, rfl, hc⟩
  · exact .inl rfl
  · refine .inr ⟨b, off, rfl, fun i hi => ?_⟩
    have hb := (hc i hi).lt
    have he := hg.block b hb (fun e => hne b off rfl (Option.some.inj e))
    exact ⟨(World.cell?_of_block (w := w) (a := ⟨b, off + i * 2, none⟩) he).trans (hc i hi).c0, (World.cell?_of_block (w := w) (a := ⟨b, off + i * 2 + 1, none⟩) he).trans (hc i hi).c1⟩
theorem row_far_prs {w : World} {B : Nat} {a : Option Addr} {n c : Nat} {l : List Pr} (h : w.ownsRow B 64 2 (.slice a n c) l.length (l.flatMap Pr.cells)) {k : Nat} (hk : k < B) : ∀ b o, a = some ⟨b, o, none⟩ → b ≠ k := by
  rintro b o rfl e
  rcases h.2 with ⟨e', _⟩ | ⟨g, cap, cur, e', hB, _⟩
  · cases e'
  · simp only [Value.slice.injEq, Option.some.injEq, Addr.mk.injEq] at e'
    omega
theorem row_prs {w : World} {B : Nat} {v : Value} {l : List Pr} (h : w.ownsRow B 64 2 v l.length (l.flatMap Pr.cells)) : ∃ a c, v = .slice a l.length c ∧ Prs w a l := by
  obtain ⟨a, c, e, h1⟩ := row_cells Pr.cells 2 (fun _ => rfl) h
  refine ⟨a, c, e, ?_⟩
  rcases h1 with h1 | ⟨g, e, _, _, hc⟩
  · exact .inl h1
  · exact .inr ⟨g, 0, e, fun i hi => ⟨hc i hi 0 _ (by omega) rfl, hc i hi 1 _ (by omega) rfl⟩⟩

set_option maxRecDepth 100000 in
set_option maxHeartbeats 2000000 in
theorem join22 (a b : Pc) (p q : Pl) (lo hi : ByteArray) (e : Bool) (w : World) (fa : Few a.node) (fb : Few b.node) (la : Lies w a.node p) (lb : Lies w b.node q) (hsa : a.strip.size ≤ 1000) (hsb : b.strip.size ≤ 1000)
    (hka : ∀ x ∈ a.node.ps, x.key.size ≤ 1000) (hkb : ∀ x ∈ b.node.ps, x.key.size ≤ 1000) (hlo : lo.size ≤ 1000) (hhi : hi.size ≤ 1000) :
    Calls Try.prog 22 #[pcv a p, pcv b q, av lo hi e] w fun x w' => JoinSay w w' x a b lo hi e ∧ Below w.heap.size w w' := by
  have HMa := hid (fun (wr : World) (hb : Below w.heap.size w wr) => leafMay41 a.node p wr fa (la.later hb))
  have HMb := hid (fun (wr : World) (hb : Below w.heap.size w wr) => leafMay41 b.node q wr fb (lb.later hb))
  have HUa := hid (fun (wr : World) (hb : Below w.heap.size w wr) => unstripped42 a p wr fa.l1 (la.later hb).h1 (by omega) (fun x hx => Nat.le_trans (hka x hx) (by decide)))
  have HUb := hid (fun (wr : World) (hb : Below w.heap.size w wr) => unstripped42 b q wr fb.l1 (lb.later hb).h1 (by omega) (fun x hx => Nat.le_trans (hkb x hx) (by decide)))
  have HY := hid (fun wr => empty25 lo hi e wr)
  have HV := hid (fun wr => under24 lo hi e wr hlo hhi)
  have HL := joinL_small fa fb
  have HLk := hid (joinL_key hsa hsb hka hkb)
  have HE := hid (show joinE a b (rg lo hi e) = if leafMayB a.node && leafMayB b.node then if !emptyR (rg lo hi e) && (withinB (joinL a b) (rg lo hi e) && riseB (joinL a b)) then if 16 < (joinL a b).length then 13 else 0 else 1 else 3 from rfl)
  have HJ := hid (show joinL a b = a.node.ps.map (addP a.strip) ++ b.node.ps.map (addP b.strip) from rfl)
  have HNo := hid (fun (w' : World) (x : Ending) (z : Int) => @join_none w w' x a b lo hi e z)
  have HSo := hid (fun (w' : World) (x : Ending) (l : List Pr) (ad : Option Addr) (c B : Nat) => @join_some w w' x a b lo hi e (undS (rg lo hi e)) l ad c B)
  have hml : a.node.ps.length ≤ 1000 ∧ b.node.ps.length ≤ 1000 := ⟨fa.l1, fb.l1⟩
  have HLa := hid (show (a.node.ps.map (addP a.strip)).length ≤ 1000 by rw [List.length_map]; exact fa.l1)
  have HLb := hid (show (b.node.ps.map (addP b.strip)).length ≤ 1000 by rw [List.length_map]; exact fb.l1)
  rw [show str (under (rg lo hi e)) = undS (rg lo hi e) from rfl] at HV
  have HUn := hid (fun (x : Pr) (hw : withinB (joinL a b) (rg lo hi e) = true) (hx : x ∈ joinL a b) => show has x.key.data.toList (undS (rg lo hi e)).data.toList = true from by
    unfold withinB at hw
    rw [List.all_eq_true] at hw
    unfold undS
    rw [str_data]
    exact under_in (hw x hx))
  clear fa fb la lb hsa hsb hka hkb
  have key : ∀ (SAY : World → Ending → Prop), Hid (SAY = fun w' x => JoinSay w w' x a b lo hi e) → Calls Try.prog 22 #[pcv a p, pcv b q, av lo hi e] w fun x w' => SAY w' x ∧ Below w.heap.size w w' := by
    intro SAY HSAY
    generalize undS (rg lo hi e) = S at *
    generalize joinL a b = J at *
    generalize a.node.ps.map (addP a.strip) = Ja at *
    generalize b.node.ps.map (addP b.strip) = Jb at *
    generalize leafMayB a.node = MA at *
    generalize leafMayB b.node = MB at *
    generalize joinE a b (rg lo hi e) = ZE at *
    obtain ⟨alo, ast, aB, aps, apv, aks, abf⟩ := a
    obtain ⟨blo, bst, bB, bps, bpv, bks, bbf⟩ := b
    obtain ⟨p1, d1, p2, d2, p3, d3, p4, d4⟩ := p
    obtain ⟨q1, f1, q2, f2, q3, f3, q4, f4⟩ := q
    dsimp only [pcv, nv] at *
    generalize aps.length = an1 at *
    generalize apv.length = an2 at *
    generalize aks.length = an3 at *
    generalize abf.length = an4 at *
    generalize bps.length = bn1 at *
    generalize bpv.length = bn2 at *
    generalize bks.length = bn3 at *
    generalize bbf.length = bn4 at *
    obtain ⟨A0, B0, R0, Q0, hb0⟩ := boxes_qqrq w (.string alo) (.string ast) (.bool aB) (.slice p1 an1 d1) (.slice p2 an2 d2) (.slice p3 an3 d3) (.slice p4 an4 d4) (.string blo) (.string bst) (.bool bB) (.slice q1 bn1 f1) (.slice q2 bn2 f2) (.slice q3 bn3 f3) (.slice q4 bn4 f4) (.string lo) (.string hi) (.bool e) (.string ⟨#[]⟩) (.string ⟨#[]⟩) (.bool false) (.slice none 0 0) (.slice none 0 0) (.slice none 0 0) (.slice none 0 0)
    have start : ∀ ma mb, Hid (MA = ma ∧ MB = mb) → Calls Try.prog 22 #[.agg #[.string alo, .string ast, .bool aB, .slice p1 an1 d1, .slice p2 an2 d2, .slice p3 an3 d3, .slice p4 an4 d4], .agg #[.string blo, .string bst, .bool bB, .slice q1 bn1 f1, .slice q2 bn2 f2, .slice q3 bn3 f3, .slice q4 bn4 f4], av lo hi e] w fun x w' => SAY w' x ∧ Below w.heap.size w w' := by
      intro ma mb hab
      cases MA
      case false =>
        have HZ := hid (show ZE = 3 from HE.out)
        clear HUa HUb HY HV HMb hab
        go_enter Try.func22, Try.ntmps22
        go_upto_region 1 with fail
        generalize (((w.alloc (.cells #[.string alo, .string ast, .bool aB, .slice p1 an1 d1, .slice p2 an2 d2, .slice p3 an3 d3, .slice p4 an4 d4] 36)).alloc (.cells #[.string blo, .string bst, .bool bB, .slice q1 bn1 f1, .slice q2 bn2 f2, .slice q3 bn3 f3, .slice q4 bn4 f4] 36)).alloc (.cells #[.string lo, .string hi, .bool e] 29)).alloc (.cells #[.string ⟨#[]⟩, .string ⟨#[]⟩, .bool false, .slice none 0 0, .slice none 0 0, .slice none 0 0, .slice none 0 0] 36) = w0 at *
        generalize hk0 : w.heap.size = k0 at *
        generalize hk1 : k0 + 1 = k1 at *
        generalize hk2 : k1 + 1 = k2 at *
        generalize hk3 : k2 + 1 = k3 at *
        have HQ0 := hid hk0
        have HQ := hid (And.intro hk1 (And.intro hk2 hk3))
        clear hk0 hk1 hk2 hk3
        have hkk := HQ.out
        obtain ⟨a0, a1, a2, a3, a4, a5, a6⟩ := A0.cells
        obtain ⟨b0, b1, b2, b3, b4, b5, b6⟩ := B0.cells
        obtain ⟨r0, r1, r2⟩ := R0.cells
        go_wp2_with fail
        refine (HMa.out _ hb0).mono ?_
        rintro x w1 ⟨rfl, hb1⟩
        clear a0 a1 a2 a3 a4 a5 a6 b0 b1 b2 b3 b4 b5 b6 r0 r1 r2
        have A1 := A0.later hb1
        have B1 := B0.later hb1
        have R1 := R0.later hb1
        have Q1 := Q0.later hb1
        have hQl1 := Q0.lt
        replace hb1 := hb0.trans (hb1.mono (by omega))
        clear A0 B0 R0 Q0
        obtain ⟨z0, z1, z2, z3, z4, z5, z6⟩ := Q1.cells
        have f := Q1.free
        have f0 := f 0
        have f1' := f 1
        have f2' := f 2
        have f3' := f 3
        have f4' := f 4
        have f5 := f 5
        have f6 := f 6
        clear f
        have hb9 := seven_set hb1 (show k0 ≤ k3 by omega) (.string ⟨#[]⟩) (.string ⟨#[]⟩) (.bool false) (.slice none 0 0) (.slice none 0 0) (.slice none 0 0) (.slice none 0 0)
        go_wp2_with fail
        refine bodyPost_ret (v := .tuple #[.agg #[.string ⟨#[]⟩, .string ⟨#[]⟩, .bool false, .slice none 0 0, .slice none 0 0, .slice none 0 0, .slice none 0 0], .int .i64 3]) (by simp [results, Try.results22, go_sem, z0, z1, z2, z3, z4, z5, z6]) rfl ⟨?_, ?_⟩
        · rw [HSAY]; exact HNo.out _ _ 3 HZ.out (by decide) rfl
        · rw [HQ0.out]; exact hb9
      case true =>
      cases MB
      case false =>
        have HZ := hid (show ZE = 3 from HE.out)
        clear HUa HUb HY HV hab
        go_enter Try.func22, Try.ntmps22
        go_upto_region 1 with fail
        generalize (((w.alloc (.cells #[.string alo, .string ast, .bool aB, .slice p1 an1 d1, .slice p2 an2 d2, .slice p3 an3 d3, .slice p4 an4 d4] 36)).alloc (.cells #[.string blo, .string bst, .bool bB, .slice q1 bn1 f1, .slice q2 bn2 f2, .slice q3 bn3 f3, .slice q4 bn4 f4] 36)).alloc (.cells #[.string lo, .string hi, .bool e] 29)).alloc (.cells #[.string ⟨#[]⟩, .string ⟨#[]⟩, .bool false, .slice none 0 0, .slice none 0 0, .slice none 0 0, .slice none 0 0] 36) = w0 at *
        generalize hk0 : w.heap.size = k0 at *
        generalize hk1 : k0 + 1 = k1 at *
        generalize hk2 : k1 + 1 = k2 at *
        generalize hk3 : k2 + 1 = k3 at *
        have HQ0 := hid hk0
        have HQ := hid (And.intro hk1 (And.intro hk2 hk3))
        clear hk0 hk1 hk2 hk3
        have hkk := HQ.out
        obtain ⟨a0, a1, a2, a3, a4, a5, a6⟩ := A0.cells
        obtain ⟨b0, b1, b2, b3, b4, b5, b6⟩ := B0.cells
        obtain ⟨r0, r1, r2⟩ := R0.cells
        go_wp2_with fail
        refine (HMa.out _ hb0).mono ?_
        rintro x w1 ⟨rfl, hb1⟩
        clear a0 a1 a2 a3 a4 a5 a6 b0 b1 b2 b3 b4 b5 b6 r0 r1 r2
        have A1 := A0.later hb1
        have B1 := B0.later hb1
        have R1 := R0.later hb1
        have Q1 := Q0.later hb1
        have hQl1 := Q0.lt
        replace hb1 := hb0.trans (hb1.mono (by omega))
        clear A0 B0 R0 Q0
        obtain ⟨a0, a1, a2, a3, a4, a5, a6⟩ := A1.cells
        obtain ⟨b0, b1, b2, b3, b4, b5, b6⟩ := B1.cells
        obtain ⟨r0, r1, r2⟩ := R1.cells
        go_wp2_with fail
        refine (HMb.out _ hb1).mono ?_
        rintro x w2 ⟨rfl, hb2⟩
        clear a0 a1 a2 a3 a4 a5 a6 b0 b1 b2 b3 b4 b5 b6 r0 r1 r2
        have A2 := A1.later hb2
        have B2 := B1.later hb2
        have R2 := R1.later hb2
        have Q2 := Q1.later hb2
        have hQl2 := Q1.lt
        replace hb2 := hb1.trans (hb2.mono (by omega))
        clear A1 B1 R1 Q1
        obtain ⟨z0, z1, z2, z3, z4, z5, z6⟩ := Q2.cells
        have f := Q2.free
        have f0 := f 0
        have f1' := f 1
        have f2' := f 2
        have f3' := f 3
        have f4' := f 4
        have f5 := f 5
        have f6 := f 6
        clear f
        have hb9 := seven_set hb2 (show k0 ≤ k3 by omega) (.string ⟨#[]⟩) (.string ⟨#[]⟩) (.bool false) (.slice none 0 0) (.slice none 0 0) (.slice none 0 0) (.slice none 0 0)
        go_wp2_with fail
        refine bodyPost_ret (v := .tuple #[.agg #[.string ⟨#[]⟩, .string ⟨#[]⟩, .bool false, .slice none 0 0, .slice none 0 0, .slice none 0 0, .slice none 0 0], .int .i64 3]) (by simp [results, Try.results22, go_sem, z0, z1, z2, z3, z4, z5, z6]) rfl ⟨?_, ?_⟩
        · rw [HSAY]; exact HNo.out _ _ 3 HZ.out (by decide) rfl
        · rw [HQ0.out]; exact hb9
      case true =>
        have HE' := hid (show ZE = if !emptyR (rg lo hi e) && (withinB J (rg lo hi e) && riseB J) then if 16 < J.length then 13 else 0 else 1 from HE.out)
        clear HE hab
        go_enter Try.func22, Try.ntmps22
        go_upto_region 1 with fail
        generalize (((w.alloc (.cells #[.string alo, .string ast, .bool aB, .slice p1 an1 d1, .slice p2 an2 d2, .slice p3 an3 d3, .slice p4 an4 d4] 36)).alloc (.cells #[.string blo, .string bst, .bool bB, .slice q1 bn1 f1, .slice q2 bn2 f2, .slice q3 bn3 f3, .slice q4 bn4 f4] 36)).alloc (.cells #[.string lo, .string hi, .bool e] 29)).alloc (.cells #[.string ⟨#[]⟩, .string ⟨#[]⟩, .bool false, .slice none 0 0, .slice none 0 0, .slice none 0 0, .slice none 0 0] 36) = w0 at *
        generalize hk0 : w.heap.size = k0 at *
        generalize hk1 : k0 + 1 = k1 at *
        generalize hk2 : k1 + 1 = k2 at *
        generalize hk3 : k2 + 1 = k3 at *
        have HQ0 := hid hk0
        have HQ := hid (And.intro hk1 (And.intro hk2 hk3))
        clear hk0 hk1 hk2 hk3
        have hkk := HQ.out
        obtain ⟨a0, a1, a2, a3, a4, a5, a6⟩ := A0.cells
        obtain ⟨b0, b1, b2, b3, b4, b5, b6⟩ := B0.cells
        obtain ⟨r0, r1, r2⟩ := R0.cells
        go_wp2_with fail
        refine (HMa.out _ hb0).mono ?_
        rintro x w1 ⟨rfl, hb1⟩
        clear a0 a1 a2 a3 a4 a5 a6 b0 b1 b2 b3 b4 b5 b6 r0 r1 r2
        have A1 := A0.later hb1
        have B1 := B0.later hb1
        have R1 := R0.later hb1
        have Q1 := Q0.later hb1
        have hQl1 := Q0.lt
        replace hb1 := hb0.trans (hb1.mono (by omega))
        clear A0 B0 R0 Q0
        obtain ⟨a0, a1, a2, a3, a4, a5, a6⟩ := A1.cells
        obtain ⟨b0, b1, b2, b3, b4, b5, b6⟩ := B1.cells
        obtain ⟨r0, r1, r2⟩ := R1.cells
        go_wp2_with fail
        refine (HMb.out _ hb1).mono ?_
        rintro x w2 ⟨rfl, hb2⟩
        clear a0 a1 a2 a3 a4 a5 a6 b0 b1 b2 b3 b4 b5 b6 r0 r1 r2
        have A2 := A1.later hb2
        have B2 := B1.later hb2
        have R2 := R1.later hb2
        have Q2 := Q1.later hb2
        have hQl2 := Q1.lt
        replace hb2 := hb1.trans (hb2.mono (by omega))
        clear A1 B1 R1 Q1
        go_upto_region 3 with fail
        have hs2 : k0 ≤ w2.heap.size := by have := Q2.lt; omega
        refine wp_region_each [(some 21, [], false), (some 22, [(0, 21)], false), (some 23, [], false), (some 24, [(2, 23)], false), (some 25, [(1, 22), (3, 24)], false), (some 8, [(4, 25)], true)]
          (fun u => Below w2.heap.size w2 u) (fun i u u' => if i = 4 then Below w2.heap.size u u' else Below u.heap.size u u')
          (fun i v u => match i with | 0 => v = .agg #[.string alo, .string ast, .bool aB, .slice p1 an1 d1, .slice p2 an2 d2, .slice p3 an3 d3, .slice p4 an4 d4] | 1 => u.ownsRow w2.heap.size 64 2 v Ja.length (Ja.flatMap Pr.cells) | 2 => v = .agg #[.string blo, .string bst, .bool bB, .slice q1 bn1 f1, .slice q2 bn2 f2, .slice q3 bn3 f3, .slice q4 bn4 f4] | 3 => u.ownsRow w2.heap.size 64 2 v Jb.length (Jb.flatMap Pr.cells) | 4 => u.ownsRow w2.heap.size 64 2 v J.length (J.flatMap Pr.cells) | 5 => u.ownsRow w2.heap.size 64 2 v J.length (J.flatMap Pr.cells) | _ => True)
          (by kernel_rfl) (by kernel_rfl) (Below.refl _ w2).drew (fun i u u' h h' => ?_) (fun i j v u u' hn h h' hv => ?_) ⟨?_, ?_, ?_, ?_, ?_, ?_, trivial⟩ ?_
        · by_cases hi4 : i = 4
          · rw [if_pos hi4] at h'; exact h.trans h'
          · rw [if_neg hi4] at h'; exact h.trans (h'.mono h.size)
        · by_cases hi4 : i = 4
          · subst hi4
            match j with
            | 0 => exact absurd hn (by decide)
            | 1 => exact absurd hn (by decide)
            | 2 => exact absurd hn (by decide)
            | 3 => exact absurd hn (by decide)
            | 4 => exact absurd hn (by decide)
            | 5 => exact absurd hn (by decide)
            | _ + 6 => trivial
          · rw [if_neg hi4] at h'
            match j with
            | 0 => exact hv
            | 1 => exact row_later hv h'
            | 2 => exact hv
            | 3 => exact row_later hv h'
            | 4 => exact row_later hv h'
            | 5 => exact row_later hv h'
            | _ + 6 => trivial
        · rintro u hu
          obtain ⟨m0, m1, m2, m3, m4, m5, m6⟩ := (A2.later hu).cells
          exact opYields_val (.agg #[.string alo, .string ast, .bool aB, .slice p1 an1 d1, .slice p2 an2 d2, .slice p3 an3 d3, .slice p4 an4 d4]) (by kernel_rfl) (by go_simp) ⟨Below.refl _ _, rfl⟩
        · rintro u hu _ rfl
          refine opYields_call 42 #[.agg #[.string alo, .string ast, .bool aB, .slice p1 an1 d1, .slice p2 an2 d2, .slice p3 an3 d3, .slice p4 an4 d4]] (by kernel_rfl) (by go_simp) ((HUa.out u (hb2.trans (hu.mono hs2))).mono ?_)
          rintro x u' ⟨v, h1, h2, h3⟩
          exact ⟨v, h1, h3, row_mono h2 hu.size⟩
        · rintro u hu
          obtain ⟨m0, m1, m2, m3, m4, m5, m6⟩ := (B2.later hu).cells
          exact opYields_val (.agg #[.string blo, .string bst, .bool bB, .slice q1 bn1 f1, .slice q2 bn2 f2, .slice q3 bn3 f3, .slice q4 bn4 f4]) (by kernel_rfl) (by go_simp) ⟨Below.refl _ _, rfl⟩
        · rintro u hu _ rfl
          refine opYields_call 42 #[.agg #[.string blo, .string bst, .bool bB, .slice q1 bn1 f1, .slice q2 bn2 f2, .slice q3 bn3 f3, .slice q4 bn4 f4]] (by kernel_rfl) (by go_simp) ((HUb.out u (hb2.trans (hu.mono hs2))).mono ?_)
          rintro x u' ⟨v, h1, h2, h3⟩
          exact ⟨v, h1, h3, row_mono h2 hu.size⟩
        · rintro u hu v1 e1 v2 e2
          refine yRow (by kernel_rfl) (.tmp 22) (.tmp 24) rfl w2.heap.size w2.heap.size v1 v2 Ja Jb rfl e1 rfl e2 (by have := HLa.out; have := HLb.out; omega) hu.size fun v' w' h1 h2 => ⟨?_, ?_⟩
          · show Below w2.heap.size u w'
            exact (Below.refl _ u).grown h2 hu.size fun k hk => (World.ownsRow.lt e1 k hk).1
          · show w'.ownsRow w2.heap.size 64 2 v' J.length (J.flatMap Pr.cells)
            rw [HJ.out]; exact h1
        · rintro u hu v e1
          obtain ⟨xa, xn, xc, rfl⟩ := row_slice e1
          exact opYields_val (.slice xa xn xc) (by kernel_rfl) (by go_simp) ⟨Below.refl _ _, e1⟩
        · intro u hu x0 x1 x2 x3 x4 x5 e5
          replace e5 : u.ownsRow w2.heap.size 64 2 x5 J.length (J.flatMap Pr.cells) := e5
          obtain ⟨xa, xc, rfl, hP⟩ := row_prs e5
          have hb3 := hb2.trans (hu.mono hs2)
          have A3 := A2.later hu
          have B3 := B2.later hu
          have R3 := R2.later hu
          have Q3 := Q2.later hu
          have hQl3 := Q2.lt
          clear A2 B2 R2 Q2 hb2
          simp only [givingAll, Act.put, List.setIfInBounds_toArray, List.set_cons_zero, List.set_cons_succ]
          have hfar := row_far_prs e5 (show k3 < w2.heap.size by omega)
          clear e5 HUa HUb HMb HJ HLa HLb
          have HW := hid (fun wr (hb : Below u.heap.size u wr) => within44 xa xc J lo hi e wr (by omega) (hP.later hb))
          have HRi := hid (fun wr (hb : Below u.heap.size u wr) => rise45 xa xc J wr (by omega) (hP.later hb))
          have HP := hid (fun wr (hb : Below u.heap.size u wr) => hP.later hb)
          have HJC := hid (fun (hw : withinB J (rg lo hi e) = true) => lift_cut (ps := J) (s := S) (fun x hx => HUn.out x hw hx))
          have hs3 := hb3.size
          clear hP HUn
          generalize withinB J (rg lo hi e) = WB at *
          generalize riseB J = RB at *
          obtain ⟨a0, a1, a2, a3, a4, a5, a6⟩ := A3.cells
          obtain ⟨b0, b1, b2, b3, b4, b5, b6⟩ := B3.cells
          obtain ⟨r0, r1, r2⟩ := R3.cells
          cases hE : emptyR (rg lo hi e)
          case true =>
            rw [hE] at HY HE'
            have HZ := hid (show ZE = 1 from HE'.out)
            go_wp2_with fail
            refine (HY.out _).mono ?_
            rintro x w4 ⟨rfl, hb4⟩
            clear a0 a1 a2 a3 a4 a5 a6 b0 b1 b2 b3 b4 b5 b6 r0 r1 r2
            have A4 := A3.later hb4
            have B4 := B3.later hb4
            have R4 := R3.later hb4
            have Q4 := Q3.later hb4
            have hQl4 := Q3.lt
            replace hb4 := hb3.trans (hb4.mono (by omega))
            clear A3 B3 R3 Q3
            obtain ⟨z0, z1, z2, z3, z4, z5, z6⟩ := Q4.cells
            have f := Q4.free
            have f0 := f 0
            have f1' := f 1
            have f2' := f 2
            have f3' := f 3
            have f4' := f 4
            have f5 := f 5
            have f6 := f 6
            clear f
            have hb9 := seven_set hb4 (show k0 ≤ k3 by omega) (.string ⟨#[]⟩) (.string ⟨#[]⟩) (.bool false) (.slice none 0 0) (.slice none 0 0) (.slice none 0 0) (.slice none 0 0)
            go_wp2_with fail
            refine bodyPost_ret (v := .tuple #[.agg #[.string ⟨#[]⟩, .string ⟨#[]⟩, .bool false, .slice none 0 0, .slice none 0 0, .slice none 0 0, .slice none 0 0], .int .i64 1]) (by simp [results, Try.results22, go_sem, z0, z1, z2, z3, z4, z5, z6]) rfl ⟨?_, ?_⟩
            · rw [HSAY]; exact HNo.out _ _ 1 HZ.out (by decide) rfl
            · rw [HQ0.out]; exact hb9
          case false =>
          rw [hE] at HY HE'
          cases WB
          case false =>
            have HZ := hid (show ZE = 1 from HE'.out)
            go_wp2_with fail
            refine (HY.out _).mono ?_
            rintro x w4 ⟨rfl, hb4⟩
            have hu4 := hb4
            clear a0 a1 a2 a3 a4 a5 a6 b0 b1 b2 b3 b4 b5 b6 r0 r1 r2
            have A4 := A3.later hb4
            have B4 := B3.later hb4
            have R4 := R3.later hb4
            have Q4 := Q3.later hb4
            have hQl4 := Q3.lt
            replace hb4 := hb3.trans (hb4.mono (by omega))
            clear A3 B3 R3 Q3
            obtain ⟨a0, a1, a2, a3, a4, a5, a6⟩ := A4.cells
            obtain ⟨b0, b1, b2, b3, b4, b5, b6⟩ := B4.cells
            obtain ⟨r0, r1, r2⟩ := R4.cells
            go_wp2_with fail
            refine (HW.out _ hu4).mono ?_
            rintro x w5 ⟨rfl, hb5⟩
            clear a0 a1 a2 a3 a4 a5 a6 b0 b1 b2 b3 b4 b5 b6 r0 r1 r2
            have A5 := A4.later hb5
            have B5 := B4.later hb5
            have R5 := R4.later hb5
            have Q5 := Q4.later hb5
            have hQl5 := Q4.lt
            replace hb5 := hb4.trans (hb5.mono (by omega))
            clear A4 B4 R4 Q4
            obtain ⟨z0, z1, z2, z3, z4, z5, z6⟩ := Q5.cells
            have f := Q5.free
            have f0 := f 0
            have f1' := f 1
            have f2' := f 2
            have f3' := f 3
            have f4' := f 4
            have f5 := f 5
            have f6 := f 6
            clear f
            have hb9 := seven_set hb5 (show k0 ≤ k3 by omega) (.string ⟨#[]⟩) (.string ⟨#[]⟩) (.bool false) (.slice none 0 0) (.slice none 0 0) (.slice none 0 0) (.slice none 0 0)
            go_wp2_with fail
            refine bodyPost_ret (v := .tuple #[.agg #[.string ⟨#[]⟩, .string ⟨#[]⟩, .bool false, .slice none 0 0, .slice none 0 0, .slice none 0 0, .slice none 0 0], .int .i64 1]) (by simp [results, Try.results22, go_sem, z0, z1, z2, z3, z4, z5, z6]) rfl ⟨?_, ?_⟩
            · rw [HSAY]; exact HNo.out _ _ 1 HZ.out (by decide) rfl
            · rw [HQ0.out]; exact hb9
          case true =>
          go_wp2_with fail
          refine (HY.out _).mono ?_
          rintro x w4 ⟨rfl, hb4⟩
          have hu4 := hb4
          clear a0 a1 a2 a3 a4 a5 a6 b0 b1 b2 b3 b4 b5 b6 r0 r1 r2
          have A4 := A3.later hb4
          have B4 := B3.later hb4
          have R4 := R3.later hb4
          have Q4 := Q3.later hb4
          have hQl4 := Q3.lt
          replace hb4 := hb3.trans (hb4.mono (by omega))
          clear A3 B3 R3 Q3
          obtain ⟨a0, a1, a2, a3, a4, a5, a6⟩ := A4.cells
          obtain ⟨b0, b1, b2, b3, b4, b5, b6⟩ := B4.cells
          obtain ⟨r0, r1, r2⟩ := R4.cells
          go_wp2_with fail
          refine (HW.out _ hu4).mono ?_
          rintro x w5 ⟨rfl, hb5⟩
          have hu5 := hu4.trans (hb5.mono hu4.size)
          clear a0 a1 a2 a3 a4 a5 a6 b0 b1 b2 b3 b4 b5 b6 r0 r1 r2
          have A5 := A4.later hb5
          have B5 := B4.later hb5
          have R5 := R4.later hb5
          have Q5 := Q4.later hb5
          have hQl5 := Q4.lt
          replace hb5 := hb4.trans (hb5.mono (by omega))
          clear A4 B4 R4 Q4
          obtain ⟨a0, a1, a2, a3, a4, a5, a6⟩ := A5.cells
          obtain ⟨b0, b1, b2, b3, b4, b5, b6⟩ := B5.cells
          obtain ⟨r0, r1, r2⟩ := R5.cells
          go_wp2_with fail
          refine (HRi.out _ hu5).mono ?_
          rintro x w6 ⟨rfl, hb6⟩
          have hu6 := hu5.trans (hb6.mono hu5.size)
          clear a0 a1 a2 a3 a4 a5 a6 b0 b1 b2 b3 b4 b5 b6 r0 r1 r2
          have A6 := A5.later hb6
          have B6 := B5.later hb6
          have R6 := R5.later hb6
          have Q6 := Q5.later hb6
          have hQl6 := Q5.lt
          replace hb6 := hb5.trans (hb6.mono (by omega))
          clear A5 B5 R5 Q5
          clear HY HW HRi
          cases RB
          case false =>
            have HZ := hid (show ZE = 1 from HE'.out)
            obtain ⟨z0, z1, z2, z3, z4, z5, z6⟩ := Q6.cells
            have f := Q6.free
            have f0 := f 0
            have f1' := f 1
            have f2' := f 2
            have f3' := f 3
            have f4' := f 4
            have f5 := f 5
            have f6 := f 6
            clear f
            have hb9 := seven_set hb6 (show k0 ≤ k3 by omega) (.string ⟨#[]⟩) (.string ⟨#[]⟩) (.bool false) (.slice none 0 0) (.slice none 0 0) (.slice none 0 0) (.slice none 0 0)
            go_wp2_with fail
            refine bodyPost_ret (v := .tuple #[.agg #[.string ⟨#[]⟩, .string ⟨#[]⟩, .bool false, .slice none 0 0, .slice none 0 0, .slice none 0 0, .slice none 0 0], .int .i64 1]) (by simp [results, Try.results22, go_sem, z0, z1, z2, z3, z4, z5, z6]) rfl ⟨?_, ?_⟩
            · rw [HSAY]; exact HNo.out _ _ 1 HZ.out (by decide) rfl
            · rw [HQ0.out]; exact hb9
          case true =>
          by_cases h16 : 16 < J.length
          case pos =>
            have HZ := hid (show ZE = 13 from by rw [HE'.out, if_pos (by rfl), if_pos h16])
            have h16' : (16 : Int) < (J.length : Int) := by omega
            obtain ⟨z0, z1, z2, z3, z4, z5, z6⟩ := Q6.cells
            have f := Q6.free
            have f0 := f 0
            have f1' := f 1
            have f2' := f 2
            have f3' := f 3
            have f4' := f 4
            have f5 := f 5
            have f6 := f 6
            clear f
            have hb9 := seven_set hb6 (show k0 ≤ k3 by omega) (.string ⟨#[]⟩) (.string ⟨#[]⟩) (.bool false) (.slice none 0 0) (.slice none 0 0) (.slice none 0 0) (.slice none 0 0)
            go_wp2_with fail
            refine bodyPost_ret (v := .tuple #[.agg #[.string ⟨#[]⟩, .string ⟨#[]⟩, .bool false, .slice none 0 0, .slice none 0 0, .slice none 0 0, .slice none 0 0], .int .i64 13]) (by simp [results, Try.results22, go_sem, z0, z1, z2, z3, z4, z5, z6]) rfl ⟨?_, ?_⟩
            · rw [HSAY]; exact HNo.out _ _ 13 HZ.out (by decide) rfl
            · rw [HQ0.out]; exact hb9
          case neg =>
          have HZ := hid (show ZE = 0 from by rw [HE'.out, if_pos (by rfl), if_neg h16])
          have h16' : ¬ (16 : Int) < (J.length : Int) := by omega
          have HJC' := HJC.out trivial
          obtain ⟨a0, a1, a2, a3, a4, a5, a6⟩ := A6.cells
          obtain ⟨b0, b1, b2, b3, b4, b5, b6⟩ := B6.cells
          obtain ⟨r0, r1, r2⟩ := R6.cells
          go_wp2_with fail
          refine (HV.out _).mono ?_
          rintro x w8 ⟨rfl, hb8⟩
          have hu8 := hu6.trans (hb8.mono hu6.size)
          clear a0 a1 a2 a3 a4 a5 a6 b0 b1 b2 b3 b4 b5 b6 r0 r1 r2
          have A8 := A6.later hb8
          have B8 := B6.later hb8
          have R8 := R6.later hb8
          have Q8 := Q6.later hb8
          have hQl8 := Q6.lt
          replace hb8 := hb6.trans (hb8.mono (by omega))
          clear A6 B6 R6 Q6
          have hP8 := HP.out w8 hu8
          clear HP HJC HV HE' hu4 hu5 hu6
          obtain ⟨JC, hJC⟩ : ∃ JC, J.map (cutP S) = JC := ⟨_, rfl⟩
          have HJM := hid hJC
          rw [hJC] at HJC'
          have HLi := hid (fun wr (hp : Prs wr xa J) => lifted46 xa xc J S ⟨#[]⟩ wr (by omega) hp (by decide) HLk.out)
          rw [HJC'] at HLi
          clear HJC' hJC
          generalize hJn : J.length = jn at *
          clear hJn
          have hk3 := Q8.lt
          go_upto_region 9 with fail
          refine wp_region_each [(some 46, [], false), (some 47, [(0, 46)], false), (some 48, [], false), (some 49, [], false), (some 50, [], false), (some 51, [(4, 50)], false), (some 52, [(3, 49), (5, 51)], false), (some 53, [(6, 52)], false), (some 54, [(1, 47), (2, 48), (7, 53)], false), (none, [(8, 54)], true), (some 7, [], true)]
            (fun u => w8.grownBy u (some k3) ∧ ∃ y0 y1 y2 y3 y4 y5 y6, QBox u k3 y0 y1 y2 y3 y4 y5 y6) (fun i u u' => if i = 9 then u.grownBy u' (some k3) ∧ ∃ y0 y1 y2 y3 y4 y5 y6, QBox u' k3 y0 y1 y2 y3 y4 y5 y6 else Below u.heap.size u u')
            (fun i v u => match i with | 0 => v = .pointer (some ⟨k2, 0, none⟩) | 1 => v = .string lo | 2 => v = .string S | 3 => v = .slice xa jn xc | 4 => v = .string S | 5 => v = lv S ⟨#[]⟩ | 6 => u.ownsRow (k3 + 1) 64 2 v JC.length (JC.flatMap Pr.cells) | 7 => ∃ ad c, v = .agg #[.bool true, .slice ad JC.length c, .slice none 0 0, .slice none 0 0, .slice none 0 0] ∧ u.ownsRow (k3 + 1) 64 2 (.slice ad JC.length c) JC.length (JC.flatMap Pr.cells) | 8 => ∃ ad c, v = .agg #[.string lo, .string S, .bool true, .slice ad JC.length c, .slice none 0 0, .slice none 0 0, .slice none 0 0] ∧ u.ownsRow (k3 + 1) 64 2 (.slice ad JC.length c) JC.length (JC.flatMap Pr.cells) | 9 => ∃ ad c, QBox u k3 (.string lo) (.string S) (.bool true) (.slice ad JC.length c) (.slice none 0 0) (.slice none 0 0) (.slice none 0 0) ∧ u.ownsRow (k3 + 1) 64 2 (.slice ad JC.length c) JC.length (JC.flatMap Pr.cells) | 10 => v = .int .i64 0 | _ => True)
            (by kernel_rfl) (by kernel_rfl) ⟨below_grown _ (Below.refl _ w8).drew, _, _, _, _, _, _, _, Q8.later (Below.refl _ w8).drew⟩ (fun i u u' h h' => ?_) (fun i j v u u' hn h h' hv => ?_) ⟨?_, ?_, ?_, ?_, ?_, ?_, ?_, ?_, ?_, ?_, ?_, trivial⟩ ?_
          · by_cases hi9 : i = 9
            · rw [if_pos hi9] at h'; exact ⟨grown_trans h.1 h'.1, h'.2⟩
            · rw [if_neg hi9] at h'
              obtain ⟨g, y0, y1, y2, y3, y4, y5, y6, hy⟩ := h
              exact ⟨grown_trans g (below_grown _ h'), _, _, _, _, _, _, _, hy.later h'⟩
          · by_cases hi9 : i = 9
            · subst hi9
              match j with
              | 0 => exact hv
              | 1 => exact hv
              | 2 => exact hv
              | 3 => exact hv
              | 4 => exact hv
              | 5 => exact hv | 6 => exact absurd hn (by decide) | 7 => exact absurd hn (by decide) | 8 => exact absurd hn (by decide) | 9 => exact absurd hn (by decide) | 10 => exact hv
              | _ + 11 => trivial
            · rw [if_neg hi9] at h'
              match j with
              | 0 => exact hv
              | 1 => exact hv
              | 2 => exact hv
              | 3 => exact hv
              | 4 => exact hv
              | 5 => exact hv | 6 => exact row_later hv h' | 7 => obtain ⟨ad, c, e1, e2⟩ := hv; exact ⟨ad, c, e1, row_later e2 h'⟩ | 8 => obtain ⟨ad, c, e1, e2⟩ := hv; exact ⟨ad, c, e1, row_later e2 h'⟩ | 9 => obtain ⟨ad, c, e1, e2⟩ := hv; exact ⟨ad, c, e1.later h', row_later e2 h'⟩ | 10 => exact hv
              | _ + 11 => trivial
          · rintro u ⟨hu, _⟩
            exact opYields_val _ (by kernel_rfl) (by go_simp) ⟨Below.refl _ _, rfl⟩
          · rintro u ⟨hu, _⟩ _ rfl
            have Ru : Box u k2 (.string lo) (.string hi) (.bool e) := (hu.block k2 R8.lt (by intro e; have := Option.some.inj e; omega)).trans R8
            obtain ⟨m0, m1, m2⟩ := Ru.cells
            exact opYields_val (.string lo) (by kernel_rfl) (by go_simp) ⟨Below.refl _ _, rfl⟩
          · rintro u ⟨hu, _⟩
            exact opYields_val _ (by kernel_rfl) (by go_simp) ⟨Below.refl _ _, rfl⟩
          · rintro u ⟨hu, _⟩
            exact opYields_val _ (by kernel_rfl) (by go_simp) ⟨Below.refl _ _, rfl⟩
          · rintro u ⟨hu, _⟩
            exact opYields_val _ (by kernel_rfl) (by go_simp) ⟨Below.refl _ _, rfl⟩
          · rintro u ⟨hu, _⟩ _ rfl
            exact opYields_val (lv S ⟨#[]⟩) (by kernel_rfl) (by go_simp) ⟨Below.refl _ _, rfl⟩
          · rintro u ⟨hu, _, _, _, _, _, _, _, hq⟩ _ rfl _ rfl
            refine opYields_call 46 #[.slice xa jn xc, lv S ⟨#[]⟩] (by kernel_rfl) (by go_simp) ((HLi.out u (hP8.kept hu hfar)).mono ?_)
            rintro x u' ⟨v, h1, h2, h3⟩
            exact ⟨v, h1, h3, row_mono h2 hq.lt⟩
          · rintro u ⟨hu, _⟩ v e1
            obtain ⟨ad, n', c, rfl⟩ := row_slice e1
            obtain rfl := row_len e1
            exact opYields_val (.agg #[.bool true, .slice ad JC.length c, .slice none 0 0, .slice none 0 0, .slice none 0 0]) (by kernel_rfl) (by go_simp) ⟨Below.refl _ _, ad, c, rfl, e1⟩
          · rintro u ⟨hu, _⟩ _ rfl _ rfl v ⟨ad, c, rfl, e1⟩
            exact opYields_val (.agg #[.string lo, .string S, .bool true, .slice ad JC.length c, .slice none 0 0, .slice none 0 0, .slice none 0 0]) (by kernel_rfl) (by go_simp) ⟨Below.refl _ _, ad, c, rfl, e1⟩
          · rintro u ⟨hu, y0, y1, y2, y3, y4, y5, y6, hq⟩ v ⟨ad, c, rfl, e1⟩
            have f := hq.free
            have f0 := f 0
            have f1' := f 1
            have f2' := f 2
            have f3' := f 3
            have f4' := f 4
            have f5 := f 5
            have f6 := f 6
            clear f
            obtain ⟨m0, m1, m2, m3, m4, m5, m6⟩ := hq.cells
            have hq' := hq.put (.string lo) (.string S) (.bool true) (.slice ad JC.length c) (.slice none 0 0) (.slice none 0 0) (.slice none 0 0)
            have hr' := row_seven (y0 := .string lo) (y1 := .string S) (y2 := .bool true) (y3 := .slice ad JC.length c) (y4 := .slice none 0 0) (y5 := .slice none 0 0) (y6 := .slice none 0 0) e1 (Nat.lt_succ_self k3)
            have hb' := seven_set (Below.refl k3 u) (Nat.le_refl k3) (.string lo) (.string S) (.bool true) (.slice ad JC.length c) (.slice none 0 0) (.slice none 0 0) (.slice none 0 0)
            refine opYields_put (u' := ((((((u.setCell ⟨k3, 0, none⟩ (.string lo)).setCell ⟨k3, 1, none⟩ (.string S)).setCell ⟨k3, 2, none⟩ (.bool true)).setCell ⟨k3, 3, none⟩ (.slice ad JC.length c)).setCell ⟨k3, 4, none⟩ (.slice none 0 0)).setCell ⟨k3, 5, none⟩ (.slice none 0 0)).setCell ⟨k3, 6, none⟩ (.slice none 0 0)) (by kernel_rfl) (by go_simp) ⟨?_, ad, c, hq', hr'⟩
            exact ⟨⟨hb'.os, hb'.tape, hb'.output, hb'.size, fun k hk hne => by
              have hne' : k ≠ k3 := fun e => hne (by rw [e])
              rw [Below.heap_setCell _ _ _ _ hne', Below.heap_setCell _ _ _ _ hne', Below.heap_setCell _ _ _ _ hne', Below.heap_setCell _ _ _ _ hne', Below.heap_setCell _ _ _ _ hne', Below.heap_setCell _ _ _ _ hne', Below.heap_setCell _ _ _ _ hne']⟩, _, _, _, _, _, _, _, hq'⟩
          · rintro u ⟨hu, _⟩
            exact opYields_val _ (by kernel_rfl) (by go_simp) ⟨Below.refl _ _, rfl⟩
          · rintro u ⟨hu, _⟩ x0 x1 x2 x3 x4 x5 x6 x7 x8 x9 e9 x10 e10
            replace e9 : ∃ ad c, QBox u k3 (.string lo) (.string S) (.bool true) (.slice ad JC.length c) (.slice none 0 0) (.slice none 0 0) (.slice none 0 0) ∧ u.ownsRow (k3 + 1) 64 2 (.slice ad JC.length c) JC.length (JC.flatMap Pr.cells) := e9
            replace e10 : x10 = .int .i64 0 := e10
            obtain ⟨ad, c, hq, hr⟩ := e9
            subst e10
            have hbu : Below k0 w u := hb8.grown hu (by omega) fun k hk => by have := Option.some.inj hk; omega
            obtain ⟨z0, z1, z2, z3, z4, z5, z6⟩ := hq.cells
            simp only [givingAll, Act.put, List.setIfInBounds_toArray, List.set_cons_zero, List.set_cons_succ]
            go_wp2_with fail
            refine bodyPost_ret (v := .tuple #[.agg #[.string lo, .string S, .bool true, .slice ad JC.length c, .slice none 0 0, .slice none 0 0, .slice none 0 0], .int .i64 0]) (by simp [results, Try.results22, go_sem, z0, z1, z2, z3, z4, z5, z6]) rfl ⟨?_, ?_⟩
            · rw [HSAY]; exact HSo.out _ _ JC ad c (k3 + 1) HZ.out trivial HJM.out rfl hr (by omega)
            · rw [HQ0.out]; exact hbu
    exact start MA MB (hid ⟨rfl, rfl⟩)
  exact key _ (hid rfl)
end Go.Proofs.Ytlkcoaencliajaa.Key

namespace Go.Proofs.Ytlkcoaencliajaa.Draw
open Go
set_option linter.unusedVariables false
set_option linter.unusedSimpArgs false

/-- the table is the region's, but that what the last operation writes may be looked at by those ahead of it -/
def tabC (ops : Array Oper) (tab : List Row) (L : Nat) : Bool :=
  Region.noSelect ops && (tab.length == ops.size) &&
  (List.range ops.size).all fun i =>
    match ops[i]?, tab[i]? with
    | some o, some (d, ds, _) =>
      (o.dst == d) && (o.after.all fun e => !Region.binds .any e || decide (e.on < i)) &&
      (ds.all fun jt => (((ops[jt.1]?).bind (·.dst)) == some jt.2) && o.after.any fun e => Region.binds .any e && (e.on == jt.1)) &&
      ((List.range ops.size).all fun j =>
        match (ops[j]?).bind (·.dst) with
        | some t => ((j == L) || (!(o.looksAt ops).contains t || ds.any fun jt => jt.1 == j)) && (j == i || o.dst != some t)
        | none => true)
    | _, _ => false

structure TabOkC (ops : Array Oper) (tab : List Row) (L : Nat) : Prop where
  sel : Region.noSelect ops = true
  len : tab.length = ops.size
  dst : ∀ (i : Nat) (x : Row), tab[i]? = some x → dstAt ops i = x.1
  dep : ∀ (i : Nat) (o : Oper) (x : Row), ops[i]? = some o → tab[i]? = some x → ∀ jt ∈ x.2.1, dstAt ops jt.1 = some jt.2 ∧ ∃ e ∈ o.after, Region.binds .any e = true ∧ e.on = jt.1
  look : ∀ (i : Nat) (o : Oper) (x : Row), ops[i]? = some o → tab[i]? = some x → ∀ j t, j ≠ L → dstAt ops j = some t → t ∈ o.looksAt ops → ∃ jt ∈ x.2.1, jt.1 = j
  back : ∀ (i : Nat) (o : Oper), ops[i]? = some o → ∀ e ∈ o.after, Region.binds .any e = true → e.on < i
  dis : ∀ i j t, dstAt ops i = some t → dstAt ops j = some t → j = i
theorem tabOkC {ops : Array Oper} {tab : List Row} {L : Nat} (h : tabC ops tab L = true) : TabOkC ops tab L := by
  simp only [tabC, Bool.and_eq_true, beq_iff_eq, List.all_eq_true, List.mem_range] at h
  obtain ⟨⟨hs, hl⟩, hall⟩ := h
  have key : ∀ (i : Nat) (o : Oper) (x : Row), ops[i]? = some o → tab[i]? = some x → o.dst = x.1 ∧ (∀ e ∈ o.after, Region.binds .any e = true → e.on < i) ∧ (∀ jt ∈ x.2.1, dstAt ops jt.1 = some jt.2 ∧ ∃ e ∈ o.after, Region.binds .any e = true ∧ e.on = jt.1) ∧
      (∀ j t, dstAt ops j = some t → (j ≠ L → t ∈ o.looksAt ops → ∃ jt ∈ x.2.1, jt.1 = j) ∧ (j ≠ i → o.dst ≠ some t)) := by
    intro i o x ho hx
    obtain ⟨d, ds, kp⟩ := x
    have h1 := hall i (Array.getElem?_eq_some_iff.1 ho).1
    simp only [ho, hx, Bool.and_eq_true, beq_iff_eq, List.all_eq_true] at h1
    obtain ⟨⟨⟨h1, h0⟩, h2⟩, h3⟩ := h1
    refine ⟨h1, fun e he hb => by have := Array.all_eq_true_iff_forall_mem.1 h0 e he; simpa [hb] using this, fun jt hm => ?_, fun j t hj => ?_⟩
    · obtain ⟨h4, h5⟩ := h2 jt hm
      obtain ⟨e, he, hb⟩ := Array.any_eq_true'.1 h5
      simp only [Bool.and_eq_true, beq_iff_eq] at hb
      exact ⟨h4, e, he, hb⟩
    · have h4 := h3 j (List.mem_range.2 (dstAt_lt hj))
      unfold dstAt at hj
      simp only [hj, Bool.and_eq_true, Bool.or_eq_true, Bool.not_eq_true', List.any_eq_true, beq_iff_eq, bne_iff_ne] at h4
      refine ⟨fun hjL hm => ?_, fun hne => h4.2.resolve_left hne⟩
      rcases h4.1 with h | h | ⟨jt, hm', e⟩
      · exact absurd h hjL
      · simp at h
        exact absurd hm h
      · exact ⟨jt, hm', e⟩
  have getT : ∀ i o, ops[i]? = some o → ∃ x, tab[i]? = some x := fun i o ho => ⟨tab[i]'(by rw [hl]; exact (Array.getElem?_eq_some_iff.1 ho).1), List.getElem?_eq_getElem _⟩
  have getO : ∀ i x, tab[i]? = some x → ∃ o, ops[i]? = some o := fun i x hx => ⟨ops[i]'(by rw [← hl]; exact (List.getElem?_eq_some_iff.1 hx).1), Array.getElem?_eq_getElem _⟩
  refine ⟨hs, hl, fun i x hx => ?_, fun i o x ho hx => (key i o x ho hx).2.2.1, fun i o x ho hx j t hjL hj => ((key i o x ho hx).2.2.2 j t hj).1 hjL, fun i o ho => by obtain ⟨x, hx⟩ := getT i o ho; exact (key i o x ho hx).2.1, fun i j t hi hj => ?_⟩
  · obtain ⟨o, ho⟩ := getO i x hx
    have := (key i o x ho hx).1
    unfold dstAt
    rw [ho]
    exact this
  · rcases Nat.lt_or_ge i ops.size with hlt | hge
    · have ho : ops[i]? = some ops[i] := Array.getElem?_eq_getElem hlt
      obtain ⟨x, hx⟩ := getT i _ ho
      have h1 := ((key i _ x ho hx).2.2.2 j t hj).2
      by_cases hji : j = i
      · exact hji
      · have h2 : ops[i].dst = some t := by unfold dstAt at hi; rw [ho] at hi; exact hi
        exact absurd h2 (h1 hji)
    · unfold dstAt at hi
      rw [Array.getElem?_eq_none hge] at hi
      cases hi

theorem Like.agree2 {ops : Array Oper} {a0 a a' : Act} {S S' : Nat → Prop} {vs : Nat → Value} (h : Like ops a0 S vs a) (h' : Like ops a0 S' vs a') (hd : ∀ i j t, dstAt ops i = some t → dstAt ops j = some t → j = i) {t : Tmp} (hS : ∀ j, dstAt ops j = some t → (S j ∧ S' j) ∨ (¬ S j ∧ ¬ S' j)) : a.tmps[t]? = a'.tmps[t]? := by
  by_cases hj : ∃ j, dstAt ops j = some t
  · obtain ⟨j, hj⟩ := hj
    rcases hS j hj with ⟨h1, h2⟩ | ⟨h1, h2⟩
    · by_cases hlt : t < a0.tmps.size
      · rw [h.put j t h1 hj hlt, h'.put j t h2 hj hlt]
      · rw [Array.getElem?_eq_none (Nat.le_of_not_lt (by rw [h.size]; exact hlt)), Array.getElem?_eq_none (Nat.le_of_not_lt (by rw [h'.size]; exact hlt))]
    · rw [h.rest t (fun i hi e => by have := hd j i t hj e; subst this; exact h1 hi), h'.rest t (fun i hi e => by have := hd j i t hj e; subst this; exact h2 hi)]
  · rw [h.rest t (fun j _ e => hj ⟨j, e⟩), h'.rest t (fun j _ e => hj ⟨j, e⟩)]
/-- whatever order is drawn, of a region whose last operation waits for all others, and may write what one of them has looked at: it is shown once, over what all of them have yielded -/
theorem wp_region_put2 {P : Program} {ops : Array Oper} {id : Nat} {Q : Exit → Act → World → Prop} {a0 : Act} {w : World}
    (tab : List Row) (C : Nat → World → Prop) (R : Nat → World → World → Prop) (V : Nat → Value → World → Prop)
    (hm : P.follows .mixedOrders = true) (L : Nat) (hB : tabC ops tab L = true) (hC0 : ∀ j, C j { w with drawn := w.drawn + 1 }) (hCR : ∀ i j u u', laterB tab i j = true → C i u → C j u → R i u u' → C j u') (hVR : ∀ i j v u u', needB tab i j = true → C i u → R i u u' → V j v u → V j v u')
    (tabI : List Row) (hI : tab.take L = tabI) (oL : Oper) (hoL : ops[L]? = some oL) (hLs : ops.size = L + 1) (hLa : ((List.range L).all fun j => (oL.after.any fun e => Region.binds .any e && (e.on == j)) || (ancs tab tab.length L).contains j) = true)
    (hops : eachOpI P ops C R V a0 (ops.toList.take L) (tab.take L) 0) (hend : ∀ u, C L u → givingAll V u (fun a => opYields P ops oL a u fun v u' => Q .normal (a.put oL.dst v) u') tabI 0 a0) : (Code.region id ops true).wp P Q a0 w := by
  subst hI
  have T := tabOkC hB
  have hLall : ∀ j, j < L → (∃ e ∈ oL.after, Region.binds .any e = true ∧ e.on = j) ∨ j ∈ ancs tab tab.length L := fun j hj => by
    have := List.all_eq_true.1 hLa j (List.mem_range.2 hj)
    rw [Bool.or_eq_true] at this
    rcases this with this | this
    · obtain ⟨e, he, h⟩ := Array.any_eq_true'.1 this
      rw [Bool.and_eq_true, beq_iff_eq] at h
      exact .inl ⟨e, he, h.1, h.2⟩
    · exact .inr (by simpa using this)
  refine wp_region_any hm ?_
  -- what must be kept: what is kept to the end, or waited for
  have main : ∀ (fuel : Nat) (listed : Array Bool) (a : Act) (u : World) (vs : Nat → Value), listed.size = ops.size → (List.range ops.size).countP (fun i => !listed.getD i true) ≤ fuel → (∀ j, listed.getD j false = false → C j u) → listed.getD L false = false → Like ops a0 (fun i => listed.getD i false = true) vs a →
      (∀ i, listed.getD i false = true → ∀ j ∈ depsOf tab i, listed.getD j false = true) →
      (∀ i, listed.getD i false = true → (keptAt tab i = true ∨ ∃ k, k < tab.length ∧ listed.getD k false = false ∧ i ∈ depsOf tab k) → V i (vs i) u) →
      wpAny P .any ops Q fuel listed a u := by
    have fin : ∀ (listed : Array Bool) (a : Act) (u : World) (vs : Nat → Value), listed.size = ops.size → C L u → Like ops a0 (fun i => listed.getD i false = true) vs a → (∀ i, listed.getD i false = true → (keptAt tab i = true ∨ ∃ k, k < tab.length ∧ listed.getD k false = false ∧ i ∈ depsOf tab k) → V i (vs i) u) → (∀ i, i < L → listed.getD i false = true) → listed.getD L false = false → opYields P ops oL a u fun v u' => Q .normal (a.put oL.dst v) u' := by
      intro listed a u vs hsz hu hL hV hall hLf
      have htl : ∀ (i : Nat) (x : Row), (tab.take L)[i]? = some x → i < L ∧ tab[i]? = some x := fun i x hx => by
        have hi : i < (tab.take L).length := (List.getElem?_eq_some_iff.1 hx).1
        rw [List.length_take] at hi
        rw [List.getElem?_take_of_lt (by omega)] at hx
        exact ⟨by omega, hx⟩
      obtain ⟨a', hL', hQ⟩ := givingAll_at T.dis (tab.take L) 0 a0 (Like.start (vs := vs) (by omega)) (fun i x hx => by rw [Nat.zero_add]; exact T.dst i x (htl i x hx).2)
        (fun i x hx hk => by rw [Nat.zero_add]; exact hV i (hall i (htl i x hx).1) (.inl (by rw [keptAt_at (htl i x hx).2]; exact hk))) (hend u hu)
      have hall' : ∀ j t, dstAt ops j = some t → (listed.getD j false = true ∧ j < 0 + (tab.take L).length) ∨ (¬ listed.getD j false = true ∧ ¬ j < 0 + (tab.take L).length) := fun j t hj => by
        have h1 := dstAt_lt hj
        rw [List.length_take, T.len]
        by_cases h2 : j = L
        · subst h2
          exact .inr ⟨by rw [hLf]; simp, by omega⟩
        · exact .inl ⟨hall j (by omega), by omega⟩
      have e : a = a' := by
        have e1 : a.tmps = a'.tmps := by
          apply Array.ext_getElem?
          intro t
          exact hL.agree2 hL' T.dis fun j hj => hall' j t hj
        have e2 : a.defers = a'.defers := hL.defers.trans hL'.defers.symm
        obtain ⟨t1, d1⟩ := a
        obtain ⟨t2, d2⟩ := a'
        dsimp only at e1 e2
        rw [e1, e2]
      rw [e]
      exact hQ
    have done : ∀ (fuel : Nat) (listed : Array Bool) (a : Act) (u : World), (∀ i, i < ops.size → listed.getD i true = true) → Q .normal a u → wpAny P .any ops Q fuel listed a u := by
      intro fuel listed a u hall hQ
      have hno : ∀ i, i ∉ Region.ready .any ops listed := fun i hi => by
        obtain ⟨h1, o, ho, _⟩ := mem_ready.1 hi
        rw [hall i (Array.getElem?_eq_some_iff.1 ho).1] at h1
        cases h1
      cases fuel with
      | zero => exact ⟨List.eq_nil_iff_forall_not_mem.2 hno, hQ⟩
      | succ fuel => exact ⟨fun _ => hQ, fun i hi => absurd hi (hno i)⟩
    have lex : ∀ (listed : Array Bool), listed.size = ops.size → ∀ i, i < ops.size → listed.getD i true = false → listed.getD i false = false := by
      intro listed hsz i hi h
      simp [show i < listed.size by omega] at h ⊢
      exact h
    intro fuel
    induction fuel with
    | zero =>
      intro listed a u vs hsz hn hu hLf hL _ hV
      have h0 := List.countP_eq_zero.1 (Nat.le_zero.1 hn) L (List.mem_range.2 (by omega))
      simp [show L < listed.size by omega] at h0 hLf
      rw [h0] at hLf
      cases hLf
    | succ fuel ih =>
      intro listed a u vs hsz hn hu hLf hL hcl hV
      refine ⟨fun hr => ?_, fun i hi => ?_⟩
      · have hevery : ∀ i, i < ops.size → listed.getD i false = true := fun i => by
          induction i using Nat.strongRecOn with
          | _ i ihi =>
            intro hi
            cases hc : listed.getD i false with
            | true => rfl
            | false =>
              have hmem : i ∈ Region.ready .any ops listed := mem_ready.2 ⟨by simp [show i < listed.size by omega] at hc ⊢; exact hc, ops[i], Array.getElem?_eq_getElem hi, fun e he hb => ihi e.on (T.back i ops[i] (Array.getElem?_eq_getElem hi) e he hb) (by have := T.back i ops[i] (Array.getElem?_eq_getElem hi) e he hb; omega)⟩
              rw [hr] at hmem
              cases hmem
        rw [hevery L (by omega)] at hLf
        cases hLf
      · obtain ⟨h1, o, ho, hall⟩ := mem_ready.1 hi
        have hlt := (Array.getElem?_eq_some_iff.1 ho).1
        have hil := lex listed hsz i hlt h1
        have hx : tab[i]? = some (tab[i]'(by rw [T.len]; exact hlt)) := List.getElem?_eq_getElem _
        generalize tab[i]'(by rw [T.len]; exact hlt) = x at hx
        have hdep := T.dep i o x ho hx
        have hlist : ∀ jt ∈ x.2.1, listed.getD jt.1 false = true := fun jt hm => by
          obtain ⟨_, e, he, hb, hon⟩ := hdep jt hm
          rw [← hon]
          exact hall e he hb
        have hdl : ∀ j ∈ depsOf tab i, listed.getD j false = true := fun j hj => by
          rw [depsOf_at hx] at hj
          obtain ⟨jt, hm, rfl⟩ := List.mem_map.1 hj
          exact hlist jt hm
        have hanc : ∀ k ∈ ancs tab tab.length i, listed.getD k false = true := ancs_in (S := fun i => listed.getD i false = true) hcl tab.length i hdl
        by_cases hiL : i = L
        · subst hiL
          rw [hoL] at ho
          cases ho
          have hal : ∀ j, j < i → listed.getD j false = true := fun j hj => by
            rcases hLall j hj with ⟨e, he, hb, rfl⟩ | h
            · exact hall e he hb
            · exact hanc j h
          have h3 := fin listed a u vs hsz (hu i hLf) hL hV hal hLf
          refine wpOp_yields hoL ?_
          have step : ∀ v u', Q .normal (a.put oL.dst v) u' → wpAny P .any ops Q fuel (listed.setIfInBounds i true) (a.put oL.dst v) u' := fun v u' hQ => done fuel _ _ _ (fun j hj => by
            by_cases hji : i = j
            · subst hji; simp [show i < listed.size by omega]
            · rw [getD_set_ne true hji]
              have := hal j (by omega)
              simp [show j < listed.size by omega] at this ⊢
              exact this) hQ
          unfold opYields at h3 ⊢
          split at h3
          · rename_i hw
            rw [if_pos hw]
            exact yieldsK_mono step h3
          · rename_i hw
            rw [if_neg hw]
            exact step _ _ h3
        have h2 := eachOpI_at (ops.toList.take L) (tab.take L) 0 hops i o x (by rw [List.getElem?_take_of_lt (by omega)]; simpa using ho) (by rw [List.getElem?_take_of_lt (by omega)]; exact hx) u (by rw [Nat.zero_add]; exact hu i hil)
        obtain ⟨a', hL', h3⟩ := giving_at T.dis x.2.1 (fun _ => False) a0 (Like.start (vs := vs) (fun _ h => h)) (fun jt hm => (hdep jt hm).1)
          (fun jt hm => hV jt.1 (hlist jt hm) (.inr ⟨i, by rw [T.len]; exact hlt, hil, by rw [depsOf_at hx]; exact List.mem_map.2 ⟨jt, hm, rfl⟩⟩)) h2
        have hsel := Region.noSelect_spec T.sel i o
        obtain ⟨e1, e2⟩ := same_op (ops := ops) (o := o) (a := a) (a' := a') (fun cs b => hsel cs b ho) (fun t ht => hL.agree2 hL' T.dis fun j hj => by
          by_cases hjL : j = L
          · refine .inr ⟨by rw [hjL, hLf]; simp, ?_⟩
            rintro (h | ⟨jt, hm, e⟩)
            · exact h
            · obtain ⟨_, e2, he2, hb2, hon2⟩ := hdep jt hm
              have := T.back i o ho e2 he2 hb2
              omega
          · obtain ⟨jt, hm, rfl⟩ := T.look i o x ho hx j t hjL hj ht
            exact .inl ⟨hlist jt hm, .inr ⟨jt, hm, rfl⟩⟩)
        refine wpOp_yields ho ?_
        unfold opYields at h3 ⊢
        rw [e1, e2]
        have step : ∀ v u', R (0 + i) u u' ∧ V (0 + i) v u' → wpAny P .any ops Q fuel (listed.setIfInBounds i true) (a.put o.dst v) u' := by
          rintro v u' ⟨hR, hv⟩
          rw [Nat.zero_add] at hv hR
          have hod : o.dst = dstAt ops i := by unfold dstAt; rw [ho]; rfl
          rw [hod]
          refine ih (listed.setIfInBounds i true) _ u' (fun j => if j = i then v else vs j) (by simpa using hsz) ?_ (fun j hj => ?_) (by rw [getD_set_ne false hiL]; exact hLf) (hL.more (fun j t h1 h2 => T.dis i j t h1 h2) (fun j => ?_) (by simp) (fun j hj => by simp [hj])) (fun j hj k hk => ?_) (fun j hj hneed => ?_)
          · have hc := countP_less (l := List.range ops.size) (p := fun j => !listed.getD j true) (q := fun j => !(listed.setIfInBounds i true).getD j true) (i := i) (List.mem_range.2 hlt) (by rw [h1]; rfl) (by simp [show i < listed.size by omega]) (fun j hj => by
              by_cases hji : i = j
              · subst hji; rw [h1]; rfl
              · rw [getD_set_ne true hji] at hj; exact hj)
            omega
          · by_cases hji : i = j
            · subst hji
              simp [show i < listed.size by omega] at hj
            · rw [getD_set_ne false hji] at hj
              refine hCR i j u u' ?_ (hu i hil) (hu j hj) hR
              unfold laterB
              rw [Bool.and_eq_true, bne_iff_ne, Bool.not_eq_true']
              refine ⟨fun e => hji e.symm, ?_⟩
              rw [Bool.eq_false_iff]
              intro hc
              have := hanc j (by simpa using hc)
              rw [hj] at this
              cases this
          · by_cases hji : i = j
            · subst hji; simp [show i < listed.size by omega]
            · rw [getD_set_ne false hji]
              exact ⟨.inl, fun h => h.resolve_right (Ne.symm hji)⟩
          · by_cases hji : i = j
            · subst hji; exact getD_set_true (hdl k hk)
            · rw [getD_set_ne false hji] at hj
              exact getD_set_true (hcl j hj k hk)
          · by_cases hji : j = i
            · subst hji; simpa using hv
            · simp only [hji, if_false]
              rw [getD_set_ne false (Ne.symm hji)] at hj
              have hneed' : keptAt tab j = true ∨ ∃ k, k < tab.length ∧ k ≠ i ∧ listed.getD k false = false ∧ j ∈ depsOf tab k := by
                rcases hneed with h | ⟨k, hk, hkl, hkd⟩
                · exact .inl h
                · have hki : k ≠ i := by
                    rintro rfl
                    simp [show k < listed.size by omega] at hkl
                  rw [getD_set_ne false (Ne.symm hki)] at hkl
                  exact .inr ⟨k, hk, hki, hkl, hkd⟩
              refine hVR i j _ u u' ?_ (hu i hil) hR (hV j hj ?_)
              · simp only [needB, Bool.and_eq_true, bne_iff_ne, ne_eq, Bool.or_eq_true, List.any_eq_true, List.mem_range, Bool.not_eq_true']
                refine ⟨⟨hji, ?_⟩, ?_⟩
                · rw [Bool.eq_false_iff]
                  intro hc
                  have := ancs_in (S := fun i => listed.getD i false = true) hcl tab.length j (hcl j hj) i (by simpa using hc)
                  rw [hil] at this
                  cases this
                rcases hneed' with h | ⟨k, hk, hki, hkl, hkd⟩
                · exact .inl h
                · refine .inr ⟨k, hk, ⟨hki, ?_⟩, by simpa using hkd⟩
                  rw [Bool.eq_false_iff]
                  intro hc
                  have := hanc k (by simpa using hc)
                  rw [hkl] at this
                  cases this
              · rcases hneed' with h | ⟨k, hk, _, hkl, hkd⟩
                · exact .inl h
                · exact .inr ⟨k, hk, hkl, hkd⟩
        split at h3
        · rename_i hw
          rw [if_pos hw]
          exact yieldsK_mono step h3
        · rename_i hw
          rw [if_neg hw]
          exact step _ _ h3
  have h00 : ∀ i, ¬ (Array.replicate ops.size false).getD i false = true := fun i => by by_cases h : i < ops.size <;> simp [h]
  refine main ops.size _ a0 _ (fun _ => undef) (by simp) ?_ (fun j _ => hC0 j) (Bool.eq_false_iff.2 (h00 L)) (Like.start h00) (fun i hi => absurd hi (h00 i)) (fun i hi => absurd hi (h00 i))
  have := List.countP_le_length (p := fun i => !(Array.replicate ops.size false).getD i true) (l := List.range ops.size)
  rw [List.length_range] at this
  exact this
end Go.Proofs.Ytlkcoaencliajaa.Draw

namespace Go.Proofs.Ytlkcoaencliajaa.Key
open Go.RowKit Draw
open Go.Op (bytesLess)
set_option linter.unusedVariables false
set_option linter.unusedSimpArgs false

theorem boxes_qqrqq (w : World) (v0 v1 v2 v3 v4 v5 v6 x0 x1 x2 x3 x4 x5 x6 r0 r1 r2 y0 y1 y2 y3 y4 y5 y6 u0 u1 u2 u3 u4 u5 u6 : Value) :
    QBox (((((w.alloc (.cells #[v0, v1, v2, v3, v4, v5, v6] 36)).alloc (.cells #[x0, x1, x2, x3, x4, x5, x6] 36)).alloc (.cells #[r0, r1, r2] 29)).alloc (.cells #[y0, y1, y2, y3, y4, y5, y6] 36)).alloc (.cells #[u0, u1, u2, u3, u4, u5, u6] 36)) w.heap.size v0 v1 v2 v3 v4 v5 v6 ∧
    QBox (((((w.alloc (.cells #[v0, v1, v2, v3, v4, v5, v6] 36)).alloc (.cells #[x0, x1, x2, x3, x4, x5, x6] 36)).alloc (.cells #[r0, r1, r2] 29)).alloc (.cells #[y0, y1, y2, y3, y4, y5, y6] 36)).alloc (.cells #[u0, u1, u2, u3, u4, u5, u6] 36)) (w.heap.size + 1) x0 x1 x2 x3 x4 x5 x6 ∧
    Box (((((w.alloc (.cells #[v0, v1, v2, v3, v4, v5, v6] 36)).alloc (.cells #[x0, x1, x2, x3, x4, x5, x6] 36)).alloc (.cells #[r0, r1, r2] 29)).alloc (.cells #[y0, y1, y2, y3, y4, y5, y6] 36)).alloc (.cells #[u0, u1, u2, u3, u4, u5, u6] 36)) (w.heap.size + 1 + 1) r0 r1 r2 ∧
    QBox (((((w.alloc (.cells #[v0, v1, v2, v3, v4, v5, v6] 36)).alloc (.cells #[x0, x1, x2, x3, x4, x5, x6] 36)).alloc (.cells #[r0, r1, r2] 29)).alloc (.cells #[y0, y1, y2, y3, y4, y5, y6] 36)).alloc (.cells #[u0, u1, u2, u3, u4, u5, u6] 36)) (w.heap.size + 1 + 1 + 1) y0 y1 y2 y3 y4 y5 y6 ∧
    QBox (((((w.alloc (.cells #[v0, v1, v2, v3, v4, v5, v6] 36)).alloc (.cells #[x0, x1, x2, x3, x4, x5, x6] 36)).alloc (.cells #[r0, r1, r2] 29)).alloc (.cells #[y0, y1, y2, y3, y4, y5, y6] 36)).alloc (.cells #[u0, u1, u2, u3, u4, u5, u6] 36)) (w.heap.size + 1 + 1 + 1 + 1) u0 u1 u2 u3 u4 u5 u6 ∧
    Below w.heap.size w (((((w.alloc (.cells #[v0, v1, v2, v3, v4, v5, v6] 36)).alloc (.cells #[x0, x1, x2, x3, x4, x5, x6] 36)).alloc (.cells #[r0, r1, r2] 29)).alloc (.cells #[y0, y1, y2, y3, y4, y5, y6] 36)).alloc (.cells #[u0, u1, u2, u3, u4, u5, u6] 36)) := by
  obtain ⟨h0, h1, h2, h3, hb⟩ := boxes_qqrq w v0 v1 v2 v3 v4 v5 v6 x0 x1 x2 x3 x4 x5 x6 r0 r1 r2 y0 y1 y2 y3 y4 y5 y6
  have h4 := QBox.new ((((w.alloc (.cells #[v0, v1, v2, v3, v4, v5, v6] 36)).alloc (.cells #[x0, x1, x2, x3, x4, x5, x6] 36)).alloc (.cells #[r0, r1, r2] 29)).alloc (.cells #[y0, y1, y2, y3, y4, y5, y6] 36)) u0 u1 u2 u3 u4 u5 u6
  rw [show ((((w.alloc (.cells #[v0, v1, v2, v3, v4, v5, v6] 36)).alloc (.cells #[x0, x1, x2, x3, x4, x5, x6] 36)).alloc (.cells #[r0, r1, r2] 29)).alloc (.cells #[y0, y1, y2, y3, y4, y5, y6] 36)).heap.size = w.heap.size + 1 + 1 + 1 + 1 by simp] at h4
  exact ⟨h0.alloc _, h1.alloc _, h2.alloc _, h3.alloc _, h4, hb.alloc (by simp; omega) _⟩
theorem own_empty (w : World) (e : TypeId) (sz : Nat) : (w.alloc (.cells #[] e)).ownsRow w.heap.size e sz (.slice (some ⟨w.heap.size, 0, none⟩) 0 0) 0 [] :=
  ⟨by simp, .inr ⟨w.heap.size, 0, #[], rfl, Nat.le_refl _, Go.heap_alloc_new _ _, Nat.le_refl _, by unfold maxLen; omega, by simp, by simp⟩⟩
theorem own_lt {w : World} {B : Nat} {e : TypeId} {sz g n c : Nat} {xs : List Value} (h : w.ownsRow B e sz (.slice (some ⟨g, 0, none⟩) n c) n xs) : g < w.heap.size := (World.ownsRow.lt h g rfl).2
theorem map_take {ps : List Pr} {f : Pr → Pr} {j : Nat} {x : Pr} (h : ps[j]? = some x) : (ps.take (j + 1)).map f = (ps.take j).map f ++ [f x] := by
  obtain ⟨hj, rfl⟩ := List.getElem?_eq_some_iff.1 h
  rw [List.take_succ_eq_append_getElem hj, List.map_append]
  rfl

set_option maxRecDepth 100000 in
set_option maxHeartbeats 16000000 in
theorem join25 (a b : Pc) (p q : Pl) (lo hi : ByteArray) (e : Bool) (w : World) (fa : Few a.node) (fb : Few b.node) (da : ∀ m ∈ a.node.bf, 0 ≤ m.deep) (db : ∀ m ∈ b.node.bf, 0 ≤ m.deep) (la : Lies w a.node p) (lb : Lies w b.node q) (hsa : a.strip.size ≤ 1000) (hsb : b.strip.size ≤ 1000)
    (hka : ∀ x ∈ a.node.ps, x.key.size ≤ 1000) (hkb : ∀ x ∈ b.node.ps, x.key.size ≤ 1000) (hlo : lo.size ≤ 1000) (hhi : hi.size ≤ 1000) :
    Calls Try.prog 25 #[pcv a p, pcv b q, av lo hi e] w fun x w' => JoinSay w w' x a b lo hi e ∧ Below w.heap.size w w' := by
  have HMa := hid (fun (wr : World) (hb : Below w.heap.size w wr) => may13 a.node p wr fa (la.later hb) da)
  have HMb := hid (fun (wr : World) (hb : Below w.heap.size w wr) => may13 b.node q wr fb (lb.later hb) db)
  have HPA := hid (fun (wr : World) (hb : Below w.heap.size w wr) => (la.later hb).h1)
  have HPB := hid (fun (wr : World) (hb : Below w.heap.size w wr) => (lb.later hb).h1)
  have HY := hid (fun wr => empty28 lo hi e wr)
  have HV := hid (fun wr => under25 lo hi e wr hlo)
  have HIn := hid (fun k wr => in20 lo hi k e wr)
  have HL := joinL_small fa fb
  have HE := hid (show joinE a b (rg lo hi e) = if (a.node.leaf && decide (mayI a.node = 0)) && (b.node.leaf && decide (mayI b.node = 0)) then if !emptyR (rg lo hi e) && (withinB (joinL a b) (rg lo hi e) && riseB (joinL a b)) then if 16 < (joinL a b).length then 13 else 0 else 1 else 3 from rfl)
  have HJ := hid (show joinL a b = a.node.ps.map (addP a.strip) ++ b.node.ps.map (addP b.strip) from rfl)
  have HNo := hid (fun (w' : World) (x : Ending) (z : Int) => @join_none w w' x a b lo hi e z)
  have HSo := hid (fun (w' : World) (x : Ending) (l : List Pr) (ad : Option Addr) (c B : Nat) => @join_some w w' x a b lo hi e (undS (rg lo hi e)) l ad c B)
  rw [show str (under (rg lo hi e)) = undS (rg lo hi e) from rfl] at HV
  have HUn := hid (fun (x : Pr) (hx : inR (rg lo hi e) x.key.data.toList = true) => show (undS (rg lo hi e)).size ≤ x.key.size from has_size (k := x.key) (s := undS (rg lo hi e)) (by
    unfold undS
    rw [str_data]
    exact under_in hx))
  have HKA := hid hka
  have HKB := hid hkb
  have hml : a.node.ps.length ≤ 1000 ∧ b.node.ps.length ≤ 1000 := ⟨fa.l1, fb.l1⟩
  obtain ⟨LA, hLA⟩ : ∃ f : Nat → List Pr, f = fun j => (a.node.ps.take j).map (addP a.strip) := ⟨_, rfl⟩
  obtain ⟨LB, hLB⟩ : ∃ f : Nat → List Pr, f = fun j => a.node.ps.map (addP a.strip) ++ (b.node.ps.take j).map (addP b.strip) := ⟨_, rfl⟩
  have HA0 := hid (show LA 0 = [] by subst hLA; rfl)
  have HAS := hid (fun (j : Nat) (x : Pr) (hx : a.node.ps[j]? = some x) => show LA (j + 1) = LA j ++ [addP a.strip x] by subst hLA; exact map_take hx)
  have HAL := hid (fun (j : Nat) => show (LA j).length ≤ 1000 by
    subst hLA
    show ((a.node.ps.take j).map _).length ≤ _
    rw [List.length_map, List.length_take]
    omega)
  have HB0 := hid (show LB 0 = LA a.node.ps.length by
    subst hLA hLB
    show _ ++ ((b.node.ps.take 0).map _) = (a.node.ps.take a.node.ps.length).map _
    rw [List.take_length, List.take_zero, List.map_nil, List.append_nil])
  have HBS := hid (fun (j : Nat) (x : Pr) (hx : b.node.ps[j]? = some x) => show LB (j + 1) = LB j ++ [addP b.strip x] by subst hLB; dsimp only; rw [map_take hx, List.append_assoc])
  have HBL := hid (fun (j : Nat) => show (LB j).length ≤ 2000 by
    subst hLB
    show (_ ++ (b.node.ps.take j).map _).length ≤ _
    rw [List.length_append, List.length_map, List.length_map, List.length_take]
    omega)
  have HBT := hid (show LB b.node.ps.length = joinL a b by subst hLB; dsimp only; rw [List.take_length]; rfl)
  clear fa fb da db la lb hka hkb hLA hLB
  have key : ∀ (SAY : World → Ending → Prop), Hid (SAY = fun w' x => JoinSay w w' x a b lo hi e) → Calls Try.prog 25 #[pcv a p, pcv b q, av lo hi e] w fun x w' => SAY w' x ∧ Below w.heap.size w w' := by
    intro SAY HSAY
    generalize undS (rg lo hi e) = S at *
    generalize joinL a b = J at *
    generalize mayI a.node = MA at *
    generalize mayI b.node = MB at *
    generalize joinE a b (rg lo hi e) = ZE at *
    obtain ⟨alo, ast, aB, aps, apv, aks, abf⟩ := a
    obtain ⟨blo, bst, bB, bps, bpv, bks, bbf⟩ := b
    obtain ⟨p1, d1, p2, d2, p3, d3, p4, d4⟩ := p
    obtain ⟨q1, f1, q2, f2, q3, f3, q4, f4⟩ := q
    dsimp only [pcv, nv] at *
    generalize haN : aps.length = an1 at *
    generalize apv.length = an2 at *
    generalize aks.length = an3 at *
    generalize abf.length = an4 at *
    generalize hbN : bps.length = bn1 at *
    generalize bpv.length = bn2 at *
    generalize bks.length = bn3 at *
    generalize bbf.length = bn4 at *
    have HNA := hid haN
    have HNB := hid hbN
    clear haN hbN
    unfold addP at HAS HBS
    obtain ⟨A0, B0, R0, Q0, Z0, hb0⟩ := boxes_qqrqq w (.string alo) (.string ast) (.bool aB) (.slice p1 an1 d1) (.slice p2 an2 d2) (.slice p3 an3 d3) (.slice p4 an4 d4) (.string blo) (.string bst) (.bool bB) (.slice q1 bn1 f1) (.slice q2 bn2 f2) (.slice q3 bn3 f3) (.slice q4 bn4 f4) (.string lo) (.string hi) (.bool e) (.string ⟨#[]⟩) (.string ⟨#[]⟩) (.bool false) (.slice none 0 0) (.slice none 0 0) (.slice none 0 0) (.slice none 0 0) (.string ⟨#[]⟩) (.string ⟨#[]⟩) (.bool false) (.slice none 0 0) (.slice none 0 0) (.slice none 0 0) (.slice none 0 0)
    cases aB
    case false =>
      have HZ := hid (show ZE = 3 from HE.out)
      go_enter Try.func25, Try.ntmps25
      go_upto_region 2 with fail
      generalize hw0 : ((((w.alloc (.cells _ 36)).alloc (.cells _ 36)).alloc (.cells #[.string lo, .string hi, .bool e] 29)).alloc (.cells #[.string ⟨#[]⟩, .string ⟨#[]⟩, .bool false, .slice none 0 0, .slice none 0 0, .slice none 0 0, .slice none 0 0] 36)).alloc (.cells #[.string ⟨#[]⟩, .string ⟨#[]⟩, .bool false, .slice none 0 0, .slice none 0 0, .slice none 0 0, .slice none 0 0] 36) = w0 at *
      clear hw0
      generalize hk0 : w.heap.size = k0 at *
      generalize hk1 : k0 + 1 = k1 at *
      generalize hk2 : k1 + 1 = k2 at *
      generalize hk3 : k2 + 1 = k3 at *
      generalize hk4 : k3 + 1 = k4 at *
      have HQ0 := hid hk0
      have HQ := hid (And.intro hk1 (And.intro hk2 (And.intro hk3 hk4)))
      clear hk0 hk1 hk2 hk3 hk4
      have hkk := HQ.out
      obtain ⟨a0, a1, a2, a3, a4, a5, a6⟩ := A0.cells
      obtain ⟨b0, b1, b2, b3, b4, b5, b6⟩ := B0.cells
      obtain ⟨r0, r1, r2⟩ := R0.cells
      obtain ⟨t0, t1, t2, t3, t4, t5, t6⟩ := Z0.cells
      obtain ⟨z0, z1, z2, z3, z4, z5, z6⟩ := Q0.cells
      have f := Q0.free
      have f0 := f 0
      have f1' := f 1
      have f2' := f 2
      have f3' := f 3
      have f4' := f 4
      have f5 := f 5
      have f6 := f 6
      clear f
      have hb9 := seven_set hb0 (show k0 ≤ k3 by omega) (.string ⟨#[]⟩) (.string ⟨#[]⟩) (.bool false) (.slice none 0 0) (.slice none 0 0) (.slice none 0 0) (.slice none 0 0)
      go_wp2_with fail
      refine bodyPost_ret (v := .tuple #[.agg #[.string ⟨#[]⟩, .string ⟨#[]⟩, .bool false, .slice none 0 0, .slice none 0 0, .slice none 0 0, .slice none 0 0], .int .i64 3]) (by simp [results, Try.results25, go_sem, z0, z1, z2, z3, z4, z5, z6]) rfl ⟨?_, ?_⟩
      · rw [HSAY]; exact HNo.out _ _ 3 HZ.out (by decide) rfl
      · rw [HQ0.out]; exact hb9
    case true =>
    cases bB
    case false =>
      have HZ := hid (show ZE = 3 from by rw [HE.out, Bool.and_comm]; rfl)
      go_enter Try.func25, Try.ntmps25
      go_upto_region 2 with fail
      generalize hw0 : ((((w.alloc (.cells _ 36)).alloc (.cells _ 36)).alloc (.cells #[.string lo, .string hi, .bool e] 29)).alloc (.cells #[.string ⟨#[]⟩, .string ⟨#[]⟩, .bool false, .slice none 0 0, .slice none 0 0, .slice none 0 0, .slice none 0 0] 36)).alloc (.cells #[.string ⟨#[]⟩, .string ⟨#[]⟩, .bool false, .slice none 0 0, .slice none 0 0, .slice none 0 0, .slice none 0 0] 36) = w0 at *
      clear hw0
      generalize hk0 : w.heap.size = k0 at *
      generalize hk1 : k0 + 1 = k1 at *
      generalize hk2 : k1 + 1 = k2 at *
      generalize hk3 : k2 + 1 = k3 at *
      generalize hk4 : k3 + 1 = k4 at *
      have HQ0 := hid hk0
      have HQ := hid (And.intro hk1 (And.intro hk2 (And.intro hk3 hk4)))
      clear hk0 hk1 hk2 hk3 hk4
      have hkk := HQ.out
      obtain ⟨a0, a1, a2, a3, a4, a5, a6⟩ := A0.cells
      obtain ⟨b0, b1, b2, b3, b4, b5, b6⟩ := B0.cells
      obtain ⟨r0, r1, r2⟩ := R0.cells
      obtain ⟨t0, t1, t2, t3, t4, t5, t6⟩ := Z0.cells
      obtain ⟨z0, z1, z2, z3, z4, z5, z6⟩ := Q0.cells
      have f := Q0.free
      have f0 := f 0
      have f1' := f 1
      have f2' := f 2
      have f3' := f 3
      have f4' := f 4
      have f5 := f 5
      have f6 := f 6
      clear f
      have hb9 := seven_set hb0 (show k0 ≤ k3 by omega) (.string ⟨#[]⟩) (.string ⟨#[]⟩) (.bool false) (.slice none 0 0) (.slice none 0 0) (.slice none 0 0) (.slice none 0 0)
      go_wp2_with fail
      refine bodyPost_ret (v := .tuple #[.agg #[.string ⟨#[]⟩, .string ⟨#[]⟩, .bool false, .slice none 0 0, .slice none 0 0, .slice none 0 0, .slice none 0 0], .int .i64 3]) (by simp [results, Try.results25, go_sem, z0, z1, z2, z3, z4, z5, z6]) rfl ⟨?_, ?_⟩
      · rw [HSAY]; exact HNo.out _ _ 3 HZ.out (by decide) rfl
      · rw [HQ0.out]; exact hb9
    case true =>
    by_cases hMA : MA = 0
    case neg =>
      have HZ := hid (show ZE = 3 from by rw [HE.out, decide_eq_false hMA]; rfl)
      have hMA' : MA ≠ 0 := hMA
      go_enter Try.func25, Try.ntmps25
      go_upto_region 2 with fail
      generalize hw0 : ((((w.alloc (.cells _ 36)).alloc (.cells _ 36)).alloc (.cells #[.string lo, .string hi, .bool e] 29)).alloc (.cells #[.string ⟨#[]⟩, .string ⟨#[]⟩, .bool false, .slice none 0 0, .slice none 0 0, .slice none 0 0, .slice none 0 0] 36)).alloc (.cells #[.string ⟨#[]⟩, .string ⟨#[]⟩, .bool false, .slice none 0 0, .slice none 0 0, .slice none 0 0, .slice none 0 0] 36) = w0 at *
      clear hw0
      generalize hk0 : w.heap.size = k0 at *
      generalize hk1 : k0 + 1 = k1 at *
      generalize hk2 : k1 + 1 = k2 at *
      generalize hk3 : k2 + 1 = k3 at *
      generalize hk4 : k3 + 1 = k4 at *
      have HQ0 := hid hk0
      have HQ := hid (And.intro hk1 (And.intro hk2 (And.intro hk3 hk4)))
      clear hk0 hk1 hk2 hk3 hk4
      have hkk := HQ.out
      obtain ⟨a0, a1, a2, a3, a4, a5, a6⟩ := A0.cells
      obtain ⟨b0, b1, b2, b3, b4, b5, b6⟩ := B0.cells
      obtain ⟨r0, r1, r2⟩ := R0.cells
      go_wp2_with fail
      refine (HMa.out _ hb0).mono ?_
      rintro x w1 ⟨rfl, hb1⟩
      clear a0 a1 a2 a3 a4 a5 a6 b0 b1 b2 b3 b4 b5 b6 r0 r1 r2
      have A1 := A0.later hb1
      have B1 := B0.later hb1
      have R1 := R0.later hb1
      have Q1 := Q0.later hb1
      have Z1 := Z0.later hb1
      have hZl1 := Z0.lt
      replace hb1 := hb0.trans (hb1.mono (by omega))
      clear A0 B0 R0 Q0 Z0
      obtain ⟨t0, t1, t2, t3, t4, t5, t6⟩ := Z1.cells
      obtain ⟨z0, z1, z2, z3, z4, z5, z6⟩ := Q1.cells
      have f := Q1.free
      have f0 := f 0
      have f1' := f 1
      have f2' := f 2
      have f3' := f 3
      have f4' := f 4
      have f5 := f 5
      have f6 := f 6
      clear f
      have hb9 := seven_set hb1 (show k0 ≤ k3 by omega) (.string ⟨#[]⟩) (.string ⟨#[]⟩) (.bool false) (.slice none 0 0) (.slice none 0 0) (.slice none 0 0) (.slice none 0 0)
      go_wp2_with fail
      refine bodyPost_ret (v := .tuple #[.agg #[.string ⟨#[]⟩, .string ⟨#[]⟩, .bool false, .slice none 0 0, .slice none 0 0, .slice none 0 0, .slice none 0 0], .int .i64 3]) (by simp [results, Try.results25, go_sem, z0, z1, z2, z3, z4, z5, z6]) rfl ⟨?_, ?_⟩
      · rw [HSAY]; exact HNo.out _ _ 3 HZ.out (by decide) rfl
      · rw [HQ0.out]; exact hb9
    case pos =>
    subst hMA
    by_cases hMB : MB = 0
    case neg =>
      have HZ := hid (show ZE = 3 from by rw [HE.out, decide_eq_false hMB]; rfl)
      have hMB' : MB ≠ 0 := hMB
      go_enter Try.func25, Try.ntmps25
      go_upto_region 2 with fail
      generalize hw0 : ((((w.alloc (.cells _ 36)).alloc (.cells _ 36)).alloc (.cells #[.string lo, .string hi, .bool e] 29)).alloc (.cells #[.string ⟨#[]⟩, .string ⟨#[]⟩, .bool false, .slice none 0 0, .slice none 0 0, .slice none 0 0, .slice none 0 0] 36)).alloc (.cells #[.string ⟨#[]⟩, .string ⟨#[]⟩, .bool false, .slice none 0 0, .slice none 0 0, .slice none 0 0, .slice none 0 0] 36) = w0 at *
      clear hw0
      generalize hk0 : w.heap.size = k0 at *
      generalize hk1 : k0 + 1 = k1 at *
      generalize hk2 : k1 + 1 = k2 at *
      generalize hk3 : k2 + 1 = k3 at *
      generalize hk4 : k3 + 1 = k4 at *
      have HQ0 := hid hk0
      have HQ := hid (And.intro hk1 (And.intro hk2 (And.intro hk3 hk4)))
      clear hk0 hk1 hk2 hk3 hk4
      have hkk := HQ.out
      obtain ⟨a0, a1, a2, a3, a4, a5, a6⟩ := A0.cells
      obtain ⟨b0, b1, b2, b3, b4, b5, b6⟩ := B0.cells
      obtain ⟨r0, r1, r2⟩ := R0.cells
      go_wp2_with fail
      refine (HMa.out _ hb0).mono ?_
      rintro x w1 ⟨rfl, hb1⟩
      clear a0 a1 a2 a3 a4 a5 a6 b0 b1 b2 b3 b4 b5 b6 r0 r1 r2
      have A1 := A0.later hb1
      have B1 := B0.later hb1
      have R1 := R0.later hb1
      have Q1 := Q0.later hb1
      have Z1 := Z0.later hb1
      have hZl1 := Z0.lt
      replace hb1 := hb0.trans (hb1.mono (by omega))
      clear A0 B0 R0 Q0 Z0
      obtain ⟨a0, a1, a2, a3, a4, a5, a6⟩ := A1.cells
      obtain ⟨b0, b1, b2, b3, b4, b5, b6⟩ := B1.cells
      obtain ⟨r0, r1, r2⟩ := R1.cells
      go_wp2_with fail
      refine (HMb.out _ hb1).mono ?_
      rintro x w2 ⟨rfl, hb2⟩
      clear a0 a1 a2 a3 a4 a5 a6 b0 b1 b2 b3 b4 b5 b6 r0 r1 r2
      have A2 := A1.later hb2
      have B2 := B1.later hb2
      have R2 := R1.later hb2
      have Q2 := Q1.later hb2
      have Z2 := Z1.later hb2
      have hZl2 := Z1.lt
      replace hb2 := hb1.trans (hb2.mono (by omega))
      clear A1 B1 R1 Q1 Z1
      obtain ⟨t0, t1, t2, t3, t4, t5, t6⟩ := Z2.cells
      obtain ⟨z0, z1, z2, z3, z4, z5, z6⟩ := Q2.cells
      have f := Q2.free
      have f0 := f 0
      have f1' := f 1
      have f2' := f 2
      have f3' := f 3
      have f4' := f 4
      have f5 := f 5
      have f6 := f 6
      clear f
      have hb9 := seven_set hb2 (show k0 ≤ k3 by omega) (.string ⟨#[]⟩) (.string ⟨#[]⟩) (.bool false) (.slice none 0 0) (.slice none 0 0) (.slice none 0 0) (.slice none 0 0)
      go_wp2_with fail
      refine bodyPost_ret (v := .tuple #[.agg #[.string ⟨#[]⟩, .string ⟨#[]⟩, .bool false, .slice none 0 0, .slice none 0 0, .slice none 0 0, .slice none 0 0], .int .i64 3]) (by simp [results, Try.results25, go_sem, z0, z1, z2, z3, z4, z5, z6]) rfl ⟨?_, ?_⟩
      · rw [HSAY]; exact HNo.out _ _ 3 HZ.out (by decide) rfl
      · rw [HQ0.out]; exact hb9
    case pos =>
    subst hMB
    have HE' := hid (show ZE = if !emptyR (rg lo hi e) && (withinB J (rg lo hi e) && riseB J) then if 16 < J.length then 13 else 0 else 1 from HE.out)
    clear HE
    go_enter Try.func25, Try.ntmps25
    go_upto_region 2 with fail
    generalize hw0 : ((((w.alloc (.cells _ 36)).alloc (.cells _ 36)).alloc (.cells #[.string lo, .string hi, .bool e] 29)).alloc (.cells #[.string ⟨#[]⟩, .string ⟨#[]⟩, .bool false, .slice none 0 0, .slice none 0 0, .slice none 0 0, .slice none 0 0] 36)).alloc (.cells #[.string ⟨#[]⟩, .string ⟨#[]⟩, .bool false, .slice none 0 0, .slice none 0 0, .slice none 0 0, .slice none 0 0] 36) = w0 at *
    clear hw0
    generalize hk0 : w.heap.size = k0 at *
    generalize hk1 : k0 + 1 = k1 at *
    generalize hk2 : k1 + 1 = k2 at *
    generalize hk3 : k2 + 1 = k3 at *
    generalize hk4 : k3 + 1 = k4 at *
    have HQ0 := hid hk0
    have HQ := hid (And.intro hk1 (And.intro hk2 (And.intro hk3 hk4)))
    clear hk0 hk1 hk2 hk3 hk4
    have hkk := HQ.out
    obtain ⟨a0, a1, a2, a3, a4, a5, a6⟩ := A0.cells
    obtain ⟨b0, b1, b2, b3, b4, b5, b6⟩ := B0.cells
    obtain ⟨r0, r1, r2⟩ := R0.cells
    go_wp2_with fail
    refine (HMa.out _ hb0).mono ?_
    rintro x w1 ⟨rfl, hb1⟩
    clear a0 a1 a2 a3 a4 a5 a6 b0 b1 b2 b3 b4 b5 b6 r0 r1 r2
    have A1 := A0.later hb1
    have B1 := B0.later hb1
    have R1 := R0.later hb1
    have Q1 := Q0.later hb1
    have Z1 := Z0.later hb1
    have hZl1 := Z0.lt
    replace hb1 := hb0.trans (hb1.mono (by omega))
    clear A0 B0 R0 Q0 Z0
    obtain ⟨a0, a1, a2, a3, a4, a5, a6⟩ := A1.cells
    obtain ⟨b0, b1, b2, b3, b4, b5, b6⟩ := B1.cells
    obtain ⟨r0, r1, r2⟩ := R1.cells
    go_wp2_with fail
    refine (HMb.out _ hb1).mono ?_
    rintro x w2 ⟨rfl, hb2⟩
    clear a0 a1 a2 a3 a4 a5 a6 b0 b1 b2 b3 b4 b5 b6 r0 r1 r2
    have A2 := A1.later hb2
    have B2 := B1.later hb2
    have R2 := R1.later hb2
    have Q2 := Q1.later hb2
    have Z2 := Z1.later hb2
    have hZl2 := Z1.lt
    replace hb2 := hb1.trans (hb2.mono (by omega))
    clear A1 B1 R1 Q1 Z1
    obtain ⟨a0, a1, a2, a3, a4, a5, a6⟩ := A2.cells
    obtain ⟨b0, b1, b2, b3, b4, b5, b6⟩ := B2.cells
    obtain ⟨r0, r1, r2⟩ := R2.cells
    clear HMa HMb
    cases hE : emptyR (rg lo hi e)
    case true =>
      rw [hE] at HY HE'
      have HZ := hid (show ZE = 1 from HE'.out)
      go_wp2_with fail
      refine (HY.out _).mono ?_
      rintro x w3 ⟨rfl, hb3⟩
      clear a0 a1 a2 a3 a4 a5 a6 b0 b1 b2 b3 b4 b5 b6 r0 r1 r2
      have A3 := A2.later hb3
      have B3 := B2.later hb3
      have R3 := R2.later hb3
      have Q3 := Q2.later hb3
      have Z3 := Z2.later hb3
      have hZl3 := Z2.lt
      replace hb3 := hb2.trans (hb3.mono (by omega))
      clear A2 B2 R2 Q2 Z2
      obtain ⟨t0, t1, t2, t3, t4, t5, t6⟩ := Z3.cells
      obtain ⟨z0, z1, z2, z3, z4, z5, z6⟩ := Q3.cells
      have f := Q3.free
      have f0 := f 0
      have f1' := f 1
      have f2' := f 2
      have f3' := f 3
      have f4' := f 4
      have f5 := f 5
      have f6 := f 6
      clear f
      have hb9 := seven_set hb3 (show k0 ≤ k3 by omega) (.string ⟨#[]⟩) (.string ⟨#[]⟩) (.bool false) (.slice none 0 0) (.slice none 0 0) (.slice none 0 0) (.slice none 0 0)
      go_wp2_with fail
      refine bodyPost_ret (v := .tuple #[.agg #[.string ⟨#[]⟩, .string ⟨#[]⟩, .bool false, .slice none 0 0, .slice none 0 0, .slice none 0 0, .slice none 0 0], .int .i64 1]) (by simp [results, Try.results25, go_sem, z0, z1, z2, z3, z4, z5, z6]) rfl ⟨?_, ?_⟩
      · rw [HSAY]; exact HNo.out _ _ 1 HZ.out (by decide) rfl
      · rw [HQ0.out]; exact hb9
    case false =>
    rw [hE] at HY HE'
    go_wp2_with fail
    refine (HY.out _).mono ?_
    rintro x w3 ⟨rfl, hb3⟩
    clear a0 a1 a2 a3 a4 a5 a6 b0 b1 b2 b3 b4 b5 b6 r0 r1 r2
    have A3 := A2.later hb3
    have B3 := B2.later hb3
    have R3 := R2.later hb3
    have Q3 := Q2.later hb3
    have Z3 := Z2.later hb3
    have hZl3 := Z2.lt
    replace hb3 := hb2.trans (hb3.mono (by omega))
    clear A2 B2 R2 Q2 Z2
    clear HY
    have O6 := own_empty w3 64 2
    have bx := below_box w3 (.cells #[] 64)
    have A6 := A3.later bx
    have B6 := B3.later bx
    have R6 := R3.later bx
    have Q6 := Q3.later bx
    have Z6 := Z3.later bx
    have hZl6 := Z3.lt
    replace bx := hb3.trans (bx.mono (by omega))
    clear A3 B3 R3 Q3 Z3
    have hb6 := bx
    clear bx
    go_upto_region 7 with fail
    generalize hk5 : w3.heap.size = k5 at *
    have h45 : k4 < k5 := by omega
    have hk56 := own_lt O6
    generalize w3.alloc (.cells #[] 64) = w6 at *
    have HK5 := hid hk5
    clear hk5
    have hSTART : Below w6.heap.size w6 w6 := Below.refl _ _
    obtain ⟨a0, a1, a2, a3, a4, a5, a6⟩ := A6.cells
    obtain ⟨b0, b1, b2, b3, b4, b5, b6⟩ := B6.cells
    obtain ⟨r0, r1, r2⟩ := R6.cells
    go_upto_region 8 with fail
    clear a0 a1 a2 a3 a4 a5 a6 b0 b1 b2 b3 b4 b5 b6 r0 r1 r2
    go_loopw [9, 47] (fun v i wr => ∃ (j : Nat), j ≤ an1 ∧ i = .int .i64 j ∧ wr.ownsRow k5 64 2 v (LA j).length ((LA j).flatMap Pr.cells) ∧ Below k5 w6 wr) (fun _ i _ => an1 - (intOf i).toNat)
    case atStart => exact ⟨0, Nat.zero_le _, rfl, by rw [HA0.out]; exact O6, Below.refl _ _⟩
    case round =>
      obtain ⟨j, hj, rfl, ho, hb⟩ := hrel
      have hbw : Below k0 w wr := hb6.trans (hb.mono (by omega))
      have hkr : k5 ≤ wr.heap.size := by have := hb.size; omega
      by_cases hlt : j < an1
      · have hlt' : j < aps.length := by rw [HNA.out]; exact hlt
        obtain ⟨b, off, ha, c0, c1⟩ := (HPA.out wr hbw).at hlt'
        subst ha
        obtain ⟨x, hx⟩ : ∃ x, aps[j]? = some x := ⟨_, List.getElem?_eq_getElem hlt'⟩
        have hxe : aps[j] = x := by rw [List.getElem?_eq_getElem hlt'] at hx; exact Option.some.inj hx
        rw [hxe] at c0 c1
        have HSx := hid (HAS.out j x hx)
        have hxs : x.key.size ≤ 1000 := HKA.out x (by rw [← hxe]; exact List.getElem_mem hlt')
        have HLj := HAL.out j
        clear hx hxe
        obtain ⟨l, hl'⟩ : ∃ l, LA j = l := ⟨_, rfl⟩
        rw [hl'] at HLj ho HSx
        clear hl'
        obtain ⟨xk, xv⟩ := x
        dsimp only at c0 c1 hxs HSx
        have Tx : Two wr b (off + j * 2) (Pr.mk xk xv) := ⟨c0, c1⟩
        have hcat : ¬ 9223372036854775807 < ast.size + xk.size := by omega
        have A1 := A6.below hb (show k0 < k5 by omega)
        obtain ⟨n', c', q', hv⟩ := row_slice ho
        subst hv
        clear c0 c1
        go_upto_region 10 with fail
        refine wp_region_put2 [(some 50, [], false), (some 51, [], false), (some 52, [(1, 51)], false), (some 53, [], false), (some 54, [(3, 53)], false), (some 55, [(4, 54)], false), (some 56, [], false), (some 57, [(5, 55), (6, 56)], false), (some 58, [(7, 57)], false), (some 59, [(8, 58)], false), (some 60, [(2, 52), (9, 59)], false), (some 61, [], false), (some 62, [(11, 61)], false), (some 63, [(12, 62)], false), (some 64, [], false), (some 65, [(13, 63), (14, 64)], false), (some 66, [(15, 65)], false), (some 67, [(16, 66)], false), (some 68, [(10, 60), (17, 67)], false), (some 69, [(18, 68)], false), (some 70, [(0, 50), (19, 69)], true), (some 9, [(20, 70)], false)]
          (fun i u => if i ≤ 20 then Below wr.heap.size wr u else Below k5 wr u) (fun i u u' => if i = 20 then Below k5 u u' else Below u.heap.size u u')
          (fun i Y u => match i with | 0 => Y = .slice n' c' q' ∧ u.ownsRow k5 64 2 (.slice n' c' q') l.length (l.flatMap Pr.cells) | 1 => Y = .pointer (some ⟨k0, 1, none⟩) | 2 => Y = .string ast | 3 => Y = .pointer (some ⟨k0, 2, none⟩) | 4 => Y = .pointer (some ⟨k0, 3, none⟩) | 5 => Y = .slice (some ⟨b, off, none⟩) an1 d1 | 6 => Y = .int .i64 j | 7 => Y = .pointer (some ⟨b, off + j * 2, none⟩) | 8 => Y = .pointer (some ⟨b, off + j * 2, none⟩) | 9 => Y = .string xk | 10 => Y = .string (ast ++ xk) | 11 => Y = .pointer (some ⟨k0, 2, none⟩) | 12 => Y = .pointer (some ⟨k0, 3, none⟩) | 13 => Y = .slice (some ⟨b, off, none⟩) an1 d1 | 14 => Y = .int .i64 j | 15 => Y = .pointer (some ⟨b, off + j * 2, none⟩) | 16 => Y = .pointer (some ⟨b, off + j * 2 + 1, none⟩) | 17 => Y = .string xv | 18 => Y = pv (Pr.mk (ast ++ xk) xv) | 19 => ∃ g, Y = .slice (some ⟨g, 0, none⟩) 1 1 ∧ PBox u g (Pr.mk (ast ++ xk) xv) | 20 => u.ownsRow k5 64 2 Y (l ++ [(Pr.mk (ast ++ xk) xv)]).length ((l ++ [(Pr.mk (ast ++ xk) xv)]).flatMap Pr.cells) | _ => True)
          (by kernel_rfl) 21 (by kernel_rfl) (fun j => ?_) (fun i j u u' hl hi hj hr => ?_) (fun i j v u u' hn h h' hv => ?_) [(some 50, [], false), (some 51, [], false), (some 52, [(1, 51)], false), (some 53, [], false), (some 54, [(3, 53)], false), (some 55, [(4, 54)], false), (some 56, [], false), (some 57, [(5, 55), (6, 56)], false), (some 58, [(7, 57)], false), (some 59, [(8, 58)], false), (some 60, [(2, 52), (9, 59)], false), (some 61, [], false), (some 62, [(11, 61)], false), (some 63, [(12, 62)], false), (some 64, [], false), (some 65, [(13, 63), (14, 64)], false), (some 66, [(15, 65)], false), (some 67, [(16, 66)], false), (some 68, [(10, 60), (17, 67)], false), (some 69, [(18, 68)], false), (some 70, [(0, 50), (19, 69)], true)] rfl _ rfl rfl (by kernel_rfl) ⟨?_, ?_, ?_, ?_, ?_, ?_, ?_, ?_, ?_, ?_, ?_, ?_, ?_, ?_, ?_, ?_, ?_, ?_, ?_, ?_, ?_, trivial⟩ ?_
        · split
          · exact (Below.refl _ _).drew
          · exact (Below.refl _ _).drew
        · by_cases hia : i = 20
          · subst hia
            have hj2 : ¬ j ≤ 20 := by
              intro hle
              match j, hle, hl with
              | 0, _, hl => exact absurd hl (by decide)
              | 1, _, hl => exact absurd hl (by decide)
              | 2, _, hl => exact absurd hl (by decide)
              | 3, _, hl => exact absurd hl (by decide)
              | 4, _, hl => exact absurd hl (by decide)
              | 5, _, hl => exact absurd hl (by decide)
              | 6, _, hl => exact absurd hl (by decide)
              | 7, _, hl => exact absurd hl (by decide)
              | 8, _, hl => exact absurd hl (by decide)
              | 9, _, hl => exact absurd hl (by decide)
              | 10, _, hl => exact absurd hl (by decide)
              | 11, _, hl => exact absurd hl (by decide)
              | 12, _, hl => exact absurd hl (by decide)
              | 13, _, hl => exact absurd hl (by decide)
              | 14, _, hl => exact absurd hl (by decide)
              | 15, _, hl => exact absurd hl (by decide)
              | 16, _, hl => exact absurd hl (by decide)
              | 17, _, hl => exact absurd hl (by decide)
              | 18, _, hl => exact absurd hl (by decide)
              | 19, _, hl => exact absurd hl (by decide)
              | 20, _, hl => exact absurd hl (by decide)
              | n + 21, hle, _ => omega
            rw [if_neg hj2] at hj ⊢
            rw [if_pos rfl] at hr
            exact hj.trans hr
          · rw [if_neg hia] at hr
            split at hj
            · rename_i hle; rw [if_pos hle]; exact hj.trans (hr.mono hj.size)
            · rename_i hle; rw [if_neg hle]; exact hj.trans (hr.mono (by have := hj.size; omega))
        · by_cases hia : i = 20
          · subst hia
            match j with
            | 0 => exact absurd hn (by decide)
            | 1 => exact absurd hn (by decide)
            | 2 => exact absurd hn (by decide)
            | 3 => exact absurd hn (by decide)
            | 4 => exact absurd hn (by decide)
            | 5 => exact absurd hn (by decide)
            | 6 => exact absurd hn (by decide)
            | 7 => exact absurd hn (by decide)
            | 8 => exact absurd hn (by decide)
            | 9 => exact absurd hn (by decide)
            | 10 => exact absurd hn (by decide)
            | 11 => exact absurd hn (by decide)
            | 12 => exact absurd hn (by decide)
            | 13 => exact absurd hn (by decide)
            | 14 => exact absurd hn (by decide)
            | 15 => exact absurd hn (by decide)
            | 16 => exact absurd hn (by decide)
            | 17 => exact absurd hn (by decide)
            | 18 => exact absurd hn (by decide)
            | 19 => exact absurd hn (by decide)
            | 20 => exact absurd hn (by decide)
            | _ + 21 => trivial
          · rw [if_neg hia] at h'
            match j with
            | 0 => exact ⟨hv.1, row_later hv.2 h'⟩
            | 1 => exact hv
            | 2 => exact hv
            | 3 => exact hv
            | 4 => exact hv
            | 5 => exact hv
            | 6 => exact hv
            | 7 => exact hv
            | 8 => exact hv
            | 9 => exact hv
            | 10 => exact hv
            | 11 => exact hv
            | 12 => exact hv
            | 13 => exact hv
            | 14 => exact hv
            | 15 => exact hv
            | 16 => exact hv
            | 17 => exact hv
            | 18 => exact hv
            | 19 => obtain ⟨g, e1, e2⟩ := hv; exact ⟨g, e1, e2.later h'⟩
            | 20 => exact row_later hv h'
            | _ + 21 => trivial
        · rintro u hu
          replace hu : Below wr.heap.size wr u := hu
          exact opYields_val (.slice n' c' q') (by kernel_rfl) (by go_simp) ⟨Below.refl _ _, rfl, row_later ho hu⟩
        · rintro u hu
          exact opYields_val _ (by kernel_rfl) (by go_simp) ⟨Below.refl _ _, rfl⟩
        · rintro u hu _ rfl
          replace hu : Below wr.heap.size wr u := hu
          obtain ⟨m0, m1, m2, m3, m4, m5, m6⟩ := (A1.later hu).cells
          exact opYields_val (.string ast) (by kernel_rfl) (by go_simp) ⟨Below.refl _ _, rfl⟩
        · rintro u hu
          exact opYields_val _ (by kernel_rfl) (by go_simp) ⟨Below.refl _ _, rfl⟩
        · rintro u hu _ rfl
          exact opYields_val (.pointer (some ⟨k0, 3, none⟩)) (by kernel_rfl) (by go_simp) ⟨Below.refl _ _, rfl⟩
        · rintro u hu _ rfl
          replace hu : Below wr.heap.size wr u := hu
          obtain ⟨m0, m1, m2, m3, m4, m5, m6⟩ := (A1.later hu).cells
          exact opYields_val (.slice (some ⟨b, off, none⟩) an1 d1) (by kernel_rfl) (by go_simp) ⟨Below.refl _ _, rfl⟩
        · rintro u hu
          exact opYields_val _ (by kernel_rfl) (by go_simp) ⟨Below.refl _ _, rfl⟩
        · rintro u hu _ rfl _ rfl
          exact opYields_val (.pointer (some ⟨b, off + j * 2, none⟩)) (by kernel_rfl) (by go_simp) ⟨Below.refl _ _, rfl⟩
        · rintro u hu _ rfl
          exact opYields_val (.pointer (some ⟨b, off + j * 2, none⟩)) (by kernel_rfl) (by go_simp) ⟨Below.refl _ _, rfl⟩
        · rintro u hu _ rfl
          replace hu : Below wr.heap.size wr u := hu
          obtain ⟨m0, m1⟩ := Tx.below hu Tx.lt
          dsimp only at m0 m1
          exact opYields_val (.string xk) (by kernel_rfl) (by go_simp) ⟨Below.refl _ _, rfl⟩
        · rintro u hu _ rfl _ rfl
          exact opYields_val (.string (ast ++ xk)) (by kernel_rfl) (by go_simp) ⟨Below.refl _ _, rfl⟩
        · rintro u hu
          exact opYields_val _ (by kernel_rfl) (by go_simp) ⟨Below.refl _ _, rfl⟩
        · rintro u hu _ rfl
          exact opYields_val (.pointer (some ⟨k0, 3, none⟩)) (by kernel_rfl) (by go_simp) ⟨Below.refl _ _, rfl⟩
        · rintro u hu _ rfl
          replace hu : Below wr.heap.size wr u := hu
          obtain ⟨m0, m1, m2, m3, m4, m5, m6⟩ := (A1.later hu).cells
          exact opYields_val (.slice (some ⟨b, off, none⟩) an1 d1) (by kernel_rfl) (by go_simp) ⟨Below.refl _ _, rfl⟩
        · rintro u hu
          exact opYields_val _ (by kernel_rfl) (by go_simp) ⟨Below.refl _ _, rfl⟩
        · rintro u hu _ rfl _ rfl
          exact opYields_val (.pointer (some ⟨b, off + j * 2, none⟩)) (by kernel_rfl) (by go_simp) ⟨Below.refl _ _, rfl⟩
        · rintro u hu _ rfl
          exact opYields_val (.pointer (some ⟨b, off + j * 2 + 1, none⟩)) (by kernel_rfl) (by go_simp) ⟨Below.refl _ _, rfl⟩
        · rintro u hu _ rfl
          replace hu : Below wr.heap.size wr u := hu
          obtain ⟨m0, m1⟩ := Tx.below hu Tx.lt
          dsimp only at m0 m1
          exact opYields_val (.string xv) (by kernel_rfl) (by go_simp) ⟨Below.refl _ _, rfl⟩
        · rintro u hu _ rfl _ rfl
          exact opYields_val (pv (Pr.mk (ast ++ xk) xv)) (by kernel_rfl) (by go_simp) ⟨Below.refl _ _, rfl⟩
        · rintro u hu _ rfl
          exact opYields_val (.slice (some ⟨u.heap.size, 0, none⟩) 1 1) (u' := u.alloc (.cells #[.string (ast ++ xk), .string xv] 64)) (by kernel_rfl) (by go_simp) ⟨below_box _ _, _, rfl, PBox.new u (Pr.mk (ast ++ xk) xv)⟩
        · rintro u hu _ ⟨rfl, h1⟩ _ ⟨g, rfl, hg⟩
          replace hu : Below wr.heap.size wr u := hu
          have hku : k5 ≤ u.heap.size := by have := hu.size; omega
          exact yOne Pr.cells 2 32 22 64 _ (by omega) (fun _ => rfl) Try.underlying22 info64 rfl (by omega) Key.oneP (by kernel_rfl) (.tmp 50) (.tmp 69) rfl k5 _ l rfl h1 (Pr.mk (ast ++ xk) xv) g rfl hg.each (by omega) hku fun v' w' h2 h3 => ⟨(Below.refl k5 u).grown h3 hku fun k hk => (World.ownsRow.lt h1 k hk).1, h2⟩
        · intro u hu x0 x1 x2 x3 x4 x5 x6 x7 x8 x9 x10 x11 x12 x13 x14 x15 x16 x17 x18 x19 x20 e21
          replace hu : Below k5 wr u := hu
          replace e21 : u.ownsRow k5 64 2 x20 (l ++ [(Pr.mk (ast ++ xk) xv)]).length ((l ++ [(Pr.mk (ast ++ xk) xv)]).flatMap Pr.cells) := e21
          obtain ⟨xa, xn, xc, rfl⟩ := row_slice e21
          simp only [Act.put, List.setIfInBounds_toArray, List.set_cons_zero, List.set_cons_succ]
          refine opYields_val (.slice xa xn xc) (by kernel_rfl) (by go_simp; rfl) ?_
          simp only [Act.put, List.setIfInBounds_toArray, List.set_cons_zero, List.set_cons_succ]
          have hb2 := hb.trans hu
          go_wp2_with fail
          go_roundw
          case rel => exact ⟨j + 1, by omega, by go_num, by rw [HSx.out]; exact e21, hb2⟩
          case measure => simp [intOf]; omega
      · obtain rfl : an1 = j := by omega
        obtain ⟨w7, rfl⟩ : ∃ w', w' = wr := ⟨_, rfl⟩
        have hb7 := hb6.trans (hb.mono (by omega))
        have hs7 : k5 ≤ w7.heap.size := by have := hb.size; omega
        have A7 := A6.below hb (show k0 < k5 by omega)
        have B7 := B6.below hb (show k1 < k5 by omega)
        have R7 : Box _ k2 (.string lo) (.string hi) (.bool e) := (hb.block k2 (by omega)).trans R6
        have Q7 := Q6.below hb (show k3 < k5 by omega)
        have Z7 := Z6.below hb (show k4 < k5 by omega)
        have O7 := ho
        clear A6 B6 R6 Q6 Z6 hb6 hb ho O6
        obtain ⟨a0, a1, a2, a3, a4, a5, a6⟩ := A7.cells
        obtain ⟨b0, b1, b2, b3, b4, b5, b6⟩ := B7.cells
        obtain ⟨r0, r1, r2⟩ := R7.cells
        go_upto_region 13 with fail
        clear a0 a1 a2 a3 a4 a5 a6 b0 b1 b2 b3 b4 b5 b6 r0 r1 r2
        go_loopw [9, 76] (fun v i wr => ∃ (j : Nat), j ≤ bn1 ∧ i = .int .i64 j ∧ wr.ownsRow k5 64 2 v (LB j).length ((LB j).flatMap Pr.cells) ∧ Below k5 w7 wr) (fun _ i _ => bn1 - (intOf i).toNat)
        case atStart => exact ⟨0, Nat.zero_le _, rfl, by rw [HB0.out]; exact O7, Below.refl _ _⟩
        case round =>
          obtain ⟨j, hj, rfl, ho, hb⟩ := hrel
          have hbw : Below k0 w wr := hb7.trans (hb.mono (by omega))
          have hkr : k5 ≤ wr.heap.size := by have := hb.size; omega
          by_cases hlt : j < bn1
          · have hlt' : j < bps.length := by rw [HNB.out]; exact hlt
            obtain ⟨b, off, ha, c0, c1⟩ := (HPB.out wr hbw).at hlt'
            subst ha
            obtain ⟨x, hx⟩ : ∃ x, bps[j]? = some x := ⟨_, List.getElem?_eq_getElem hlt'⟩
            have hxe : bps[j] = x := by rw [List.getElem?_eq_getElem hlt'] at hx; exact Option.some.inj hx
            rw [hxe] at c0 c1
            have HSx := hid (HBS.out j x hx)
            have hxs : x.key.size ≤ 1000 := HKB.out x (by rw [← hxe]; exact List.getElem_mem hlt')
            have HLj := HBL.out j
            clear hx hxe
            obtain ⟨l, hl'⟩ : ∃ l, LB j = l := ⟨_, rfl⟩
            rw [hl'] at HLj ho HSx
            clear hl'
            obtain ⟨xk, xv⟩ := x
            dsimp only at c0 c1 hxs HSx
            have Tx : Two wr b (off + j * 2) (Pr.mk xk xv) := ⟨c0, c1⟩
            have hcat : ¬ 9223372036854775807 < bst.size + xk.size := by omega
            have B1 := B7.below hb (show k1 < k5 by omega)
            obtain ⟨n', c', q', hv⟩ := row_slice ho
            subst hv
            clear c0 c1
            go_upto_region 15 with fail
            refine wp_region_put2 [(some 79, [], false), (some 80, [], false), (some 81, [(1, 80)], false), (some 82, [], false), (some 83, [(3, 82)], false), (some 84, [(4, 83)], false), (some 85, [], false), (some 86, [(5, 84), (6, 85)], false), (some 87, [(7, 86)], false), (some 88, [(8, 87)], false), (some 89, [(2, 81), (9, 88)], false), (some 90, [], false), (some 91, [(11, 90)], false), (some 92, [(12, 91)], false), (some 93, [], false), (some 94, [(13, 92), (14, 93)], false), (some 95, [(15, 94)], false), (some 96, [(16, 95)], false), (some 97, [(10, 89), (17, 96)], false), (some 98, [(18, 97)], false), (some 99, [(0, 79), (19, 98)], true), (some 9, [(20, 99)], false)]
              (fun i u => if i ≤ 20 then Below wr.heap.size wr u else Below k5 wr u) (fun i u u' => if i = 20 then Below k5 u u' else Below u.heap.size u u')
              (fun i Y u => match i with | 0 => Y = .slice n' c' q' ∧ u.ownsRow k5 64 2 (.slice n' c' q') l.length (l.flatMap Pr.cells) | 1 => Y = .pointer (some ⟨k1, 1, none⟩) | 2 => Y = .string bst | 3 => Y = .pointer (some ⟨k1, 2, none⟩) | 4 => Y = .pointer (some ⟨k1, 3, none⟩) | 5 => Y = .slice (some ⟨b, off, none⟩) bn1 f1 | 6 => Y = .int .i64 j | 7 => Y = .pointer (some ⟨b, off + j * 2, none⟩) | 8 => Y = .pointer (some ⟨b, off + j * 2, none⟩) | 9 => Y = .string xk | 10 => Y = .string (bst ++ xk) | 11 => Y = .pointer (some ⟨k1, 2, none⟩) | 12 => Y = .pointer (some ⟨k1, 3, none⟩) | 13 => Y = .slice (some ⟨b, off, none⟩) bn1 f1 | 14 => Y = .int .i64 j | 15 => Y = .pointer (some ⟨b, off + j * 2, none⟩) | 16 => Y = .pointer (some ⟨b, off + j * 2 + 1, none⟩) | 17 => Y = .string xv | 18 => Y = pv (Pr.mk (bst ++ xk) xv) | 19 => ∃ g, Y = .slice (some ⟨g, 0, none⟩) 1 1 ∧ PBox u g (Pr.mk (bst ++ xk) xv) | 20 => u.ownsRow k5 64 2 Y (l ++ [(Pr.mk (bst ++ xk) xv)]).length ((l ++ [(Pr.mk (bst ++ xk) xv)]).flatMap Pr.cells) | _ => True)
              (by kernel_rfl) 21 (by kernel_rfl) (fun j => ?_) (fun i j u u' hl hi hj hr => ?_) (fun i j v u u' hn h h' hv => ?_) [(some 79, [], false), (some 80, [], false), (some 81, [(1, 80)], false), (some 82, [], false), (some 83, [(3, 82)], false), (some 84, [(4, 83)], false), (some 85, [], false), (some 86, [(5, 84), (6, 85)], false), (some 87, [(7, 86)], false), (some 88, [(8, 87)], false), (some 89, [(2, 81), (9, 88)], false), (some 90, [], false), (some 91, [(11, 90)], false), (some 92, [(12, 91)], false), (some 93, [], false), (some 94, [(13, 92), (14, 93)], false), (some 95, [(15, 94)], false), (some 96, [(16, 95)], false), (some 97, [(10, 89), (17, 96)], false), (some 98, [(18, 97)], false), (some 99, [(0, 79), (19, 98)], true)] rfl _ rfl rfl (by kernel_rfl) ⟨?_, ?_, ?_, ?_, ?_, ?_, ?_, ?_, ?_, ?_, ?_, ?_, ?_, ?_, ?_, ?_, ?_, ?_, ?_, ?_, ?_, trivial⟩ ?_
            · split
              · exact (Below.refl _ _).drew
              · exact (Below.refl _ _).drew
            · by_cases hia : i = 20
              · subst hia
                have hj2 : ¬ j ≤ 20 := by
                  intro hle
                  match j, hle, hl with
                  | 0, _, hl => exact absurd hl (by decide)
                  | 1, _, hl => exact absurd hl (by decide)
                  | 2, _, hl => exact absurd hl (by decide)
                  | 3, _, hl => exact absurd hl (by decide)
                  | 4, _, hl => exact absurd hl (by decide)
                  | 5, _, hl => exact absurd hl (by decide)
                  | 6, _, hl => exact absurd hl (by decide)
                  | 7, _, hl => exact absurd hl (by decide)
                  | 8, _, hl => exact absurd hl (by decide)
                  | 9, _, hl => exact absurd hl (by decide)
                  | 10, _, hl => exact absurd hl (by decide)
                  | 11, _, hl => exact absurd hl (by decide)
                  | 12, _, hl => exact absurd hl (by decide)
                  | 13, _, hl => exact absurd hl (by decide)
                  | 14, _, hl => exact absurd hl (by decide)
                  | 15, _, hl => exact absurd hl (by decide)
                  | 16, _, hl => exact absurd hl (by decide)
                  | 17, _, hl => exact absurd hl (by decide)
                  | 18, _, hl => exact absurd hl (by decide)
                  | 19, _, hl => exact absurd hl (by decide)
                  | 20, _, hl => exact absurd hl (by decide)
                  | n + 21, hle, _ => omega
                rw [if_neg hj2] at hj ⊢
                rw [if_pos rfl] at hr
                exact hj.trans hr
              · rw [if_neg hia] at hr
                split at hj
                · rename_i hle; rw [if_pos hle]; exact hj.trans (hr.mono hj.size)
                · rename_i hle; rw [if_neg hle]; exact hj.trans (hr.mono (by have := hj.size; omega))
            · by_cases hia : i = 20
              · subst hia
                match j with
                | 0 => exact absurd hn (by decide)
                | 1 => exact absurd hn (by decide)
                | 2 => exact absurd hn (by decide)
                | 3 => exact absurd hn (by decide)
                | 4 => exact absurd hn (by decide)
                | 5 => exact absurd hn (by decide)
                | 6 => exact absurd hn (by decide)
                | 7 => exact absurd hn (by decide)
                | 8 => exact absurd hn (by decide)
                | 9 => exact absurd hn (by decide)
                | 10 => exact absurd hn (by decide)
                | 11 => exact absurd hn (by decide)
                | 12 => exact absurd hn (by decide)
                | 13 => exact absurd hn (by decide)
                | 14 => exact absurd hn (by decide)
                | 15 => exact absurd hn (by decide)
                | 16 => exact absurd hn (by decide)
                | 17 => exact absurd hn (by decide)
                | 18 => exact absurd hn (by decide)
                | 19 => exact absurd hn (by decide)
                | 20 => exact absurd hn (by decide)
                | _ + 21 => trivial
              · rw [if_neg hia] at h'
                match j with
                | 0 => exact ⟨hv.1, row_later hv.2 h'⟩
                | 1 => exact hv
                | 2 => exact hv
                | 3 => exact hv
                | 4 => exact hv
                | 5 => exact hv
                | 6 => exact hv
                | 7 => exact hv
                | 8 => exact hv
                | 9 => exact hv
                | 10 => exact hv
                | 11 => exact hv
                | 12 => exact hv
                | 13 => exact hv
                | 14 => exact hv
                | 15 => exact hv
                | 16 => exact hv
                | 17 => exact hv
                | 18 => exact hv
                | 19 => obtain ⟨g, e1, e2⟩ := hv; exact ⟨g, e1, e2.later h'⟩
                | 20 => exact row_later hv h'
                | _ + 21 => trivial
            · rintro u hu
              replace hu : Below wr.heap.size wr u := hu
              exact opYields_val (.slice n' c' q') (by kernel_rfl) (by go_simp) ⟨Below.refl _ _, rfl, row_later ho hu⟩
            · rintro u hu
              exact opYields_val _ (by kernel_rfl) (by go_simp) ⟨Below.refl _ _, rfl⟩
            · rintro u hu _ rfl
              replace hu : Below wr.heap.size wr u := hu
              obtain ⟨m0, m1, m2, m3, m4, m5, m6⟩ := (B1.later hu).cells
              exact opYields_val (.string bst) (by kernel_rfl) (by go_simp) ⟨Below.refl _ _, rfl⟩
            · rintro u hu
              exact opYields_val _ (by kernel_rfl) (by go_simp) ⟨Below.refl _ _, rfl⟩
            · rintro u hu _ rfl
              exact opYields_val (.pointer (some ⟨k1, 3, none⟩)) (by kernel_rfl) (by go_simp) ⟨Below.refl _ _, rfl⟩
            · rintro u hu _ rfl
              replace hu : Below wr.heap.size wr u := hu
              obtain ⟨m0, m1, m2, m3, m4, m5, m6⟩ := (B1.later hu).cells
              exact opYields_val (.slice (some ⟨b, off, none⟩) bn1 f1) (by kernel_rfl) (by go_simp) ⟨Below.refl _ _, rfl⟩
            · rintro u hu
              exact opYields_val _ (by kernel_rfl) (by go_simp) ⟨Below.refl _ _, rfl⟩
            · rintro u hu _ rfl _ rfl
              exact opYields_val (.pointer (some ⟨b, off + j * 2, none⟩)) (by kernel_rfl) (by go_simp) ⟨Below.refl _ _, rfl⟩
            · rintro u hu _ rfl
              exact opYields_val (.pointer (some ⟨b, off + j * 2, none⟩)) (by kernel_rfl) (by go_simp) ⟨Below.refl _ _, rfl⟩
            · rintro u hu _ rfl
              replace hu : Below wr.heap.size wr u := hu
              obtain ⟨m0, m1⟩ := Tx.below hu Tx.lt
              dsimp only at m0 m1
              exact opYields_val (.string xk) (by kernel_rfl) (by go_simp) ⟨Below.refl _ _, rfl⟩
            · rintro u hu _ rfl _ rfl
              exact opYields_val (.string (bst ++ xk)) (by kernel_rfl) (by go_simp) ⟨Below.refl _ _, rfl⟩
            · rintro u hu
              exact opYields_val _ (by kernel_rfl) (by go_simp) ⟨Below.refl _ _, rfl⟩
            · rintro u hu _ rfl
              exact opYields_val (.pointer (some ⟨k1, 3, none⟩)) (by kernel_rfl) (by go_simp) ⟨Below.refl _ _, rfl⟩
            · rintro u hu _ rfl
              replace hu : Below wr.heap.size wr u := hu
              obtain ⟨m0, m1, m2, m3, m4, m5, m6⟩ := (B1.later hu).cells
              exact opYields_val (.slice (some ⟨b, off, none⟩) bn1 f1) (by kernel_rfl) (by go_simp) ⟨Below.refl _ _, rfl⟩
            · rintro u hu
              exact opYields_val _ (by kernel_rfl) (by go_simp) ⟨Below.refl _ _, rfl⟩
            · rintro u hu _ rfl _ rfl
              exact opYields_val (.pointer (some ⟨b, off + j * 2, none⟩)) (by kernel_rfl) (by go_simp) ⟨Below.refl _ _, rfl⟩
            · rintro u hu _ rfl
              exact opYields_val (.pointer (some ⟨b, off + j * 2 + 1, none⟩)) (by kernel_rfl) (by go_simp) ⟨Below.refl _ _, rfl⟩
            · rintro u hu _ rfl
              replace hu : Below wr.heap.size wr u := hu
              obtain ⟨m0, m1⟩ := Tx.below hu Tx.lt
              dsimp only at m0 m1
              exact opYields_val (.string xv) (by kernel_rfl) (by go_simp) ⟨Below.refl _ _, rfl⟩
            · rintro u hu _ rfl _ rfl
              exact opYields_val (pv (Pr.mk (bst ++ xk) xv)) (by kernel_rfl) (by go_simp) ⟨Below.refl _ _, rfl⟩
            · rintro u hu _ rfl
              exact opYields_val (.slice (some ⟨u.heap.size, 0, none⟩) 1 1) (u' := u.alloc (.cells #[.string (bst ++ xk), .string xv] 64)) (by kernel_rfl) (by go_simp) ⟨below_box _ _, _, rfl, PBox.new u (Pr.mk (bst ++ xk) xv)⟩
            · rintro u hu _ ⟨rfl, h1⟩ _ ⟨g, rfl, hg⟩
              replace hu : Below wr.heap.size wr u := hu
              have hku : k5 ≤ u.heap.size := by have := hu.size; omega
              exact yOne Pr.cells 2 32 22 64 _ (by omega) (fun _ => rfl) Try.underlying22 info64 rfl (by omega) Key.oneP (by kernel_rfl) (.tmp 79) (.tmp 98) rfl k5 _ l rfl h1 (Pr.mk (bst ++ xk) xv) g rfl hg.each (by omega) hku fun v' w' h2 h3 => ⟨(Below.refl k5 u).grown h3 hku fun k hk => (World.ownsRow.lt h1 k hk).1, h2⟩
            · intro u hu x0 x1 x2 x3 x4 x5 x6 x7 x8 x9 x10 x11 x12 x13 x14 x15 x16 x17 x18 x19 x20 e21
              replace hu : Below k5 wr u := hu
              replace e21 : u.ownsRow k5 64 2 x20 (l ++ [(Pr.mk (bst ++ xk) xv)]).length ((l ++ [(Pr.mk (bst ++ xk) xv)]).flatMap Pr.cells) := e21
              obtain ⟨xa, xn, xc, rfl⟩ := row_slice e21
              simp only [Act.put, List.setIfInBounds_toArray, List.set_cons_zero, List.set_cons_succ]
              refine opYields_val (.slice xa xn xc) (by kernel_rfl) (by go_simp; rfl) ?_
              simp only [Act.put, List.setIfInBounds_toArray, List.set_cons_zero, List.set_cons_succ]
              have hb2 := hb.trans hu
              go_wp2_with fail
              go_roundw
              case rel => exact ⟨j + 1, by omega, by go_num, by rw [HSx.out]; exact e21, hb2⟩
              case measure => simp [intOf]; omega
          · obtain rfl : bn1 = j := by omega
            rw [HBT.out] at ho
            obtain ⟨w9, rfl⟩ : ∃ w', w' = wr := ⟨_, rfl⟩
            have hb9 := hb7.trans (hb.mono (by omega))
            have A9 := A7.below hb (show k0 < k5 by omega)
            have B9 := B7.below hb (show k1 < k5 by omega)
            have R9 : Box _ k2 (.string lo) (.string hi) (.bool e) := (hb.block k2 (by omega)).trans R7
            have Q9 := Q7.below hb (show k3 < k5 by omega)
            have Z9 := Z7.below hb (show k4 < k5 by omega)
            obtain ⟨xa, xc, rfl, hP⟩ := row_prs ho
            clear A7 B7 R7 Q7 Z7 hb7 hb ho A9 B9 HPA HPB HAS HBS HA0 HB0 HAL HBL
            have HRi := hid (rise50 xa xc J w9 (by omega) hP)
            obtain ⟨r0, r1, r2⟩ := R9.cells
            go_wp2_with fail
            refine HRi.out.mono ?_
            rintro x w10 ⟨rfl, hb10⟩
            clear r0 r1 r2 HRi
            have hR9 := Z9.lt
            have R10 := R9.later hb10
            have Q10 := Q9.later hb10
            have Z10 := Z9.later hb10
            have hP10 := hP.later hb10
            replace hb10 := hb9.trans (hb10.mono (by omega))
            clear R9 Q9 Z9 hP hb9
            generalize hRB : riseB J = RB at *
            cases RB
            case false =>
              have HZ := hid (show ZE = 1 from by rw [HE'.out]; cases withinB J (rg lo hi e) <;> rfl)
              obtain ⟨t0, t1, t2, t3, t4, t5, t6⟩ := Z10.cells
              obtain ⟨z0, z1, z2, z3, z4, z5, z6⟩ := Q10.cells
              have f := Q10.free
              have f0 := f 0
              have f1' := f 1
              have f2' := f 2
              have f3' := f 3
              have f4' := f 4
              have f5 := f 5
              have f6 := f 6
              clear f
              have hb9 := seven_set hb10 (show k0 ≤ k3 by omega) (.string ⟨#[]⟩) (.string ⟨#[]⟩) (.bool false) (.slice none 0 0) (.slice none 0 0) (.slice none 0 0) (.slice none 0 0)
              go_wp2_with fail
              refine bodyPost_ret (v := .tuple #[.agg #[.string ⟨#[]⟩, .string ⟨#[]⟩, .bool false, .slice none 0 0, .slice none 0 0, .slice none 0 0, .slice none 0 0], .int .i64 1]) (by simp [results, Try.results25, go_sem, z0, z1, z2, z3, z4, z5, z6]) rfl ⟨?_, ?_⟩
              · rw [HSAY]; exact HNo.out _ _ 1 HZ.out (by decide) rfl
              · rw [HQ0.out]; exact hb9
            case true =>
            obtain ⟨r0, r1, r2⟩ := R10.cells
            go_wp2_with fail
            refine (HV.out _).mono ?_
            rintro x w11 ⟨rfl, hb11⟩
            clear r0 r1 r2 HV
            have hR10 := Z10.lt
            have R11 := R10.later hb11
            have Q11 := Q10.later hb11
            have Z11 := Z10.later hb11
            have hP11 := hP10.later hb11
            replace hb11 := hb10.trans (hb11.mono (by omega))
            clear R10 Q10 Z10 hP10 hb10
            obtain ⟨r0, r1, r2⟩ := R11.cells
            have X12 := QBox.new w11 (.string lo) (.string S) (.bool true) (.slice none 0 0) (.slice none 0 0) (.slice none 0 0) (.slice none 0 0)
            have bx := below_box w11 (.cells #[.string lo, .string S, .bool true, .slice none 0 0, .slice none 0 0, .slice none 0 0, .slice none 0 0] 36)
            have hR11 := Z11.lt
            have R12 := R11.later bx
            have Q12 := Q11.later bx
            have Z12 := Z11.later bx
            have hb12 := hb11.trans (bx.mono (by omega))
            have HP12 := hid (fun wr (hb : Below w11.heap.size w11 wr) => hP11.later hb)
            have HWy := hid (fun (h : J.all (inP (rg lo hi e)) = true) => show withinB J (rg lo hi e) = true from h)
            have HWn := hid (fun (j : Nat) (x : Pr) (hx : J[j]? = some x) (hp : inP (rg lo hi e) x = false) => show withinB J (rg lo hi e) = false from by
              obtain ⟨hj, rfl⟩ := List.getElem?_eq_some_iff.1 hx
              exact all_not J (inP (rg lo hi e)) hj hp)
            have HWs := hid (fun (j : Nat) (x : Pr) (hx : J[j]? = some x) => show (J.take (j + 1)).all (inP (rg lo hi e)) = ((J.take j).all (inP (rg lo hi e)) && inP (rg lo hi e) x) from by
              obtain ⟨hj, rfl⟩ := List.getElem?_eq_some_iff.1 hx
              exact all_take_succ J (inP (rg lo hi e)) hj)
            have HJS := hid (fun (j : Nat) (x : Pr) (hx : J[j]? = some x) => map_take (f := cutP S) hx)
            have HJT := hid (show J.take J.length = J from List.take_length)
            have HDI := hid (fun (p : Pr) => show inP (rg lo hi e) p = inR (rg lo hi e) p.key.data.toList from rfl)
            clear hRB
            generalize withinB J (rg lo hi e) = WB at *
            clear R11 Q11 Z11 hP11 hb11
            go_upto_region 21 with fail
            clear r0 r1 r2
            generalize hk6 : w11.heap.size = k6 at *
            have hb0x : Below k6 w11 (w11.alloc (.cells #[.string lo, .string S, .bool true, .slice none 0 0, .slice none 0 0, .slice none 0 0, .slice none 0 0] 36)) := bx
            clear bx
            generalize w11.alloc (.cells #[.string lo, .string S, .bool true, .slice none 0 0, .slice none 0 0, .slice none 0 0, .slice none 0 0] 36) = w12 at *
            have h46 : k4 < k6 := by omega
            have hk612 : k6 < w12.heap.size := X12.lt
            clear hk6
            go_upto_region 22 with fail
            go_loopw [114] (fun i wr => ∃ (j : Nat) (v : Value), j ≤ J.length ∧ i = .int .i64 j ∧ QBox wr k6 (.string lo) (.string S) (.bool true) v (.slice none 0 0) (.slice none 0 0) (.slice none 0 0) ∧ wr.ownsRow (k6 + 1) 64 2 v ((J.take j).map (cutP S)).length (((J.take j).map (cutP S)).flatMap Pr.cells) ∧ Hid ((J.take j).all (inP (rg lo hi e)) = true) ∧ Below k6 w12 wr) (fun i _ => J.length - (intOf i).toNat)
            case atStart => exact ⟨0, _, Nat.zero_le _, rfl, X12, row_nil _ _ _ _, hid rfl, Below.refl _ _⟩
            case round =>
              obtain ⟨j, v, hj, rfl, X1, ho, hok, hb⟩ := hrel
              have hX1 := X1.lt
              by_cases hlt : j < J.length
              · obtain ⟨b, off, ha, c0, c1⟩ := (HP12.out wr (hb0x.trans hb)).at hlt
                subst ha
                obtain ⟨x, hx⟩ : ∃ x, J[j]? = some x := ⟨_, List.getElem?_eq_getElem hlt⟩
                have hxe : J[j] = x := by rw [List.getElem?_eq_getElem hlt] at hx; exact Option.some.inj hx
                rw [hxe] at c0 c1
                have HXn := hid (HWn.out j x hx)
                have HXs := hid (HWs.out j x hx)
                have HXj := hid (HJS.out j x hx)
                have HXd := hid (HDI.out x)
                have HXi := hid (HIn.out x.key)
                have HXu := hid (HUn.out x)
                clear hx hxe
                obtain ⟨xk, xv⟩ := x
                dsimp only at c0 c1 HXi HXd HXu
                have Tx : Two wr b (off + j * 2) (Pr.mk xk xv) := ⟨c0, c1⟩
                clear c0 c1
                have hji : (j : Int) < (J.length : Int) := by omega
                have R1 : Box wr k2 (.string lo) (.string hi) (.bool e) := (hb.block k2 (by omega)).trans R12
                go_upto_region 24 with fail
                refine wp_region_quiet (C := fun u => Below wr.heap.size wr u) (by kernel_rfl) (by kernel_rfl) (Below.refl _ wr).drew ?_
                change wpQuiet _ _ _ _ (_ :: _) _
                generalize hIN : inR (rg lo hi e) xk.data.toList = IN at *
                repeat
                  first
                    | go_big_quiet_skip
                    | go_big_quiet_want
                      first
                        | refine quiet_v ?_ ?_ ?_
                          rotate_left
                          · intro u hu
                            obtain ⟨m0, m1⟩ := Tx.below hu Tx.lt
                            dsimp only at m0 m1
                            obtain ⟨r0, r1, r2⟩ := (R1.later hu).cells
                            go_simp
                            with_reducible rfl
                        | refine quiet_c (.bool IN) 19 #[av lo hi e, .string xk] ?_ (fun u hu => (HXi.out u).mono fun x u' h => ⟨h.1, hu.trans (h.2.mono hu.size)⟩) ?_
                          · intro u hu
                            go_simp
                            done
                      go_simp
                      go_big_quiet_on
                refine wpQuiet_nil (fun u0 hu0 => ?_)
                obtain ⟨w13, rfl⟩ : ∃ w', w' = u0 := ⟨_, rfl⟩
                have X13 := X1.later hu0
                have Tx := Tx.later hu0
                have ho := row_later ho hu0
                have hb13 : Below k6 w12 w13 := hb.trans (hu0.mono (by omega))
                have hX13 := X13.lt
                clear X1 hb hu0 R1
                cases IN
                case false =>
                  have HZ := hid (show ZE = 1 from by rw [HE'.out, HXn.out HXd.out]; rfl)
                  have hbz := hb12.trans (hb13.mono (by omega))
                  have Qz := Q12.below hb13 (show k3 < k6 by omega)
                  have Zz := Z12.below hb13 (show k4 < k6 by omega)
                  obtain ⟨t0, t1, t2, t3, t4, t5, t6⟩ := Zz.cells
                  obtain ⟨z0, z1, z2, z3, z4, z5, z6⟩ := Qz.cells
                  have f := Qz.free
                  have f0 := f 0
                  have f1' := f 1
                  have f2' := f 2
                  have f3' := f 3
                  have f4' := f 4
                  have f5 := f 5
                  have f6 := f 6
                  clear f
                  have hb9 := seven_set hbz (show k0 ≤ k3 by omega) (.string ⟨#[]⟩) (.string ⟨#[]⟩) (.bool false) (.slice none 0 0) (.slice none 0 0) (.slice none 0 0) (.slice none 0 0)
                  go_wp2_with fail
                  refine bodyPost_ret (v := .tuple #[.agg #[.string ⟨#[]⟩, .string ⟨#[]⟩, .bool false, .slice none 0 0, .slice none 0 0, .slice none 0 0, .slice none 0 0], .int .i64 1]) (by simp [results, Try.results25, go_sem, z0, z1, z2, z3, z4, z5, z6]) rfl ⟨?_, ?_⟩
                  · rw [HSAY]; exact HNo.out _ _ 1 HZ.out (by decide) rfl
                  · rw [HQ0.out]; exact hb9
                case true =>
                  have hle := HXu.out (by first | trivial | rfl)
                  have hle' : (S.size : Int) ≤ (xk.size : Int) := by omega
                  have HF : Hid ((J.take (j + 1)).all (inP (rg lo hi e)) = true) := hid (by rw [HXs.out, hok.out, HXd.out]; rfl)
                  obtain ⟨l, hl'⟩ : ∃ l, (J.take j).map (cutP S) = l := ⟨_, rfl⟩
                  have hll : l.length ≤ 2000 := by rw [← hl', List.length_map, List.length_take]; omega
                  rw [hl'] at ho HXj
                  clear hl'
                  obtain ⟨n', c', q', hv⟩ := row_slice ho
                  clear hv
                  go_upto_region 26 with fail
                  refine wp_region_put2 [(some 126, [], false), (some 127, [(0, 126)], false), (some 128, [(1, 127)], false), (some 129, [], false), (some 130, [], false), (some 131, [(3, 129), (4, 130)], false), (some 132, [(5, 131)], false), (some 133, [(6, 132)], false), (some 134, [], false), (some 135, [(8, 134)], false), (some 136, [(7, 133), (9, 135)], false), (some 137, [], false), (some 138, [], false), (some 139, [(11, 137), (12, 138)], false), (some 140, [(13, 139)], false), (some 141, [(14, 140)], false), (some 142, [(10, 136), (15, 141)], false), (some 143, [(16, 142)], false), (some 144, [(2, 128), (17, 143)], true), (some 145, [], false), (some 146, [(19, 145)], true), (none, [(20, 146), (18, 144)], false)]
                    (fun i u => if i ≤ 18 then Below w13.heap.size w13 u else w13.grownBy u v.ownBlock) (fun i u u' => if i = 18 then u.grownBy u' v.ownBlock else Below u.heap.size u u')
                    (fun i Y u => match i with | 0 => Y = .pointer (some ⟨k6, 2, none⟩) | 1 => Y = .pointer (some ⟨k6, 3, none⟩) | 2 => Y = v ∧ u.ownsRow (k6 + 1) 64 2 v (l).length ((l).flatMap Pr.cells) | 3 => Y = .slice (some ⟨b, off, none⟩) J.length xc | 4 => Y = .int .i64 j | 5 => Y = .pointer (some ⟨b, off + j * 2, none⟩) | 6 => Y = .pointer (some ⟨b, off + j * 2, none⟩) | 7 => Y = .string xk | 8 => Y = .string S | 9 => Y = .int .i64 S.size | 10 => Y = .string (cutT S xk) | 11 => Y = .slice (some ⟨b, off, none⟩) J.length xc | 12 => Y = .int .i64 j | 13 => Y = .pointer (some ⟨b, off + j * 2, none⟩) | 14 => Y = .pointer (some ⟨b, off + j * 2 + 1, none⟩) | 15 => Y = .string xv | 16 => Y = pv (cutP S (Pr.mk xk xv)) | 17 => ∃ g, Y = .slice (some ⟨g, 0, none⟩) 1 1 ∧ PBox u g (cutP S (Pr.mk xk xv)) | 18 => u.ownsRow (k6 + 1) 64 2 Y (l ++ [(cutP S (Pr.mk xk xv))]).length ((l ++ [(cutP S (Pr.mk xk xv))]).flatMap Pr.cells) | 19 => Y = .pointer (some ⟨k6, 2, none⟩) | 20 => Y = .pointer (some ⟨k6, 3, none⟩) | _ => True)
                    (by kernel_rfl) 21 (by kernel_rfl) (fun j => ?_) (fun i j u u' hl hi hj hr => ?_) (fun i j v u u' hn h h' hv => ?_) [(some 126, [], false), (some 127, [(0, 126)], false), (some 128, [(1, 127)], false), (some 129, [], false), (some 130, [], false), (some 131, [(3, 129), (4, 130)], false), (some 132, [(5, 131)], false), (some 133, [(6, 132)], false), (some 134, [], false), (some 135, [(8, 134)], false), (some 136, [(7, 133), (9, 135)], false), (some 137, [], false), (some 138, [], false), (some 139, [(11, 137), (12, 138)], false), (some 140, [(13, 139)], false), (some 141, [(14, 140)], false), (some 142, [(10, 136), (15, 141)], false), (some 143, [(16, 142)], false), (some 144, [(2, 128), (17, 143)], true), (some 145, [], false), (some 146, [(19, 145)], true)] rfl _ rfl rfl (by kernel_rfl) ⟨?_, ?_, ?_, ?_, ?_, ?_, ?_, ?_, ?_, ?_, ?_, ?_, ?_, ?_, ?_, ?_, ?_, ?_, ?_, ?_, ?_, trivial⟩ ?_
                  · split
                    · exact (Below.refl _ _).drew
                    · exact below_grown _ (Below.refl _ _).drew
                  · by_cases hia : i = 18
                    · subst hia
                      have hj2 : ¬ j ≤ 18 := by
                        intro hle
                        match j, hle, hl with
                        | 0, _, hl => exact absurd hl (by decide)
                        | 1, _, hl => exact absurd hl (by decide)
                        | 2, _, hl => exact absurd hl (by decide)
                        | 3, _, hl => exact absurd hl (by decide)
                        | 4, _, hl => exact absurd hl (by decide)
                        | 5, _, hl => exact absurd hl (by decide)
                        | 6, _, hl => exact absurd hl (by decide)
                        | 7, _, hl => exact absurd hl (by decide)
                        | 8, _, hl => exact absurd hl (by decide)
                        | 9, _, hl => exact absurd hl (by decide)
                        | 10, _, hl => exact absurd hl (by decide)
                        | 11, _, hl => exact absurd hl (by decide)
                        | 12, _, hl => exact absurd hl (by decide)
                        | 13, _, hl => exact absurd hl (by decide)
                        | 14, _, hl => exact absurd hl (by decide)
                        | 15, _, hl => exact absurd hl (by decide)
                        | 16, _, hl => exact absurd hl (by decide)
                        | 17, _, hl => exact absurd hl (by decide)
                        | 18, _, hl => exact absurd hl (by decide)
                        | n + 19, hle, _ => omega
                      rw [if_pos (Nat.le_refl _)] at hi
                      rw [if_neg hj2] at hj ⊢
                      rw [if_pos rfl] at hr
                      exact grown_trans hj hr
                    · rw [if_neg hia] at hr
                      split at hj
                      · rename_i hle; rw [if_pos hle]; exact hj.trans (hr.mono hj.size)
                      · rename_i hle; rw [if_neg hle]; exact grown_trans hj (below_grown _ hr)
                  · by_cases hia : i = 18
                    · subst hia
                      match j with
                      | 0 => exact absurd hn (by decide)
                      | 1 => exact absurd hn (by decide)
                      | 2 => exact absurd hn (by decide)
                      | 3 => exact absurd hn (by decide)
                      | 4 => exact absurd hn (by decide)
                      | 5 => exact absurd hn (by decide)
                      | 6 => exact absurd hn (by decide)
                      | 7 => exact absurd hn (by decide)
                      | 8 => exact absurd hn (by decide)
                      | 9 => exact absurd hn (by decide)
                      | 10 => exact absurd hn (by decide)
                      | 11 => exact absurd hn (by decide)
                      | 12 => exact absurd hn (by decide)
                      | 13 => exact absurd hn (by decide)
                      | 14 => exact absurd hn (by decide)
                      | 15 => exact absurd hn (by decide)
                      | 16 => exact absurd hn (by decide)
                      | 17 => exact absurd hn (by decide)
                      | 18 => exact absurd hn (by decide)
                      | 19 => exact hv
                      | 20 => exact hv
                      | _ + 21 => trivial
                    · rw [if_neg hia] at h'
                      match j with
                      | 0 => exact hv
                      | 1 => exact hv
                      | 2 => exact ⟨hv.1, row_later hv.2 h'⟩
                      | 3 => exact hv
                      | 4 => exact hv
                      | 5 => exact hv
                      | 6 => exact hv
                      | 7 => exact hv
                      | 8 => exact hv
                      | 9 => exact hv
                      | 10 => exact hv
                      | 11 => exact hv
                      | 12 => exact hv
                      | 13 => exact hv
                      | 14 => exact hv
                      | 15 => exact hv
                      | 16 => exact hv
                      | 17 => obtain ⟨g, e1, e2⟩ := hv; exact ⟨g, e1, e2.later h'⟩
                      | 18 => exact row_later hv h'
                      | 19 => exact hv
                      | 20 => exact hv
                      | _ + 21 => trivial
                  · rintro u hu
                    exact opYields_val _ (by kernel_rfl) (by go_simp) ⟨Below.refl _ _, rfl⟩
                  · rintro u hu _ rfl
                    exact opYields_val (.pointer (some ⟨k6, 3, none⟩)) (by kernel_rfl) (by go_simp) ⟨Below.refl _ _, rfl⟩
                  · rintro u hu _ rfl
                    replace hu : Below w13.heap.size w13 u := hu
                    obtain ⟨m0, m1, m2, m3, m4, m5, m6⟩ := (X13.later hu).cells
                    exact opYields_val v (by kernel_rfl) (by go_simp) ⟨Below.refl _ _, rfl, row_later ho hu⟩
                  · rintro u hu
                    exact opYields_val _ (by kernel_rfl) (by go_simp) ⟨Below.refl _ _, rfl⟩
                  · rintro u hu
                    exact opYields_val _ (by kernel_rfl) (by go_simp) ⟨Below.refl _ _, rfl⟩
                  · rintro u hu _ rfl _ rfl
                    exact opYields_val (.pointer (some ⟨b, off + j * 2, none⟩)) (by kernel_rfl) (by go_simp) ⟨Below.refl _ _, rfl⟩
                  · rintro u hu _ rfl
                    exact opYields_val (.pointer (some ⟨b, off + j * 2, none⟩)) (by kernel_rfl) (by go_simp) ⟨Below.refl _ _, rfl⟩
                  · rintro u hu _ rfl
                    replace hu : Below w13.heap.size w13 u := hu
                    obtain ⟨m0, m1⟩ := Tx.below hu Tx.lt
                    dsimp only at m0 m1
                    exact opYields_val (.string xk) (by kernel_rfl) (by go_simp) ⟨Below.refl _ _, rfl⟩
                  · rintro u hu
                    exact opYields_val _ (by kernel_rfl) (by go_simp) ⟨Below.refl _ _, rfl⟩
                  · rintro u hu _ rfl
                    exact opYields_val (.int .i64 S.size) (by kernel_rfl) (by go_simp) ⟨Below.refl _ _, rfl⟩
                  · rintro u hu _ rfl _ rfl
                    exact opYields_val (.string (cutT S xk)) (by kernel_rfl) (by unfold cutT; go_simp) ⟨Below.refl _ _, rfl⟩
                  · rintro u hu
                    exact opYields_val _ (by kernel_rfl) (by go_simp) ⟨Below.refl _ _, rfl⟩
                  · rintro u hu
                    exact opYields_val _ (by kernel_rfl) (by go_simp) ⟨Below.refl _ _, rfl⟩
                  · rintro u hu _ rfl _ rfl
                    exact opYields_val (.pointer (some ⟨b, off + j * 2, none⟩)) (by kernel_rfl) (by go_simp) ⟨Below.refl _ _, rfl⟩
                  · rintro u hu _ rfl
                    exact opYields_val (.pointer (some ⟨b, off + j * 2 + 1, none⟩)) (by kernel_rfl) (by go_simp) ⟨Below.refl _ _, rfl⟩
                  · rintro u hu _ rfl
                    replace hu : Below w13.heap.size w13 u := hu
                    obtain ⟨m0, m1⟩ := Tx.below hu Tx.lt
                    dsimp only at m0 m1
                    exact opYields_val (.string xv) (by kernel_rfl) (by go_simp) ⟨Below.refl _ _, rfl⟩
                  · rintro u hu _ rfl _ rfl
                    exact opYields_val (pv (cutP S (Pr.mk xk xv))) (by kernel_rfl) (by unfold cutP; go_simp) ⟨Below.refl _ _, rfl⟩
                  · rintro u hu _ rfl
                    exact opYields_val (.slice (some ⟨u.heap.size, 0, none⟩) 1 1) (u' := u.alloc (.cells #[.string (cutP S (Pr.mk xk xv)).key, .string (cutP S (Pr.mk xk xv)).val] 64)) (by kernel_rfl) (by go_simp) ⟨below_box _ _, _, rfl, PBox.new u _⟩
                  · rintro u hu _ ⟨rfl, h1⟩ _ ⟨g, rfl, hg⟩
                    replace hu : Below w13.heap.size w13 u := hu
                    exact yOne Pr.cells 2 32 22 64 _ (by omega) (fun _ => rfl) Try.underlying22 info64 rfl (by omega) Key.oneP (by kernel_rfl) (.tmp 128) (.tmp 143) rfl (k6 + 1) _ l rfl h1 (cutP S (Pr.mk xk xv)) g rfl hg.each (by omega) (by have := hu.size; omega) fun v' w' h2 h3 => ⟨h3, h2⟩
                  · rintro u hu
                    exact opYields_val _ (by kernel_rfl) (by go_simp) ⟨Below.refl _ _, rfl⟩
                  · rintro u hu _ rfl
                    exact opYields_val (.pointer (some ⟨k6, 3, none⟩)) (by kernel_rfl) (by go_simp) ⟨Below.refl _ _, rfl⟩
                  · intro u hu x0 x1 x2 x3 x4 x5 x6 x7 x8 x9 x10 x11 x12 x13 x14 x15 x16 x17 x18 e18 x19 x20 e20
                    replace hu : w13.grownBy u v.ownBlock := hu
                    replace e20 : x20 = .pointer (some ⟨k6, 3, none⟩) := e20
                    replace e18 : u.ownsRow (k6 + 1) 64 2 x18 (l ++ [(cutP S (Pr.mk xk xv))]).length ((l ++ [(cutP S (Pr.mk xk xv))]).flatMap Pr.cells) := e18
                    subst e20
                    simp only [Act.put, List.setIfInBounds_toArray, List.set_cons_zero, List.set_cons_succ]
                    obtain ⟨b1, g1, y1, hx⟩ := row_slice e18
                    have P7 := X13.kept hu (row_ge ho (Nat.lt_succ_self k6))
                    have f3 := P7.free 3
                    obtain ⟨y0', y1', y2', y3', y4', y5', y6'⟩ := P7.cells
                    refine opYields_put (u' := u.setCell ⟨k6, 3, none⟩ x18) (by kernel_rfl) (by rw [hx]; go_simp) ?_
                    have P8 := P7.put3 x18
                    have ho8 := row_set (i := 3) (u := x18) e18 (Nat.lt_succ_self k6)
                    have hb8 : Below k6 w12 (u.setCell ⟨k6, 3, none⟩ x18) := (hb13.grown hu (by omega) fun k hk => by have := (World.ownsRow.lt ho k hk).1; omega).setCell (p := ⟨k6, 3, none⟩) (Nat.le_refl _) _
                    simp only [Act.put, List.setIfInBounds_toArray, List.set_cons_zero, List.set_cons_succ]
                    clear f3 P7 e18 hu y0' y1' y2' y3' y4' y5' y6' hx
                    generalize u.setCell ⟨k6, 3, none⟩ x18 = u8 at *
                    go_wp2_with fail
                    go_roundw
                    case rel => exact ⟨j + 1, _, by omega, by go_num, P8, by rw [HXj.out]; exact ho8, HF, hb8⟩
                    case measure => simp [intOf]; omega
              · obtain rfl : J.length = j := by omega
                have hall := hok
                rw [HJT.out] at ho hall
                obtain ⟨JC, hJC⟩ : ∃ JC, J.map (cutP S) = JC := ⟨_, rfl⟩
                rw [hJC] at ho
                have HJM := hid hJC
                clear hJC
                have HW := hid (HWy.out hall)
                have hbz := hb12.trans (hb.mono (by omega))
                have Qz := Q12.below hb (show k3 < k6 by omega)
                have Zz := Z12.below hb (show k4 < k6 by omega)
                obtain ⟨va, vd, vc, rfl⟩ := row_slice ho
                obtain rfl := row_len ho
                by_cases h16 : 16 < J.length
                case pos =>
                  have h16' : (16 : Int) < (J.length : Int) := by omega
                  have HZ := hid (show ZE = 13 from by rw [HE'.out, HW.out, if_pos (by rfl), if_pos h16])
                  obtain ⟨t0, t1, t2, t3, t4, t5, t6⟩ := Zz.cells
                  obtain ⟨z0, z1, z2, z3, z4, z5, z6⟩ := Qz.cells
                  have f := Qz.free
                  have f0 := f 0
                  have f1' := f 1
                  have f2' := f 2
                  have f3' := f 3
                  have f4' := f 4
                  have f5 := f 5
                  have f6 := f 6
                  clear f
                  have hb9 := seven_set hbz (show k0 ≤ k3 by omega) (.string ⟨#[]⟩) (.string ⟨#[]⟩) (.bool false) (.slice none 0 0) (.slice none 0 0) (.slice none 0 0) (.slice none 0 0)
                  go_wp2_with fail
                  refine bodyPost_ret (v := .tuple #[.agg #[.string ⟨#[]⟩, .string ⟨#[]⟩, .bool false, .slice none 0 0, .slice none 0 0, .slice none 0 0, .slice none 0 0], .int .i64 13]) (by simp [results, Try.results25, go_sem, z0, z1, z2, z3, z4, z5, z6]) rfl ⟨?_, ?_⟩
                  · rw [HSAY]; exact HNo.out _ _ 13 HZ.out (by decide) rfl
                  · rw [HQ0.out]; exact hb9
                case neg =>
                  have h16' : ¬ (16 : Int) < (J.length : Int) := by omega
                  have HZ := hid (show ZE = 0 from by rw [HE'.out, HW.out, if_pos (by rfl), if_neg h16])
                  obtain ⟨t0, t1, t2, t3, t4, t5, t6⟩ := X1.cells
                  obtain ⟨z0, z1, z2, z3, z4, z5, z6⟩ := Qz.cells
                  have f := Qz.free
                  have f0 := f 0
                  have f1' := f 1
                  have f2' := f 2
                  have f3' := f 3
                  have f4' := f 4
                  have f5 := f 5
                  have f6 := f 6
                  clear f
                  have hb9 := seven_set hbz (show k0 ≤ k3 by omega) (.string lo) (.string S) (.bool true) (.slice va JC.length vc) (.slice none 0 0) (.slice none 0 0) (.slice none 0 0)
                  have hr9 := row_seven (y0 := .string lo) (y1 := .string S) (y2 := .bool true) (y3 := .slice va JC.length vc) (y4 := .slice none 0 0) (y5 := .slice none 0 0) (y6 := .slice none 0 0) ho (show k3 < k6 + 1 by omega)
                  go_wp2_with fail
                  refine bodyPost_ret (v := .tuple #[.agg #[.string lo, .string S, .bool true, .slice va JC.length vc, .slice none 0 0, .slice none 0 0, .slice none 0 0], .int .i64 0]) (by simp [results, Try.results25, go_sem, z0, z1, z2, z3, z4, z5, z6]) rfl ⟨?_, ?_⟩
                  · rw [HSAY]; exact HSo.out _ _ JC va vc (k6 + 1) HZ.out (by first | trivial | rfl) HJM.out rfl hr9 (by omega)
                  · rw [HQ0.out]; exact hb9
  exact key _ (hid rfl)
end Go.Proofs.Ytlkcoaencliajaa.Key

namespace Go.Proofs.Ytlkcoaencliajaa.Key
open Go.RowKit Draw
open Go.Op (bytesLess)
set_option linter.unusedVariables false
set_option linter.unusedSimpArgs false

theorem same_yes (n : Nd) (p p' : Pl) (w : World) (hf : Few n) (h : Lies w n p) (h' : Lies w n p') : Calls Try.prog 23 #[nv n p, nv n p'] w fun x w' => x = .returned (.bool true) ∧ Below w.heap.size w w' := by
  refine (same10 n n p p' w hf hf h h').mono ?_
  rintro x w' ⟨⟨b, hx, hb⟩, hbw⟩
  have : b = true := hb.2 rfl
  exact ⟨by rw [hx, this], hbw⟩

set_option maxRecDepth 100000 in
set_option maxHeartbeats 1000000 in
theorem same18 (a a' : Option Addr) (c c' : Nat) (L L' : List PcQ) (w : World) (hl : L.length ≤ 1000) (he : L.map Prod.fst = L'.map Prod.fst) (hf : ∀ x ∈ L, Few x.1.node) (h : Pcs w a L) (h' : Pcs w a' L') :
    Calls Try.prog 18 #[.slice a L.length c, .slice a' L'.length c'] w fun x w' => x = .returned (.bool true) ∧ Below w.heap.size w w' := by
  have hlen : L'.length = L.length := by have := congrArg List.length he; simpa using this.symm
  have HP := hid (fun (wr : World) (hb : Below w.heap.size w wr) => h.later hb)
  have HP' := hid (fun (wr : World) (hb : Below w.heap.size w wr) => h'.later hb)
  have HE := hid (fun (j : Nat) (hj : j < L.length) (hj' : j < L'.length) => show L[j].1 = L'[j].1 from by
    have := congrArg (fun l => l[j]?) he
    simp only [List.getElem?_map, List.getElem?_eq_getElem hj, List.getElem?_eq_getElem hj', Option.map_some, Option.some.injEq] at this
    exact this)
  have HF := hid (fun (x : PcQ) (hx : x ∈ L) => hf x hx)
  rw [hlen]
  have HN := hid hlen
  clear h h' hf he hlen
  obtain ⟨n1, hn1⟩ : ∃ n1, L.length = n1 := ⟨_, rfl⟩
  rw [hn1] at hl ⊢
  have HN1 := hid hn1
  clear hn1
  go_enter Try.func18, Try.ntmps18
  go_wp2_with fail
  go_loopw [13] (fun i wr => ∃ (j : Nat), j ≤ n1 ∧ i = .int .i64 j ∧ Below w.heap.size w wr) (fun i _ => n1 - (intOf i).toNat)
  case atStart => exact ⟨0, Nat.zero_le _, rfl, Below.refl _ _⟩
  case round =>
    obtain ⟨j, hj, rfl, hb⟩ := hrel
    by_cases hlt : j < n1
    · have h1 : j < L.length := by rw [HN1.out]; exact hlt
      have h2 : j < L'.length := by rw [HN.out]; exact h1
      obtain ⟨b, off, rfl, T, l1⟩ := (HP.out wr hb).at h1
      obtain ⟨b', off', rfl, T', l2⟩ := (HP'.out wr hb).at h2
      have e := HE.out j h1 h2
      have hfew := HF.out _ (List.getElem_mem h1)
      generalize L[j] = x at *
      generalize L'[j] = y at *
      obtain ⟨P, q⟩ := x
      obtain ⟨P', q'⟩ := y
      dsimp only at e T T' l1 l2 hfew
      subst e
      have HS := hid (fun (u : World) (hu : Below wr.heap.size wr u) => same_yes P.node q q' u hfew (l1.later hu) (l2.later hu))
      have e2 : (j : Int) < (n1 : Int) := by omega
      have e3 : IntKind.i64.wrap (j : Int) = (j : Int) := by rw [IntKind.wrap_i64]; omega
      clear l1 l2 hfew
      go_upto_region 6 with fail
      refine wp_region_quiet (C := fun u => Below wr.heap.size wr u) (by kernel_rfl) (by kernel_rfl) (Below.refl _ wr).drew ?_
      change wpQuiet _ _ _ _ (_ :: _) _
      repeat
        first
          | go_big_quiet_skip
          | go_big_quiet_want
            first
              | refine quiet_v ?_ ?_ ?_
                rotate_left
                · intro u hu
                  obtain ⟨x0, x1, x2, x3, x4, x5, x6⟩ := T.later hu
                  obtain ⟨y0, y1, y2, y3, y4, y5, y6⟩ := T'.later hu
                  dsimp only at x0 x1 x2 x3 x4 x5 x6 y0 y1 y2 y3 y4 y5 y6
                  go_simp
                  with_reducible rfl
              | refine quiet_c (.bool true) 23 #[nv P.node q, nv P.node q'] ?_ (fun u hu => (HS.out u hu).mono fun x u' h => ⟨h.1, hu.trans (h.2.mono hu.size)⟩) ?_
                · intro u hu
                  go_simp
                  done
            go_simp
            go_big_quiet_on
      refine wpQuiet_nil (fun u hu => ?_)
      have hb2 := hb.trans (hu.mono hb.size)
      go_wp2_with fail
      go_roundw
      case rel => exact ⟨j + 1, by omega, by go_num, hb2⟩
      case measure => simp [intOf]; omega
    · obtain rfl : j = n1 := by omega
      go_wp2_with fail
      go_ret
      exact ⟨rfl, hb⟩
end Go.Proofs.Ytlkcoaencliajaa.Key

namespace Go.Proofs.Ytlkcoaencliajaa.Key
open Go.RowKit Draw
open Go.Op (bytesLess)
set_option linter.unusedVariables false
set_option linter.unusedSimpArgs false

set_option maxRecDepth 100000 in
set_option maxHeartbeats 600000 in
theorem half54 (n : Nat) (w : World) (hn : n ≤ 1000) : Calls Try.prog 54 #[.int .i64 n] w fun x w' => x = .returned (.int .i64 (halfN n)) ∧ w' = w := by
  have HH := hid (show ((halfN n : Nat) : Int) = ((n : Int) + 1) / 2 by
    unfold halfN
    omega)
  go_enter Try.func54, Try.ntmps54
  go_wp2_with fail
  go_ret
  exact ⟨by rw [HH.out]; rfl, rfl⟩

set_option maxRecDepth 100000 in
set_option maxHeartbeats 600000 in
theorem mid30 (a : Option Addr) (c : Nat) (ps : List Pr) (w : World) (hl : ps.length ≤ 1000) (h : Prs w a ps) (hk : ∀ x ∈ ps, x.key.size ≤ 1000) :
    Calls Try.prog 30 #[.slice a ps.length c] w fun x w' => x = .returned (.tuple #[.string (if 2 ≤ ps.length then midL ps else ⟨#[]⟩), .bool (decide (2 ≤ ps.length))]) ∧ Below w.heap.size w w' := by
  by_cases h2 : 2 ≤ ps.length
  case neg =>
    rw [if_neg h2, decide_eq_false h2]
    have e : (ps.length : Int) < 2 := by omega
    clear h hk
    generalize ps.length = n1 at *
    go_enter Try.func30, Try.ntmps30
    go_wp2_with fail
    exact bodyPost_ret (v := .tuple #[.string ⟨#[]⟩, .bool false]) (by simp [results, Try.results30, go_sem]) rfl ⟨rfl, Below.refl _ _⟩
  case pos =>
  rw [if_pos h2, decide_eq_true h2]
  obtain ⟨h0, h1⟩ := half_lt h2
  have HH := hid (fun w => half54 ps.length w hl)
  have e : ¬ (ps.length : Int) < 2 := by omega
  have hM : midL ps = str (between (keyAt ps (halfN ps.length - 1)).data.toList (keyAt ps (halfN ps.length)).data.toList) := rfl
  obtain ⟨i, hi⟩ : ∃ i, halfN ps.length = i + 1 := ⟨halfN ps.length - 1, by omega⟩
  rw [hi] at hM h1 HH
  rw [keyAt_at h1, Nat.add_sub_cancel, keyAt_at (by omega)] at hM
  obtain ⟨b, off, rfl, T0, T1⟩ := h.at2 (show i < ps.length by omega) h1
  have HB := hid (fun w => between17 ps[i].key ps[i + 1].key w (Nat.le_trans (hk _ (List.getElem_mem _)) (by decide)) (Nat.le_trans (hk _ (List.getElem_mem _)) (by decide)))
  rw [← hM] at HB
  generalize midL ps = ML at *
  generalize ps[i] = x at *
  generalize ps[i + 1] = y at *
  have hi1 : ((i + 1 : Nat) : Int) = (i : Int) + 1 := rfl
  have e1 : ((i : Int) + 1) < (ps.length : Int) := by omega
  have e2 : (i : Int) < (ps.length : Int) := by omega
  have e4 : 0 ≤ (i : Int) + 1 := by omega
  have e3 : IntKind.i64.wrap (i : Int) = (i : Int) := by rw [IntKind.wrap_i64]; omega
  rw [hi1] at HH
  clear h hk hM hi h0 h2
  generalize ps.length = n1 at *
  go_enter Try.func30, Try.ntmps30
  go_wp2_with fail
  refine (HH.out _).mono ?_
  rintro v w1 ⟨rfl, rfl⟩
  go_upto_region 4 with fail
  refine wp_region_quiet (C := fun u => Below w1.heap.size w1 u) (by kernel_rfl) (by kernel_rfl) (Below.refl _ w1).drew ?_
  change wpQuiet _ _ _ _ (_ :: _) _
  repeat
    first
      | go_big_quiet_skip
      | go_big_quiet_want
        first
          | refine quiet_v ?_ ?_ ?_
            rotate_left
            · intro u hu
              obtain ⟨m0, m1⟩ := T0.below hu T0.lt
              obtain ⟨z0, z1⟩ := T1.below hu T1.lt
              go_simp
              with_reducible rfl
          | refine quiet_c (.string ML) 55 #[.string x.key, .string y.key] ?_ (fun u hu => (HB.out u).mono fun x u' h => ⟨h.1, hu.trans (h.2.mono hu.size)⟩) ?_
            · intro u hu
              go_simp
              done
        go_simp
        go_big_quiet_on
  refine wpQuiet_nil (fun u hu => ?_)
  go_wp2_with fail
  exact bodyPost_ret (v := .tuple #[.string ML, .bool true]) (by simp [results, Try.results30, go_sem]) rfl ⟨rfl, hu⟩

set_option maxRecDepth 100000 in
set_option maxHeartbeats 600000 in
theorem mid31 (n : Nd) (p : Pl) (w : World) (hl : n.ks.length ≤ 1000) (hlen : n.pv.length + 1 = n.ks.length) (h : Txts w p.a2 n.pv) :
    Calls Try.prog 31 #[nv n p] w fun x w' => x = .returned (.tuple #[.string (if 2 ≤ n.ks.length then midK n else ⟨#[]⟩), .bool (decide (2 ≤ n.ks.length))]) ∧ Below w.heap.size w w' := by
  obtain ⟨lB, ps, pv, ks, bf⟩ := n
  obtain ⟨a1, c1, a2, c2, a3, c3, a4, c4⟩ := p
  dsimp only [nv] at *
  by_cases h2 : 2 ≤ ks.length
  case neg =>
    rw [if_neg h2, decide_eq_false h2]
    have e : (ks.length : Int) < 2 := by omega
    clear h hlen
    generalize ps.length = n1 at *
    generalize pv.length = n2 at *
    generalize ks.length = n3 at *
    generalize bf.length = n4 at *
    go_enter Try.func31, Try.ntmps31
    go_wp2_with fail
    exact bodyPost_ret (v := .tuple #[.string ⟨#[]⟩, .bool false]) (by simp [results, Try.results31, go_sem]) rfl ⟨rfl, below_box _ _⟩
  case pos =>
  rw [if_pos h2, decide_eq_true h2]
  obtain ⟨h0, h1⟩ := half_lt h2
  have HH := hid (fun w => half54 ks.length w hl)
  have e : ¬ (ks.length : Int) < 2 := by omega
  have hM : midK ⟨lB, ps, pv, ks, bf⟩ = ahead pv (halfN ks.length) := rfl
  obtain ⟨i, hi⟩ : ∃ i, halfN ks.length = i + 1 := ⟨halfN ks.length - 1, by omega⟩
  rw [hi] at hM h1 HH
  have hip : i < pv.length := by omega
  rw [ahead_at hip] at hM
  obtain ⟨b, off, rfl, T0⟩ := h.at hip
  rw [← hM] at T0
  generalize midK ⟨lB, ps, pv, ks, bf⟩ = ML at *
  have hi1 : ((i + 1 : Nat) : Int) = (i : Int) + 1 := rfl
  have e2 : (i : Int) < (pv.length : Int) := by omega
  have e3 : IntKind.i64.wrap (i : Int) = (i : Int) := by rw [IntKind.wrap_i64]; omega
  rw [hi1] at HH
  have A0 := NBox.new w (.bool lB) (.slice a1 ps.length c1) (.slice (some ⟨b, off, none⟩) pv.length c2) (.slice a3 ks.length c3) (.slice a4 bf.length c4)
  have hb0 := below_box w (.cells #[.bool lB, .slice a1 ps.length c1, .slice (some ⟨b, off, none⟩) pv.length c2, .slice a3 ks.length c3, .slice a4 bf.length c4] 27)
  have T1 := (hb0.cell (p := ⟨b, off + i, none⟩) (World.block_lt_of_cell? w _ T0)).trans T0
  clear h hM hi h0 h2 hlen T0 h1
  generalize ps.length = n1 at *
  generalize pv.length = n2 at *
  generalize ks.length = n3 at *
  generalize bf.length = n4 at *
  go_enter Try.func31, Try.ntmps31
  go_upto_region 1 with fail
  generalize w.alloc (.cells #[.bool lB, .slice a1 n1 c1, .slice (some ⟨b, off, none⟩) n2 c2, .slice a3 n3 c3, .slice a4 n4 c4] 27) = w1 at *
  obtain ⟨c0, c1, c2, c3, c4⟩ := A0.cells
  go_upto_region 3 with fail
  clear c0 c1 c2 c3 c4
  refine wp_region_quiet (C := fun u => Below w1.heap.size w1 u) (by kernel_rfl) (by kernel_rfl) (Below.refl _ w1).drew ?_
  change wpQuiet _ _ _ _ (_ :: _) _
  repeat
    first
      | go_big_quiet_skip
      | go_big_quiet_want
        first
          | refine quiet_v ?_ ?_ ?_
            rotate_left
            · intro u hu
              obtain ⟨m0, m1, m2, m3, m4⟩ := (A0.later hu).cells
              have z0 := (hu.cell (p := ⟨b, off + i, none⟩) (World.block_lt_of_cell? w1 _ T1)).trans T1
              go_simp
              with_reducible rfl
          | refine quiet_c (.int .i64 ((i : Int) + 1)) 54 #[.int .i64 n3] ?_ (fun u hu => (HH.out u).mono fun x u' h => ⟨h.1, by rw [h.2]; exact hu⟩) ?_
            · intro u hu
              go_simp
              done
        go_simp
        go_big_quiet_on
  refine wpQuiet_nil (fun u hu => ?_)
  go_wp2_with fail
  exact bodyPost_ret (v := .tuple #[.string ML, .bool true]) (by simp [results, Try.results31, go_sem]) rfl ⟨rfl, hb0.trans (hu.mono hb0.size)⟩

set_option maxRecDepth 100000 in
set_option maxHeartbeats 600000 in
/-- Mid, the program's -/
theorem mid10 (n : Nd) (p : Pl) (w : World) (hf : Few n) (h : Lies w n p) :
    Calls Try.prog 10 #[nv n p] w fun x w' => x = .returned (.tuple #[.string (midS n), .bool (midB n)]) ∧ Below w.heap.size w w' := by
  have hb0 := below_box w (.cells #[.bool n.leaf, .slice p.a1 n.ps.length p.c1, .slice p.a2 n.pv.length p.c2, .slice p.a3 n.ks.length p.c3, .slice p.a4 n.bf.length p.c4] 27)
  have A0 := NBox.new w (.bool n.leaf) (.slice p.a1 n.ps.length p.c1) (.slice p.a2 n.pv.length p.c2) (.slice p.a3 n.ks.length p.c3) (.slice p.a4 n.bf.length p.c4)
  have HM := hid (fun (wr : World) (hb : Below w.heap.size w wr) => may12 n p wr hf (h.later hb))
  by_cases hm : mayI n = 0
  case neg =>
    have HS := hid (show midS n = ⟨#[]⟩ ∧ midB n = false from by
      have : midB n = false := by unfold midB; rw [if_neg hm]
      exact ⟨by unfold midS; rw [this]; rfl, this⟩)
    generalize midS n = MS at *
    generalize midB n = MB at *
    have e : mayI n ≠ 0 := hm
    generalize mayI n = MI at *
    clear h hf
    obtain ⟨lB, ps, pv, ks, bf⟩ := n
    obtain ⟨a1, c1, a2, c2, a3, c3, a4, c4⟩ := p
    dsimp only [nv] at *
    generalize ps.length = n1 at *
    generalize pv.length = n2 at *
    generalize ks.length = n3 at *
    generalize bf.length = n4 at *
    go_enter Try.func10, Try.ntmps10
    obtain ⟨z0, z1, z2, z3, z4⟩ := A0.cells
    go_wp2_with fail
    refine (HM.out _ hb0).mono ?_
    rintro x w1 ⟨rfl, hb1⟩
    clear z0 z1 z2 z3 z4
    go_wp2_with fail
    exact bodyPost_ret (v := .tuple #[.string ⟨#[]⟩, .bool false]) (by simp [results, Try.results10, go_sem]) rfl ⟨by rw [HS.out.1, HS.out.2], hb0.trans (hb1.mono hb0.size)⟩
  case pos =>
  rw [hm] at HM
  cases hl : n.leaf
  case false =>
    obtain ⟨hlen, _⟩ := may_fork hm hl
    have HK := hid (fun (wr : World) (hb : Below w.heap.size w wr) => mid31 n p wr hf.l3 hlen (h.later hb).h2)
    have HS := hid (show midS n = (if 2 ≤ n.ks.length then midK n else ⟨#[]⟩) ∧ midB n = decide (2 ≤ n.ks.length) from by
      have : midB n = decide (2 ≤ n.ks.length) := by unfold midB; rw [if_pos hm, hl]; rfl
      refine ⟨?_, this⟩
      unfold midS
      rw [this, hl]
      by_cases e : 2 ≤ n.ks.length
      · rw [decide_eq_true e, if_pos rfl, if_pos e]; rfl
      · rw [decide_eq_false e, if_neg e]; rfl)
    rw [← HS.out.1, ← HS.out.2] at HK
    generalize midS n = MS at *
    generalize midB n = MB at *
    clear h hf hm HS
    obtain ⟨lB, ps, pv, ks, bf⟩ := n
    obtain ⟨a1, c1, a2, c2, a3, c3, a4, c4⟩ := p
    dsimp only [nv] at *
    subst hl
    clear hlen
    generalize ps.length = n1 at *
    generalize pv.length = n2 at *
    generalize ks.length = n3 at *
    generalize bf.length = n4 at *
    go_enter Try.func10, Try.ntmps10
    obtain ⟨z0, z1, z2, z3, z4⟩ := A0.cells
    go_wp2_with fail
    refine (HM.out _ hb0).mono ?_
    rintro x w1 ⟨rfl, hb1⟩
    have A1 := A0.later hb1
    replace hb1 := hb0.trans (hb1.mono hb0.size)
    clear z0 z1 z2 z3 z4
    obtain ⟨z0, z1, z2, z3, z4⟩ := A1.cells
    go_wp2_with fail
    refine (HK.out _ hb1).mono ?_
    rintro x w2 ⟨rfl, hb2⟩
    clear z0 z1 z2 z3 z4
    go_wp2_with fail
    exact bodyPost_ret (v := .tuple #[.string MS, .bool MB]) (by simp [results, Try.results10, go_sem]) rfl ⟨rfl, hb1.trans (hb2.mono hb1.size)⟩
  case true =>
    have hk : ∀ x ∈ n.ps, x.key.size ≤ 1000 := by
      intro x hx
      have hb := (may_iff.1 hm).2
      unfold fineB at hb
      rw [hl, if_pos rfl] at hb
      have := (leaf_iff.1 hb).2.2.2.1 x hx
      unfold okP at this
      rw [Bool.and_eq_true, decide_eq_true_iff] at this
      omega
    have HK := hid (fun (wr : World) (hb : Below w.heap.size w wr) => mid30 p.a1 p.c1 n.ps wr hf.l1 (h.later hb).h1 hk)
    have HS := hid (show midS n = (if 2 ≤ n.ps.length then midL n.ps else ⟨#[]⟩) ∧ midB n = decide (2 ≤ n.ps.length) from by
      have : midB n = decide (2 ≤ n.ps.length) := by unfold midB; rw [if_pos hm, hl]; rfl
      refine ⟨?_, this⟩
      unfold midS
      rw [this, hl]
      by_cases e : 2 ≤ n.ps.length
      · rw [decide_eq_true e, if_pos rfl, if_pos e]; rfl
      · rw [decide_eq_false e, if_neg e]; rfl)
    rw [← HS.out.1, ← HS.out.2] at HK
    generalize midS n = MS at *
    generalize midB n = MB at *
    clear h hf hm HS hk
    obtain ⟨lB, ps, pv, ks, bf⟩ := n
    obtain ⟨a1, c1, a2, c2, a3, c3, a4, c4⟩ := p
    dsimp only [nv] at *
    subst hl
    generalize ps.length = n1 at *
    generalize pv.length = n2 at *
    generalize ks.length = n3 at *
    generalize bf.length = n4 at *
    go_enter Try.func10, Try.ntmps10
    obtain ⟨z0, z1, z2, z3, z4⟩ := A0.cells
    go_wp2_with fail
    refine (HM.out _ hb0).mono ?_
    rintro x w1 ⟨rfl, hb1⟩
    have A1 := A0.later hb1
    replace hb1 := hb0.trans (hb1.mono hb0.size)
    clear z0 z1 z2 z3 z4
    obtain ⟨z0, z1, z2, z3, z4⟩ := A1.cells
    go_wp2_with fail
    refine (HK.out _ hb1).mono ?_
    rintro x w2 ⟨rfl, hb2⟩
    clear z0 z1 z2 z3 z4
    go_wp2_with fail
    exact bodyPost_ret (v := .tuple #[.string MS, .bool MB]) (by simp [results, Try.results10, go_sem]) rfl ⟨rfl, hb1.trans (hb2.mono hb1.size)⟩
end Go.Proofs.Ytlkcoaencliajaa.Key

namespace Go.Proofs.Ytlkcoaencliajaa.Key
open Go.RowKit Draw
set_option linter.unusedVariables false
set_option linter.unusedSimpArgs false

def awN : Nd := ⟨true, [⟨⟨#[97]⟩, ⟨#[]⟩⟩, ⟨⟨#[97, 98, 99]⟩, ⟨#[]⟩⟩, ⟨⟨#[97, 98, 100]⟩, ⟨#[]⟩⟩], [], [], []⟩
theorem aw_b : midB awN = true := by kernel_rfl
theorem aw_s : midS awN = ⟨#[97, 98, 100]⟩ := by kernel_rfl
theorem aw_few : Few awN := ⟨by decide, by decide, by decide, by decide⟩
theorem aw_lies {w : World} {k : Nat} (h : w.heap[k]? = some (.cells #[.string ⟨#[97]⟩, .string ⟨#[]⟩, .string ⟨#[97, 98, 99]⟩, .string ⟨#[]⟩, .string ⟨#[97, 98, 100]⟩, .string ⟨#[]⟩] 64 (0, 0))) : Lies w awN ⟨some ⟨k, 0, none⟩, 3, none, 0, none, 0, none, 0⟩ := by
  refine ⟨.inr ⟨k, 0, rfl, fun i hi => ?_⟩, .inl rfl, .inl rfl, .inl rfl⟩
  have hi' : i < 3 := hi
  match i, hi' with
  | 0, _ => exact ⟨cell_of_row _ _ 0 _ _ _ h, cell_of_row _ _ 1 _ _ _ h⟩
  | 1, _ => exact ⟨cell_of_row _ _ 2 _ _ _ h, cell_of_row _ _ 3 _ _ _ h⟩
  | 2, _ => exact ⟨cell_of_row _ _ 4 _ _ _ h, cell_of_row _ _ 5 _ _ _ h⟩

set_option maxRecDepth 100000 in
set_option maxHeartbeats 1000000 in
theorem awake9 (w : World) : Calls Try.prog 9 #[] w fun x w' => x = .returned (.bool true) ∧ Below w.heap.size w w' := by
  have hP : (w.alloc (.cells #[.string ⟨#[97]⟩, .string ⟨#[]⟩, .string ⟨#[97, 98, 99]⟩, .string ⟨#[]⟩, .string ⟨#[97, 98, 100]⟩, .string ⟨#[]⟩] 64)).heap[w.heap.size]? = some (.cells #[.string ⟨#[97]⟩, .string ⟨#[]⟩, .string ⟨#[97, 98, 99]⟩, .string ⟨#[]⟩, .string ⟨#[97, 98, 100]⟩, .string ⟨#[]⟩] 64 (0, 0)) := Go.heap_alloc_new _ _
  have HT := hid (mid10 awN ⟨some ⟨w.heap.size, 0, none⟩, 3, none, 0, none, 0, none, 0⟩ _ aw_few (aw_lies hP))
  rw [aw_b, aw_s] at HT
  have hb0 := below_box w (.cells #[.string ⟨#[97]⟩, .string ⟨#[]⟩, .string ⟨#[97, 98, 99]⟩, .string ⟨#[]⟩, .string ⟨#[97, 98, 100]⟩, .string ⟨#[]⟩] 64)
  clear hP
  go_enter Try.func9, Try.ntmps9
  go_wp2_with fail
  refine HT.out.mono ?_
  rintro x w1 ⟨rfl, hb1⟩
  replace hb1 := hb0.trans (hb1.mono hb0.size)
  go_wp2_with fail
  go_ret
  exact ⟨rfl, hb1⟩
end Go.Proofs.Ytlkcoaencliajaa.Key

namespace Go.Proofs.Ytlkcoaencliajaa.Key
open Go.RowKit Draw
open Go.Op (bytesLess)
set_option linter.unusedVariables false
set_option linter.unusedSimpArgs false

def greatQ (x : Pc) : Bool := decide (100 < x.lo.size) || (decide (100 < x.strip.size) || greatN x.node)
theorem i100 {n : Nat} {b : Bool} (h : decide (100 < n) = b) : decide ((100 : Int) < (n : Int)) = b := by rw [← h]; exact decide_eq_decide.2 (by omega)
set_option maxRecDepth 100000 in
set_option maxHeartbeats 1000000 in
theorem great24 (x : Pc) (q : Pl) (w : World) (hf : Long x.node) (h : Lies w x.node q) : Calls Try.prog 24 #[pcv x q] w fun e w' => e = .returned (.bool (greatQ x)) ∧ Below w.heap.size w w' := by
  have Q0 := QBox.new w (.string x.lo) (.string x.strip) (.bool x.node.leaf) (.slice q.a1 x.node.ps.length q.c1) (.slice q.a2 x.node.pv.length q.c2) (.slice q.a3 x.node.ks.length q.c3) (.slice q.a4 x.node.bf.length q.c4)
  have hb0 := below_box w (.cells #[.string x.lo, .string x.strip, .bool x.node.leaf, .slice q.a1 x.node.ps.length q.c1, .slice q.a2 x.node.pv.length q.c2, .slice q.a3 x.node.ks.length q.c3, .slice q.a4 x.node.bf.length q.c4] 36)
  have HG := hid (great7 x.node q _ hf (h.later hb0))
  have HR := hid (show greatQ x = (decide (100 < x.lo.size) || (decide (100 < x.strip.size) || greatN x.node)) from rfl)
  generalize greatQ x = R at *
  generalize greatN x.node = G at *
  dsimp only [pcv, nv] at *
  clear h hf
  cases k1 : decide (100 < x.lo.size)
  case true =>
    have k1' := i100 k1
    have HE := hid (show R = true from by rw [HR.out, k1]; rfl)
    go_enter Try.func24, Try.ntmps24
    obtain ⟨z0, z1, z2, z3, z4, z5, z6⟩ := Q0.cells
    go_wp2_with fail
    go_ret
    exact ⟨by rw [HE.out]; rfl, hb0⟩
  case false =>
  have k1' := i100 k1
  cases k2 : decide (100 < x.strip.size)
  case true =>
    have k2' := i100 k2
    have HE := hid (show R = true from by rw [HR.out, k1, k2]; rfl)
    go_enter Try.func24, Try.ntmps24
    obtain ⟨z0, z1, z2, z3, z4, z5, z6⟩ := Q0.cells
    go_wp2_with fail
    go_ret
    exact ⟨by rw [HE.out]; rfl, hb0⟩
  case false =>
  have k2' := i100 k2
  have HE := hid (show R = G from by rw [HR.out, k1, k2]; rfl)
  clear k1 k2
  go_enter Try.func24, Try.ntmps24
  obtain ⟨z0, z1, z2, z3, z4, z5, z6⟩ := Q0.cells
  go_wp2_with fail
  refine HG.out.mono ?_
  rintro v w1 ⟨rfl, hb1⟩
  clear z0 z1 z2 z3 z4 z5 z6
  go_wp2_with fail
  go_ret
  exact ⟨by rw [HE.out]; rfl, hb0.trans (hb1.mono hb0.size)⟩
theorem keys_of {n : Nd} (h : greatN n = false) : ∀ x ∈ n.ps, x.key.size ≤ 100 := by
  unfold greatN greatPL at h
  simp only [Bool.or_eq_false_iff, decide_eq_false_iff_not] at h
  intro x hx
  have := any_no h.2.2.1.2 x hx
  unfold greatP at this
  simp only [Bool.or_eq_false_iff, decide_eq_false_iff_not] at this
  omega
theorem greatQ_no {x : Pc} (h : greatQ x = false) : x.strip.size ≤ 100 ∧ greatN x.node = false := by
  unfold greatQ at h
  simp only [Bool.or_eq_false_iff, decide_eq_false_iff_not] at h
  exact ⟨by omega, h.2.2⟩
theorem join_few (a b : Pc) (lo hi : ByteArray) (e : Bool) : Few (joinP a b lo hi e).node := by
  unfold joinP
  split
  · rename_i h
    obtain ⟨_, _, _, _, _, h6⟩ := join_zero h
    refine ⟨?_, Nat.zero_le _, Nat.zero_le _, Nat.zero_le _⟩
    show ((joinL a b).map _).length ≤ _
    rw [List.length_map]
    omega
  · exact ⟨Nat.zero_le _, Nat.zero_le _, Nat.zero_le _, Nat.zero_le _⟩
theorem join_small (a b : Pc) (lo hi : ByteArray) (e : Bool) : Small (joinP a b lo hi e).node := by
  have h1 : (joinP a b lo hi e).node.bf = [] := by unfold joinP; split <;> rfl
  have h2 : (joinP a b lo hi e).node.ks = [] := by unfold joinP; split <;> rfl
  refine ⟨join_few a b lo hi e, ?_, ?_, ?_, ?_, ?_⟩
  · rw [h1]; intro m hm; cases hm
  · rw [h1]; intro m hm; cases hm
  · rw [h2]; intro m hm; cases hm
  · rw [h1]; intro m hm; cases hm
  · rw [h2]; intro m hm; cases hm
theorem join_strip {a b : Pc} {lo hi : ByteArray} {e : Bool} (h : joinE a b (rg lo hi e) = 0) : (joinP a b lo hi e).strip = undS (rg lo hi e) := by unfold joinP; rw [if_pos h]
theorem boxes_qqr (w : World) (v0 v1 v2 v3 v4 v5 v6 x0 x1 x2 x3 x4 x5 x6 r0 r1 r2 : Value) :
    QBox (((w.alloc (.cells #[v0, v1, v2, v3, v4, v5, v6] 36)).alloc (.cells #[x0, x1, x2, x3, x4, x5, x6] 36)).alloc (.cells #[r0, r1, r2] 29)) w.heap.size v0 v1 v2 v3 v4 v5 v6 ∧
    QBox (((w.alloc (.cells #[v0, v1, v2, v3, v4, v5, v6] 36)).alloc (.cells #[x0, x1, x2, x3, x4, x5, x6] 36)).alloc (.cells #[r0, r1, r2] 29)) (w.heap.size + 1) x0 x1 x2 x3 x4 x5 x6 ∧
    Box (((w.alloc (.cells #[v0, v1, v2, v3, v4, v5, v6] 36)).alloc (.cells #[x0, x1, x2, x3, x4, x5, x6] 36)).alloc (.cells #[r0, r1, r2] 29)) (w.heap.size + 1 + 1) r0 r1 r2 ∧
    Below w.heap.size w (((w.alloc (.cells #[v0, v1, v2, v3, v4, v5, v6] 36)).alloc (.cells #[x0, x1, x2, x3, x4, x5, x6] 36)).alloc (.cells #[r0, r1, r2] 29)) := by
  have a1 : (w.alloc (.cells #[v0, v1, v2, v3, v4, v5, v6] 36)).heap.size = w.heap.size + 1 := by simp
  have a2 : ((w.alloc (.cells #[v0, v1, v2, v3, v4, v5, v6] 36)).alloc (.cells #[x0, x1, x2, x3, x4, x5, x6] 36)).heap.size = w.heap.size + 1 + 1 := by simp
  have h0 := QBox.new w v0 v1 v2 v3 v4 v5 v6
  have h1 := QBox.new (w.alloc (.cells #[v0, v1, v2, v3, v4, v5, v6] 36)) x0 x1 x2 x3 x4 x5 x6
  have h2 := Box.new ((w.alloc (.cells #[v0, v1, v2, v3, v4, v5, v6] 36)).alloc (.cells #[x0, x1, x2, x3, x4, x5, x6] 36)) r0 r1 r2
  rw [a1] at h1
  rw [a2] at h2
  exact ⟨(h0.alloc _).alloc _, h1.alloc _, h2, ((below_box w _).alloc (by simp) _).alloc (by simp; omega) _⟩
theorem pcs_one (w : World) (P : Pc) (q : Pl) (h : Lies w P.node q) : Pcs (w.alloc (.cells #[.string P.lo, .string P.strip, .bool P.node.leaf, .slice q.a1 P.node.ps.length q.c1, .slice q.a2 P.node.pv.length q.c2, .slice q.a3 P.node.ks.length q.c3, .slice q.a4 P.node.bf.length q.c4] 36)) (some ⟨w.heap.size, 0, none⟩) [(P, q)] := by
  have hq := QBox.new w (.string P.lo) (.string P.strip) (.bool P.node.leaf) (.slice q.a1 P.node.ps.length q.c1) (.slice q.a2 P.node.pv.length q.c2) (.slice q.a3 P.node.ks.length q.c3) (.slice q.a4 P.node.bf.length q.c4)
  obtain ⟨c0, c1, c2, c3, c4, c5, c6⟩ := hq.cells
  refine .inr ⟨w.heap.size, 0, rfl, fun i hi => ?_⟩
  have hi' : i < 1 := hi
  obtain rfl : i = 0 := by omega
  exact ⟨⟨c0, c1, c2, c3, c4, c5, c6⟩, h.alloc _⟩
theorem same_one (P : Pc) (q q' : Pl) (hf : Few P.node) (a a' : Option Addr) (w : World) (hp : Pcs w a [(P, q)]) (hp' : Pcs w a' [(P, q')]) :
    Calls Try.prog 18 #[.slice a 1 1, .slice a' 1 1] w fun x w' => x = .returned (.bool true) ∧ Below w.heap.size w w' :=
  same18 a a' 1 1 [(P, q)] [(P, q')] w (by show 1 ≤ 1000; omega) rfl (fun x hx => by rw [List.mem_singleton] at hx; subst hx; exact hf) hp hp'
theorem OwnN.alloc {w : World} {B : Nat} {n : Nd} {q : Pl} (h : OwnN w B n q) (o : Obj) : OwnN (w.alloc o) B n q := h.later (below_box w o)

set_option maxRecDepth 100000 in
set_option maxHeartbeats 4000000 in
theorem splitJoins6 (a : Pc) (p : Pl) (b : Pc) (q : Pl) (lo hi : ByteArray) (e : Bool) (i : Int) (w : World) (na : a.node.In) (la : Lies w a.node p) (alo : a.lo.size ≤ maxLen) (ast : a.strip.size ≤ maxLen) (nb : b.node.In) (lb : Lies w b.node q) (blo : b.lo.size ≤ maxLen) (bst : b.strip.size ≤ maxLen)
    (hlo : lo.size ≤ maxLen) (hhi : hi.size ≤ maxLen) (hiw : (Lit.int .i64 i).wf = true) :
    Calls Try.prog 6 #[pcv a p, pcv b q, av lo hi e, .int .i64 i] w fun e w' => e = .returned (.bool true) ∧ Below w.heap.size w w' := by
  obtain ⟨A0, B0, R0, hb0⟩ := boxes_qqr w (.string a.lo) (.string a.strip) (.bool a.node.leaf) (.slice p.a1 a.node.ps.length p.c1) (.slice p.a2 a.node.pv.length p.c2) (.slice p.a3 a.node.ks.length p.c3) (.slice p.a4 a.node.bf.length p.c4) (.string b.lo) (.string b.strip) (.bool b.node.leaf) (.slice q.a1 b.node.ps.length q.c1) (.slice q.a2 b.node.pv.length q.c2) (.slice q.a3 b.node.ks.length q.c3) (.slice q.a4 b.node.bf.length q.c4) (.string lo) (.string hi) (.bool e)
  have HGa := hid (fun wr (hb : Below w.heap.size w wr) => great24 a p wr na.long (la.later hb))
  have HGb := hid (fun wr (hb : Below w.heap.size w wr) => great24 b q wr nb.long (lb.later hb))
  have HSa := hid (fun g => @small_of a.node g na)
  have HSb := hid (fun g => @small_of b.node g nb)
  have HR := hid (great9 lo hi e)
  have ha := hid (fun (wr : World) (hb : Below w.heap.size w wr) => la.later hb)
  have hbb := hid (fun (wr : World) (hb : Below w.heap.size w wr) => lb.later hb)
  clear na nb la lb
  obtain ⟨p1, d1, p2, d2, p3, d3, p4, d4⟩ := p
  dsimp only [pcv] at *
  cases g1 : greatQ a
  case true =>
    rw [g1] at HGa
    clear ha hbb HGb HSa HSb HR
    go_enter Try.func6, Try.ntmps6
    obtain ⟨cA0, cA1, cA2, cA3, cA4, cA5, cA6⟩ := A0.cells
    have cAl := A0.lt
    obtain ⟨cB0, cB1, cB2, cB3, cB4, cB5, cB6⟩ := B0.cells
    have cBl := B0.lt
    obtain ⟨cR0, cR1, cR2⟩ := R0.cells
    have cRl := R0.lt
    go_wp2_with fail
    refine (HGa.out _ hb0).mono ?_
    rintro x w1 ⟨rfl, hb1⟩
    clear cA0 cA1 cA2 cA3 cA4 cA5 cA6 cAl cB0 cB1 cB2 cB3 cB4 cB5 cB6 cBl cR0 cR1 cR2 cRl
    have Ah1 := A0.later hb1
    have Bh1 := B0.later hb1
    have Rh1 := R0.later hb1
    replace hb1 := hb0.trans (hb1.mono hb0.size)
    obtain ⟨cA0, cA1, cA2, cA3, cA4, cA5, cA6⟩ := Ah1.cells
    have cAl := Ah1.lt
    obtain ⟨cB0, cB1, cB2, cB3, cB4, cB5, cB6⟩ := Bh1.cells
    have cBl := Bh1.lt
    obtain ⟨cR0, cR1, cR2⟩ := Rh1.cells
    have cRl := Rh1.lt
    go_wp2_with fail
    refine (awake9 _).mono ?_
    rintro x w2 ⟨rfl, hb2⟩
    clear cA0 cA1 cA2 cA3 cA4 cA5 cA6 cAl cB0 cB1 cB2 cB3 cB4 cB5 cB6 cBl cR0 cR1 cR2 cRl
    have Ah2 := Ah1.later hb2
    have Bh2 := Bh1.later hb2
    have Rh2 := Rh1.later hb2
    replace hb2 := hb1.trans (hb2.mono hb1.size)
    go_wp2_with fail
    go_ret
    exact ⟨rfl, hb2⟩
  case false =>
  rw [g1] at HGa
  obtain ⟨sa, ga⟩ := greatQ_no g1
  have hsa := HSa.out ga
  have hka := keys_of ga
  clear HSa g1 ga
  cases g2 : greatQ b
  case true =>
    rw [g2] at HGb
    clear ha hbb HSb HR
    go_enter Try.func6, Try.ntmps6
    obtain ⟨cA0, cA1, cA2, cA3, cA4, cA5, cA6⟩ := A0.cells
    have cAl := A0.lt
    obtain ⟨cB0, cB1, cB2, cB3, cB4, cB5, cB6⟩ := B0.cells
    have cBl := B0.lt
    obtain ⟨cR0, cR1, cR2⟩ := R0.cells
    have cRl := R0.lt
    go_wp2_with fail
    refine (HGa.out _ hb0).mono ?_
    rintro x w1 ⟨rfl, hb1⟩
    clear cA0 cA1 cA2 cA3 cA4 cA5 cA6 cAl cB0 cB1 cB2 cB3 cB4 cB5 cB6 cBl cR0 cR1 cR2 cRl
    have Ah1 := A0.later hb1
    have Bh1 := B0.later hb1
    have Rh1 := R0.later hb1
    replace hb1 := hb0.trans (hb1.mono hb0.size)
    obtain ⟨cA0, cA1, cA2, cA3, cA4, cA5, cA6⟩ := Ah1.cells
    have cAl := Ah1.lt
    obtain ⟨cB0, cB1, cB2, cB3, cB4, cB5, cB6⟩ := Bh1.cells
    have cBl := Bh1.lt
    obtain ⟨cR0, cR1, cR2⟩ := Rh1.cells
    have cRl := Rh1.lt
    go_wp2_with fail
    refine (HGb.out _ hb1).mono ?_
    rintro x w2 ⟨rfl, hb2⟩
    clear cA0 cA1 cA2 cA3 cA4 cA5 cA6 cAl cB0 cB1 cB2 cB3 cB4 cB5 cB6 cBl cR0 cR1 cR2 cRl
    have Ah2 := Ah1.later hb2
    have Bh2 := Bh1.later hb2
    have Rh2 := Rh1.later hb2
    replace hb2 := hb1.trans (hb2.mono hb1.size)
    obtain ⟨cA0, cA1, cA2, cA3, cA4, cA5, cA6⟩ := Ah2.cells
    have cAl := Ah2.lt
    obtain ⟨cB0, cB1, cB2, cB3, cB4, cB5, cB6⟩ := Bh2.cells
    have cBl := Bh2.lt
    obtain ⟨cR0, cR1, cR2⟩ := Rh2.cells
    have cRl := Rh2.lt
    go_wp2_with fail
    refine (awake9 _).mono ?_
    rintro x w3 ⟨rfl, hb3⟩
    clear cA0 cA1 cA2 cA3 cA4 cA5 cA6 cAl cB0 cB1 cB2 cB3 cB4 cB5 cB6 cBl cR0 cR1 cR2 cRl
    have Ah3 := Ah2.later hb3
    have Bh3 := Bh2.later hb3
    have Rh3 := Rh2.later hb3
    replace hb3 := hb2.trans (hb3.mono hb2.size)
    go_wp2_with fail
    go_ret
    exact ⟨rfl, hb3⟩
  case false =>
  rw [g2] at HGb
  obtain ⟨sb, gb⟩ := greatQ_no g2
  have hsb := HSb.out gb
  have hkb := keys_of gb
  clear HSb g2 gb
  cases g3 : (decide (300 < lo.size) || decide (300 < hi.size))
  case true =>
    rw [g3] at HR
    clear ha hbb
    go_enter Try.func6, Try.ntmps6
    obtain ⟨cA0, cA1, cA2, cA3, cA4, cA5, cA6⟩ := A0.cells
    have cAl := A0.lt
    obtain ⟨cB0, cB1, cB2, cB3, cB4, cB5, cB6⟩ := B0.cells
    have cBl := B0.lt
    obtain ⟨cR0, cR1, cR2⟩ := R0.cells
    have cRl := R0.lt
    go_wp2_with fail
    refine (HGa.out _ hb0).mono ?_
    rintro x w1 ⟨rfl, hb1⟩
    clear cA0 cA1 cA2 cA3 cA4 cA5 cA6 cAl cB0 cB1 cB2 cB3 cB4 cB5 cB6 cBl cR0 cR1 cR2 cRl
    have Ah1 := A0.later hb1
    have Bh1 := B0.later hb1
    have Rh1 := R0.later hb1
    replace hb1 := hb0.trans (hb1.mono hb0.size)
    obtain ⟨cA0, cA1, cA2, cA3, cA4, cA5, cA6⟩ := Ah1.cells
    have cAl := Ah1.lt
    obtain ⟨cB0, cB1, cB2, cB3, cB4, cB5, cB6⟩ := Bh1.cells
    have cBl := Bh1.lt
    obtain ⟨cR0, cR1, cR2⟩ := Rh1.cells
    have cRl := Rh1.lt
    go_wp2_with fail
    refine (HGb.out _ hb1).mono ?_
    rintro x w2 ⟨rfl, hb2⟩
    clear cA0 cA1 cA2 cA3 cA4 cA5 cA6 cAl cB0 cB1 cB2 cB3 cB4 cB5 cB6 cBl cR0 cR1 cR2 cRl
    have Ah2 := Ah1.later hb2
    have Bh2 := Bh1.later hb2
    have Rh2 := Rh1.later hb2
    replace hb2 := hb1.trans (hb2.mono hb1.size)
    obtain ⟨cA0, cA1, cA2, cA3, cA4, cA5, cA6⟩ := Ah2.cells
    have cAl := Ah2.lt
    obtain ⟨cB0, cB1, cB2, cB3, cB4, cB5, cB6⟩ := Bh2.cells
    have cBl := Bh2.lt
    obtain ⟨cR0, cR1, cR2⟩ := Rh2.cells
    have cRl := Rh2.lt
    go_wp2_with fail
    refine (HR.out _).mono ?_
    rintro x w3 ⟨rfl, hb3⟩
    clear cA0 cA1 cA2 cA3 cA4 cA5 cA6 cAl cB0 cB1 cB2 cB3 cB4 cB5 cB6 cBl cR0 cR1 cR2 cRl
    have Ah3 := Ah2.later hb3
    have Bh3 := Bh2.later hb3
    have Rh3 := Rh2.later hb3
    replace hb3 := hb2.trans (hb3.mono hb2.size)
    obtain ⟨cA0, cA1, cA2, cA3, cA4, cA5, cA6⟩ := Ah3.cells
    have cAl := Ah3.lt
    obtain ⟨cB0, cB1, cB2, cB3, cB4, cB5, cB6⟩ := Bh3.cells
    have cBl := Bh3.lt
    obtain ⟨cR0, cR1, cR2⟩ := Rh3.cells
    have cRl := Rh3.lt
    go_wp2_with fail
    refine (awake9 _).mono ?_
    rintro x w4 ⟨rfl, hb4⟩
    clear cA0 cA1 cA2 cA3 cA4 cA5 cA6 cAl cB0 cB1 cB2 cB3 cB4 cB5 cB6 cBl cR0 cR1 cR2 cRl
    have Ah4 := Ah3.later hb4
    have Bh4 := Bh3.later hb4
    have Rh4 := Rh3.later hb4
    replace hb4 := hb3.trans (hb4.mono hb3.size)
    go_wp2_with fail
    go_ret
    exact ⟨rfl, hb4⟩
  case false =>
  rw [g3] at HR
  have hlr : lo.size ≤ 1000 ∧ hi.size ≤ 1000 := by simp at g3; omega
  clear g3
  have J22 := hid (fun wr hb => join22 a b ⟨p1, d1, p2, d2, p3, d3, p4, d4⟩ q lo hi e wr hsa.few hsb.few (ha.out wr hb) (hbb.out wr hb) (by omega) (by omega) (fun x hx => Nat.le_trans (hka x hx) (by decide)) (fun x hx => Nat.le_trans (hkb x hx) (by decide)) hlr.1 hlr.2)
  have J25 := hid (fun wr hb => join25 a b ⟨p1, d1, p2, d2, p3, d3, p4, d4⟩ q lo hi e wr hsa.few hsb.few (fun m hm => (hsa.db m hm).1) (fun m hm => (hsb.db m hm).1) (ha.out wr hb) (hbb.out wr hb) (by omega) (by omega) (fun x hx => Nat.le_trans (hka x hx) (by decide)) (fun x hx => Nat.le_trans (hkb x hx) (by decide)) hlr.1 hlr.2)
  have F1 := hid (join_few a b lo hi e)
  have F2 := hid (join_small a b lo hi e)
  have HLd := hid (fun (h : joinE a b (rg lo hi e) = 0) (j : Nat) (x : Pr) (hx : a.node.ps[j]? = some x) => show has (a.strip ++ x.key).data.toList (joinP a b lo hi e).strip.data.toList = true ∧ (mayI (joinP a b lo hi e).node = 0 → (stepW (joinP a b lo hi e).node ((a.strip ++ x.key).data.toList.drop (joinP a b lo hi e).strip.size)).val = x.val) from by
    obtain ⟨hj, rfl⟩ := List.getElem?_eq_some_iff.1 hx
    rw [join_strip h]
    exact join_leads h hj)
  have hka' := hid hka
  have HAP := hid (fun (wr : World) (hb : Below w.heap.size w wr) => (ha.out wr hb).h1)
  dsimp only at HAP
  have hal := hsa.few.l1
  unfold JoinSay at J22 J25
  generalize joinP a b lo hi e = P at *
  generalize joinE a b (rg lo hi e) = ZE at *
  clear hsa hsb hka hkb hbb ha
  dsimp only [pcv] at J22 J25
  go_enter Try.func6, Try.ntmps6
  obtain ⟨cA0, cA1, cA2, cA3, cA4, cA5, cA6⟩ := A0.cells
  have cAl := A0.lt
  obtain ⟨cB0, cB1, cB2, cB3, cB4, cB5, cB6⟩ := B0.cells
  have cBl := B0.lt
  obtain ⟨cR0, cR1, cR2⟩ := R0.cells
  have cRl := R0.lt
  go_wp2_with fail
  refine (HGa.out _ hb0).mono ?_
  rintro x w1 ⟨rfl, hb1⟩
  clear cA0 cA1 cA2 cA3 cA4 cA5 cA6 cAl cB0 cB1 cB2 cB3 cB4 cB5 cB6 cBl cR0 cR1 cR2 cRl
  have Ah1 := A0.later hb1
  have Bh1 := B0.later hb1
  have Rh1 := R0.later hb1
  replace hb1 := hb0.trans (hb1.mono hb0.size)
  obtain ⟨cA0, cA1, cA2, cA3, cA4, cA5, cA6⟩ := Ah1.cells
  have cAl := Ah1.lt
  obtain ⟨cB0, cB1, cB2, cB3, cB4, cB5, cB6⟩ := Bh1.cells
  have cBl := Bh1.lt
  obtain ⟨cR0, cR1, cR2⟩ := Rh1.cells
  have cRl := Rh1.lt
  go_wp2_with fail
  refine (HGb.out _ hb1).mono ?_
  rintro x w2 ⟨rfl, hb2⟩
  clear cA0 cA1 cA2 cA3 cA4 cA5 cA6 cAl cB0 cB1 cB2 cB3 cB4 cB5 cB6 cBl cR0 cR1 cR2 cRl
  have Ah2 := Ah1.later hb2
  have Bh2 := Bh1.later hb2
  have Rh2 := Rh1.later hb2
  replace hb2 := hb1.trans (hb2.mono hb1.size)
  obtain ⟨cA0, cA1, cA2, cA3, cA4, cA5, cA6⟩ := Ah2.cells
  have cAl := Ah2.lt
  obtain ⟨cB0, cB1, cB2, cB3, cB4, cB5, cB6⟩ := Bh2.cells
  have cBl := Bh2.lt
  obtain ⟨cR0, cR1, cR2⟩ := Rh2.cells
  have cRl := Rh2.lt
  go_wp2_with fail
  refine (HR.out _).mono ?_
  rintro x w3 ⟨rfl, hb3⟩
  clear cA0 cA1 cA2 cA3 cA4 cA5 cA6 cAl cB0 cB1 cB2 cB3 cB4 cB5 cB6 cBl cR0 cR1 cR2 cRl
  have Ah3 := Ah2.later hb3
  have Bh3 := Bh2.later hb3
  have Rh3 := Rh2.later hb3
  replace hb3 := hb2.trans (hb3.mono hb2.size)
  clear HGa HGb HR
  obtain ⟨cA0, cA1, cA2, cA3, cA4, cA5, cA6⟩ := Ah3.cells
  have cAl := Ah3.lt
  obtain ⟨cB0, cB1, cB2, cB3, cB4, cB5, cB6⟩ := Bh3.cells
  have cBl := Bh3.lt
  obtain ⟨cR0, cR1, cR2⟩ := Rh3.cells
  have cRl := Rh3.lt
  go_wp2_with fail
  refine (J22.out _ hb3).mono ?_
  rintro x w4 ⟨⟨q1, rfl, U1⟩, hb4⟩
  clear cA0 cA1 cA2 cA3 cA4 cA5 cA6 cAl cB0 cB1 cB2 cB3 cB4 cB5 cB6 cBl cR0 cR1 cR2 cRl
  have Ah4 := Ah3.later hb4
  have Bh4 := Bh3.later hb4
  have Rh4 := Rh3.later hb4
  replace hb4 := hb3.trans (hb4.mono hb3.size)
  have xh5 := QBox.new w4 (.string P.lo) (.string P.strip) (.bool P.node.leaf) (.slice q1.a1 P.node.ps.length q1.c1) (.slice q1.a2 P.node.pv.length q1.c2) (.slice q1.a3 P.node.ks.length q1.c3) (.slice q1.a4 P.node.bf.length q1.c4)
  have Ah5 := Ah4.alloc (.cells #[.string P.lo, .string P.strip, .bool P.node.leaf, .slice q1.a1 P.node.ps.length q1.c1, .slice q1.a2 P.node.pv.length q1.c2, .slice q1.a3 P.node.ks.length q1.c3, .slice q1.a4 P.node.bf.length q1.c4] 36)
  have Bh5 := Bh4.alloc (.cells #[.string P.lo, .string P.strip, .bool P.node.leaf, .slice q1.a1 P.node.ps.length q1.c1, .slice q1.a2 P.node.pv.length q1.c2, .slice q1.a3 P.node.ks.length q1.c3, .slice q1.a4 P.node.bf.length q1.c4] 36)
  have Rh5 := Rh4.alloc (.cells #[.string P.lo, .string P.strip, .bool P.node.leaf, .slice q1.a1 P.node.ps.length q1.c1, .slice q1.a2 P.node.pv.length q1.c2, .slice q1.a3 P.node.ks.length q1.c3, .slice q1.a4 P.node.bf.length q1.c4] 36)
  have U1h5 := U1.alloc (.cells #[.string P.lo, .string P.strip, .bool P.node.leaf, .slice q1.a1 P.node.ps.length q1.c1, .slice q1.a2 P.node.pv.length q1.c2, .slice q1.a3 P.node.ks.length q1.c3, .slice q1.a4 P.node.bf.length q1.c4] 36)
  have hb5 := hb4.alloc hb4.size (.cells #[.string P.lo, .string P.strip, .bool P.node.leaf, .slice q1.a1 P.node.ps.length q1.c1, .slice q1.a2 P.node.pv.length q1.c2, .slice q1.a3 P.node.ks.length q1.c3, .slice q1.a4 P.node.bf.length q1.c4] 36)
  go_upto_region 4 with fail
  generalize hkx : w4.heap.size = kx at *
  clear hkx
  generalize w4.alloc (.cells #[.string P.lo, .string P.strip, .bool P.node.leaf, .slice q1.a1 P.node.ps.length q1.c1, .slice q1.a2 P.node.pv.length q1.c2, .slice q1.a3 P.node.ks.length q1.c3, .slice q1.a4 P.node.bf.length q1.c4] 36) = w5 at *
  obtain ⟨cA0, cA1, cA2, cA3, cA4, cA5, cA6⟩ := Ah5.cells
  have cAl := Ah5.lt
  obtain ⟨cB0, cB1, cB2, cB3, cB4, cB5, cB6⟩ := Bh5.cells
  have cBl := Bh5.lt
  obtain ⟨cR0, cR1, cR2⟩ := Rh5.cells
  have cRl := Rh5.lt
  obtain ⟨cx0, cx1, cx2, cx3, cx4, cx5, cx6⟩ := xh5.cells
  have cxl := xh5.lt
  go_wp2_with fail
  refine (J25.out _ hb5).mono ?_
  rintro x w6 ⟨⟨q2, rfl, U2⟩, hb6⟩
  clear cA0 cA1 cA2 cA3 cA4 cA5 cA6 cAl cB0 cB1 cB2 cB3 cB4 cB5 cB6 cBl cR0 cR1 cR2 cRl cx0 cx1 cx2 cx3 cx4 cx5 cx6 cxl
  have Ah6 := Ah5.later hb6
  have Bh6 := Bh5.later hb6
  have Rh6 := Rh5.later hb6
  have U1h6 := U1h5.later hb6
  have xh6 := xh5.later hb6
  replace hb6 := hb5.trans (hb6.mono hb5.size)
  have yh7 := QBox.new w6 (.string P.lo) (.string P.strip) (.bool P.node.leaf) (.slice q2.a1 P.node.ps.length q2.c1) (.slice q2.a2 P.node.pv.length q2.c2) (.slice q2.a3 P.node.ks.length q2.c3) (.slice q2.a4 P.node.bf.length q2.c4)
  have Ah7 := Ah6.alloc (.cells #[.string P.lo, .string P.strip, .bool P.node.leaf, .slice q2.a1 P.node.ps.length q2.c1, .slice q2.a2 P.node.pv.length q2.c2, .slice q2.a3 P.node.ks.length q2.c3, .slice q2.a4 P.node.bf.length q2.c4] 36)
  have Bh7 := Bh6.alloc (.cells #[.string P.lo, .string P.strip, .bool P.node.leaf, .slice q2.a1 P.node.ps.length q2.c1, .slice q2.a2 P.node.pv.length q2.c2, .slice q2.a3 P.node.ks.length q2.c3, .slice q2.a4 P.node.bf.length q2.c4] 36)
  have Rh7 := Rh6.alloc (.cells #[.string P.lo, .string P.strip, .bool P.node.leaf, .slice q2.a1 P.node.ps.length q2.c1, .slice q2.a2 P.node.pv.length q2.c2, .slice q2.a3 P.node.ks.length q2.c3, .slice q2.a4 P.node.bf.length q2.c4] 36)
  have U1h7 := U1h6.alloc (.cells #[.string P.lo, .string P.strip, .bool P.node.leaf, .slice q2.a1 P.node.ps.length q2.c1, .slice q2.a2 P.node.pv.length q2.c2, .slice q2.a3 P.node.ks.length q2.c3, .slice q2.a4 P.node.bf.length q2.c4] 36)
  have xh7 := xh6.alloc (.cells #[.string P.lo, .string P.strip, .bool P.node.leaf, .slice q2.a1 P.node.ps.length q2.c1, .slice q2.a2 P.node.pv.length q2.c2, .slice q2.a3 P.node.ks.length q2.c3, .slice q2.a4 P.node.bf.length q2.c4] 36)
  have U2h7 := U2.alloc (.cells #[.string P.lo, .string P.strip, .bool P.node.leaf, .slice q2.a1 P.node.ps.length q2.c1, .slice q2.a2 P.node.pv.length q2.c2, .slice q2.a3 P.node.ks.length q2.c3, .slice q2.a4 P.node.bf.length q2.c4] 36)
  have hb7 := hb6.alloc hb6.size (.cells #[.string P.lo, .string P.strip, .bool P.node.leaf, .slice q2.a1 P.node.ps.length q2.c1, .slice q2.a2 P.node.pv.length q2.c2, .slice q2.a3 P.node.ks.length q2.c3, .slice q2.a4 P.node.bf.length q2.c4] 36)
  go_upto_region 5 with fail
  generalize hky : w6.heap.size = ky at *
  clear hky
  generalize w6.alloc (.cells #[.string P.lo, .string P.strip, .bool P.node.leaf, .slice q2.a1 P.node.ps.length q2.c1, .slice q2.a2 P.node.pv.length q2.c2, .slice q2.a3 P.node.ks.length q2.c3, .slice q2.a4 P.node.bf.length q2.c4] 36) = w7 at *
  clear J22 J25
  obtain ⟨cA0, cA1, cA2, cA3, cA4, cA5, cA6⟩ := Ah7.cells
  have cAl := Ah7.lt
  obtain ⟨cB0, cB1, cB2, cB3, cB4, cB5, cB6⟩ := Bh7.cells
  have cBl := Bh7.lt
  obtain ⟨cR0, cR1, cR2⟩ := Rh7.cells
  have cRl := Rh7.lt
  obtain ⟨cx0, cx1, cx2, cx3, cx4, cx5, cx6⟩ := xh7.cells
  have cxl := xh7.lt
  obtain ⟨cy0, cy1, cy2, cy3, cy4, cy5, cy6⟩ := yh7.cells
  have cyl := yh7.lt
  have V1 := pcs_one w7 P q1 U1h7.lies
  have V2 := pcs_one (w7.alloc (.cells #[.string P.lo, .string P.strip, .bool P.node.leaf, .slice q1.a1 P.node.ps.length q1.c1, .slice q1.a2 P.node.pv.length q1.c2, .slice q1.a3 P.node.ks.length q1.c3, .slice q1.a4 P.node.bf.length q1.c4] 36)) P q2 (U2h7.alloc _).lies
  have V1 := V1.later (below_box _ (.cells #[.string P.lo, .string P.strip, .bool P.node.leaf, .slice q2.a1 P.node.ps.length q2.c1, .slice q2.a2 P.node.pv.length q2.c2, .slice q2.a3 P.node.ks.length q2.c3, .slice q2.a4 P.node.bf.length q2.c4] 36))
  rw [show (w7.alloc (.cells #[.string P.lo, .string P.strip, .bool P.node.leaf, .slice q1.a1 P.node.ps.length q1.c1, .slice q1.a2 P.node.pv.length q1.c2, .slice q1.a3 P.node.ks.length q1.c3, .slice q1.a4 P.node.bf.length q1.c4] 36)).heap.size = w7.heap.size + 1 by simp] at V2
  have SS := same_one P q1 q2 F1.out _ _ _ V1 V2
  have bS := (below_box w7 (.cells #[.string P.lo, .string P.strip, .bool P.node.leaf, .slice q1.a1 P.node.ps.length q1.c1, .slice q1.a2 P.node.pv.length q1.c2, .slice q1.a3 P.node.ks.length q1.c3, .slice q1.a4 P.node.bf.length q1.c4] 36)).alloc (by simp) (.cells #[.string P.lo, .string P.strip, .bool P.node.leaf, .slice q2.a1 P.node.ps.length q2.c1, .slice q2.a2 P.node.pv.length q2.c2, .slice q2.a3 P.node.ks.length q2.c3, .slice q2.a4 P.node.bf.length q2.c4] 36)
  clear V1 V2
  go_wp2_with fail
  refine SS.mono ?_
  rintro v wz ⟨rfl, hbz⟩
  clear cA0 cA1 cA2 cA3 cA4 cA5 cA6 cAl cB0 cB1 cB2 cB3 cB4 cB5 cB6 cBl cR0 cR1 cR2 cRl cx0 cx1 cx2 cx3 cx4 cx5 cx6 cxl cy0 cy1 cy2 cy3 cy4 cy5 cy6 cyl
  replace hbz := bS.trans (hbz.mono bS.size)
  clear SS bS
  have Az := Ah7.later hbz
  have Bz := Bh7.later hbz
  have Rz := Rh7.later hbz
  have U1z := U1h7.later hbz
  have xz := xh7.later hbz
  have U2z := U2h7.later hbz
  have yz := yh7.later hbz
  replace hbz := hb7.trans (hbz.mono hb7.size)
  by_cases hZ : ZE = 0
  case neg =>
    obtain ⟨cA0, cA1, cA2, cA3, cA4, cA5, cA6⟩ := Az.cells
    have cAl := Az.lt
    obtain ⟨cB0, cB1, cB2, cB3, cB4, cB5, cB6⟩ := Bz.cells
    have cBl := Bz.lt
    obtain ⟨cR0, cR1, cR2⟩ := Rz.cells
    have cRl := Rz.lt
    obtain ⟨cx0, cx1, cx2, cx3, cx4, cx5, cx6⟩ := xz.cells
    have cxl := xz.lt
    obtain ⟨cy0, cy1, cy2, cy3, cy4, cy5, cy6⟩ := yz.cells
    have cyl := yz.lt
    go_wp2_with fail
    refine (awake9 _).mono ?_
    rintro x w9 ⟨rfl, hb9⟩
    clear cA0 cA1 cA2 cA3 cA4 cA5 cA6 cAl cB0 cB1 cB2 cB3 cB4 cB5 cB6 cBl cR0 cR1 cR2 cRl cx0 cx1 cx2 cx3 cx4 cx5 cx6 cxl cy0 cy1 cy2 cy3 cy4 cy5 cy6 cyl
    have Ah9 := Az.later hb9
    have Bh9 := Bz.later hb9
    have Rh9 := Rz.later hb9
    have U1h9 := U1z.later hb9
    have xh9 := xz.later hb9
    have U2h9 := U2z.later hb9
    have yh9 := yz.later hb9
    replace hb9 := hbz.trans (hb9.mono hbz.size)
    go_wp2_with fail
    go_ret
    exact ⟨rfl, hb9⟩
  case pos =>
  have HLe := hid (HLd.out hZ)
  clear HLd
  subst hZ
  by_cases hi0 : i < 0
  case pos =>
    obtain ⟨cA0, cA1, cA2, cA3, cA4, cA5, cA6⟩ := Az.cells
    have cAl := Az.lt
    obtain ⟨cB0, cB1, cB2, cB3, cB4, cB5, cB6⟩ := Bz.cells
    have cBl := Bz.lt
    obtain ⟨cR0, cR1, cR2⟩ := Rz.cells
    have cRl := Rz.lt
    obtain ⟨cx0, cx1, cx2, cx3, cx4, cx5, cx6⟩ := xz.cells
    have cxl := xz.lt
    obtain ⟨cy0, cy1, cy2, cy3, cy4, cy5, cy6⟩ := yz.cells
    have cyl := yz.lt
    go_wp2_with fail
    refine (awake9 _).mono ?_
    rintro x w9 ⟨rfl, hb9⟩
    clear cA0 cA1 cA2 cA3 cA4 cA5 cA6 cAl cB0 cB1 cB2 cB3 cB4 cB5 cB6 cBl cR0 cR1 cR2 cRl cx0 cx1 cx2 cx3 cx4 cx5 cx6 cxl cy0 cy1 cy2 cy3 cy4 cy5 cy6 cyl
    have Ah9 := Az.later hb9
    have Bh9 := Bz.later hb9
    have Rh9 := Rz.later hb9
    have U1h9 := U1z.later hb9
    have xh9 := xz.later hb9
    have U2h9 := U2z.later hb9
    have yh9 := yz.later hb9
    replace hb9 := hbz.trans (hb9.mono hbz.size)
    go_wp2_with fail
    go_ret
    exact ⟨rfl, hb9⟩
  case neg =>
  by_cases hil : (a.node.ps.length : Int) ≤ i
  case pos =>
    obtain ⟨cA0, cA1, cA2, cA3, cA4, cA5, cA6⟩ := Az.cells
    have cAl := Az.lt
    obtain ⟨cB0, cB1, cB2, cB3, cB4, cB5, cB6⟩ := Bz.cells
    have cBl := Bz.lt
    obtain ⟨cR0, cR1, cR2⟩ := Rz.cells
    have cRl := Rz.lt
    obtain ⟨cx0, cx1, cx2, cx3, cx4, cx5, cx6⟩ := xz.cells
    have cxl := xz.lt
    obtain ⟨cy0, cy1, cy2, cy3, cy4, cy5, cy6⟩ := yz.cells
    have cyl := yz.lt
    go_wp2_with fail
    refine (awake9 _).mono ?_
    rintro x w9 ⟨rfl, hb9⟩
    clear cA0 cA1 cA2 cA3 cA4 cA5 cA6 cAl cB0 cB1 cB2 cB3 cB4 cB5 cB6 cBl cR0 cR1 cR2 cRl cx0 cx1 cx2 cx3 cx4 cx5 cx6 cxl cy0 cy1 cy2 cy3 cy4 cy5 cy6 cyl
    have Ah9 := Az.later hb9
    have Bh9 := Bz.later hb9
    have Rh9 := Rz.later hb9
    have U1h9 := U1z.later hb9
    have xh9 := xz.later hb9
    have U2h9 := U2z.later hb9
    have yh9 := yz.later hb9
    replace hb9 := hbz.trans (hb9.mono hbz.size)
    go_wp2_with fail
    go_ret
    exact ⟨rfl, hb9⟩
  case neg =>
  obtain ⟨j, rfl⟩ : ∃ j : Nat, i = (j : Int) := ⟨i.toNat, by omega⟩
  have hj : j < a.node.ps.length := by omega
  have hjn : (j : Int) < (a.node.ps.length : Int) := by omega
  obtain ⟨cA0, cA1, cA2, cA3, cA4, cA5, cA6⟩ := Az.cells
  have cAl := Az.lt
  obtain ⟨cB0, cB1, cB2, cB3, cB4, cB5, cB6⟩ := Bz.cells
  have cBl := Bz.lt
  obtain ⟨cR0, cR1, cR2⟩ := Rz.cells
  have cRl := Rz.lt
  obtain ⟨cx0, cx1, cx2, cx3, cx4, cx5, cx6⟩ := xz.cells
  have cxl := xz.lt
  obtain ⟨cy0, cy1, cy2, cy3, cy4, cy5, cy6⟩ := yz.cells
  have cyl := yz.lt
  go_upto_region 9 with fail
  clear cA0 cA1 cA2 cA3 cA4 cA5 cA6 cAl cB0 cB1 cB2 cB3 cB4 cB5 cB6 cBl cR0 cR1 cR2 cRl cx0 cx1 cx2 cx3 cx4 cx5 cx6 cxl cy0 cy1 cy2 cy3 cy4 cy5 cy6 cyl
  obtain ⟨k0, off, hpa, T0⟩ := (HAP.out wz hbz).at hj
  obtain ⟨y, hy⟩ : ∃ y, a.node.ps[j]? = some y := ⟨_, List.getElem?_eq_getElem hj⟩
  have hye : a.node.ps[j] = y := by rw [List.getElem?_eq_getElem hj] at hy; exact Option.some.inj hy
  rw [hye] at T0
  have hk := hka'.out y (by rw [← hye]; exact List.getElem_mem hj)
  obtain ⟨hh, hval⟩ := HLe.out j y hy
  clear hy hye hka' HLe HAP
  subst hpa
  obtain ⟨xk, xv⟩ := y
  dsimp only at hk hh hval
  have hcat : ¬ 9223372036854775807 < a.strip.size + xk.size := by omega
  refine wp_region_quiet (C := fun u => Below wz.heap.size wz u) (by kernel_rfl) (by kernel_rfl) (Below.refl _ wz).drew ?_
  change wpQuiet _ _ _ _ (_ :: _) _
  repeat
    first
      | go_big_quiet_skip
      | go_big_quiet_want
        refine quiet_v ?_ ?_ ?_
        rotate_left
        · intro u hu
          obtain ⟨m0, m1⟩ := T0.below hu T0.lt
          dsimp only at m0 m1
          obtain ⟨z0, z1, z2, z3, z4, z5, z6⟩ := (Az.later hu).cells
          go_simp
          with_reducible rfl
        go_simp
        go_big_quiet_on
  refine wpQuiet_nil (fun u hu => ?_)
  obtain ⟨wa, rfl⟩ : ∃ w', w' = u := ⟨_, rfl⟩
  have T1 := T0.later hu
  have Aa := Az.later hu
  have Xa := xz.later hu
  have Ua := U1z.later hu
  have hba := hbz.trans (hu.mono hbz.size)
  clear Az xz U1z T0 hu hbz
  have hkz : (a.strip ++ xk).size ≤ 1000 := by rw [ByteArray.size_append]; omega
  have HH := hid (fun wr => has22 (a.strip ++ xk) P.strip wr)
  rw [hh] at HH
  have hle := has_size hh
  have HM := hid (fun wr (hl : Lies wr P.node q1) => may13 P.node q1 wr F2.out.few hl (fun m hm => (F2.out.db m hm).1))
  have HSt := hid (fun wr (hl : Lies wr P.node q1) => step20 P.node q1 ((a.strip ++ xk).extract P.strip.size (a.strip ++ xk).size) wr F2.out (by rw [ByteArray.size_extract]; omega) hl)
  rw [ext_data] at HSt
  clear F1 F2 hh
  generalize a.strip ++ xk = k at *
  by_cases hMI : mayI P.node = 0
  case neg =>
    generalize mayI P.node = MI at *
    obtain ⟨z0, z1, z2, z3, z4, z5, z6⟩ := Xa.cells
    go_wp2_with fail
    refine (HH.out _).mono ?_
    rintro v wb ⟨rfl, rfl⟩
    go_wp2_with fail
    refine (HM.out _ Ua.lies).mono ?_
    rintro v wc ⟨rfl, hbc⟩
    have Xc := Xa.later hbc
    replace hbc := hba.trans (hbc.mono hba.size)
    clear z0 z1 z2 z3 z4 z5 z6
    obtain ⟨z0, z1, z2, z3, z4, z5, z6⟩ := Xc.cells
    go_wp2_with fail
    refine (HH.out _).mono ?_
    rintro v wd ⟨rfl, rfl⟩
    go_wp2_with fail
    refine (awake9 _).mono ?_
    rintro v we ⟨rfl, hbe⟩
    go_wp2_with fail
    go_ret
    exact ⟨rfl, hbc.trans (hbe.mono hbc.size)⟩
  case pos =>
    have hval := hval hMI
    rw [hMI] at HM
    obtain ⟨z0, z1, z2, z3, z4, z5, z6⟩ := Xa.cells
    go_wp2_with fail
    refine (HH.out _).mono ?_
    rintro v wb ⟨rfl, rfl⟩
    go_wp2_with fail
    refine (HM.out _ Ua.lies).mono ?_
    rintro v wc ⟨rfl, hbc⟩
    have Xc := Xa.later hbc
    have Ac := Aa.later hbc
    have Uc := Ua.later hbc
    have Tc := T1.later hbc
    replace hbc := hba.trans (hbc.mono hba.size)
    clear z0 z1 z2 z3 z4 z5 z6 Xa Aa Ua T1 hba
    generalize stepW P.node (k.data.toList.drop P.strip.size) = y at *
    obtain ⟨yk, yv, yb, yd, yy⟩ := y
    dsimp only at hval
    subst hval
    have hfd : ∀ w : World, (Instr.field 56 (.agg #[.int .u8 yk, .string yv, .int .u32 yb, .int .u16 yd, .string yy]) 1).run Try.prog w = .ok (.string yv) w := fun _ => by kernel_rfl
    have hle' : (P.strip.size : Int) ≤ (k.size : Int) := by omega
    have hsc := hbc.size
    go_upto_region 12 with fail
    refine wp_region_quiet (C := fun u => Below wc.heap.size wc u) (by kernel_rfl) (by kernel_rfl) (Below.refl _ wc).drew ?_
    change wpQuiet _ _ _ _ (_ :: _) _
    repeat
      first
        | go_big_quiet_skip
        | go_big_quiet_want
          first
            | refine quiet_v ?_ ?_ ?_
              rotate_left
              · intro u hu
                obtain ⟨m0, m1⟩ := Tc.below hu Tc.lt
                dsimp only at m0 m1
                obtain ⟨z0, z1, z2, z3, z4, z5, z6⟩ := (Ac.later hu).cells
                obtain ⟨x0, x1, x2, x3, x4, x5, x6⟩ := (Xc.later hu).cells
                go_simp
                with_reducible rfl
            | refine quiet_c (.agg #[.int .u8 yk, .string yv, .int .u32 yb, .int .u16 yd, .string yy]) 21 #[nv P.node q1, .string (k.extract P.strip.size k.size)] ?_ (fun u hu => (HSt.out u (Uc.later hu).lies).mono fun x u' h => ⟨h.1, hu.trans (h.2.mono hu.size)⟩) ?_
              · intro u hu
                go_simp
                done
            | refine quiet_c (.bool true) 9 #[] ?_ (fun u hu => (awake9 u).mono fun x u' h => ⟨h.1, hu.trans (h.2.mono hu.size)⟩) ?_
              · intro u hu
                go_simp
                done
          go_simp
          go_big_quiet_on
    refine wpQuiet_nil (fun u hu => ?_)
    go_wp2_with fail
    go_ret
    exact ⟨rfl, hbc.trans (hu.mono hsc)⟩
end Go.Proofs.Ytlkcoaencliajaa.Key

namespace Go.Proofs.Ytlkcoaencliajaa.Key
open Go.RowKit Go.Joins Go.WideShapes
open Go.Op (bytesLess)
set_option linter.unusedVariables false

set_option maxRecDepth 100000 in
theorem cells36 : Try.prog.cellsOf 36 = 7 := by kernel_rfl
theorem seven_cells {α : Type} {l : List α} (h : l.length = 7) : ∃ a b c d e f g, l = [a, b, c, d, e, f, g] := by
  match l, h with
  | [a, b, c, d, e, f, g], _ => exact ⟨a, b, c, d, e, f, g, rfl⟩
set_option maxRecDepth 100000 in
theorem trod_node {H : Type} {enc : TypeId × Value → H} {W : World} {fuel : Nat} {cs : List Value} {x : DataW H × List MemPlace} (h : DataW.trod enc Try.prog W 0 (fun _ => true) true fuel 27 cs = some x) :
    ∃ (n : Nd) (p : Pl), cs = [.bool n.leaf, .slice p.a1 n.ps.length p.c1, .slice p.a2 n.pv.length p.c2, .slice p.a3 n.ks.length p.c3, .slice p.a4 n.bf.length p.c4] ∧ Lies W n p ∧ n.In := by
  obtain ⟨xs, k, _, _, hl, hlen, hf⟩ := DataW.trod_struct Try.underlying27 h
  rw [cells27] at hl
  obtain ⟨v0, v1, v2, v3, v4, rfl⟩ := five_cells hl
  obtain ⟨c4, c22, c23, c24, c25⟩ := ones
  obtain ⟨y0, y1, y2, y3, y4, rfl⟩ := five_cells hlen
  have g0 := hf 0 _ rfl
  have g1 := hf 1 _ rfl
  have g2 := hf 2 _ rfl
  have g3 := hf 3 _ rfl
  have g4 := hf 4 _ rfl
  simp [c4, c22, c23, c24, c25] at g0 g1 g2 g3 g4
  obtain ⟨lf, e0, _⟩ := DataW.trod_bool Try.underlying4 g0
  simp at e0
  subst e0
  obtain ⟨a1, n1, c1, rfl⟩ := is_slice Try.underlying22 g1
  obtain ⟨a2, n2, c2, rfl⟩ := is_slice Try.underlying23 g2
  obtain ⟨a3, n3, c3, rfl⟩ := is_slice Try.underlying24 g3
  obtain ⟨a4, n4, c4, rfl⟩ := is_slice Try.underlying25 g4
  obtain ⟨q1, h1, rfl, i1, j1, z1, _⟩ := opened_pairs ⟨_, g1⟩
  obtain ⟨q2, h2, rfl, i2, j2, z2, _⟩ := opened_txts ⟨_, g2⟩
  obtain ⟨q3, h3, rfl, i3, j3, z3, k3⟩ := opened_edges ⟨_, g3⟩
  obtain ⟨q4, h4, rfl, i4, j4, z4, k4⟩ := opened_msgs ⟨_, g4⟩
  exact ⟨⟨lf, q1, q2, q3, q4⟩, ⟨a1, c1, a2, c2, a3, c3, a4, c4⟩, rfl, ⟨h1, h2, h3, h4⟩, ⟨by dsimp only; omega, by dsimp only; omega, by dsimp only; omega, by dsimp only; omega, k3, k4⟩⟩
set_option maxRecDepth 100000 in
theorem opened_piece {H : Type} {enc : TypeId × Value → H} {W : World} {b0 : Nat} {r : Reach} {v : Value} {d : DataW H} {ps : List MemPlace} (hv : Value.okWide Try.prog W r b0 36 v) (h : DataW.Trod enc Try.prog W 0 (fun _ => true) true 36 v d ps) :
    ∃ (x : Pc) (q : Pl), v = pcv x q ∧ Lies W x.node q ∧ x.node.In ∧ x.lo.size ≤ maxLen ∧ x.strip.size ≤ maxLen := by
  obtain ⟨cs, rfl, hsz⟩ := okWide_struct Try.underlying36 hv
  obtain ⟨fuel, hf⟩ := h
  obtain ⟨xs, k, _, _, hl, hlen, hf⟩ := DataW.trod_struct Try.underlying36 hf
  rw [cells36] at hl
  obtain ⟨l⟩ := cs
  simp only [Value.cells] at hl hf
  obtain ⟨v0, v1, v2, v3, v4, v5, v6, rfl⟩ := seven_cells hl
  have c9 := one9
  obtain ⟨y0, y1, y2, rfl⟩ := three_cells hlen
  have g0 := hf 0 _ rfl
  have g1 := hf 1 _ rfl
  have g2 := hf 2 _ rfl
  simp [c9, cells27] at g0 g1 g2
  obtain ⟨lo, e0, _, w0⟩ := DataW.trod_string Try.underlying9 g0
  obtain ⟨st, e1, _, w1⟩ := DataW.trod_string Try.underlying9 g1
  obtain ⟨n, p, e2, w2, w3⟩ := trod_node g2
  simp at e0 e1 e2
  obtain ⟨rfl, rfl, rfl, rfl, rfl⟩ := e2
  subst e0 e1
  exact ⟨⟨lo, st, n⟩, p, rfl, w2, w3, w0, w1⟩
end Go.Proofs.Ytlkcoaencliajaa.Key

namespace Go.Proofs.Ytlkcoaencliajaa.splitJoins
open Go.ChangeShapes Go.WideShapes Go.ChangeAt Go.RowKit Go.Joins
open Go.Op (bytesLess)
set_option linter.unusedVariables false

theorem own : ownKnob Try.prog.godebug = none := by kernel_rfl
theorem laidOut : laidOutB Try.prog = true := by kernel_rfl
theorem cells29 : Try.prog.cellsOf 29 = 3 := by kernel_rfl

set_option maxRecDepth 100000 in
set_option maxHeartbeats 4000000 in
theorem walk (u0 : Key.Pc) (q0 : Key.Pl) (u1 : Key.Pc) (q1 : Key.Pl) (lo2 hi2 : ByteArray) (e2 : Bool) (n3 : Int) (w : World) (wl0 : Key.Lies w u0.node q0) (wn0 : Key.Nd.In u0.node) (wlo0 : u0.lo.size ≤ maxLen) (wst0 : u0.strip.size ≤ maxLen) (wl1 : Key.Lies w u1.node q1) (wn1 : Key.Nd.In u1.node) (wlo1 : u1.lo.size ≤ maxLen) (wst1 : u1.strip.size ≤ maxLen) (wlo2 : lo2.size ≤ maxLen) (whi2 : hi2.size ≤ maxLen) (wi3 : (Lit.int .i64 n3).wf = true) :
    Calls Try.prog 6 #[Key.pcv u0 q0, Key.pcv u1 q1, Key.av lo2 hi2 e2, .int .i64 n3] w fun e w' => e = .returned (.bool true) ∧ Below w.heap.size w w' := by
  exact Key.splitJoins6 u0 q0 u1 q1 lo2 hi2 e2 n3 w wn0 wl0 wlo0 wst0 wn1 wl1 wlo1 wst1 wlo2 whi2 wi3

set_option maxRecDepth 100000 in
theorem lifted (os : Os) (started : os.Started) (H : Type) (enc : TypeId × Value → H) :
    ReturnsInHanded {} Try.checked os 6 .any (Rows.splitJoinsSpec.pre6 enc Try.prog Try.f6 Rows.splitJoinsRow.domain false) (Rows.splitJoinsSpec.post enc Try.prog Try.f6 false true false false) := by
  refine returnsInHanded_of_change (C := Try.checked) own started (by kernel_rfl) Try.func6
    (ChangeSpec.witness6 (enc := enc) (C := Try.checked) false ⟨#[], #[.agg #[.string ByteArray.empty, .string ByteArray.empty, .bool false, .slice none 0 0, .slice none 0 0, .slice none 0 0, .slice none 0 0], .agg #[.string ByteArray.empty, .string ByteArray.empty, .bool false, .slice none 0 0, .slice none 0 0, .slice none 0 0, .slice none 0 0], .agg #[.string ByteArray.empty, .string ByteArray.empty, .bool false], .int .i64 0], []⟩ 8 (by kernel_rfl) (by kernel_rfl) (by kernel_rfl) (by kernel_rfl)) ?_
  intro W base args ds gs before hval0 hW hcnd _
  have hval : ∀ (j : Nat) t v, Try.f6.params[j]? = some t → args[j]? = some v → Value.okWide Try.prog W .any base t v := hval0
  have hW' := hW
  obtain ⟨p, q, hA0, hV, rfl, hfz, hnd⟩ := hW
  have hA : DataW.TrodAll enc Try.prog W 0 (fun _ => true) true Try.f6.params.toList args.toList ds p := hA0
  rw [Try.params6] at hA hval
  obtain ⟨v0, vs0, d0, ds0, pp0, qq0, hargs, rfl, rfl, g0, r0⟩ := trodAll_cons hA
  obtain ⟨v1, vs1, d1, ds1, pp1, qq1, rfl, rfl, rfl, g1, r1⟩ := trodAll_cons r0
  obtain ⟨v2, vs2, d2, ds2, pp2, qq2, rfl, rfl, rfl, g2, r2⟩ := trodAll_cons r1
  obtain ⟨v3, vs3, d3, ds3, pp3, qq3, rfl, rfl, rfl, g3, r3⟩ := trodAll_cons r2
  obtain ⟨rfl, rfl, rfl⟩ := trodAll_nil r3
  obtain rfl : args = #[v0, v1, v2, v3] := by cases args; simp_all
  obtain ⟨rfl, rfl⟩ := trodVars_none hV
  have k0 := g0
  have lt0 : ∀ x ∈ pp0, x.block < W.heap.size := by obtain ⟨m, hm⟩ := k0; exact DataW.trod_lt m _ _ _ hm
  obtain ⟨u0, q0, rfl, wl0, wn0, wlo0, wst0⟩ := Key.opened_piece (hval 0 36 v0 rfl rfl) g0
  have k1 := g1
  have lt1 : ∀ x ∈ pp1, x.block < W.heap.size := by obtain ⟨m, hm⟩ := k1; exact DataW.trod_lt m _ _ _ hm
  obtain ⟨u1, q1, rfl, wl1, wn1, wlo1, wst1⟩ := Key.opened_piece (hval 1 36 v1 rfl rfl) g1
  have k2 := g2
  have lt2 : ∀ x ∈ pp2, x.block < W.heap.size := by obtain ⟨m, hm⟩ := k2; exact DataW.trod_lt m _ _ _ hm
  obtain ⟨x2, y2, z2, dx2, dy2, dz2, mm2, rfl, rfl, rfl, hx2, hy2, hz2⟩ := open_agg3 Try.underlying29 (by kernel_rfl) cells29 (hval 2 29 v2 rfl rfl) g2
  obtain ⟨lo2, el2, rfl, wlo2⟩ := DataW.trod_string Try.underlying9 hx2
  obtain ⟨hi2, eh2, rfl, whi2⟩ := DataW.trod_string Try.underlying9 hy2
  obtain ⟨e2, ee2, rfl⟩ := DataW.trod_bool Try.underlying4 hz2
  simp at el2 eh2 ee2
  subst el2 eh2 ee2
  have k3 := g3
  have lt3 : ∀ x ∈ pp3, x.block < W.heap.size := by obtain ⟨m, hm⟩ := k3; exact DataW.trod_lt m _ _ _ hm
  obtain ⟨n3, rfl, rfl, rfl, wi3⟩ := open_int Try.underlying3 (hval 3 3 v3 rfl rfl) g3
  clear hA0 hval0
  refine (walk u0 q0 u1 q1 lo2 hi2 e2 n3 W wl0 wn0 wlo0 wst0 wl1 wn1 wlo1 wst1 wlo2 whi2 wi3).mono fun e W' ⟨he, bel⟩ => ?_
  subst he
  exact ⟨_, rfl, _, _, _, [], _, [], hW', trodAll_mk1 (shut_bool Try.underlying4 _), (trodAll_cons_mk (Below.trod laidOut (by kernel_rfl) (of_decide_eq_true (by kernel_rfl)) k0 bel lt0) (trodAll_cons_mk (Below.trod laidOut (by kernel_rfl) (of_decide_eq_true (by kernel_rfl)) k1 bel lt1) (trodAll_cons_mk (Below.trod laidOut (by kernel_rfl) (of_decide_eq_true (by kernel_rfl)) k2 bel lt2) (trodAll_cons_mk (Below.trod laidOut (by kernel_rfl) (of_decide_eq_true (by kernel_rfl)) k3 bel lt3) trodAll_mk0)))), rfl, bel.frame _, fun h => by cases h⟩

theorem over : Rows.splitJoinsRow.holds Try.pinned (OpenSpec.ofChange Rows.splitJoinsSpec) :=
  OpenClaim.holds_of_wide 6 Try.f6 rfl rfl rfl rfl rfl rfl rfl ⟨rfl, rfl, rfl, rfl, rfl⟩ rfl rfl rfl rfl rfl (by kernel_rfl) Try.func6 (by kernel_rfl)
    (of_decide_eq_true (by kernel_rfl)) (by unfold Func.isWrapper; first | (rw [if_pos (by decide +kernel)]; kernel_rfl) | (rw [if_neg (by decide +kernel)]; exact ⟨rfl, rfl⟩))
    (fun os started H enc _ => lifted os started H enc)

/-- the statement -/
theorem proved : Rows.SplitJoinsSaid := over
#print axioms proved
end Go.Proofs.Ytlkcoaencliajaa.splitJoins
