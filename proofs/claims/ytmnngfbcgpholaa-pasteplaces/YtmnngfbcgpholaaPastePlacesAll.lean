/-
  Proved: the call of the statement PastePlaces returns true for every node and integer (the node with a Goto pasted, or the error, is the document's; so is the place of the oldest Goto), and they read afterwards as they read before. No condition.
  The frame of the row's step was written by the guide's proof-skeleton.mjs, turned; the walk is this text's own.
  A Goto pasted, plainly: the kids around it, the messages that stay. No program is named here.
  Parts (a kid, and from which key on) in memory; contract of within: the kids in whose range a key of a range is.
  Slices of parts; contract of fork: a node with these kids.
  Contract of others: those messages that speak of other keys, too.
  Contract of around: the kids of a node with a Goto pasted.
  Contracts of First, the program's and the document's.
  A node with a Goto pasted, plainly: how many kids it has, that it may be but for those, and how deep it is. No program is named here.
  Contract of Paste, the program's.
  Contract of awake: the document's example.
  Contract of Deep, the document's; how deep a node with a Goto pasted is.
  A node with a Goto pasted is small; a node's answer put into a block; what the regions 'x, e := Paste(n, First(n))' want.
  The document's Paste, plainly: what its loops have made so far. No program is named here.
  Contract of Paste, the document's.
  The walk of the statement PastePlaces.
-/
import Derived.Test.YtmnngfbcgpholaaTp
import Derived.Test.YtmnngfbcgpholaaLOverSay
import Derived.Test.YtmnngfbcgpholaaTShift
import Derived.Test.YtmnngfbcgpholaaTApp
import Derived.Test.YtmnngfbcgpholaaQu3
import Derived.Test.YtmnngfbcgpholaaLCutRef
import Derived.Laws.AppendOwnNone
import Derived.Test.YtmnngfbcgpholaaStep
import Derived.Test.YtmnngfbcgpholaaSmall
import Derived.Test.YtmnngfbcgpholaaRefMay2
import Derived.Test.YtmnngfbcgpholaaTAbout
import Derived.Test.YtmnngfbcgpholaaUText
import Derived.Deep.CutBlock
import Derived.Test.YtmnngfbcgpholaaSameRef
import Derived.Test.YtmnngfbcgpholaaOp
import Derived.WalkKit
import Derived.ProofKit
import Derived.OpenShut
import Derived.ShutString
import Derived.ChangeOld
import Derived.Below
import Derived.Carry
import Derived.Lib.SmallJoins
namespace Go.Proofs.Ytmnngfbcgpholaa.Key
open Go.RowKit
open Go.Op (bytesLess)
set_option linter.unusedVariables false
set_option linter.unusedSimpArgs false

/-- a kid, and from which key on -/
structure Pt where
  lo : ByteArray
  kid : E
/-- a kid in whose range a key of r is, from the first such key on -/
def partAt (n : Nd) (r : Rng) (i : Nat) : Pt := ⟨str (cutR (rg (loOf n.pv i) (hiOf n.pv i) (endOf n.pv i)) r).lo, n.ks.getD i E.nil⟩
def inW (n : Nd) (r : Rng) (j : Nat) : List Pt := (picks n.pv r j).map (partAt n r)
def gotoPt (m : M) : Pt := ⟨m.key, ⟨m.blk, m.deep, m.key, m.add⟩⟩
def aheadR (m : M) : Rng := ⟨[], (aboutR m).lo, true⟩
def behindR (m : M) : Rng := ⟨(aboutR m).hi, [], false⟩
def aroundL (n : Nd) (m : M) : List Pt := (inW n (aheadR m) n.ks.length ++ [gotoPt m]) ++ if (aboutR m).e then inW n (behindR m) n.ks.length else []
def forkL (l : List Pt) : Nd := ⟨false, [], (l.drop 1).map Pt.lo, l.map Pt.kid, []⟩
/-- does a message speak of other keys than m does? -/
def otherB (m o : M) : Bool := (cutR (aboutR o) (aboutR m)).lo != (aboutR o).lo || ((cutR (aboutR o) (aboutR m)).hi != (aboutR o).hi || (cutR (aboutR o) (aboutR m)).e != (aboutR o).e)
def othersL (l : List M) (m : M) : List M := l.filter (otherB m)
def isGoto (m : M) : Bool := m.kind == 3
/-- the place of the oldest Goto -/
def firstI (bf : List M) : Int := if bf.findIdx isGoto < bf.length then (bf.findIdx isGoto : Int) else -1
def pasteE (n : Nd) (z : Int) : Int := if mayI n = 0 then (if 0 ≤ z ∧ z = firstI n.bf then 0 else 1) else 3
def pasteF (n : Nd) (i : Nat) (m : M) : Nd := ⟨false, [], ((aroundL n m).drop 1).map Pt.lo, (aroundL n m).map Pt.kid, othersL (n.bf.take i) m ++ n.bf.drop (i + 1)⟩
def pasteN (n : Nd) (i : Nat) : Nd := pasteF n i (n.bf.getD i M.nil)
def pasteA (n : Nd) (z : Int) : Nd := if pasteE n z = 0 then pasteN n z.toNat else nilN

theorem inW_succ (n : Nd) (r : Rng) (j : Nat) : inW n r (j + 1) = if tch n.pv r j then inW n r j ++ [partAt n r j] else inW n r j := by
  unfold inW
  rw [picks_succ]
  cases tch n.pv r j
  · simp
  · simp
theorem inW_le (n : Nd) (r : Rng) (j : Nat) : (inW n r j).length ≤ j := by
  unfold inW
  rw [List.length_map]
  exact picks_le _ _ _
/-- how the pivots go on -/
theorem piv_more (l : List Pt) (x : Pt) : ((l ++ [x]).drop 1).map Pt.lo = if 0 < l.length then (l.drop 1).map Pt.lo ++ [x.lo] else (l.drop 1).map Pt.lo := by
  cases l with
  | nil => rfl
  | cons a l => simp
theorem others_succ (l : List M) (m o : M) : othersL (l ++ [o]) m = if otherB m o then othersL l m ++ [o] else othersL l m := by
  unfold othersL
  rw [List.filter_append]
  cases h : otherB m o
  · simp [h]
  · simp [h]
theorem others_le (l : List M) (m : M) : (othersL l m).length ≤ l.length := List.length_filter_le _ _

/-- the oldest Goto -/
theorem first_nat {bf : List M} {z : Int} (h : 0 ≤ z ∧ z = firstI bf) : ∃ i, ∃ hi : i < bf.length, z = (i : Int) ∧ isGoto bf[i] = true ∧ ∀ j (hj : j < i), isGoto (bf[j]'(by omega)) = false := by
  obtain ⟨h0, h1⟩ := h
  unfold firstI at h1
  split at h1
  · rename_i hlt
    refine ⟨_, hlt, h1, List.findIdx_getElem, fun j hj => ?_⟩
    have := List.not_of_lt_findIdx hj
    simpa using this
  · omega

theorem max_nil (a : List UInt8) : maxL a [] = a := by unfold maxL; rw [less_nil]; rfl
/-- whether two ranges have a key both -/
theorem cut_bare (a b : Rng) : emptyR (cutR a b) = emptyR (rawCut a b) := by
  unfold cutR
  split
  · rename_i h; rw [h]; rfl
  · rfl
theorem cut_some {a b : Rng} (h : emptyR (cutR a b) = false) : cutR a b = rawCut a b := by
  rw [cut_bare] at h
  unfold cutR
  rw [h]
  rfl
theorem lo_less {pv : List ByteArray} (h : upTo (pivAt pv) pv.length = true) {j : Nat} (hj : j < pv.length) : bytesLess (loOf pv j).data.toList (hiOf pv j).data.toList = true := by
  have := upTo_at h hj
  rw [pivAt_at hj, Bool.and_eq_true] at this
  unfold loOf hiOf
  rw [if_pos (by omega), if_pos hj, getD_at hj]
  exact this.1
theorem hi_at {pv : List ByteArray} {j : Nat} (hj : j < pv.length) : hiOf pv j = pv[j] := by unfold hiOf; rw [if_pos hj, getD_at hj]
theorem lo_at {pv : List ByteArray} {j : Nat} (hj : j < pv.length) : loOf pv (j + 1) = pv[j] := by unfold loOf; rw [if_pos (by omega), ahead_at hj]
theorem lo_zero (pv : List ByteArray) : loOf pv 0 = ⟨#[]⟩ := by unfold loOf; rw [if_pos (by omega)]; rfl
/-- the range of a kid ends where the next one's begins, or ahead of that -/
theorem hi_lo {pv : List ByteArray} (h : upTo (pivAt pv) pv.length = true) {i j : Nat} (hij : i < j) (hj : j ≤ pv.length) : bytesLess (loOf pv j).data.toList (hiOf pv i).data.toList = false := by
  obtain ⟨j, rfl⟩ : ∃ k, j = k + 1 := ⟨j - 1, by omega⟩
  rw [hi_at (show i < pv.length by omega), lo_at (show j < pv.length by omega)]
  rcases Nat.lt_or_eq_of_le (show i ≤ j by omega) with e | rfl
  · exact less_asymm (List.pairwise_iff_getElem.1 (piv_iff.1 h).1 i j (by omega) (by omega) e)
  · exact less_self _
theorem lo_rise {pv : List ByteArray} (h : upTo (pivAt pv) pv.length = true) {i j : Nat} (hij : i < j) (hj : j ≤ pv.length) : bytesLess (loOf pv i).data.toList (loOf pv j).data.toList = true :=
  less_of_less_le (lo_less h (show i < pv.length by omega)) (hi_lo h hij hj)

/-- the kids ahead of a key -/
theorem tch_ahead {pv : List ByteArray} (h : upTo (pivAt pv) pv.length = true) (g : List UInt8) {j : Nat} (hj : j ≤ pv.length) : tch pv ⟨[], g, true⟩ j = bytesLess (loOf pv j).data.toList g := by
  unfold tch
  rw [cut_bare, emptyR_eq]
  show (!((endOf pv j || true) && !bytesLess (maxL (loOf pv j).data.toList []) _)) = _
  rw [max_nil, Bool.or_true, Bool.true_and, Bool.not_not]
  show bytesLess _ (if endOf pv j = true then if true = true then minL (hiOf pv j).data.toList g else _ else if true = true then g else []) = _
  rw [if_pos rfl, if_pos rfl]
  split
  · rename_i he
    have hlt := lo_less h (show j < pv.length from of_decide_eq_true he)
    unfold minL
    cases hg : bytesLess g (hiOf pv j).data.toList
    · rw [if_neg (by simp), hlt]
      exact (less_of_less_le hlt hg).symm
    · rw [if_pos rfl]
  · rfl
/-- .. and behind one -/
theorem tch_behind {pv : List ByteArray} (h : upTo (pivAt pv) pv.length = true) (s : List UInt8) {j : Nat} (hj : j ≤ pv.length) : tch pv ⟨s, [], false⟩ j = !(endOf pv j && !bytesLess s (hiOf pv j).data.toList) := by
  unfold tch
  rw [cut_bare, emptyR_eq]
  show (!((endOf pv j || false) && !bytesLess (maxL (loOf pv j).data.toList s) (if endOf pv j = true then if false = true then _ else (hiOf pv j).data.toList else _))) = _
  rw [Bool.or_false]
  cases he : endOf pv j
  · rfl
  · rw [if_pos rfl, if_neg (by simp)]
    have hlt := lo_less h (show j < pv.length from of_decide_eq_true he)
    unfold maxL
    cases hg : bytesLess (loOf pv j).data.toList s
    · rw [if_neg (by simp), hlt, less_of_le_less hg hlt]
    · rw [if_pos rfl]
theorem part_ahead {n : Nd} {g : List UInt8} {j : Nat} (ht : tch n.pv ⟨[], g, true⟩ j = true) : (partAt n ⟨[], g, true⟩ j).lo = loOf n.pv j := by
  unfold tch at ht
  rw [Bool.not_eq_true'] at ht
  unfold partAt
  rw [cut_some ht]
  show str (maxL (loOf n.pv j).data.toList []) = _
  rw [max_nil, str_eq]
theorem part_behind {n : Nd} {s : List UInt8} {j : Nat} (ht : tch n.pv ⟨s, [], false⟩ j = true) : (partAt n ⟨s, [], false⟩ j).lo = str (maxL (loOf n.pv j).data.toList s) := by
  unfold tch at ht
  rw [Bool.not_eq_true'] at ht
  unfold partAt
  rw [cut_some ht]
  rfl
/-- where a kid isn't ahead of a key, none behind it is -/
theorem ahead_end {n : Nd} (h : upTo (pivAt n.pv) n.pv.length = true) {g : List UInt8} {j : Nat} (hj : j ≤ n.pv.length) (ht : tch n.pv ⟨[], g, true⟩ j = false) : ∀ k, j ≤ k → k ≤ n.pv.length + 1 → inW n ⟨[], g, true⟩ k = inW n ⟨[], g, true⟩ j := by
  intro k hk hk2
  induction k with
  | zero => obtain rfl : j = 0 := by omega
            rfl
  | succ k ih =>
    by_cases e : j = k + 1
    · rw [e]
    · rw [inW_succ, ih (by omega) (by omega)]
      have : tch n.pv ⟨[], g, true⟩ k = false := by
        by_cases e2 : j = k
        · rw [← e2]; exact ht
        · rw [tch_ahead h g (by omega)]
          rw [tch_ahead h g hj] at ht
          have := less_asymm (lo_rise h (show j < k by omega) (by omega))
          exact less_le_trans this ht
      rw [this]
      rfl
/-- a message speaks of no other keys just if its range is a part of the other one's -/
theorem other_inside {a b : Rng} (ha : emptyR a = false) (hn : a.e = false → a.hi = []) : (((cutR a b).lo != a.lo) || (((cutR a b).hi != a.hi) || ((cutR a b).e != a.e))) = !insideR a b := by
  unfold insideR
  rw [ha, Bool.false_or]
  cases hc : emptyR (cutR a b)
  · rw [cut_some hc]
    show ((maxL a.lo b.lo != a.lo) || (((if a.e = true then if b.e = true then minL a.hi b.hi else a.hi else if b.e = true then b.hi else []) != a.hi) || ((a.e || b.e) != a.e))) = _
    have h1 : (maxL a.lo b.lo != a.lo) = bytesLess a.lo b.lo := by
      unfold maxL
      cases h : bytesLess a.lo b.lo
      · simp
      · rw [if_pos rfl]
        simp only [bne_iff_ne, ne_eq]
        intro e
        rw [e, less_self] at h; cases h
    rw [h1]
    cases hae : a.e
    · rw [hn hae]
      cases hbe : b.e
      · simp
      · simp
    · cases hbe : b.e
      · simp
      · have h2 : (minL a.hi b.hi != a.hi) = bytesLess b.hi a.hi := by
          unfold minL
          cases h : bytesLess b.hi a.hi
          · simp
          · rw [if_pos rfl]
            simp only [bne_iff_ne, ne_eq]
            intro e
            rw [e, less_self] at h; cases h
        simp [h2]
  · have hnot : (!bytesLess a.lo b.lo && (!b.e || (a.e && !bytesLess b.hi a.hi))) = false := by
      cases hq : (!bytesLess a.lo b.lo && (!b.e || (a.e && !bytesLess b.hi a.hi)))
      · rfl
      · rw [Bool.and_eq_true, Bool.not_eq_true'] at hq
        obtain ⟨q1, q2⟩ := hq
        have := in_cut a b a.lo
        have hin := in_lo ha
        rw [hin, Bool.true_and] at this
        have h3 : inR b a.lo = true := by
          unfold inR
          rw [q1]
          cases hbe : b.e
          · rfl
          · rw [hbe] at q2
            simp only [Bool.not_true, Bool.false_or, Bool.and_eq_true, Bool.not_eq_true'] at q2
            unfold inR at hin
            rw [Bool.and_eq_true, q2.1] at hin
            simp only [Bool.not_true, Bool.false_or] at hin
            have := less_of_less_le hin.2 q2.2
            rw [this]; rfl
        rw [h3] at this
        have hne := empty_iff.2 ⟨_, this⟩
        rw [hne] at hc; cases hc
    rw [hnot]
    unfold cutR at hc ⊢
    have hr : emptyR (rawCut a b) = true := by
      split at hc
      · assumption
      · exact hc
    rw [if_pos hr]
    rw [emptyR_eq] at ha
    show (([] != a.lo) || (([] != a.hi) || (true != a.e))) = true
    cases hae : a.e
    · simp
    · rw [hae, Bool.true_and, Bool.not_eq_false'] at ha
      cases h0 : a.hi with
      | nil => rw [h0, less_nil] at ha; cases ha
      | cons x l => simp
theorem of_hi (p : List UInt8) : (ofR p).e = false → (ofR p).hi = [] := by
  unfold ofR
  cases succ p
  · intro _; rfl
  · intro h; cases h
theorem of_full (p : List UInt8) : emptyR (ofR p) = false := empty_iff.2 ⟨p, by rw [in_of]; simp [has]⟩
theorem about_full {m : M} (h : mayB m = true) : emptyR (aboutR m) = false ∧ ((aboutR m).e = false → (aboutR m).hi = []) := by
  have hk : m.kind = 1 ∨ m.kind = 2 ∨ m.kind = 3 := by
    unfold mayB at h
    simp only [Bool.and_eq_true] at h
    have h := h.2.2.2
    split at h
    · omega
    · split at h
      · omega
      · split at h
        · omega
        · cases h
  unfold aboutR
  by_cases h12 : m.kind = 1 ∨ m.kind = 2
  · rw [if_pos h12]
    refine ⟨empty_iff.2 ⟨m.key.data.toList, by rw [in_one]; simp⟩, fun h => by cases h⟩
  · rw [if_neg h12, if_pos (by omega)]
    exact ⟨of_full _, of_hi _⟩
theorem other_say {m o : M} (h : mayB o = true) : otherB m o = !insideR (aboutR o) (aboutR m) := other_inside (about_full h).1 (about_full h).2
theorem about_goto {m : M} (h : isGoto m = true) : aboutR m = ofR m.key.data.toList := by
  have h3 : m.kind = 3 := by simpa [isGoto] using h
  unfold aboutR
  rw [if_neg (by omega), if_pos h3]
end Go.Proofs.Ytmnngfbcgpholaa.Key

namespace Go.Proofs.Ytmnngfbcgpholaa.Key
open Go.RowKit Draw
open Go.Op (bytesLess)
set_option linter.unusedVariables false
set_option linter.unusedSimpArgs false

def Pt.cells (x : Pt) : List Value := [.string x.lo, .int .u32 x.kid.blk, .int .u16 x.kid.deep, .string x.kid.strip, .string x.kid.add]
theorem oneX (x : Pt) : ∀ u ∈ Pt.cells x, u.oneCell' = true := by
  intro u hu
  simp only [Pt.cells, List.mem_cons, List.not_mem_nil, or_false] at hu
  rcases hu with rfl | rfl | rfl | rfl | rfl <;> rfl
theorem info68 : (Try.prog.info? 68).map (fun i => (i.zero, i.size, i.bytes)) = some (some (.agg #[.string ⟨#[]⟩, .int .u32 0, .int .u16 0, .string ⟨#[]⟩, .string ⟨#[]⟩]), 5, 56) := by kernel_rfl
/-- a block that holds a part -/
def XBox (w : World) (k : Nat) (x : Pt) : Prop := w.heap[k]? = some (.cells #[.string x.lo, .int .u32 x.kid.blk, .int .u16 x.kid.deep, .string x.kid.strip, .string x.kid.add] 68 (0, 0))
theorem XBox.new (w : World) (x : Pt) : XBox (w.alloc (.cells #[.string x.lo, .int .u32 x.kid.blk, .int .u16 x.kid.deep, .string x.kid.strip, .string x.kid.add] 68)) w.heap.size x := Go.heap_alloc_new _ _
theorem XBox.lt {w : World} {k : Nat} {x : Pt} (h : XBox w k x) : k < w.heap.size := (Array.getElem?_eq_some_iff.1 h).1
theorem XBox.later {w w' : World} {k : Nat} {x : Pt} (h : XBox w k x) (hb : Below w.heap.size w w') : XBox w' k x := (hb.block k h.lt).trans h
theorem XBox.five {w : World} {k : Nat} {x : Pt} (h : XBox w k x) : w.cell? ⟨k, 0, none⟩ = some (.string x.lo) ∧ w.cell? ⟨k, 1, none⟩ = some (.int .u32 x.kid.blk) ∧ w.cell? ⟨k, 2, none⟩ = some (.int .u16 x.kid.deep) ∧ w.cell? ⟨k, 3, none⟩ = some (.string x.kid.strip) ∧ w.cell? ⟨k, 4, none⟩ = some (.string x.kid.add) :=
  ⟨cell_of_row _ _ 0 _ _ _ h, cell_of_row _ _ 1 _ _ _ h, cell_of_row _ _ 2 _ _ _ h, cell_of_row _ _ 3 _ _ _ h, cell_of_row _ _ 4 _ _ _ h⟩
theorem XBox.each {w : World} {k : Nat} {x : Pt} (h : XBox w k x) : ∀ j u, (Pt.cells x)[j]? = some u → w.cell? ⟨k, j, none⟩ = some u := by
  intro j u hu
  obtain ⟨c0, c1, c2, c3, c4⟩ := h.five
  have hj : j < 5 := by have := (List.getElem?_eq_some_iff.1 hu).1; simpa [Pt.cells] using this
  match j, hj with
  | 0, _ => rw [← hu]; exact c0
  | 1, _ => rw [← hu]; exact c1
  | 2, _ => rw [← hu]; exact c2
  | 3, _ => rw [← hu]; exact c3
  | 4, _ => rw [← hu]; exact c4
theorem XBox.kept {w u : World} {row : Option Nat} {k : Nat} {x : Pt} (h : XBox w k x) (hg : w.grownBy u row) (hne : some k ≠ row) : XBox u k x := (hg.block k h.lt hne).trans h
theorem XBox.far {w : World} {k k' i : Nat} {x : Pt} {u : Value} (h : XBox w k x) (hne : k ≠ k') : XBox (w.setCell ⟨k', i, none⟩ u) k x := by
  unfold XBox
  rw [Below.heap_setCell _ _ _ _ hne]
  exact h
theorem inW_at {n : Nd} {r : Rng} {j : Nat} {x : E} (h : n.ks[j]? = some x) : inW n r (j + 1) = if !emptyR (cutR (rg (loOf n.pv j) (hiOf n.pv j) (endOf n.pv j)) r) then inW n r j ++ [⟨str (cutR (rg (loOf n.pv j) (hiOf n.pv j) (endOf n.pv j)) r).lo, x⟩] else inW n r j := by
  obtain ⟨hj, rfl⟩ := List.getElem?_eq_some_iff.1 h
  rw [inW_succ]
  unfold partAt tch
  rw [getD_at hj]
theorem below3s {B k : Nat} {w w' : World} (h : Below B w w') (hk : B ≤ k) (v0 v1 v2 : Value) : Below B w (((w'.setCell ⟨k, 0, none⟩ v0).setCell ⟨k, 1, none⟩ v1).setCell ⟨k, 2, none⟩ v2) := ((h.setCell (p := ⟨k, 0, none⟩) hk _).setCell (p := ⟨k, 1, none⟩) hk _).setCell (p := ⟨k, 2, none⟩) hk _
theorem box_3 {w : World} {k : Nat} {v0 v1 v2 : Value} (h : Box w k v0 v1 v2) (y0 y1 y2 : Value) : Box (((w.setCell ⟨k, 0, none⟩ y0).setCell ⟨k, 1, none⟩ y1).setCell ⟨k, 2, none⟩ y2) k y0 y1 y2 := Go.Joins.block_setCell (Go.Joins.block_setCell (Go.Joins.block_setCell h y0) y1) y2

set_option maxRecDepth 100000 in
set_option maxHeartbeats 4000000 in
theorem within34 (n : Nd) (p : Pl) (lo hi : ByteArray) (e : Bool) (w : World) (hf : Few n) (h : Lies w n p) (hlen : n.pv.length + 1 = n.ks.length) :
    Calls Try.prog 34 #[nv n p, av lo hi e] w fun x w' => (∃ v, x = .returned v ∧ w'.ownsRow (w.heap.size + 1) 68 5 v (inW n (rg lo hi e) n.ks.length).length ((inW n (rg lo hi e) n.ks.length).flatMap Pt.cells)) ∧ Below w.heap.size w w' := by
  have HLw := hid (fun (wr : World) (hb : Below w.heap.size w wr) => h.h3.later hb)
  have HR := hid (fun (j : Nat) (hj : j < n.ks.length) (wr : World) (hb : Below w.heap.size w wr) => range50 n p j wr hf.l2 hlen hj (h.later hb))
  clear h
  have HKs := hid (fun j x (hx : n.ks[j]? = some x) => inW_at (r := rg lo hi e) hx)
  have HKl := hid (fun j => inW_le n (rg lo hi e) j)
  have HK0 := hid (show inW n (rg lo hi e) 0 = [] from rfl)
  have hl3 := hf.l3
  clear hf hlen
  obtain ⟨KT, hKT⟩ : ∃ f : Nat → List Pt, (fun j => inW n (rg lo hi e) j) = f := ⟨_, rfl⟩
  simp only [show ∀ j, inW n (rg lo hi e) j = KT j from fun j => congrFun hKT j] at HKs HKl HK0 ⊢
  clear hKT
  obtain ⟨lB, ps, ws, ks, bf⟩ := n
  obtain ⟨a1, c1, a2, c2, a3, c3, a4, c4⟩ := p
  dsimp only [nv] at *
  generalize ps.length = n1 at *
  generalize hn2 : ws.length = n2 at *
  generalize hn3 : ks.length = n3 at *
  generalize bf.length = n4 at *
  have HN2 := hid hn2
  have HN3 := hid hn3
  clear hn2 hn3
  have N0 := (NBox.new w (.bool lB) (.slice a1 n1 c1) (.slice a2 n2 c2) (.slice a3 n3 c3) (.slice a4 n4 c4)).alloc (.cells #[.string lo, .string hi, .bool e] 55)
  have R0 := Box.new (w.alloc (.cells #[.bool lB, .slice a1 n1 c1, .slice a2 n2 c2, .slice a3 n3 c3, .slice a4 n4 c4] 27)) (.string lo) (.string hi) (.bool e)
  have hb0 := (below_box w (.cells #[.bool lB, .slice a1 n1 c1, .slice a2 n2 c2, .slice a3 n3 c3, .slice a4 n4 c4] 27)).alloc (by rw [World.size_alloc]; omega) (.cells #[.string lo, .string hi, .bool e] 55)
  rw [World.size_alloc] at R0
  go_enter Try.func34, Try.ntmps34
  go_upto_region 2 with fail
  generalize (w.alloc (.cells #[.bool lB, .slice a1 n1 c1, .slice a2 n2 c2, .slice a3 n3 c3, .slice a4 n4 c4] 27)).alloc (.cells #[.string lo, .string hi, .bool e] 55) = w4 at *
  generalize hk0 : w.heap.size = k0 at *
  have HQ0 := hid hk0
  clear hk0
  have hR0 := R0.lt
  obtain ⟨m0, m1, m2, m3, m4⟩ := N0.cells
  go_wp2_with fail
  clear m0 m1 m2 m3 m4
  go_loopw [5, 12] (fun v i wr => ∃ (j : Nat), j ≤ n3 ∧ i = .int .i64 j ∧ wr.ownsRow (k0 + 2) 68 5 v (KT j).length ((KT j).flatMap Pt.cells) ∧ Below (k0 + 2) w4 wr) (fun _ i _ => n3 - (intOf i).toNat)
  case atStart => exact ⟨0, Nat.zero_le _, rfl, by rw [HK0.out]; exact row_nil _ _ _ _, Below.refl _ _⟩
  case round =>
    obtain ⟨j, hj, rfl, ho, hb⟩ := hrel
    have hs0 := hb.size
    have hbw := hb0.trans (hb.mono (by omega))
    by_cases hlt : j < n3
    · have hlt' : j < ks.length := by rw [HN3.out]; exact hlt
      obtain ⟨b, off, hA, c0, c1', c2', c3'⟩ := (HLw.out wr hbw).at hlt'
      try dsimp only at hA
      subst hA
      obtain ⟨x, hx⟩ : ∃ x, ks[j]? = some x := ⟨_, List.getElem?_eq_getElem hlt'⟩
      have hxe : ks[j] = x := by rw [List.getElem?_eq_getElem hlt'] at hx; exact Option.some.inj hx
      rw [hxe] at c0 c1' c2' c3'
      have HKj := hid (HKs.out j x hx)
      have HRj := hid (fun wr hb => HR.out j hlt wr hb)
      have HCj := hid (cut23 (loOf ws j) (hiOf ws j) (endOf ws j) lo hi e)
      have HEj := hid (empty25 (str (cutR (rg (loOf ws j) (hiOf ws j) (endOf ws j)) (rg lo hi e)).lo) (str (cutR (rg (loOf ws j) (hiOf ws j) (endOf ws j)) (rg lo hi e)).hi) (cutR (rg (loOf ws j) (hiOf ws j) (endOf ws j)) (rg lo hi e)).e)
      rw [show rg (str (cutR (rg (loOf ws j) (hiOf ws j) (endOf ws j)) (rg lo hi e)).lo) (str (cutR (rg (loOf ws j) (hiOf ws j) (endOf ws j)) (rg lo hi e)).hi) (cutR (rg (loOf ws j) (hiOf ws j) (endOf ws j)) (rg lo hi e)).e = cutR (rg (loOf ws j) (hiOf ws j) (endOf ws j)) (rg lo hi e) from rfl] at HEj
      unfold rv at HCj
      generalize emptyR (cutR (rg (loOf ws j) (hiOf ws j) (endOf ws j)) (rg lo hi e)) = bE at *
      generalize str (cutR (rg (loOf ws j) (hiOf ws j) (endOf ws j)) (rg lo hi e)).lo = C0 at *
      generalize str (cutR (rg (loOf ws j) (hiOf ws j) (endOf ws j)) (rg lo hi e)).hi = C1 at *
      generalize (cutR (rg (loOf ws j) (hiOf ws j) (endOf ws j)) (rg lo hi e)).e = C2 at *
      generalize loOf ws j = L0 at *
      generalize hiOf ws j = L1 at *
      generalize endOf ws j = L2 at *
      clear hx hxe
      have HKlj := HKl.out j
      have B1 := EBox.new wr x
      have N2 := (N0.below hb (by omega)).alloc (.cells #[.int .u32 x.blk, .int .u16 x.deep, .string x.strip, .string x.add] 46)
      have R2 : Box (wr.alloc (.cells #[.int .u32 x.blk, .int .u16 x.deep, .string x.strip, .string x.add] 46)) (k0 + 1) (.string lo) (.string hi) (.bool e) := Box.alloc ((hb.block (k0 + 1) (by omega)).trans R0) _
      have ho2 := World.ownsRow.alloc ho (.cells #[.int .u32 x.blk, .int .u16 x.deep, .string x.strip, .string x.add] 46)
      have hb2 := hb.alloc (show k0 + 2 ≤ wr.heap.size by omega) (.cells #[.int .u32 x.blk, .int .u16 x.deep, .string x.strip, .string x.add] 46)
      obtain ⟨xb, xd, xs, xa⟩ := x
      dsimp only at *
      go_upto_region 5 with fail
      clear c0 c1' c2' c3'
      have hkw : k0 + 2 ≤ wr.heap.size := by omega
      generalize wr.heap.size = kp at *
      generalize wr.alloc (.cells #[.int .u32 xb, .int .u16 xd, .string xs, .string xa] 46) = w5 at *
      clear ho hb hbw
      have hs5 := hb2.size
      have hkp5 := B1.lt
      refine wp_region_last [(some 17, [], false), (some 18, [], false), (some 19, [(0, 17), (1, 18)], false), (some 20, [], false), (some 21, [(2, 19), (3, 20)], true), (some 8, [], true), (none, [(5, 8), (4, 21)], false)]
        (fun u => Below w5.heap.size w5 u) (fun _ u u' => Below u.heap.size u u')
        (fun i v u => match i with | 0 => v = .agg #[.bool lB, .slice a1 n1 c1, .slice a2 n2 c2, .slice (some ⟨b, off, none⟩) n3 c3, .slice a4 n4 c4] | 1 => v = .int .i64 j | 2 => v = .agg #[.string L0, .string L1, .bool L2] | 3 => v = .agg #[.string lo, .string hi, .bool e] | 4 => v = .agg #[.string C0, .string C1, .bool C2] | 5 => ∃ g, v = .pointer (some ⟨g, 0, none⟩) ∧ Box u g (.string ⟨#[]⟩) (.string ⟨#[]⟩) (.bool false) ∧ w5.heap.size ≤ g | _ => True)
        (by kernel_rfl) (by kernel_rfl) (Below.refl _ _).drew (fun i u u' h h' => h.trans (h'.mono h.size)) (fun i j v u u' hn h h' hv => ?_) [(some 17, [], false), (some 18, [], false), (some 19, [(0, 17), (1, 18)], false), (some 20, [], false), (some 21, [(2, 19), (3, 20)], true), (some 8, [], true)] 6 rfl _ rfl rfl (by kernel_rfl) (by kernel_rfl) ⟨?_, ?_, ?_, ?_, ?_, ?_, trivial⟩ ?_
      · match j with
        | 0 => exact hv
        | 1 => exact hv
        | 2 => exact hv
        | 3 => exact hv
        | 4 => exact hv
        | 5 => obtain ⟨g, e1, e2, e3⟩ := hv; exact ⟨g, e1, e2.later h', e3⟩
        | _ + 6 => trivial
      · rintro u hu
        obtain ⟨m0, m1, m2, m3, m4⟩ := (N2.later hu).cells
        exact opYields_val (.agg #[.bool lB, .slice a1 n1 c1, .slice a2 n2 c2, .slice (some ⟨b, off, none⟩) n3 c3, .slice a4 n4 c4]) (by kernel_rfl) (by go_simp) ⟨Below.refl _ _, rfl⟩
      · rintro u hu
        exact opYields_val _ (by kernel_rfl) (by go_simp) ⟨Below.refl _ _, rfl⟩
      · rintro u hu _ rfl _ rfl
        exact opYields_call 42 #[.agg #[.bool lB, .slice a1 n1 c1, .slice a2 n2 c2, .slice (some ⟨b, off, none⟩) n3 c3, .slice a4 n4 c4], .int .i64 j] (by kernel_rfl) (by go_simp) ((HRj.out u (hb0.trans ((hb2.trans (hu.mono (by omega))).mono (by omega)))).mono fun x u' ⟨h1, h2⟩ => ⟨_, h1, h2, rfl⟩)
      · rintro u hu
        obtain ⟨r0, r1, r2⟩ := (R2.later hu).cells
        exact opYields_val (.agg #[.string lo, .string hi, .bool e]) (by kernel_rfl) (by go_simp) ⟨Below.refl _ _, rfl⟩
      · rintro u hu _ rfl _ rfl
        exact opYields_call 35 #[.agg #[.string L0, .string L1, .bool L2], .agg #[.string lo, .string hi, .bool e]] (by kernel_rfl) (by go_simp) ((HCj.out u).mono fun x u' ⟨h1, h2⟩ => ⟨_, h1, h2, rfl⟩)
      · rintro u hu
        exact opYields_val (.pointer (some ⟨u.heap.size, 0, none⟩)) (u' := u.alloc (.cells #[.string ⟨#[]⟩, .string ⟨#[]⟩, .bool false] 55)) (by kernel_rfl) (by go_simp) ⟨below_box _ _, u.heap.size, rfl, Box.new u _ _ _, hu.size⟩
      · intro u hu x0 x1 x2 x3 x4 e4 x5 e5
        replace e4 : x4 = .agg #[.string C0, .string C1, .bool C2] := e4
        replace e5 : ∃ g, x5 = .pointer (some ⟨g, 0, none⟩) ∧ Box u g (.string ⟨#[]⟩) (.string ⟨#[]⟩) (.bool false) ∧ w5.heap.size ≤ g := e5
        obtain ⟨g, e5, hB, hg⟩ := e5
        subst e4 e5
        obtain ⟨z0, z1, z2⟩ := hB.cells
        obtain ⟨f0, f1, f2⟩ := hB.free
        refine Puts.mk (((u.setCell ⟨g, 0, none⟩ (.string C0)).setCell ⟨g, 1, none⟩ (.string C1)).setCell ⟨g, 2, none⟩ (.bool C2)) (by kernel_rfl) (by go_simp) ?_
        have B2 := hB.put (.string C0) (.string C1) (.bool C2)
        have hu2 := below3s hu hg (.string C0) (.string C1) (.bool C2)
        have B3 := B1.later hu2
        have ho3 := row_later ho2 hu2
        have hb3 := hb2.trans (hu2.mono (by omega))
        have hgl := hB.lt
        clear z0 z1 z2 f0 f1 f2 hB hu hu2 B1 ho2 hb2 N2 R2 HRj HCj
        have hgu : g < (((u.setCell ⟨g, 0, none⟩ (.string C0)).setCell ⟨g, 1, none⟩ (.string C1)).setCell ⟨g, 2, none⟩ (.bool C2)).heap.size := B2.lt
        clear hgl
        generalize ((u.setCell ⟨g, 0, none⟩ (.string C0)).setCell ⟨g, 1, none⟩ (.string C1)).setCell ⟨g, 2, none⟩ (.bool C2) = u1 at *
        simp only [Act.put, List.setIfInBounds_toArray, List.set_cons_zero, List.set_cons_succ]
        obtain ⟨d0, d1, d2⟩ := B2.cells
        go_wp2_with fail
        refine (HEj.out _).mono ?_
        rintro x w7 ⟨rfl, hb7⟩
        have B4 := B2.later hb7
        have B5 := B3.later hb7
        have ho4 := row_later ho3 hb7
        have hs7 := hb7.size
        have hb4 := hb3.trans (hb7.mono (by omega))
        clear d0 d1 d2 B2 B3 ho3 hb3 hb7 HEj
        cases bE
        case true =>
          have HKx := hid (HKj.out.trans (if_neg (by simp)))
          go_wp2_with fail
          go_roundw
          case rel => exact ⟨j + 1, by omega, by go_num, by rw [HKx.out]; exact ho4, hb4⟩
          case measure => simp [intOf]; omega
        case false =>
          have HKx := hid (HKj.out.trans (if_pos rfl))
          obtain ⟨d0, d1, d2⟩ := B4.cells
          obtain ⟨e0, e1, e2, e3⟩ := B5.four
          simp only [Nat.zero_add] at e1 e2 e3
          dsimp only at e0 e1 e2 e3
          obtain ⟨n', c', q', rfl⟩ := row_slice ho4
          have hC := (XBox.new w7 ⟨C0, ⟨xb, xd, xs, xa⟩⟩).each
          have ho5 := World.ownsRow.alloc ho4 (.cells #[.string C0, .int .u32 xb, .int .u16 xd, .string xs, .string xa] 68)
          have hb5 := hb4.alloc (show k0 + 2 ≤ w7.heap.size by omega) (.cells #[.string C0, .int .u32 xb, .int .u16 xd, .string xs, .string xa] 68)
          go_wp2_with (first | (at_builtin; refine appOne Pt.cells 5 56 51 68 _ (by omega) (fun _ => rfl) Try.underlying51 info68 rfl (by omega) oneX rfl _ _ rfl (k0 + 2) _ (KT j) rfl ho5 ⟨C0, ⟨xb, xd, xs, xa⟩⟩ w7.heap.size rfl hC (by omega) (by simp; omega) ?_; intro v' w11 h1 h2; have hb6 := hb5.grown h2 (by simp; omega) (fun k hk => (World.ownsRow.lt ho5 k hk).1); clear d0 d1 d2 e0 e1 e2 e3 ho5 hb5 h2 hC) | fail)
          go_roundw
          case rel => exact ⟨j + 1, by omega, by go_num, by rw [HKx.out]; exact h1, hb6⟩
          case measure => simp [intOf]; omega
    · obtain rfl : j = n3 := by omega
      go_wp2_with fail
      go_ret
      exact ⟨⟨_, rfl, by rw [HQ0.out]; exact row_mono ho (by omega)⟩, by rw [HQ0.out]; exact hbw⟩
end Go.Proofs.Ytmnngfbcgpholaa.Key

namespace Go.Proofs.Ytmnngfbcgpholaa.Key
open Go.RowKit Draw
open Go.Op (bytesLess)
set_option linter.unusedVariables false
set_option linter.unusedSimpArgs false

structure Five (w : World) (b o : Nat) (x : Pt) : Prop where
  c0 : w.cell? ⟨b, o, none⟩ = some (.string x.lo)
  c1 : w.cell? ⟨b, o + 1, none⟩ = some (.int .u32 x.kid.blk)
  c2 : w.cell? ⟨b, o + 2, none⟩ = some (.int .u16 x.kid.deep)
  c3 : w.cell? ⟨b, o + 3, none⟩ = some (.string x.kid.strip)
  c4 : w.cell? ⟨b, o + 4, none⟩ = some (.string x.kid.add)
theorem Five.lt {w : World} {b o : Nat} {x : Pt} (h : Five w b o x) : b < w.heap.size := World.block_lt_of_cell? w _ h.c0
theorem Five.later {w w' : World} {b o : Nat} {x : Pt} (h : Five w b o x) (hb : Below w.heap.size w w') : Five w' b o x :=
  ⟨(hb.cell (p := ⟨b, o, none⟩) h.lt).trans h.c0, (hb.cell (p := ⟨b, o + 1, none⟩) h.lt).trans h.c1, (hb.cell (p := ⟨b, o + 2, none⟩) h.lt).trans h.c2, (hb.cell (p := ⟨b, o + 3, none⟩) h.lt).trans h.c3, (hb.cell (p := ⟨b, o + 4, none⟩) h.lt).trans h.c4⟩
def Xts (w : World) (a : Option Addr) (l : List Pt) : Prop := l = [] ∨ ∃ b off, a = some ⟨b, off, none⟩ ∧ ∀ i (h : i < l.length), Five w b (off + i * 5) l[i]
theorem Xts.at {w : World} {a : Option Addr} {l : List Pt} (h : Xts w a l) {i : Nat} (hi : i < l.length) : ∃ b off, a = some ⟨b, off, none⟩ ∧ Five w b (off + i * 5) l[i] := by
  rcases h with rfl | ⟨b, off, rfl, hc⟩
  · simp at hi
  · exact ⟨b, off, rfl, hc i hi⟩
theorem Xts.later {w w' : World} {a : Option Addr} {l : List Pt} (h : Xts w a l) (hb : Below w.heap.size w w') : Xts w' a l := by
  rcases h with rfl | ⟨b, off, rfl, hc⟩
  · exact .inl rfl
  · exact .inr ⟨b, off, rfl, fun i hi => (hc i hi).later hb⟩
theorem row_xts {w : World} {B : Nat} {v : Value} {l : List Pt} (h : w.ownsRow B 68 5 v l.length (l.flatMap Pt.cells)) : ∃ a c, v = .slice a l.length c ∧ Xts w a l ∧ (a = none → l.length = 0 ∧ c = 0) := by
  obtain ⟨a, c, e, h1⟩ := row_cells Pt.cells 5 (fun _ => rfl) h
  refine ⟨a, c, e, ?_, ?_⟩
  · rcases h1 with h1 | ⟨g, e, _, _, hc⟩
    · exact .inl h1
    · exact .inr ⟨g, 0, e, fun i hi => ⟨hc i hi 0 _ (by omega) rfl, hc i hi 1 _ (by omega) rfl, hc i hi 2 _ (by omega) rfl, hc i hi 3 _ (by omega) rfl, hc i hi 4 _ (by omega) rfl⟩⟩
  · rintro rfl
    rcases h.2 with ⟨e2, h0⟩ | ⟨g, cap, cur, e2, _⟩
    · rw [e] at e2
      simp only [Value.slice.injEq] at e2
      exact ⟨h0, e2.2.2⟩
    · rw [e] at e2
      simp at e2
theorem take_more {α : Type} {l : List α} {j : Nat} {x : α} (h : l[j]? = some x) : l.take (j + 1) = l.take j ++ [x] := by
  rw [List.take_add_one, h]; rfl
theorem kids_at {l : List Pt} {j : Nat} {x : Pt} (h : l[j]? = some x) : (l.take (j + 1)).map Pt.kid = (l.take j).map Pt.kid ++ [x.kid] := by
  rw [take_more h, List.map_append]; rfl
theorem pivs_at {l : List Pt} {j : Nat} {x : Pt} (h : l[j]? = some x) : ((l.take (j + 1)).drop 1).map Pt.lo = if 0 < j then ((l.take j).drop 1).map Pt.lo ++ [x.lo] else ((l.take j).drop 1).map Pt.lo := by
  have hj := (List.getElem?_eq_some_iff.1 h).1
  rw [take_more h, piv_more, List.length_take, Nat.min_eq_left (by omega)]

set_option maxRecDepth 100000 in
set_option maxHeartbeats 4000000 in
theorem fork18 (l : List Pt) (a : Option Addr) (c : Nat) (w : World) (hl : l.length ≤ 10000) (h : Xts w a l) :
    Calls Try.prog 18 #[.slice a l.length c] w fun x w' => (∃ x2 x3, x = .returned (.agg #[.bool false, .slice none 0 0, x2, x3, .slice none 0 0]) ∧ w'.ownsRow (w.heap.size + 1) 9 1 x2 ((l.drop 1).map Pt.lo).length (((l.drop 1).map Pt.lo).flatMap tcell) ∧ w'.ownsRow (w.heap.size + 1) 46 4 x3 (l.map Pt.kid).length ((l.map Pt.kid).flatMap E.cells)) ∧ Below w.heap.size w w' := by
  have HX := hid (fun (wr : World) (hb : Below w.heap.size w wr) => h.later hb)
  have HKs := hid (fun j x (hx : l[j]? = some x) => kids_at hx)
  have HPs := hid (fun j x (hx : l[j]? = some x) => pivs_at hx)
  have HK0 := hid (show (l.take 0).map Pt.kid = [] from rfl)
  have HP0 := hid (show ((l.take 0).drop 1).map Pt.lo = [] from rfl)
  have HKl := hid (fun j => (show ((l.take j).map Pt.kid).length ≤ j by rw [List.length_map, List.length_take]; omega))
  have HPl := hid (fun j => (show (((l.take j).drop 1).map Pt.lo).length ≤ j by rw [List.length_map, List.length_drop, List.length_take]; omega))
  have HKe := hid (show (l.take l.length).map Pt.kid = l.map Pt.kid by rw [List.take_length])
  have HPe := hid (show ((l.take l.length).drop 1).map Pt.lo = (l.drop 1).map Pt.lo by rw [List.take_length])
  clear h
  generalize l.map Pt.kid = KE at *
  generalize (l.drop 1).map Pt.lo = PE at *
  obtain ⟨KT, hKT⟩ : ∃ f : Nat → List E, (fun j => (l.take j).map Pt.kid) = f := ⟨_, rfl⟩
  obtain ⟨PT, hPT⟩ : ∃ f : Nat → List ByteArray, (fun j => ((l.take j).drop 1).map Pt.lo) = f := ⟨_, rfl⟩
  simp only [show ∀ j, (l.take j).map Pt.kid = KT j from fun j => congrFun hKT j, show ∀ j, ((l.take j).drop 1).map Pt.lo = PT j from fun j => congrFun hPT j] at HKs HPs HK0 HP0 HKl HPl HKe HPe
  clear hKT hPT
  generalize hn3 : l.length = n3 at *
  have HN3 := hid hn3
  clear hn3
  have M0 := (NBox.new w (.bool false) (.slice none 0 0) (.slice none 0 0) (.slice none 0 0) (.slice none 0 0)).alloc (.cells #[.bool false, .slice none 0 0, .slice none 0 0, .slice none 0 0, .slice none 0 0] 27)
  have P0 := NBox.new (w.alloc (.cells #[.bool false, .slice none 0 0, .slice none 0 0, .slice none 0 0, .slice none 0 0] 27)) (.bool false) (.slice none 0 0) (.slice none 0 0) (.slice none 0 0) (.slice none 0 0)
  have hb0 := (below_box w (.cells #[.bool false, .slice none 0 0, .slice none 0 0, .slice none 0 0, .slice none 0 0] 27)).alloc (by rw [World.size_alloc]; omega) (.cells #[.bool false, .slice none 0 0, .slice none 0 0, .slice none 0 0, .slice none 0 0] 27)
  rw [World.size_alloc] at P0
  go_enter Try.func18, Try.ntmps18
  go_upto_region 2 with fail
  generalize (w.alloc (.cells #[.bool false, .slice none 0 0, .slice none 0 0, .slice none 0 0, .slice none 0 0] 27)).alloc (.cells #[.bool false, .slice none 0 0, .slice none 0 0, .slice none 0 0, .slice none 0 0] 27) = w4 at *
  generalize hk0 : w.heap.size = k0 at *
  have HQ0 := hid hk0
  clear hk0
  generalize hk1 : k0 + 1 = k1 at *
  have hP0 := P0.lt
  go_wp2_with fail
  go_loopw [8] (fun i wr => ∃ (j : Nat) (y2 y3 : Value), j ≤ n3 ∧ i = .int .i64 j ∧ NBox wr k1 (.bool false) (.slice none 0 0) y2 y3 (.slice none 0 0) ∧ wr.ownsRow (k1 + 1) 9 1 y2 (PT j).length ((PT j).flatMap tcell) ∧ wr.ownsRow (k1 + 1) 46 4 y3 (KT j).length ((KT j).flatMap E.cells) ∧ Below k1 w4 wr) (fun i _ => n3 - (intOf i).toNat)
  case atStart => exact ⟨0, _, _, Nat.zero_le _, rfl, P0, by rw [HP0.out]; exact row_nil _ _ _ _, by rw [HK0.out]; exact row_nil _ _ _ _, Below.refl _ _⟩
  case round =>
    obtain ⟨j, y2, y3, hj, rfl, P1, ho2, ho3, hb⟩ := hrel
    have hPlt := P1.lt
    have hbw := hb0.trans (hb.mono (by omega))
    by_cases hlt : j < n3
    · have hlt' : j < l.length := by rw [HN3.out]; exact hlt
      obtain ⟨b, off, hA, c0, c1', c2', c3', c4'⟩ := (HX.out wr hbw).at hlt'
      subst hA
      obtain ⟨x, hx⟩ : ∃ x, l[j]? = some x := ⟨_, List.getElem?_eq_getElem hlt'⟩
      have hxe : l[j] = x := by rw [List.getElem?_eq_getElem hlt'] at hx; exact Option.some.inj hx
      rw [hxe] at c0 c1' c2' c3' c4'
      have HKx := hid (HKs.out j x hx)
      have HPx := hid (HPs.out j x hx)
      have HKlj := HKl.out j
      have HPlj := HPl.out j
      clear hx hxe
      have B1 := XBox.new wr x
      have P2 := P1.alloc (.cells #[.string x.lo, .int .u32 x.kid.blk, .int .u16 x.kid.deep, .string x.kid.strip, .string x.kid.add] 68)
      have hp2 := World.ownsRow.alloc ho2 (.cells #[.string x.lo, .int .u32 x.kid.blk, .int .u16 x.kid.deep, .string x.kid.strip, .string x.kid.add] 68)
      have hp3 := World.ownsRow.alloc ho3 (.cells #[.string x.lo, .int .u32 x.kid.blk, .int .u16 x.kid.deep, .string x.kid.strip, .string x.kid.add] 68)
      have hlt2 : ∀ k, y2.ownBlock = some k → k < wr.heap.size := fun k hk => (World.ownsRow.lt ho2 k hk).2
      have hlt3 : ∀ k, y3.ownBlock = some k → k < wr.heap.size := fun k hk => (World.ownsRow.lt ho3 k hk).2
      have hb2 := hb.alloc (show k1 ≤ wr.heap.size by omega) (.cells #[.string x.lo, .int .u32 x.kid.blk, .int .u16 x.kid.deep, .string x.kid.strip, .string x.kid.add] 68)
      obtain ⟨xl, xb, xd, xs, xa⟩ := x
      dsimp only at *
      go_upto_region 5 with fail
      clear c0 c1' c2' c3' c4'
      generalize hkp : wr.heap.size = kp at *
      generalize wr.alloc (.cells #[.string xl, .int .u32 xb, .int .u16 xd, .string xs, .string xa] 68) = w5 at *
      clear ho2 ho3 hb hbw P1
      obtain ⟨n3', g3, q3, rfl⟩ := row_slice hp3
      obtain ⟨p0, p1, p2, p3, p4⟩ := P2.cells
      obtain ⟨e0, e1, e2, e3, e4⟩ := B1.five
      dsimp only at e0 e1 e2 e3 e4
      have hC := (EBox.new w5 ⟨xb, xd, xs, xa⟩).each
      have r3 := World.ownsRow.alloc hp3 (.cells #[.int .u32 xb, .int .u16 xd, .string xs, .string xa] 46)
      have r2 := World.ownsRow.alloc hp2 (.cells #[.int .u32 xb, .int .u16 xd, .string xs, .string xa] 46)
      have P6 := P2.alloc (.cells #[.int .u32 xb, .int .u16 xd, .string xs, .string xa] 46)
      have B6 := B1.later (below_box w5 (.cells #[.int .u32 xb, .int .u16 xd, .string xs, .string xa] 46))
      have hs5 := hb2.size
      have hlt5 := P2.lt
      have hkp5 := B1.lt
      have hb6 := hb2.alloc (show k1 ≤ w5.heap.size by omega) (.cells #[.int .u32 xb, .int .u16 xd, .string xs, .string xa] 46)
      dsimp only at hC
      go_upto_region 6 with (first | (at_builtin; refine appOne E.cells 4 40 24 46 _ (by omega) (fun _ => rfl) Try.underlying24 info46 rfl (by omega) oneE rfl _ _ rfl (k1 + 1) _ (KT j) rfl r3 ⟨xb, xd, xs, xa⟩ w5.heap.size rfl hC (by omega) (by simp; omega) ?_; intro v' w11 h1 h2; obtain ⟨g5, n5, q5, rfl⟩ := row_slice h1; have P7 := P6.kept h2 (row_ge r3 (Nat.lt_succ_self k1)); have B7 := XBox.kept B6 h2 (fun e => by have := hlt3 kp e.symm; omega); have s2 := row_kept r2 r3 (by decide) h2; have hb7 := hb6.grown h2 (by simp; omega) (fun k hk => by have := (World.ownsRow.lt r3 k hk).1; omega); clear p0 p1 p2 p3 p4 e0 e1 e2 e3 e4 P6 P2 B6 B1 r2 r3 hp2 hp3 hb6 hb2 h2 hC; obtain ⟨p0, p1, p2, p3, p4⟩ := P7.cells; have f3 := P7.free 3) | fail)
      have P8 := P7.put3 (.slice g5 n5 q5)
      have r2 := row_set (i := 3) (u := .slice g5 n5 q5) s2 (Nat.lt_succ_self k1)
      have r3 := row_set (i := 3) (u := .slice g5 n5 q5) h1 (Nat.lt_succ_self k1)
      have B8 := XBox.far (i := 3) (u := .slice g5 n5 q5) B7 (show kp ≠ k1 by omega)
      have hb8 := hb7.setCell (p := ⟨k1, 3, none⟩) (Nat.le_refl _) (.slice g5 n5 q5)
      clear p0 p1 p2 p3 p4 f3 P7 s2 h1 B7 hb7
      generalize w11.setCell ⟨k1, 3, none⟩ (.slice g5 n5 q5) = w6 at *
      have hs6 := hb8.size
      by_cases h0 : 0 < j
      case neg =>
        have HPy := hid (HPx.out.trans (if_neg h0))
        have hd : decide ((0 : Int) < (j : Int)) = false := by rw [decide_eq_false_iff_not]; omega
        have hd' : decide (0 < j) = false := by rw [decide_eq_false_iff_not]; omega
        clear h0
        go_wp2_with fail
        go_roundw
        case rel => exact ⟨j + 1, _, _, by omega, by go_num, P8, by rw [HPy.out]; exact r2, by rw [HKx.out]; exact r3, hb8⟩
        case measure => simp [intOf]; omega
      case pos =>
        have HPy := hid (HPx.out.trans (if_pos h0))
        have hd : decide ((0 : Int) < (j : Int)) = true := by rw [decide_eq_true_eq]; omega
        have hd' : decide (0 < j) = true := by rw [decide_eq_true_eq]; omega
        clear h0
        go_upto_region 7 with fail
        clear hd hd'
        obtain ⟨n2', g2, q2, rfl⟩ := row_slice r2
        obtain ⟨p0, p1, p2, p3, p4⟩ := P8.cells
        obtain ⟨e0, e1, e2, e3, e4⟩ := B8.five
        dsimp only at e0 e1 e2 e3 e4
        have hC := (OneCell.new w6 xl).each
        have r3' := World.ownsRow.alloc r3 (.cells #[.string xl] 9)
        have r2' := World.ownsRow.alloc r2 (.cells #[.string xl] 9)
        have P6 := P8.alloc (.cells #[.string xl] 9)
        have hP8 := P8.lt
        have hb9 := hb8.alloc (show k1 ≤ w6.heap.size by omega) (.cells #[.string xl] 9)
        go_wp2_with (first | (at_builtin; refine appOne tcell 1 16 23 9 _ (by omega) (fun _ => rfl) Try.underlying23 info9 rfl (by omega) oneT rfl _ _ rfl (k1 + 1) _ (PT j) rfl r2' xl w6.heap.size rfl hC (by omega) (by simp; omega) ?_; intro v' w12 h1 h2; obtain ⟨g6, n6, q6, rfl⟩ := row_slice h1; have P7 := P6.kept h2 (row_ge r2' (Nat.lt_succ_self k1)); have s3 := row_kept r3' r2' (by decide) h2; have hb7 := hb9.grown h2 (by simp; omega) (fun k hk => by have := (World.ownsRow.lt r2' k hk).1; omega); clear p0 p1 p2 p3 p4 e0 e1 e2 e3 e4 P6 P8 B8 r2 r3 r2' r3' hb8 hb9 h2 hC; obtain ⟨p0, p1, p2, p3, p4⟩ := P7.cells; have f2 := P7.free 2) | fail)
        go_roundw
        case rel => exact ⟨j + 1, _, _, by omega, by go_num, P7.put2 _, by rw [HPy.out]; exact row_set h1 (Nat.lt_succ_self k1), by rw [HKx.out]; exact row_set s3 (Nat.lt_succ_self k1), hb7.setCell (p := ⟨k1, 2, none⟩) (Nat.le_refl _) _⟩
        case measure => simp [intOf]; omega
    · obtain rfl : j = n3 := by omega
      have M2 := M0.below hb (by omega)
      obtain ⟨p0, p1, p2, p3, p4⟩ := P1.cells
      obtain ⟨z0, z1, z2, z3, z4⟩ := M2.cells
      have f := M2.free
      have f0 := f 0
      have f1 := f 1
      have f2 := f 2
      have f3 := f 3
      have f4 := f 4
      clear f
      obtain ⟨b2, d2, t2, rfl⟩ := row_slice ho2
      obtain ⟨b3, d3, t3, rfl⟩ := row_slice ho3
      have hb5 := below_five hbw (Nat.le_refl k0) (.bool false) (.slice none 0 0) (.slice b2 d2 t2) (.slice b3 d3 t3) (.slice none 0 0)
      have q2 := row_mono (row_five ho2 (show k0 < k1 + 1 by omega) (y0 := .bool false) (y1 := .slice none 0 0) (y2 := .slice b2 d2 t2) (y3 := .slice b3 d3 t3) (y4 := .slice none 0 0)) (show k0 + 1 ≤ k1 + 1 by omega)
      have q3 := row_mono (row_five ho3 (show k0 < k1 + 1 by omega) (y0 := .bool false) (y1 := .slice none 0 0) (y2 := .slice b2 d2 t2) (y3 := .slice b3 d3 t3) (y4 := .slice none 0 0)) (show k0 + 1 ≤ k1 + 1 by omega)
      go_wp2_with fail
      refine bodyPost_ret (v := .agg #[.bool false, .slice none 0 0, .slice b2 d2 t2, .slice b3 d3 t3, .slice none 0 0]) (by simp [results, Try.results18, go_sem, z0, z1, z2, z3, z4]) rfl ⟨⟨_, _, rfl, ?_, ?_⟩, ?_⟩
      · rw [← HPe.out, HQ0.out]; exact q2
      · rw [← HKe.out, HQ0.out]; exact q3
      · rw [HQ0.out]; exact hb5
end Go.Proofs.Ytmnngfbcgpholaa.Key

namespace Go.Proofs.Ytmnngfbcgpholaa.Key
open Go.RowKit Draw
open Go.Op (bytesLess)
set_option linter.unusedVariables false
set_option linter.unusedSimpArgs false

theorem others_at {l : List M} {m o : M} {j : Nat} (h : l[j]? = some o) : othersL (l.take (j + 1)) m = if otherB m o then othersL (l.take j) m ++ [o] else othersL (l.take j) m := by
  rw [List.take_add_one, h]
  exact others_succ _ _ _

theorem other_dec (a b : Rng) : (a.lo != b.lo || (a.hi != b.hi || a.e != b.e)) = decide ((str a.lo).toList = (str b.lo).toList → (str a.hi).toList = (str b.hi).toList → ¬ a.e = b.e) := by
  rw [Lib.toList_data, Lib.toList_data, Lib.toList_data, Lib.toList_data, str_data, str_data, str_data, str_data]
  by_cases h1 : a.lo = b.lo
  · by_cases h2 : a.hi = b.hi
    · by_cases h3 : a.e = b.e <;> simp [h1, h2, h3]
    · simp [h1, h2]
  · simp [h1]

set_option maxRecDepth 100000 in
set_option maxHeartbeats 4000000 in
theorem others20 (l : List M) (a : Option Addr) (c : Nat) (m : M) (w : World) (hl : l.length ≤ 1000) (h : Msgs w a l) (hk : m.key.size ≤ 1000) (hks : ∀ o ∈ l, o.key.size ≤ 1000) :
    Calls Try.prog 20 #[.slice a l.length c, mv m] w fun x w' => (∃ v, x = .returned v ∧ OwnM w' (w.heap.size + 1) v (othersL l m)) ∧ Below w.heap.size w w' := by
  have HX := hid (fun (wr : World) (hb : Below w.heap.size w wr) => h.later hb)
  have HA := hid (fun wr => about57 m wr hk)
  have HAo := hid (fun o (ho : o ∈ l) wr => about57 o wr (hks o ho))
  have HOs := hid (fun j o (hx : l[j]? = some o) => others_at (m := m) hx)
  have HO0 := hid (show othersL (l.take 0) m = [] from rfl)
  have HOl := hid (fun j => (show (othersL (l.take j) m).length ≤ j by have := others_le (l.take j) m; rw [List.length_take] at this; omega))
  have HOe := hid (show othersL (l.take l.length) m = othersL l m by rw [List.take_length])
  have HB := hid (fun o => show otherB m o = ((cutR (aboutR o) (aboutR m)).lo != (aboutR o).lo || ((cutR (aboutR o) (aboutR m)).hi != (aboutR o).hi || (cutR (aboutR o) (aboutR m)).e != (aboutR o).e)) from rfl)
  clear h hks
  generalize othersL l m = OE at *
  obtain ⟨OT, hOT⟩ : ∃ f : Nat → List M, (fun j => othersL (l.take j) m) = f := ⟨_, rfl⟩
  simp only [show ∀ j, othersL (l.take j) m = OT j from fun j => congrFun hOT j] at HOs HO0 HOl HOe
  clear hOT
  obtain ⟨OB, hOB⟩ : ∃ f : M → Bool, otherB m = f := ⟨_, rfl⟩
  rw [hOB] at HB HOs
  clear hOB
  have HRm := hid (show rv (aboutR m) = .agg #[.string (str (aboutR m).lo), .string (str (aboutR m).hi), .bool (aboutR m).e] from rfl)
  generalize hR : aboutR m = R at *
  clear hR
  generalize hn3 : l.length = n3 at *
  have HN3 := hid hn3
  clear hn3
  have M0 := MBox.new w m
  have hb0 := below_box w (.cells #[.int .u8 m.kind, .string m.key, .string m.val, .int .u32 m.blk, .int .u16 m.deep, .string m.add] 48)
  obtain ⟨m0, m1, m2, m3, m4, m5⟩ := M0.six
  simp only [Nat.zero_add] at m1 m2 m3 m4 m5
  obtain ⟨md, mk, ml, mb, mp, ma⟩ := m
  dsimp only at *
  go_enter Try.func20, Try.ntmps20
  go_wp2_with fail
  refine (HA.out _).mono ?_
  rintro x w2 ⟨rfl, hb2⟩
  unfold rv
  generalize hS0 : str R.lo = S0 at *
  generalize hS1 : str R.hi = S1 at *
  generalize hS2 : R.e = S2 at *
  have HS := hid (And.intro hS0 (And.intro hS1 hS2))
  clear hS0 hS1 hS2
  have hb3 := hb0.trans (hb2.mono hb0.size)
  have Q0 := Box.new w2 (.string S0) (.string S1) (.bool S2)
  have hbX := hb3.alloc (show w.heap.size ≤ w2.heap.size from hb3.size) (.cells #[.string S0, .string S1, .bool S2] 55)
  have hsz : w.heap.size + 1 ≤ w2.heap.size := by have := hb2.size; simp at this; omega
  clear m0 m1 m2 m3 m4 m5 M0 hb0 hb2 hb3 HA
  go_upto_region 2 with fail
  generalize w2.heap.size = k1 at *
  generalize w2.alloc (.cells #[.string S0, .string S1, .bool S2] 55) = w4 at *
  generalize hk0 : w.heap.size = k0 at *
  have HQ0 := hid hk0
  clear hk0
  have hQ0 := Q0.lt
  go_wp2_with fail
  go_loopw [6, 14] (fun v i wr => ∃ (j : Nat), j ≤ n3 ∧ i = .int .i64 j ∧ OwnM wr (k1 + 1) v (OT j) ∧ Below (k1 + 1) w4 wr) (fun _ i _ => n3 - (intOf i).toNat)
  case atStart => exact ⟨0, Nat.zero_le _, rfl, by rw [HO0.out]; exact OwnM.nil _ _, Below.refl _ _⟩
  case round =>
    obtain ⟨j, hj, rfl, ho, hb⟩ := hrel
    have hsr := hb.size
    have hbw := hbX.trans (hb.mono (by omega))
    by_cases hlt : j < n3
    · have hlt' : j < l.length := by rw [HN3.out]; exact hlt
      obtain ⟨b, off, hA, c0, c1', c2', c3', c4', c5'⟩ := (HX.out wr hbw).at hlt'
      subst hA
      obtain ⟨x, hx⟩ : ∃ x, l[j]? = some x := ⟨_, List.getElem?_eq_getElem hlt'⟩
      have hxe : l[j] = x := by rw [List.getElem?_eq_getElem hlt'] at hx; exact Option.some.inj hx
      rw [hxe] at c0 c1' c2' c3' c4' c5'
      have HOx := hid (HOs.out j x hx)
      have HOlj := HOl.out j
      have HAx := hid (fun wr => HAo.out x (by rw [← hxe]; exact List.getElem_mem hlt') wr)
      have HBx := hid (HB.out x)
      clear hx hxe
      have B1 := MBox.new wr x
      have Q1 : Box (wr.alloc (.cells #[.int .u8 x.kind, .string x.key, .string x.val, .int .u32 x.blk, .int .u16 x.deep, .string x.add] 48)) k1 (.string S0) (.string S1) (.bool S2) := Box.alloc ((hb.block k1 (by omega)).trans Q0) _
      have hb2 := hb.alloc (show k1 + 1 ≤ wr.heap.size by omega) (.cells #[.int .u8 x.kind, .string x.key, .string x.val, .int .u32 x.blk, .int .u16 x.deep, .string x.add] 48)
      have ho2 := OwnM.later ho (below_box wr (.cells #[.int .u8 x.kind, .string x.key, .string x.val, .int .u32 x.blk, .int .u16 x.deep, .string x.add] 48))
      generalize hRx : aboutR x = Rx at *
      clear hRx
      have HCx := hid (fun wr => cut23 (str Rx.lo) (str Rx.hi) Rx.e (str R.lo) (str R.hi) R.e wr)
      rw [show rg (str Rx.lo) (str Rx.hi) Rx.e = Rx from rfl, show rg (str R.lo) (str R.hi) R.e = R from rfl, HS.out.1, HS.out.2.1, HS.out.2.2] at HCx
      unfold rv at HAx HCx
      obtain ⟨D, hD⟩ : ∃ D, cutR Rx R = D := ⟨_, rfl⟩
      rw [hD] at HBx HCx
      clear hD
      replace HBx := hid (HBx.out.trans (other_dec D Rx))
      generalize hX0 : str Rx.lo = X0 at *
      generalize hX1 : str Rx.hi = X1 at *
      generalize hX2 : Rx.e = X2 at *
      generalize hD0 : str D.lo = D0 at *
      generalize hD1 : str D.hi = D1 at *
      generalize hD2 : D.e = D2 at *
      have HXD := hid (And.intro hX0 (And.intro hX1 (And.intro hD0 hD1)))
      clear hX0 hX1 hX2 hD0 hD1 hD2
      obtain ⟨xk, xy, xv, xb, xd, xa⟩ := x
      dsimp only at *
      go_upto_region 6 with fail
      clear c0 c1' c2' c3' c4' c5' ho hb hbw
      have hkw : k1 + 1 ≤ wr.heap.size := by omega
      generalize wr.heap.size = kp at *
      generalize wr.alloc (.cells #[.int .u8 xk, .string xy, .string xv, .int .u32 xb, .int .u16 xd, .string xa] 48) = w5 at *
      have hs5 := hb2.size
      have hkp5 := B1.lt
      obtain ⟨m0, m1, m2, m3, m4, m5⟩ := B1.six
      simp only [Nat.zero_add] at m1 m2 m3 m4 m5
      dsimp only at m0 m1 m2 m3 m4 m5
      go_upto_region 7 with (first | (go_at_call 33; refine (HAx.out _).mono ?_; clear HAx; rintro x w6 ⟨rfl, hb6⟩) | fail)
      clear m0 m1 m2 m3 m4 m5
      have hs6 := hb6.size
      have B2 := (B1.later hb6).alloc (.cells #[.string X0, .string X1, .bool X2] 55)
      have Q2 := (Q1.later hb6).alloc (.cells #[.string X0, .string X1, .bool X2] 55)
      have Y2 := Box.new w6 (.string X0) (.string X1) (.bool X2)
      have ho3 := OwnM.later (OwnM.later ho2 hb6) (below_box w6 (.cells #[.string X0, .string X1, .bool X2] 55))
      have hb3 := (hb2.trans (hb6.mono (by omega))).alloc (show k1 + 1 ≤ w6.heap.size by omega) (.cells #[.string X0, .string X1, .bool X2] 55)
      clear B1 Q1 ho2 hb2 hb6
      generalize w6.heap.size = kq at *
      generalize w6.alloc (.cells #[.string X0, .string X1, .bool X2] 55) = w7 at *
      refine wp_region_quiet (C := fun u => Below w7.heap.size w7 u) (by kernel_rfl) (by kernel_rfl) (Below.refl _ w7).drew ?_
      change wpQuiet _ _ _ _ (_ :: _) _
      repeat
        first
          | go_big_quiet_skip
          | go_big_quiet_want
            first
              | refine quiet_c (.agg #[.string D0, .string D1, .bool D2]) 35 #[.agg #[.string X0, .string X1, .bool X2], .agg #[.string S0, .string S1, .bool S2]] ?_ (fun u hu => (HCx.out u).mono fun x u' h => ⟨h.1, hu.trans (h.2.mono hu.size)⟩) ?_
                · intro u hu
                  go_simp
                  done
              | refine quiet_v (.agg #[.string X0, .string X1, .bool X2]) ?_ ?_
                · intro u hu
                  obtain ⟨r0, r1, r2⟩ := (Y2.later hu).cells
                  go_simp
                  done
              | refine quiet_v (.agg #[.string S0, .string S1, .bool S2]) ?_ ?_
                · intro u hu
                  obtain ⟨r0, r1, r2⟩ := (Q2.later hu).cells
                  go_simp
                  done
              | refine quiet_v ?_ ?_ ?_
                rotate_left
                · intro u hu
                  go_simp
                  with_reducible rfl
            go_simp
            go_big_quiet_on
      go_big_quiet_want
      refine quiet_v (.bool (decide (D0.toList = X0.toList → D1.toList = X1.toList → ¬ D2 = X2))) ?_ ?_
      · intro u hu
        go_simp
        by_cases q1 : D0.toList = X0.toList <;> by_cases q2 : D1.toList = X1.toList <;> by_cases q3 : D2 = X2 <;> simp [q1, q2, q3]
      generalize decide (D0.toList = X0.toList → D1.toList = X1.toList → ¬ D2 = X2) = oB at *
      go_simp
      go_big_quiet_on
      refine wpQuiet_nil (fun u hu => ?_)
      have B3 := B2.later hu
      have ho4 := OwnM.later ho3 hu
      have hb4 := hb3.trans (hu.mono (by have := hb3.size; omega))
      have hs7 := hb3.size
      have hs8 := hu.size
      rw [HBx.out] at HOx
      clear B2 Q2 Y2 ho3 hb3 hu HCx HBx
      cases oB
      case false =>
        have HOy := hid (HOx.out.trans (if_neg (by simp)))
        go_wp2_with fail
        go_roundw
        case rel => exact ⟨j + 1, by omega, by go_num, by rw [HOy.out]; exact ho4, hb4⟩
        case measure => simp [intOf]; omega
      case true =>
        have HOy := hid (HOx.out.trans (if_pos rfl))
        obtain ⟨m0, m1, m2, m3, m4, m5⟩ := B3.six
        simp only [Nat.zero_add] at m1 m2 m3 m4 m5
        dsimp only at m0 m1 m2 m3 m4 m5
        have hlt8 := B3.lt
        have B5 := MBox.new u ⟨xk, xy, xv, xb, xd, xa⟩
        have bx := below_box u (.cells #[.int .u8 xk, .string xy, .string xv, .int .u32 xb, .int .u16 xd, .string xa] 48)
        have ho5 := OwnM.later ho4 bx
        have hb5 := hb4.alloc (show k1 + 1 ≤ u.heap.size by omega) (.cells #[.int .u8 xk, .string xy, .string xv, .int .u32 xb, .int .u16 xd, .string xa] 48)
        go_wp2_with (first | (at_builtin; refine appM rfl _ _ rfl (k1 + 1) _ (OT j) rfl ho5 ⟨xk, xy, xv, xb, xd, xa⟩ u.heap.size rfl B5 (by omega) (by simp; omega) (hb4.trans (by have := bx.mono (show k1 + 1 ≤ u.heap.size by omega); exact this)) ?_; intro v' w11 h1 h2 h3; clear m0 m1 m2 m3 m4 m5 B5 bx ho5 hb5 ho4 hb4 B3) | fail)
        go_roundw
        case rel => exact ⟨j + 1, by omega, by go_num, by rw [HOy.out]; exact h1, h2⟩
        case measure => simp [intOf]; omega
    · obtain rfl : j = n3 := by omega
      go_wp2_with fail
      go_ret
      exact ⟨⟨_, rfl, by rw [HQ0.out, ← HOe.out]; exact row_mono ho (by omega)⟩, by rw [HQ0.out]; exact hbw⟩
end Go.Proofs.Ytmnngfbcgpholaa.Key

namespace Go.Proofs.Ytmnngfbcgpholaa.Key
open Go.RowKit Draw
open Go.Op (bytesLess)
set_option linter.unusedVariables false
set_option linter.unusedSimpArgs false

/-- 'append(l, ys...)' -/
theorem appMany {α : Type} (f : α → List Value) (sz byt : Nat) (t e : TypeId) (z : Value) (h0 : 0 < sz) (hf : ∀ x, (f x).length = sz) (ht : Try.prog.underlying t = some (.slice e)) (info : (Try.prog.info? e).map (fun i => (i.zero, i.size, i.bytes)) = some (some z, sz, byt)) (hz : z.cells.size = sz) (hby : byt ≤ 200) (hone : ∀ x, ∀ u ∈ f x, u.oneCell' = true)
    {w : World} {ops : Array Oper} {rest : List Oper} {o : Oper} {a : Act} {Q : Exit → Act → World → Prop} (hgd : o.guard = none) (s x : Operand) (ho : o.op = .call { callee := .builtin .append, args := #[s, x], argTypes := #[t, t] })
    (B : Nat) (v : Value) (l : List α) (hs : a.eval s = v) (hown : w.ownsRow B e sz v l.length (l.flatMap f)) (ad : Option Addr) (m c : Nat) (ys : List α) (hx : a.eval x = .slice ad m c) (hnil : ad = none → m = 0 ∧ c = 0) (hl : ys.length = m) (hn : ∀ adr, ad = some adr → ∀ j u, (ys.flatMap f)[j]? = some u → w.cell? (adr.add j) = some u) (hsz : l.length + m ≤ 100000) (hB : B ≤ w.heap.size)
    (h : ∀ v' w', w'.ownsRow B e sz v' (l ++ ys).length ((l ++ ys).flatMap f) → w.grownBy w' v.ownBlock → wpList Try.prog ops Q rest (a.put o.dst v') w') : wpList Try.prog ops Q (o :: rest) a w := by
  obtain ⟨i0, hi, hz0, hz1, hz2⟩ := info_parts info
  cases ad with
  | none =>
    obtain ⟨rfl, rfl⟩ := hnil rfl
    have hy : ys = [] := List.eq_nil_of_length_eq_zero hl
    subst hy
    refine wpList_append_own_none hgd s x t ho B e i0 sz ht hi _ _ _ hs hown hx ?_
    exact h v w (by simpa using hown) ⟨rfl, rfl, rfl, Nat.le_refl _, fun _ _ _ => rfl⟩
  | some ad =>
    have hk : (l.length + m) * byt ≤ 100000 * 200 := Nat.mul_le_mul hsz hby
    refine wpList_append_own _ hgd s x t ho B e i0 z sz byt ht hi hz0 hz1 hz2 hz h0 _ _ _ hs hown ad m c (ys.flatMap f) hx (by rw [flat_len f sz hf, hl]) (hn ad rfl) (by intro u hu; obtain ⟨y, _, hy⟩ := List.mem_flatMap.1 hu; exact hone y u hy)
      (by unfold maxLen; omega) (by omega) hB ?_
    intro v' w' h1 h2 _
    refine h v' w' ?_ h2
    rw [List.length_append, List.flatMap_append, hl]
    exact h1
/-- .. in a region that draws, where there is something -/
theorem yMany {α : Type} (f : α → List Value) (sz byt : Nat) (t e : TypeId) (z : Value) (h0 : 0 < sz) (hf : ∀ x, (f x).length = sz) (ht : Try.prog.underlying t = some (.slice e)) (info : (Try.prog.info? e).map (fun i => (i.zero, i.size, i.bytes)) = some (some z, sz, byt)) (hz : z.cells.size = sz) (hby : byt ≤ 200) (hone : ∀ x, ∀ u ∈ f x, u.oneCell' = true)
    {ops : Array Oper} {o : Oper} {a : Act} {w : World} {K : Value → World → Prop} (hw : Region.wanted o (yielded ops a.tmps) = true) (s x : Operand)
    (ho : o.op = .call { callee := .builtin .append, args := #[s, x], argTypes := #[t, t] })
    (B : Nat) (v : Value) (l : List α) (hs : a.eval s = v) (hown : w.ownsRow B e sz v l.length (l.flatMap f)) (ad : Addr) (m c : Nat) (ys : List α) (hx : a.eval x = .slice (some ad) m c) (hl : ys.length = m) (hn : ∀ j u, (ys.flatMap f)[j]? = some u → w.cell? (ad.add j) = some u) (hsz : l.length + m ≤ 90000) (hB : B ≤ w.heap.size)
    (h : ∀ v' w', w'.ownsRow B e sz v' (l ++ ys).length ((l ++ ys).flatMap f) → w.grownBy w' v.ownBlock → K v' w') : opYields Try.prog ops o a w K := by
  obtain ⟨i0, hi, hz0, hz1, hz2⟩ := info_parts info
  have hk : (l.length + m) * byt ≤ 100000 * 200 := Nat.mul_le_mul (by omega) hby
  refine opYields_append hw s x t ho B e i0 z sz byt ht hi hz0 hz1 hz2 hz h0 v _ _ hs hown ad m c (ys.flatMap f) hx (by rw [flat_len f sz hf, hl]) hn (by intro u hu; obtain ⟨y, _, hy⟩ := List.mem_flatMap.1 hu; exact hone y u hy) (by unfold maxLen; omega) (by omega) hB ?_
  intro v' w' h1 h2
  refine h v' w' ?_ h2
  rw [List.length_append, List.flatMap_append, hl]
  exact h1
theorem Xts.news {w : World} {a : Option Addr} {l : List Pt} (h : Xts w a l) : ∀ adr, a = some adr → ∀ j u, (l.flatMap Pt.cells)[j]? = some u → w.cell? (adr.add j) = some u := by
  rintro adr rfl
  rcases h with rfl | ⟨b, off, he, hc⟩
  · intro j u hu; simp at hu
  · simp only [Option.some.injEq] at he
    subst he
    refine flat_news Pt.cells 5 (by omega) (fun _ => rfl) fun i hi q u hu => ?_
    obtain ⟨c0, c1, c2, c3, c4⟩ := hc i hi
    have hq : q < 5 := by have := (List.getElem?_eq_some_iff.1 hu).1; simpa [Pt.cells] using this
    match q, hq with
    | 0, _ => rw [← hu]; exact c0
    | 1, _ => rw [← hu]; exact c1
    | 2, _ => rw [← hu]; exact c2
    | 3, _ => rw [← hu]; exact c3
    | 4, _ => rw [← hu]; exact c4

set_option maxRecDepth 100000 in
set_option maxHeartbeats 4000000 in
theorem around19 (n : Nd) (p : Pl) (m : M) (w : World) (hf : Few n) (h : Lies w n p) (hlen : n.pv.length + 1 = n.ks.length) (hk : m.key.size ≤ 1000) :
    Calls Try.prog 19 #[nv n p, mv m] w fun x w' => (∃ v, x = .returned v ∧ w'.ownsRow (w.heap.size + 1) 68 5 v (aroundL n m).length ((aroundL n m).flatMap Pt.cells)) ∧ Below w.heap.size w w' := by
  have HW1 := hid (fun (wr : World) (hb : Below w.heap.size w wr) => within34 n p ⟨#[]⟩ (str (aboutR m).lo) true wr hf (h.later hb) hlen)
  have HW2 := hid (fun (wr : World) (hb : Below w.heap.size w wr) => within34 n p (str (aboutR m).hi) ⟨#[]⟩ false wr hf (h.later hb) hlen)
  rw [show rg ⟨#[]⟩ (str (aboutR m).lo) true = aheadR m from rfl] at HW1
  rw [show rg (str (aboutR m).hi) ⟨#[]⟩ false = behindR m from rfl] at HW2
  have HA := hid (fun wr => about57 m wr hk)
  have HAr := hid (show aroundL n m = (inW n (aheadR m) n.ks.length ++ [gotoPt m]) ++ if (aboutR m).e then inW n (behindR m) n.ks.length else [] from rfl)
  have h1 := inW_le n (aheadR m) n.ks.length
  have h2 := inW_le n (behindR m) n.ks.length
  have hl3 := hf.l3
  have HG := hid (show gotoPt m = ⟨m.key, ⟨m.blk, m.deep, m.key, m.add⟩⟩ from rfl)
  clear h hf hlen hk
  generalize aroundL n m = AL at *
  generalize inW n (aheadR m) n.ks.length = A1 at *
  generalize inW n (behindR m) n.ks.length = A2 at *
  generalize gotoPt m = G at *
  unfold rv at HA
  generalize str (aboutR m).lo = S0 at *
  generalize str (aboutR m).hi = S1 at *
  generalize (aboutR m).e = S2 at *
  have N0 := (NBox.new w (.bool n.leaf) (.slice p.a1 n.ps.length p.c1) (.slice p.a2 n.pv.length p.c2) (.slice p.a3 n.ks.length p.c3) (.slice p.a4 n.bf.length p.c4)).alloc (.cells #[.int .u8 m.kind, .string m.key, .string m.val, .int .u32 m.blk, .int .u16 m.deep, .string m.add] 48)
  have M0 := MBox.new (w.alloc (.cells #[.bool n.leaf, .slice p.a1 n.ps.length p.c1, .slice p.a2 n.pv.length p.c2, .slice p.a3 n.ks.length p.c3, .slice p.a4 n.bf.length p.c4] 27)) m
  have hb0 := (below_box w (.cells #[.bool n.leaf, .slice p.a1 n.ps.length p.c1, .slice p.a2 n.pv.length p.c2, .slice p.a3 n.ks.length p.c3, .slice p.a4 n.bf.length p.c4] 27)).alloc (by rw [World.size_alloc]; omega) (.cells #[.int .u8 m.kind, .string m.key, .string m.val, .int .u32 m.blk, .int .u16 m.deep, .string m.add] 48)
  rw [World.size_alloc] at M0
  obtain ⟨md, mk, ml, mb, mp, ma⟩ := m
  obtain ⟨lB, ps, ws, ks, bf⟩ := n
  obtain ⟨a1, c1, a2, c2, a3, c3, a4, c4⟩ := p
  dsimp only [nv] at *
  generalize ps.length = n1 at *
  generalize ws.length = n2 at *
  generalize ks.length = n3 at *
  generalize bf.length = n4 at *
  go_enter Try.func19, Try.ntmps19
  go_upto_region 1 with fail
  generalize (w.alloc (.cells #[.bool lB, .slice a1 n1 c1, .slice a2 n2 c2, .slice a3 n3 c3, .slice a4 n4 c4] 27)).alloc (.cells #[.int .u8 md, .string mk, .string ml, .int .u32 mb, .int .u16 mp, .string ma] 48) = w2 at *
  generalize hk0 : w.heap.size = k0 at *
  have HQ0 := hid hk0
  clear hk0
  generalize hk1 : k0 + 1 = k1 at *
  have hM0 := M0.lt
  obtain ⟨m0, m1, m2, m3, m4, m5⟩ := M0.six
  simp only [Nat.zero_add] at m1 m2 m3 m4 m5
  dsimp only at m0 m1 m2 m3 m4 m5
  go_upto_region 2 with (first | (go_at_call 33; refine (HA.out _).mono ?_; clear HA; rintro x w3 ⟨rfl, hb3⟩) | fail)
  clear m0 m1 m2 m3 m4 m5
  have hs3 := hb3.size
  have N1 := (N0.later hb3).alloc (.cells #[.string S0, .string S1, .bool S2] 55)
  have M1 := (M0.later hb3).alloc (.cells #[.string S0, .string S1, .bool S2] 55)
  have Y1 := Box.new w3 (.string S0) (.string S1) (.bool S2)
  have hb1 := (hb0.trans (hb3.mono (by omega))).alloc (show k0 ≤ w3.heap.size by omega) (.cells #[.string S0, .string S1, .bool S2] 55)
  clear N0 M0 hb0 hb3
  generalize w3.heap.size = k2 at *
  generalize w3.alloc (.cells #[.string S0, .string S1, .bool S2] 55) = w4 at *
  have hY1 := Y1.lt
  obtain ⟨m0, m1, m2, m3, m4⟩ := N1.cells
  obtain ⟨r0, r1, r2⟩ := Y1.cells
  go_upto_region 3 with (first | (go_at_call 34; refine (HW1.out _ hb1).mono ?_; clear HW1; rintro x w5 ⟨⟨v1, rfl, o1⟩, hb5⟩) | fail)
  clear m0 m1 m2 m3 m4 r0 r1 r2
  have hs5 := hb5.size
  have N2 := N1.later hb5
  have M2 := M1.later hb5
  have Y2 := Y1.later hb5
  have hb2 := hb1.trans (hb5.mono (by omega))
  generalize hBq : w4.heap.size + 1 = Bq at *
  clear N1 M1 Y1 hb1 hb5
  obtain ⟨m0, m1, m2, m3, m4, m5⟩ := M2.six
  simp only [Nat.zero_add] at m1 m2 m3 m4 m5
  dsimp only at m0 m1 m2 m3 m4 m5
  obtain ⟨b1, d1, q1, rfl⟩ := row_slice o1
  have hC := (XBox.new w5 ⟨mk, ⟨mb, mp, mk, ma⟩⟩).each
  have bx := below_box w5 (.cells #[.string mk, .int .u32 mb, .int .u16 mp, .string mk, .string ma] 68)
  have o2 := row_later o1 bx
  have N3 := N2.later bx
  have Y3 := Y2.later bx
  have hb3 := hb2.trans (bx.mono (by omega))
  go_upto_region 4 with (first | (at_builtin; refine appOne Pt.cells 5 56 51 68 _ (by omega) (fun _ => rfl) Try.underlying51 info68 rfl (by omega) oneX rfl _ _ rfl Bq _ A1 rfl o2 ⟨mk, ⟨mb, mp, mk, ma⟩⟩ w5.heap.size rfl hC (by omega) (by simp; omega) ?_; intro v' w11 g1 g2) | fail)
  have hs6 : Bq ≤ (w5.alloc (.cells #[.string mk, .int .u32 mb, .int .u16 mp, .string mk, .string ma] 68)).heap.size := by rw [World.size_alloc]; omega
  have N4 := N3.kept g2 (row_ge o2 (show k0 < Bq by omega))
  have Y4 : Box w11 k2 (.string S0) (.string S1) (.bool S2) := (g2.block k2 Y3.lt (row_ge o2 (show k2 < Bq by omega))).trans Y3
  have hb4 := hb3.grown g2 (by omega) (fun k hk => by have := (World.ownsRow.lt o2 k hk).1; omega)
  have hs11 := g2.size
  clear m0 m1 m2 m3 m4 m5 N2 N3 M2 Y2 Y3 hb2 hb3 bx o1 o2 g2 hC
  rw [← HG.out] at g1
  obtain ⟨b2, d2, q2, rfl⟩ := row_slice g1
  obtain ⟨r0, r1, r2⟩ := Y4.cells
  cases S2
  case false =>
    have HE := hid (HAr.out.trans (show _ = A1 ++ [G] by simp))
    go_wp2_with fail
    go_ret
    exact ⟨⟨_, rfl, by rw [HQ0.out, HE.out]; exact row_mono g1 (by omega)⟩, by rw [HQ0.out]; exact hb4⟩
  case true =>
    have HE := hid (HAr.out.trans (show _ = (A1 ++ [G]) ++ A2 by simp))
    obtain ⟨m0, m1, m2, m3, m4⟩ := N4.cells
    go_wp2_with fail
    refine (HW2.out _ hb4).mono ?_
    clear HW2
    rintro x w13 ⟨⟨v1, rfl, o1⟩, hb5⟩
    obtain ⟨a5, c5, rfl, hx5, hnil5⟩ := row_xts o1
    have g3 := row_later g1 hb5
    have hs12 := hb5.size
    have hb6 := hb4.trans (hb5.mono (by omega))
    have hl5 : (A1 ++ [G]).length ≤ n3 + 1 := by rw [List.length_append, List.length_singleton]; omega
    have hl6 : A2.length ≤ n3 := h2
    clear m0 m1 m2 m3 m4 r0 r1 r2 N4 Y4 hb4 hb5 g1
    go_wp2_with (first | (at_builtin; (refine appMany Pt.cells 5 56 51 68 _ (by omega) (fun _ => rfl) Try.underlying51 info68 rfl (by omega) oneX rfl _ _ rfl Bq _ (A1 ++ [G]) rfl g3 a5 A2.length c5 A2 rfl hnil5 rfl hx5.news (by omega) (by omega) ?_); intro v' w12 g4 g5; have hb7 := hb6.grown g5 (by omega) (fun k hk => by have := (World.ownsRow.lt g3 k hk).1; omega)) | fail)
    go_ret
    exact ⟨⟨_, rfl, by rw [HQ0.out, HE.out]; exact row_mono g4 (by omega)⟩, by rw [HQ0.out]; exact hb7⟩
end Go.Proofs.Ytmnngfbcgpholaa.Key

namespace Go.Proofs.Ytmnngfbcgpholaa.Key
open Go.RowKit Draw
open Go.Op (bytesLess)
set_option linter.unusedVariables false
set_option linter.unusedSimpArgs false

theorem any_more {l : List M} {p : M → Bool} {j : Nat} (hj : j < l.length) : (l.take (j + 1)).any p = ((l.take j).any p || p l[j]) := by
  rw [List.take_add_one, List.getElem?_eq_getElem hj, List.any_append]
  simp
theorem first_at {l : List M} {j : Nat} (hj : j < l.length) (hno : (l.take j).any isGoto = false) (h : isGoto l[j] = true) : firstI l = (j : Int) := by
  have e : l.findIdx isGoto = j := by
    rw [List.findIdx_eq hj]
    refine ⟨h, fun i hi => ?_⟩
    have := any_no hno (l[i]'(by omega)) (by rw [List.mem_take_iff_getElem]; exact ⟨i, by omega, rfl⟩)
    exact this
  unfold firstI
  rw [e, if_pos hj]
theorem any_more' {l : List M} {p : M → Bool} {j : Nat} {m : M} (h : l[j]? = some m) : (l.take (j + 1)).any p = ((l.take j).any p || p m) := by
  obtain ⟨hj, rfl⟩ := List.getElem?_eq_some_iff.1 h
  exact any_more hj
theorem first_at' {l : List M} {j : Nat} {m : M} (hx : l[j]? = some m) (hno : (l.take j).any isGoto = false) (h : isGoto m = true) : firstI l = (j : Int) := by
  obtain ⟨hj, rfl⟩ := List.getElem?_eq_some_iff.1 hx
  exact first_at hj hno h
theorem first_none {l : List M} (hno : l.any isGoto = false) : firstI l = -1 := by
  unfold firstI
  split
  · rename_i h
    have h1 := List.findIdx_getElem (w := h)
    rw [any_no hno _ (List.getElem_mem h)] at h1
    cases h1
  · rfl

set_option maxRecDepth 100000 in
set_option maxHeartbeats 1000000 in
theorem goto28 (m : M) (w : World) : Calls Try.prog 28 #[mv m] w fun x w' => x = .returned (.bool (isGoto m)) ∧ Below w.heap.size w w' := by
  have hG : isGoto m = (m.kind == 3) := rfl
  generalize isGoto m = G at *
  have hb := below_box w (.cells #[.int .u8 m.kind, .string m.key, .string m.val, .int .u32 m.blk, .int .u16 m.deep, .string m.add] 48)
  obtain ⟨kd, ky, vl, bk, dp, ad⟩ := m
  dsimp only at *
  go_enter Try.func28, Try.ntmps28
  go_wp2_with fail
  go_ret
  exact ⟨by rw [hG]; rfl, hb⟩
set_option maxRecDepth 100000 in
set_option maxHeartbeats 1000000 in
theorem index27 (a : Option Addr) (c : Nat) (l : List M) (w : World) (hl : l.length ≤ 1000000) (hm : Msgs w a l) :
    Calls Try.prog 27 #[.slice a l.length c, .func (.func 28) #[] #[]] w fun x w' => x = .returned (.int .i64 (firstI l)) ∧ Below w.heap.size w w' := by
  have HF := hid (fun j m (hx : l[j]? = some m) => first_at' hx)
  have HN0 := hid (first_none (l := l))
  have HM := hid (fun j m (hx : l[j]? = some m) => any_more' (p := isGoto) hx)
  generalize firstI l = A at *
  have eg : ∀ args w, (callFunc 28 args).run Try.prog w = .ok (.enter 28 args) w := enters_of Try.func28 (by kernel_rfl) rfl
  generalize hn : l.length = n at *
  have HN := hid hn
  clear hn
  go_enter Try.func27, Try.ntmps27
  go_wp2_with fail
  go_loopw [8] (fun i wr => ∃ j : Nat, j ≤ n ∧ i = .int .i64 j ∧ Hid ((l.take j).any isGoto = false) ∧ Below w.heap.size w wr) (fun i _ => n - (intOf i).toNat)
  case atStart => exact ⟨0, Nat.zero_le _, rfl, by simp [Hid], Below.refl _ _⟩
  case round =>
    obtain ⟨j, hj, rfl, hjn, hb⟩ := hrel
    by_cases hlt : j < n
    · have hlt' : j < l.length := by rw [HN.out]; exact hlt
      obtain ⟨b, off, rfl, h6⟩ := (hm.later hb).at hlt'
      have HFj := hid (HF.out j _ (List.getElem?_eq_getElem hlt') hjn.out)
      have HMj := hid (HM.out j _ (List.getElem?_eq_getElem hlt'))
      obtain ⟨m, HMm⟩ : ∃ m, Hid (l[j] = m) := ⟨_, hid rfl⟩
      rw [HMm.out] at h6 HFj HMj
      have HO := goto28 m
      obtain ⟨t, HT⟩ : ∃ t, Hid (isGoto m = t) := ⟨_, hid rfl⟩
      rw [HT.out] at HO HFj HMj
      obtain ⟨kd, ky, vl, bk, dp, ad⟩ := m
      obtain ⟨c0, c1, c2, c3, c4, c5⟩ := h6
      dsimp only at c0 c1 c2 c3 c4 c5
      go_wp2_with fail
      refine (HO _).mono ?_
      rintro x w1 ⟨rfl, hb1⟩
      replace hb1 := hb.trans (hb1.mono hb.size)
      clear c0 c1 c2 c3 c4 c5 HO
      cases t
      · go_wp2_with fail
        go_roundw
        case rel => exact ⟨j + 1, by omega, by go_num, by unfold Hid at *; rw [HMj, hjn]; rfl, hb1⟩
        case measure => simp [intOf]; omega
      · go_wp2_with fail
        go_ret
        exact ⟨by have hA := HFj.out (by first | exact rfl | exact trivial); subst hA; rfl, hb1⟩
    · obtain rfl : j = n := by omega
      go_wp2_with fail
      go_ret
      have hno := hjn.out
      rw [← HN.out, List.take_length] at hno
      exact ⟨by have hA := HN0.out hno; subst hA; rfl, hb⟩
set_option maxRecDepth 100000 in
set_option maxHeartbeats 1000000 in
theorem first11 (n : Nd) (p : Pl) (w : World) (hl : n.bf.length ≤ 1000000) (h : Lies w n p) :
    Calls Try.prog 11 #[nv n p] w fun x w' => x = .returned (.int .i64 (firstI n.bf)) ∧ Below w.heap.size w w' := by
  have hb0 := below_box w (.cells #[.bool n.leaf, .slice p.a1 n.ps.length p.c1, .slice p.a2 n.pv.length p.c2, .slice p.a3 n.ks.length p.c3, .slice p.a4 n.bf.length p.c4] 27)
  have HI := hid (index27 p.a4 p.c4 n.bf _ hl (h.h4.later hb0))
  clear h
  generalize firstI n.bf = A at *
  obtain ⟨lB, ps, ws, ks, bf⟩ := n
  obtain ⟨a1, c1, a2, c2, a3, c3, a4, c4⟩ := p
  dsimp only [nv] at *
  go_enter Try.func11, Try.ntmps11
  go_wp2_with fail
  refine HI.out.mono ?_
  rintro x w1 ⟨rfl, hb1⟩
  replace hb1 := hb0.trans (hb1.mono hb0.size)
  go_wp2_with fail
  go_ret
  exact ⟨rfl, hb1⟩
set_option maxRecDepth 100000 in
set_option maxHeartbeats 1000000 in
theorem first12 (n : Nd) (p : Pl) (w : World) (hl : n.bf.length ≤ 1000000) (h : Lies w n p) :
    Calls Try.prog 12 #[nv n p] w fun x w' => x = .returned (.int .i64 (firstI n.bf)) ∧ Below w.heap.size w w' := by
  have hb0 := below_box w (.cells #[.bool n.leaf, .slice p.a1 n.ps.length p.c1, .slice p.a2 n.pv.length p.c2, .slice p.a3 n.ks.length p.c3, .slice p.a4 n.bf.length p.c4] 27)
  have N0 := NBox.new w (.bool n.leaf) (.slice p.a1 n.ps.length p.c1) (.slice p.a2 n.pv.length p.c2) (.slice p.a3 n.ks.length p.c3) (.slice p.a4 n.bf.length p.c4)
  have h4 := hid (h.h4.later hb0)
  have HF := hid (fun j m (hx : n.bf[j]? = some m) => first_at' hx)
  have HN0 := hid (first_none (l := n.bf))
  have HM := hid (fun j m (hx : n.bf[j]? = some m) => any_more' (p := isGoto) hx)
  clear h
  generalize firstI n.bf = A at *
  obtain ⟨lB, ps, ws, ks, l⟩ := n
  obtain ⟨a1, c1, a2, c2, a3, c3, a4, c4⟩ := p
  dsimp only [nv] at *
  generalize ps.length = n1 at *
  generalize ws.length = n2 at *
  generalize ks.length = n3 at *
  generalize hn : l.length = n at *
  have HN := hid hn
  clear hn
  obtain ⟨m0, m1, m2, m3, m4⟩ := N0.cells
  go_enter Try.func12, Try.ntmps12
  go_upto_region 1 with fail
  generalize w.alloc (.cells #[.bool lB, .slice a1 n1 c1, .slice a2 n2 c2, .slice a3 n3 c3, .slice a4 n c4] 27) = w0 at *
  go_wp2_with fail
  clear m0 m1 m2 m3 m4
  go_loopw [7] (fun i wr => ∃ j : Nat, j ≤ n ∧ i = .int .i64 j ∧ Hid ((l.take j).any isGoto = false) ∧ Below w0.heap.size w0 wr) (fun i _ => n - (intOf i).toNat)
  case atStart => exact ⟨0, Nat.zero_le _, rfl, by simp [Hid], Below.refl _ _⟩
  case round =>
    obtain ⟨j, hj, rfl, hjn, hb⟩ := hrel
    have hbw := hb0.trans (hb.mono hb0.size)
    by_cases hlt : j < n
    · have hlt' : j < l.length := by rw [HN.out]; exact hlt
      obtain ⟨b, off, rfl, h6⟩ := (h4.out.later hb).at hlt'
      have HFj := hid (HF.out j _ (List.getElem?_eq_getElem hlt') hjn.out)
      have HMj := hid (HM.out j _ (List.getElem?_eq_getElem hlt'))
      obtain ⟨m0, m1, m2, m3, m4⟩ := (N0.later hb).cells
      obtain ⟨m, HMm⟩ : ∃ m, Hid (l[j] = m) := ⟨_, hid rfl⟩
      rw [HMm.out] at h6 HFj HMj
      obtain ⟨kd, ky, vl, bk, dp, ad⟩ := m
      obtain ⟨c0, c1, c2, c3, c4, c5⟩ := h6
      dsimp only at c0 c1 c2 c3 c4 c5
      have hG : isGoto ⟨kd, ky, vl, bk, dp, ad⟩ = (kd == 3) := rfl
      rw [hG] at HFj HMj
      clear hG
      by_cases h3 : kd = 3
      · have h3' : (kd == 3) = true := by simp [h3]
        rw [h3'] at HFj HMj
        subst h3
        clear h3'
        go_wp2_with fail
        go_ret
        exact ⟨by have hA := HFj.out (by first | exact rfl | exact trivial); subst hA; rfl, hbw⟩
      · have h3' : (kd == 3) = false := by simp [h3]
        rw [h3'] at HFj HMj
        go_wp2_with fail
        go_roundw
        case rel => exact ⟨j + 1, by omega, by go_num, by unfold Hid at *; rw [HMj, hjn]; rfl, hb⟩
        case measure => simp [intOf]; omega
    · obtain rfl : j = n := by omega
      go_wp2_with fail
      go_ret
      have hno := hjn.out
      rw [← HN.out, List.take_length] at hno
      exact ⟨by have hA := HN0.out hno; subst hA; rfl, hbw⟩
end Go.Proofs.Ytmnngfbcgpholaa.Key

namespace Go.Proofs.Ytmnngfbcgpholaa.Key
open Go.RowKit
open Go.Op (bytesLess)
set_option linter.unusedVariables false
set_option linter.unusedSimpArgs false

theorem both_le {p q : Nat → Bool} (h : ∀ i j, i < j → q i = true → p j = true → False) : ∀ J, ((List.range J).filter p).length + ((List.range J).filter q).length ≤ J + 1 ∧ ((∀ i, i < J → q i = false) → ((List.range J).filter p).length + ((List.range J).filter q).length ≤ J)
  | 0 => ⟨by simp, fun _ => by simp⟩
  | J + 1 => by
    obtain ⟨h1, h2⟩ := both_le h J
    rw [List.range_succ, List.filter_append, List.filter_append, List.length_append, List.length_append]
    have hp : ([J].filter p).length = if p J then 1 else 0 := by cases hq : p J <;> simp [hq]
    have hq : ([J].filter q).length = if q J then 1 else 0 := by cases hq : q J <;> simp [hq]
    rw [hp, hq]
    refine ⟨?_, fun hn => ?_⟩
    · by_cases hall : ∀ i, i < J → q i = false
      · have := h2 hall
        split <;> split <;> omega
      · have hpJ : p J = false := by
          cases hpj : p J
          · rfl
          · exact absurd (fun i hi => by
              cases hqi : q i
              · rfl
              · exact (h i J hi hqi hpj).elim) hall
        rw [hpJ, if_neg (by simp)]
        split <;> omega
    · have := h2 (fun i hi => hn i (by omega))
      rw [hn J (by omega), if_neg (show ¬ false = true by simp)]
      split <;> omega

def lessPt (a b : Pt) : Prop := lessT a.lo b.lo
theorem lo_size {pv : List ByteArray} (h : upTo (pivAt pv) pv.length = true) (j : Nat) : (loOf pv j).size ≤ 16 := by
  unfold loOf
  split
  · rename_i hj
    cases j with
    | zero => exact Nat.zero_le _
    | succ j =>
      rw [ahead_at (by omega)]
      exact ((piv_iff.1 h).2 _ (List.getElem_mem (by omega))).2
  · exact Nat.zero_le _
theorem size_len (s : ByteArray) : s.data.toList.length = s.size := by rw [Lib.size_eq]

theorem ahead_pw {n : Nd} (h : upTo (pivAt n.pv) n.pv.length = true) (g : List UInt8) {J : Nat} (hJ : J ≤ n.pv.length + 1) : (inW n ⟨[], g, true⟩ J).Pairwise lessPt ∧ ∀ x ∈ inW n ⟨[], g, true⟩ J, bytesLess x.lo.data.toList g = true ∧ x.lo.size ≤ 16 := by
  unfold inW
  refine ⟨?_, ?_⟩
  · rw [List.pairwise_map]
    refine List.Pairwise.imp_of_mem ?_ (picks_pw n.pv _ J)
    intro i j hi hj hij
    have hi' := mem_picks.1 hi
    have hj' := mem_picks.1 hj
    unfold lessPt lessT
    rw [part_ahead hi'.2, part_ahead hj'.2]
    exact lo_rise h hij (by omega)
  · intro x hx
    obtain ⟨i, hi, rfl⟩ := List.mem_map.1 hx
    have hi' := mem_picks.1 hi
    rw [part_ahead hi'.2]
    rw [tch_ahead h g (by omega)] at hi'
    exact ⟨hi'.2, lo_size h i⟩
theorem behind_pw {n : Nd} (h : upTo (pivAt n.pv) n.pv.length = true) (s : List UInt8) (hs : s.length ≤ 16) {J : Nat} (hJ : J ≤ n.pv.length + 1) : (inW n ⟨s, [], false⟩ J).Pairwise lessPt ∧ ∀ x ∈ inW n ⟨s, [], false⟩ J, bytesLess x.lo.data.toList s = false ∧ x.lo.size ≤ 16 := by
  unfold inW
  refine ⟨?_, ?_⟩
  · rw [List.pairwise_map]
    refine List.Pairwise.imp_of_mem ?_ (picks_pw n.pv _ J)
    intro i j hi hj hij
    have hi' := mem_picks.1 hi
    have hj' := mem_picks.1 hj
    unfold lessPt lessT
    rw [part_behind hi'.2, part_behind hj'.2]
    have ht := hi'.2
    rw [tch_behind h s (by omega)] at ht
    have he : endOf n.pv i = true := by unfold endOf; exact decide_eq_true (by omega)
    rw [he, Bool.true_and, Bool.not_not] at ht
    have h1 := less_of_less_le ht (hi_lo h hij (by omega))
    have h2 := lo_rise h hij (show j ≤ n.pv.length by omega)
    show bytesLess (maxL _ s) (maxL _ s) = true
    unfold maxL
    rw [less_asymm h1]
    split
    · exact h1
    · exact h2
  · intro x hx
    obtain ⟨i, hi, rfl⟩ := List.mem_map.1 hx
    have hi' := mem_picks.1 hi
    rw [part_behind hi'.2, str_data, str_size]
    unfold maxL
    split
    · exact ⟨less_self _, hs⟩
    · rename_i hq
      exact ⟨by simpa using hq, by rw [size_len]; exact lo_size h i⟩
/-- a Goto's sizes -/
theorem goto_may {m : M} (h : mayB m = true) (hg : isGoto m = true) : 1 ≤ m.deep ∧ m.key.size ≤ 16 ∧ m.add.size ≤ 16 := by
  have h3 : m.kind = 3 := by simpa [isGoto] using hg
  unfold mayB at h
  rw [if_neg (by omega), if_neg (by omega), if_pos h3] at h
  simp only [Bool.and_eq_true, decide_eq_true_eq] at h
  exact ⟨h.2.2.2.1, h.1, h.2.2.1⟩
theorem succ_lt {p s : List UInt8} (h : succ p = some s) : bytesLess p s = true := has_succ h (by simp [has])

/-- all that is known of the kids around a Goto -/
theorem around_all {n : Nd} {m : M} (h : upTo (pivAt n.pv) n.pv.length = true) (hlen : n.pv.length + 1 = n.ks.length) (hk : ∀ e ∈ n.ks, okE e = true) (hm : mayB m = true) (hg : isGoto m = true) :
    (aroundL n m).Pairwise lessPt ∧ (∀ x ∈ aroundL n m, x.lo.size ≤ 16 ∧ okE x.kid = true ∧ (x.kid ∈ n.ks ∨ x.kid.deep = m.deep)) ∧ (aroundL n m).length ≤ n.ks.length + 2 ∧ 1 ≤ (aroundL n m).length := by
  obtain ⟨hd, hks, hka⟩ := goto_may hm hg
  have hab := about_goto hg
  obtain ⟨a1, a2⟩ := ahead_pw h m.key.data.toList (show n.ks.length ≤ n.pv.length + 1 by omega)
  have hmem : ∀ r j x, j ≤ n.ks.length → x ∈ inW n r j → x.kid ∈ n.ks := by
    intro r j x hj hx
    obtain ⟨i, hi, rfl⟩ := List.mem_map.1 hx
    have hi' := (mem_picks.1 hi).1
    show n.ks.getD i E.nil ∈ n.ks
    rw [getD_at (by omega)]
    exact List.getElem_mem _
  have hgo : okE (gotoPt m).kid = true := by
    unfold okE gotoPt
    simp only [Bool.and_eq_true, decide_eq_true_eq]
    exact ⟨hd, hks, hka⟩
  have haR : aheadR m = ⟨[], m.key.data.toList, true⟩ := by unfold aheadR; rw [hab]; rfl
  unfold aroundL
  rw [haR]
  cases hsu : succ m.key.data.toList with
  | none =>
    have he : (aboutR m).e = false := by rw [hab]; unfold ofR; rw [hsu]; rfl
    rw [he, if_neg (by simp), List.append_nil]
    refine ⟨?_, ?_, ?_, ?_⟩
    · rw [List.pairwise_append]
      refine ⟨a1, List.pairwise_singleton _ _, fun a ha b hb => ?_⟩
      rw [List.mem_singleton] at hb
      subst hb
      exact (a2 a ha).1
    · intro x hx
      rw [List.mem_append, List.mem_singleton] at hx
      rcases hx with hx | rfl
      · have := hmem _ _ _ (Nat.le_refl _) hx
        exact ⟨(a2 x hx).2, hk _ this, .inl this⟩
      · exact ⟨hks, hgo, .inr rfl⟩
    · rw [List.length_append, List.length_singleton]
      have := inW_le n ⟨[], m.key.data.toList, true⟩ n.ks.length
      omega
    · rw [List.length_append, List.length_singleton]; omega
  | some s =>
    have he : (aboutR m).e = true := by rw [hab]; unfold ofR; rw [hsu]; rfl
    have hhi : (aboutR m).hi = s := by rw [hab]; unfold ofR; rw [hsu]; rfl
    have hsl : s.length ≤ 16 := by have := succ_len hsu; rw [size_len] at this; omega
    have hks2 := succ_lt hsu
    obtain ⟨b1, b2⟩ := behind_pw h s hsl (show n.ks.length ≤ n.pv.length + 1 by omega)
    have hbR : behindR m = ⟨s, [], false⟩ := by unfold behindR; rw [hhi]
    rw [he, if_pos rfl, hbR]
    refine ⟨?_, ?_, ?_, ?_⟩
    · rw [List.pairwise_append, List.pairwise_append]
      refine ⟨⟨a1, List.pairwise_singleton _ _, fun a ha b hb => ?_⟩, b1, fun a ha b hb => ?_⟩
      · rw [List.mem_singleton] at hb
        subst hb
        exact (a2 a ha).1
      · have h2 := (b2 b hb).1
        rw [List.mem_append, List.mem_singleton] at ha
        rcases ha with ha | rfl
        · exact less_of_less_le (less_trans (a2 a ha).1 hks2) h2
        · exact less_of_less_le hks2 h2
    · intro x hx
      rw [List.mem_append, List.mem_append, List.mem_singleton] at hx
      rcases hx with (hx | rfl) | hx
      · have := hmem _ _ _ (Nat.le_refl _) hx
        exact ⟨(a2 x hx).2, hk _ this, .inl this⟩
      · exact ⟨hks, hgo, .inr rfl⟩
      · have := hmem _ _ _ (Nat.le_refl _) hx
        exact ⟨(b2 x hx).2, hk _ this, .inl this⟩
    · have hb := (both_le (p := fun i => tch n.pv ⟨[], m.key.data.toList, true⟩ i && decide (i ≤ n.pv.length)) (q := fun i => tch n.pv ⟨s, [], false⟩ i && decide (i ≤ n.pv.length)) (fun i j hij hq hp => by
        simp only [Bool.and_eq_true, decide_eq_true_eq] at hq hp
        rw [tch_behind h s hq.2] at hq
        rw [tch_ahead h _ hp.2] at hp
        have hee : endOf n.pv i = true := by unfold endOf; exact decide_eq_true (by omega)
        rw [hee, Bool.true_and, Bool.not_not] at hq
        have h1 := less_of_less_le hq.1 (hi_lo h hij hp.2)
        have h2 := less_trans h1 hp.1
        rw [less_asymm hks2] at h2; cases h2) n.ks.length).1
      have e1 : (List.range n.ks.length).filter (fun i => tch n.pv ⟨[], m.key.data.toList, true⟩ i && decide (i ≤ n.pv.length)) = picks n.pv ⟨[], m.key.data.toList, true⟩ n.ks.length := by
        unfold picks
        refine List.filter_congr fun i hi => ?_
        rw [List.mem_range] at hi
        rw [decide_eq_true (by omega), Bool.and_true]
      have e2 : (List.range n.ks.length).filter (fun i => tch n.pv ⟨s, [], false⟩ i && decide (i ≤ n.pv.length)) = picks n.pv ⟨s, [], false⟩ n.ks.length := by
        unfold picks
        refine List.filter_congr fun i hi => ?_
        rw [List.mem_range] at hi
        rw [decide_eq_true (by omega), Bool.and_true]
      rw [e1, e2] at hb
      unfold inW
      simp only [List.length_append, List.length_map, List.length_singleton]
      omega
    · simp only [List.length_append, List.length_singleton]; omega

/-- what is known of a node with a Goto pasted -/
theorem paste_zero {n : Nd} {z : Int} (h : pasteE n z = 0) : ∃ i, ∃ hi : i < n.bf.length, z = (i : Int) ∧ isGoto n.bf[i] = true ∧ (∀ j (hj : j < i), isGoto (n.bf[j]'(by omega)) = false) ∧ pasteA n z = pasteF n i n.bf[i] ∧ mayI n = 0 ∧ n.leaf = false ∧ n.ps = [] ∧ n.pv.length + 1 = n.ks.length ∧ (upTo (pivAt n.pv) n.pv.length = true) ∧ (∀ e ∈ n.ks, okE e = true) ∧ (∀ m ∈ n.bf, mayB m = true) ∧ n.bf.length ≤ 16 ∧ n.ks.length ≤ 8 := by
  have hA : pasteA n z = pasteN n z.toNat := by unfold pasteA; rw [if_pos h]
  unfold pasteE at h
  split at h
  · rename_i hm
    split at h
    · rename_i hz
      obtain ⟨i, hi, rfl, hg, hno⟩ := first_nat hz
      obtain ⟨hf, hfine⟩ := may_iff.1 hm
      have hl : n.leaf = false := by
        cases hl : n.leaf
        · rfl
        · unfold fineB at hfine
          rw [hl, if_pos rfl] at hfine
          have := (leaf_iff.1 hfine).2.2.1
          rw [this] at hi; simp at hi
      unfold fineB at hfine
      rw [hl, if_neg (by simp)] at hfine
      obtain ⟨f1, f2, f3, f4, f5⟩ := fork_iff.1 hfine
      refine ⟨i, hi, rfl, hg, hno, ?_, hm, hl, f1, f2, f3, f4, f5, hf.2.2, hf.2.1⟩
      rw [hA]
      unfold pasteN
      rw [Int.toNat_natCast, getD_at hi]
    · cases h
  · cases h
theorem paste_may {n : Nd} {z : Int} (h : pasteE n z = 0) : (pasteA n z).bf.length < n.bf.length ∧ (pasteA n z).ks.length ≤ n.ks.length + 2 ∧ 1 ≤ (pasteA n z).ks.length ∧ (pasteA n z).pv.length + 1 = (pasteA n z).ks.length ∧ mayI (pasteA n z) = (if 8 < (pasteA n z).ks.length then 13 else 0) ∧ (pasteA n z).leaf = false := by
  obtain ⟨i, hi, rfl, hg, hno, hA, hm, hl, hps, hlen, hp, hk, hb, h16, h8⟩ := paste_zero h
  rw [hA]
  obtain ⟨r1, r2, r3, r4⟩ := around_all hp hlen hk (hb _ (List.getElem_mem hi)) hg
  have hbl : (pasteF n i n.bf[i]).bf.length < n.bf.length := by
    unfold pasteF
    dsimp only
    have := others_le (n.bf.take i) n.bf[i]
    rw [List.length_append, List.length_drop]
    rw [List.length_take] at this
    omega
  have hpl : (pasteF n i n.bf[i]).pv.length + 1 = (pasteF n i n.bf[i]).ks.length := by
    unfold pasteF
    dsimp only
    rw [List.length_map, List.length_map, List.length_drop]
    omega
  have hkl : (pasteF n i n.bf[i]).ks.length = (aroundL n n.bf[i]).length := by unfold pasteF; exact List.length_map _
  refine ⟨hbl, by omega, by omega, hpl, ?_, rfl⟩
  have hfork : forkB (pasteF n i n.bf[i]) = true := by
    refine fork_iff.2 ⟨rfl, hpl, piv_iff.2 ⟨?_, ?_⟩, ?_, ?_⟩
    · unfold pasteF
      dsimp only
      rw [List.pairwise_map]
      exact List.Pairwise.sublist (List.drop_sublist 1 _) r1
    · unfold pasteF
      dsimp only
      intro s hs
      obtain ⟨x, hx, rfl⟩ := List.mem_map.1 hs
      refine ⟨?_, (r2 x (List.mem_of_mem_drop hx)).1⟩
      generalize aroundL n n.bf[i] = l at *
      cases l with
      | nil => simp at hx
      | cons a l =>
        have hx' : x ∈ l := by simpa using hx
        have := (List.pairwise_cons.1 r1).1 x hx'
        unfold lessPt lessT at this
        intro e
        rw [e, less_nil] at this; cases this
    · unfold pasteF
      dsimp only
      intro e he
      obtain ⟨x, hx, rfl⟩ := List.mem_map.1 he
      exact (r2 x hx).2.1
    · unfold pasteF
      dsimp only
      intro m hm'
      rw [List.mem_append] at hm'
      rcases hm' with hm' | hm'
      · unfold othersL at hm'
        exact hb _ (List.mem_of_mem_take (List.mem_filter.1 hm').1)
      · exact hb _ (List.mem_of_mem_drop hm')
  unfold mayI manyB fineB
  rw [show (pasteF n i n.bf[i]).leaf = false from rfl, if_neg (show ¬ (false = true) by simp), hfork]
  rw [show (pasteF n i n.bf[i]).ps.length = 0 from rfl, decide_eq_false (show ¬ 16 < (pasteF n i n.bf[i]).bf.length by omega), Bool.or_false]
  by_cases h9 : 8 < (pasteF n i n.bf[i]).ks.length
  · rw [decide_eq_true h9, if_pos h9]; rfl
  · rw [decide_eq_false h9, if_neg h9]; rfl
end Go.Proofs.Ytmnngfbcgpholaa.Key

namespace Go.Proofs.Ytmnngfbcgpholaa.Key
open Go.RowKit Draw
open Go.Op (bytesLess)
set_option linter.unusedVariables false
set_option linter.unusedSimpArgs false

/-- what Paste answers -/
def PasteSay (w w' : World) (x : Ending) (n : Nd) (z : Int) : Prop :=
  ∃ x2 x3 x4, x = .returned (.tuple #[.agg #[.bool false, .slice none 0 0, x2, x3, x4], .int .i64 (pasteE n z)]) ∧ Owns w' (w.heap.size + 1) (pasteA n z) (.slice none 0 0) x2 x3 x4
theorem paste_no {n : Nd} {z : Int} {e : Int} (h : pasteE n z = e) (h0 : e ≠ 0) : pasteA n z = nilN := by unfold pasteA; rw [h, if_neg h0]
theorem Msgs.drop {w : World} {b off : Nat} {l : List M} (h : Msgs w (some ⟨b, off, none⟩) l) (k : Nat) : ∀ j u, ((l.drop k).flatMap M.cells)[j]? = some u → w.cell? ((⟨b, off + k * 6, none⟩ : Addr).add j) = some u := by
  rcases h with rfl | ⟨b', off', he, hc⟩
  · intro j u hu; simp at hu
  · simp only [Option.some.injEq, Addr.mk.injEq, and_true] at he
    obtain ⟨rfl, rfl⟩ := he
    refine flat_news M.cells 6 (by omega) (fun _ => rfl) fun i hi q u hu => ?_
    rw [List.length_drop] at hi
    have hk : k + i < l.length := by omega
    have he : (l.drop k)[i]'(by rw [List.length_drop]; exact hi) = l[k + i] := List.getElem_drop
    obtain ⟨c0, c1, c2, c3, c4, c5⟩ := hc (k + i) hk
    rw [he] at hu
    have hq : q < 6 := by have := (List.getElem?_eq_some_iff.1 hu).1; simpa [M.cells] using this
    have ho : off + k * 6 + i * 6 = off + (k + i) * 6 := by omega
    rw [ho]
    match q, hq with
    | 0, _ => rw [← hu]; exact c0
    | 1, _ => rw [← hu]; exact c1
    | 2, _ => rw [← hu]; exact c2
    | 3, _ => rw [← hu]; exact c3
    | 4, _ => rw [← hu]; exact c4
    | 5, _ => rw [← hu]; exact c5

set_option maxRecDepth 100000 in
set_option maxHeartbeats 4000000 in
theorem paste8 (n : Nd) (p : Pl) (z : Int) (w : World) (hf : Few n) (h : Lies w n p) (hroom : n.bf.length ≤ p.c4) (hks : ∀ m ∈ n.bf, m.key.size ≤ 1000) :
    Calls Try.prog 8 #[nv n p, .int .i64 z] w fun x w' => PasteSay w w' x n z ∧ Below w.heap.size w w' := by
  have HM := hid (fun (wr : World) (hb : Below w.heap.size w wr) => may12 n p wr hf (h.later hb))
  have HF := hid (fun (wr : World) (hb : Below w.heap.size w wr) => first11 n p wr (by have := hf.l4; omega) (h.later hb))
  have HE := hid (show pasteE n z = if mayI n = 0 then (if 0 ≤ z ∧ z = firstI n.bf then 0 else 1) else 3 from rfl)
  have HZ := hid (fun e (h : pasteE n z = e) (h0 : e ≠ 0) => paste_no h h0)
  have HB := hid (fun (h0 : pasteE n z = 0) => paste_zero h0)
  have HA := hid (fun (wr : World) (hb : Below w.heap.size w wr) (m : M) hlen hk => around19 n p m wr hf (h.later hb) hlen hk)
  have HO := hid (fun i m (hm : m ∈ n.bf) (hi : i ≤ n.bf.length) (wr : World) (hb : Below w.heap.size w wr) => others20 (n.bf.take i) p.a4 p.c4 m wr (by have := hf.l4; rw [List.length_take]; omega) (by
    rcases (h.h4.later hb) with e | ⟨b, off, e, hc⟩
    · rw [e]; exact .inl (by simp)
    · exact .inr ⟨b, off, e, fun j hj => by rw [List.length_take] at hj; rw [List.getElem_take]; exact hc j (by omega)⟩) (hks m hm) (fun o ho => hks o (List.mem_of_mem_take ho)))
  have HL := hid (fun (wr : World) (hb : Below w.heap.size w wr) => h.h4.later hb)
  have hl4 := hf.l4
  have hl3 := hf.l3
  clear h hf
  have key : ∀ e0, Hid (pasteE n z = e0) → Calls Try.prog 8 #[nv n p, .int .i64 z] w fun x w' => PasteSay w w' x n z ∧ Below w.heap.size w w' := by
    intro e0 he0
    unfold PasteSay
    by_cases hm : mayI n = 0
    case neg =>
      have he3 : pasteE n z = 3 := by rw [HE.out, if_neg hm]
      rw [HZ.out 3 he3 (by decide), he3]
      have hd : (mayI n == 0) = false := by simp [hm]
      clear he3 he0 HE HZ HB HA HO HL HF
      generalize mayI n = mi at *
      obtain ⟨lB, ps, ws, ks, bf⟩ := n
      obtain ⟨a1, c1, a2, c2, a3, c3, a4, c4⟩ := p
      dsimp only [nv] at *
      have N0 := (NBox.new w (.bool lB) (.slice a1 ps.length c1) (.slice a2 ws.length c2) (.slice a3 ks.length c3) (.slice a4 bf.length c4)).alloc (.cells #[.bool false, .slice none 0 0, .slice none 0 0, .slice none 0 0, .slice none 0 0] 27)
      have P0 := NBox.new (w.alloc (.cells #[.bool lB, .slice a1 ps.length c1, .slice a2 ws.length c2, .slice a3 ks.length c3, .slice a4 bf.length c4] 27)) (.bool false) (.slice none 0 0) (.slice none 0 0) (.slice none 0 0) (.slice none 0 0)
      have hb0 := (below_box w (.cells #[.bool lB, .slice a1 ps.length c1, .slice a2 ws.length c2, .slice a3 ks.length c3, .slice a4 bf.length c4] 27)).alloc (by rw [World.size_alloc]; omega) (.cells #[.bool false, .slice none 0 0, .slice none 0 0, .slice none 0 0, .slice none 0 0] 27)
      rw [World.size_alloc] at P0
      generalize ps.length = n1 at *
      generalize ws.length = n2 at *
      generalize ks.length = n3 at *
      generalize hn4 : bf.length = n4 at *
      have HN4 := hid hn4
      clear hn4
      go_enter Try.func8, Try.ntmps8
      go_upto_region 1 with fail
      generalize (w.alloc (.cells #[.bool lB, .slice a1 n1 c1, .slice a2 n2 c2, .slice a3 n3 c3, .slice a4 n4 c4] 27)).alloc (.cells #[.bool false, .slice none 0 0, .slice none 0 0, .slice none 0 0, .slice none 0 0] 27) = w2 at *
      generalize hk0 : w.heap.size = k0 at *
      have HQ0 := hid hk0
      clear hk0
      generalize hk1 : k0 + 1 = k1 at *
      have hP0 := P0.lt
      obtain ⟨m0, m1, m2, m3, m4⟩ := N0.cells
      go_wp2_with fail
      refine (HM.out _ hb0).mono ?_
      clear HM m0 m1 m2 m3 m4
      rintro x w3 ⟨rfl, hb3⟩
      have hs3 := hb3.size
      have N1 := N0.later hb3
      have P1 := P0.later hb3
      have hb1 := hb0.trans (hb3.mono (by omega))
      clear N0 P0 hb0 hb3
      obtain ⟨z0, z1, z2, z3, z4⟩ := P1.cells
      have f := P1.free
      have f0 := f 0
      have f1 := f 1
      have f2 := f 2
      have f3 := f 3
      have f4 := f 4
      clear f
      have hb5 := below_five hb1 (show k0 ≤ k1 by omega) (.bool false) (.slice none 0 0) (.slice none 0 0) (.slice none 0 0) (.slice none 0 0)
      go_wp2_with fail
      refine bodyPost_ret (v := .tuple #[.agg #[.bool false, .slice none 0 0, .slice none 0 0, .slice none 0 0, .slice none 0 0], .int .i64 3]) (by simp [results, Try.results8, go_sem, z0, z1, z2, z3, z4]) rfl ⟨⟨_, _, _, rfl, ?_⟩, ?_⟩
      · exact ⟨row_nil _ _ _ _, row_nil _ _ _ _, row_nil _ _ _ _, row_nil _ _ _ _⟩
      · rw [HQ0.out]; exact hb5
    case pos =>
    have hd : (mayI n == 0) = true := by simp [hm]
    rw [hm] at HM
    by_cases hz : 0 ≤ z ∧ z = firstI n.bf
    case neg =>
      have he1 : pasteE n z = 1 := by rw [HE.out, if_pos hm, if_neg hz]
      rw [HZ.out 1 he1 (by decide), he1]
      clear he1 he0 HE HZ HB HA HO HL hd hm
      by_cases hneg : z < 0
      · have hd : decide (z < 0) = true := by simp [hneg]
        clear HF hz
        obtain ⟨lB, ps, ws, ks, bf⟩ := n
        obtain ⟨a1, c1, a2, c2, a3, c3, a4, c4⟩ := p
        dsimp only [nv] at *
        have N0 := (NBox.new w (.bool lB) (.slice a1 ps.length c1) (.slice a2 ws.length c2) (.slice a3 ks.length c3) (.slice a4 bf.length c4)).alloc (.cells #[.bool false, .slice none 0 0, .slice none 0 0, .slice none 0 0, .slice none 0 0] 27)
        have P0 := NBox.new (w.alloc (.cells #[.bool lB, .slice a1 ps.length c1, .slice a2 ws.length c2, .slice a3 ks.length c3, .slice a4 bf.length c4] 27)) (.bool false) (.slice none 0 0) (.slice none 0 0) (.slice none 0 0) (.slice none 0 0)
        have hb0 := (below_box w (.cells #[.bool lB, .slice a1 ps.length c1, .slice a2 ws.length c2, .slice a3 ks.length c3, .slice a4 bf.length c4] 27)).alloc (by rw [World.size_alloc]; omega) (.cells #[.bool false, .slice none 0 0, .slice none 0 0, .slice none 0 0, .slice none 0 0] 27)
        rw [World.size_alloc] at P0
        generalize ps.length = n1 at *
        generalize ws.length = n2 at *
        generalize ks.length = n3 at *
        generalize hn4 : bf.length = n4 at *
        have HN4 := hid hn4
        clear hn4
        go_enter Try.func8, Try.ntmps8
        go_upto_region 1 with fail
        generalize (w.alloc (.cells #[.bool lB, .slice a1 n1 c1, .slice a2 n2 c2, .slice a3 n3 c3, .slice a4 n4 c4] 27)).alloc (.cells #[.bool false, .slice none 0 0, .slice none 0 0, .slice none 0 0, .slice none 0 0] 27) = w2 at *
        generalize hk0 : w.heap.size = k0 at *
        have HQ0 := hid hk0
        clear hk0
        generalize hk1 : k0 + 1 = k1 at *
        have hP0 := P0.lt
        obtain ⟨m0, m1, m2, m3, m4⟩ := N0.cells
        go_wp2_with fail
        refine (HM.out _ hb0).mono ?_
        clear HM m0 m1 m2 m3 m4
        rintro x w3 ⟨rfl, hb3⟩
        have hs3 := hb3.size
        have N1 := N0.later hb3
        have P1 := P0.later hb3
        have hb1 := hb0.trans (hb3.mono (by omega))
        clear N0 P0 hb0 hb3
        obtain ⟨z0, z1, z2, z3, z4⟩ := P1.cells
        have f := P1.free
        have f0 := f 0
        have f1 := f 1
        have f2 := f 2
        have f3 := f 3
        have f4 := f 4
        clear f
        have hb5 := below_five hb1 (show k0 ≤ k1 by omega) (.bool false) (.slice none 0 0) (.slice none 0 0) (.slice none 0 0) (.slice none 0 0)
        go_wp2_with fail
        refine bodyPost_ret (v := .tuple #[.agg #[.bool false, .slice none 0 0, .slice none 0 0, .slice none 0 0, .slice none 0 0], .int .i64 1]) (by simp [results, Try.results8, go_sem, z0, z1, z2, z3, z4]) rfl ⟨⟨_, _, _, rfl, ?_⟩, ?_⟩
        · exact ⟨row_nil _ _ _ _, row_nil _ _ _ _, row_nil _ _ _ _, row_nil _ _ _ _⟩
        · rw [HQ0.out]; exact hb5

      · have hd : decide (z < 0) = false := by simp; omega
        have hne : ¬ z = firstI n.bf := fun e => hz ⟨by omega, e⟩
        clear hz
        generalize firstI n.bf = fi at *
        obtain ⟨lB, ps, ws, ks, bf⟩ := n
        obtain ⟨a1, c1, a2, c2, a3, c3, a4, c4⟩ := p
        dsimp only [nv] at *
        have N0 := (NBox.new w (.bool lB) (.slice a1 ps.length c1) (.slice a2 ws.length c2) (.slice a3 ks.length c3) (.slice a4 bf.length c4)).alloc (.cells #[.bool false, .slice none 0 0, .slice none 0 0, .slice none 0 0, .slice none 0 0] 27)
        have P0 := NBox.new (w.alloc (.cells #[.bool lB, .slice a1 ps.length c1, .slice a2 ws.length c2, .slice a3 ks.length c3, .slice a4 bf.length c4] 27)) (.bool false) (.slice none 0 0) (.slice none 0 0) (.slice none 0 0) (.slice none 0 0)
        have hb0 := (below_box w (.cells #[.bool lB, .slice a1 ps.length c1, .slice a2 ws.length c2, .slice a3 ks.length c3, .slice a4 bf.length c4] 27)).alloc (by rw [World.size_alloc]; omega) (.cells #[.bool false, .slice none 0 0, .slice none 0 0, .slice none 0 0, .slice none 0 0] 27)
        rw [World.size_alloc] at P0
        generalize ps.length = n1 at *
        generalize ws.length = n2 at *
        generalize ks.length = n3 at *
        generalize hn4 : bf.length = n4 at *
        have HN4 := hid hn4
        clear hn4
        go_enter Try.func8, Try.ntmps8
        go_upto_region 1 with fail
        generalize (w.alloc (.cells #[.bool lB, .slice a1 n1 c1, .slice a2 n2 c2, .slice a3 n3 c3, .slice a4 n4 c4] 27)).alloc (.cells #[.bool false, .slice none 0 0, .slice none 0 0, .slice none 0 0, .slice none 0 0] 27) = w2 at *
        generalize hk0 : w.heap.size = k0 at *
        have HQ0 := hid hk0
        clear hk0
        generalize hk1 : k0 + 1 = k1 at *
        have hP0 := P0.lt
        obtain ⟨m0, m1, m2, m3, m4⟩ := N0.cells
        go_wp2_with fail
        refine (HM.out _ hb0).mono ?_
        clear HM m0 m1 m2 m3 m4
        rintro x w3 ⟨rfl, hb3⟩
        have hs3 := hb3.size
        have N1 := N0.later hb3
        have P1 := P0.later hb3
        have hb1 := hb0.trans (hb3.mono (by omega))
        clear N0 P0 hb0 hb3
        obtain ⟨m0, m1, m2, m3, m4⟩ := N1.cells
        go_wp2_with fail
        refine (HF.out _ hb1).mono ?_
        clear HF m0 m1 m2 m3 m4
        rintro x w4 ⟨rfl, hb4⟩
        have hs4 := hb4.size
        replace N1 := N1.later hb4
        replace P1 := P1.later hb4
        replace hb1 := hb1.trans (hb4.mono (by omega))
        clear hb4
        obtain ⟨z0, z1, z2, z3, z4⟩ := P1.cells
        have f := P1.free
        have f0 := f 0
        have f1 := f 1
        have f2 := f 2
        have f3 := f 3
        have f4 := f 4
        clear f
        have hb5 := below_five hb1 (show k0 ≤ k1 by omega) (.bool false) (.slice none 0 0) (.slice none 0 0) (.slice none 0 0) (.slice none 0 0)
        go_wp2_with fail
        refine bodyPost_ret (v := .tuple #[.agg #[.bool false, .slice none 0 0, .slice none 0 0, .slice none 0 0, .slice none 0 0], .int .i64 1]) (by simp [results, Try.results8, go_sem, z0, z1, z2, z3, z4]) rfl ⟨⟨_, _, _, rfl, ?_⟩, ?_⟩
        · exact ⟨row_nil _ _ _ _, row_nil _ _ _ _, row_nil _ _ _ _, row_nil _ _ _ _⟩
        · rw [HQ0.out]; exact hb5

    case pos =>
      have h0 : pasteE n z = 0 := by rw [HE.out, if_pos hm, if_pos hz]
      obtain ⟨i, hi, rfl, hg, hno, hA, -, hl, hps, hlen, hp, hk, hb, h16, h8⟩ := HB.out h0
      rw [h0, hA]
      obtain ⟨m, hmm⟩ : ∃ m, n.bf[i] = m := ⟨_, rfl⟩
      have hmem : m ∈ n.bf := by rw [← hmm]; exact List.getElem_mem hi
      have hAL := (around_all hp hlen hk (hb _ (List.getElem_mem hi)) hg).2.2.1
      rw [hmm] at hAL ⊢
      have HAi := hid (fun wr hb => HA.out wr hb m hlen (hks m hmem))
      have HOi := hid (fun wr hb => HO.out i m hmem (by omega) wr hb)
      have hz2 := hz.2
      rw [← hz2] at HF
      have hOL := others_le (n.bf.take i) m
      have hti : (n.bf.take i).length = i := by rw [List.length_take]; omega
      rw [hti] at HOi hOL
      have HPF := hid (show pasteF n i m = ⟨false, [], ((aroundL n m).drop 1).map Pt.lo, (aroundL n m).map Pt.kid, othersL (n.bf.take i) m ++ n.bf.drop (i + 1)⟩ from rfl)
      have HDL := hid (fun wr b off (e : p.a4 = some ⟨b, off, none⟩) (hb : Below w.heap.size w wr) => Msgs.drop (by rw [← e]; exact HL.out wr hb) (i + 1))
      have hDl : (n.bf.drop (i + 1)).length = n.bf.length - (i + 1) := List.length_drop
      have HMM := hid (show n.bf[i]? = some m by rw [List.getElem?_eq_getElem hi, hmm])
      clear hA h0 hz he0 HE HZ HB HA HO hg hno hl hps hp hk hb h16 hd hm hti hz2 hlen hmm hmem
      generalize aroundL n m = AL at *
      generalize othersL (n.bf.take i) m = OL at *
      generalize pasteF n i m = PF at *
      generalize hDLe : n.bf.drop (i + 1) = DL at *
      clear hDLe
      obtain ⟨lB, ps, ws, ks, bf⟩ := n
      obtain ⟨a1, c1, a2, c2, a3, c3, a4, c4⟩ := p
      dsimp only [nv] at *
      have N0 := (NBox.new w (.bool lB) (.slice a1 ps.length c1) (.slice a2 ws.length c2) (.slice a3 ks.length c3) (.slice a4 bf.length c4)).alloc (.cells #[.bool false, .slice none 0 0, .slice none 0 0, .slice none 0 0, .slice none 0 0] 27)
      have P0 := NBox.new (w.alloc (.cells #[.bool lB, .slice a1 ps.length c1, .slice a2 ws.length c2, .slice a3 ks.length c3, .slice a4 bf.length c4] 27)) (.bool false) (.slice none 0 0) (.slice none 0 0) (.slice none 0 0) (.slice none 0 0)
      have hb0 := (below_box w (.cells #[.bool lB, .slice a1 ps.length c1, .slice a2 ws.length c2, .slice a3 ks.length c3, .slice a4 bf.length c4] 27)).alloc (by rw [World.size_alloc]; omega) (.cells #[.bool false, .slice none 0 0, .slice none 0 0, .slice none 0 0, .slice none 0 0] 27)
      rw [World.size_alloc] at P0
      generalize ps.length = n1 at *
      generalize ws.length = n2 at *
      generalize ks.length = n3 at *
      generalize hn4 : bf.length = n4 at *
      have HN4 := hid hn4
      clear hn4
      go_enter Try.func8, Try.ntmps8
      go_upto_region 1 with fail
      generalize (w.alloc (.cells #[.bool lB, .slice a1 n1 c1, .slice a2 n2 c2, .slice a3 n3 c3, .slice a4 n4 c4] 27)).alloc (.cells #[.bool false, .slice none 0 0, .slice none 0 0, .slice none 0 0, .slice none 0 0] 27) = w2 at *
      generalize hk0 : w.heap.size = k0 at *
      have HQ0 := hid hk0
      clear hk0
      generalize hk1 : k0 + 1 = k1 at *
      have hP0 := P0.lt
      obtain ⟨m0, m1, m2, m3, m4⟩ := N0.cells
      go_wp2_with fail
      refine (HM.out _ hb0).mono ?_
      clear HM m0 m1 m2 m3 m4
      rintro x w3 ⟨rfl, hb3⟩
      have hs3 := hb3.size
      have N1 := N0.later hb3
      have P1 := P0.later hb3
      have hb1 := hb0.trans (hb3.mono (by omega))
      clear N0 P0 hb0 hb3
      obtain ⟨m0, m1, m2, m3, m4⟩ := N1.cells
      have hd : decide ((i : Int) < 0) = false := by simp
      go_upto_region 5 with (first | (go_at_call 11; refine (HF.out _ hb1).mono ?_; clear HF; rintro x w4 ⟨rfl, hb4⟩) | fail)
      clear m0 m1 m2 m3 m4 hd
      have hs4 := hb4.size
      replace N1 := N1.later hb4
      replace P1 := P1.later hb4
      replace hb1 := hb1.trans (hb4.mono (by omega))
      clear hb4
      have hi' : i < bf.length := by rw [HN4.out]; exact hi
      obtain ⟨b, off, hA, c0, c1', c2', c3', c4', c5'⟩ := (HL.out w4 hb1).at hi'
      subst hA
      have HMe : bf[i] = m := by have := HMM.out; rw [List.getElem?_eq_getElem hi'] at this; exact Option.some.inj this
      rw [HMe] at c0 c1' c2' c3' c4' c5'
      have HDLi := hid (fun wr hb => HDL.out wr b off rfl hb)
      obtain ⟨m0, m1, m2, m3, m4⟩ := N1.cells
      have M2 := MBox.new w4 m
      have bx := below_box w4 (.cells #[.int .u8 m.kind, .string m.key, .string m.val, .int .u32 m.blk, .int .u16 m.deep, .string m.add] 48)
      have N2 := N1.later bx
      have P2 := P1.later bx
      have hs4' : k1 < w4.heap.size := P1.lt
      have hb2 := hb1.trans (bx.mono (by omega))
      have hii : (i : Int) < (n4 : Int) := by omega
      clear HDL HMM HMe hi'
      obtain ⟨md, mk, ml, mb, mp, ma⟩ := m
      dsimp only at *
      go_upto_region 6 with fail
      clear m0 m1 m2 m3 m4 c0 c1' c2' c3' c4' c5' N1 P1 hb1 bx
      generalize w4.heap.size = k2 at *
      generalize w4.alloc (.cells #[.int .u8 md, .string mk, .string ml, .int .u32 mb, .int .u16 mp, .string ma] 48) = w5 at *
      have hM2 := M2.lt
      obtain ⟨m0, m1, m2, m3, m4⟩ := N2.cells
      obtain ⟨e0, e1, e2, e3, e4, e5⟩ := M2.six
      simp only [Nat.zero_add] at e1 e2 e3 e4 e5
      dsimp only at e0 e1 e2 e3 e4 e5
      go_wp2_with fail
      refine (HAi.out _ hb2).mono ?_
      clear HAi m0 m1 m2 m3 m4 e0 e1 e2 e3 e4 e5
      rintro x w6 ⟨⟨v1, rfl, o1⟩, hb6⟩
      obtain ⟨a5, c5, rfl, hx5, -⟩ := row_xts o1
      have hs6 := hb6.size
      replace N2 := N2.later hb6
      replace P2 := P2.later hb6
      replace M2 := M2.later hb6
      replace hb2 := hb2.trans (hb6.mono (by omega))
      clear hb6 o1
      go_wp2_with fail
      refine (fork18 AL a5 c5 _ (by omega) hx5).mono ?_
      rintro x w7 ⟨⟨x2, x3, rfl, o2, o3⟩, hb7⟩
      have hs7 := hb7.size
      obtain ⟨b2, d2, t2, rfl⟩ := row_slice o2
      obtain ⟨b3, d3, t3, rfl⟩ := row_slice o3
      have bx := below_box w7 (.cells #[.bool false, .slice none 0 0, .slice b2 d2 t2, .slice b3 d3 t3, .slice none 0 0] 27)
      have N3 := (N2.later hb7).later bx
      have P3 := (P2.later hb7).later bx
      have M3 := (M2.later hb7).later bx
      have Q3 := NBox.new w7 (.bool false) (.slice none 0 0) (.slice b2 d2 t2) (.slice b3 d3 t3) (.slice none 0 0)
      have r2 := row_later o2 bx
      have r3 := row_later o3 bx
      have hb3 := (hb2.trans (hb7.mono (by omega))).trans (bx.mono (by omega))
      clear hb7 N2 P2 M2 hx5 hb2 o2 o3 bx
      go_upto_region 7 with fail
      generalize hB6 : w6.heap.size + 1 = B6 at *
      have hk3 : B6 ≤ w7.heap.size + 1 := by omega
      generalize w7.heap.size = k3 at *
      generalize w7.alloc (.cells #[.bool false, .slice none 0 0, .slice b2 d2 t2, .slice b3 d3 t3, .slice none 0 0] 27) = w8 at *
      have hk8 := Q3.lt
      obtain ⟨ad, hAD, HDLj⟩ : ∃ ad : Addr, (if c4 = i + 1 then some (⟨b, off, none⟩ : Addr) else some ⟨b, off + (i + 1) * 6, none⟩) = some ad ∧ Hid (∀ (wr : World), Below k0 w wr → ∀ (j : Nat) (u : Value), (List.flatMap M.cells DL)[j]? = some u → wr.cell? (ad.add j) = some u) := by
        by_cases hc : c4 = i + 1
        · refine ⟨⟨b, off, none⟩, by rw [if_pos hc], hid fun wr hb j u hu => ?_⟩
          have : DL = [] := List.eq_nil_of_length_eq_zero (by omega)
          rw [this] at hu
          simp at hu
        · exact ⟨⟨b, off + (i + 1) * 6, none⟩, by rw [if_neg hc], HDLi⟩
      have HAD := hid hAD
      clear hAD HDLi
      refine wp_region_last [(some 30, [], false), (some 31, [(0, 30)], false), (some 32, [], false), (some 33, [(1, 31), (2, 32)], false), (some 34, [], false), (some 35, [(3, 33), (4, 34)], false), (some 36, [], false), (some 37, [(6, 36)], false), (some 38, [], false), (some 39, [(8, 38)], false), (some 40, [(7, 37), (9, 39)], false), (some 41, [(5, 35), (10, 40)], true), (some 42, [], true), (none, [(12, 42), (11, 41)], false)]
        (fun u => Below w8.heap.size w8 u) (fun i u u' => if i = 11 then Below w8.heap.size u u' else Below u.heap.size u u')
        (fun j Y u => match j with | 0 => Y = .pointer (some ⟨k0, 4, none⟩) | 1 => Y = .slice (some ⟨b, off, none⟩) n4 c4 | 2 => Y = .int .i64 i | 3 => Y = .slice (some ⟨b, off, none⟩) i c4 | 4 => Y = mv ⟨md, mk, ml, mb, mp, ma⟩ | 5 => OwnM u w8.heap.size Y OL | 6 => Y = .pointer (some ⟨k0, 4, none⟩) | 7 => Y = .slice (some ⟨b, off, none⟩) n4 c4 | 8 => Y = .int .i64 i | 9 => Y = .int .i64 ((i : Int) + 1) | 10 => Y = .slice (some ad) (n4 - (i + 1)) (c4 - (i + 1)) | 11 => OwnM u w8.heap.size Y (OL ++ DL) | 12 => Y = .pointer (some ⟨k3, 4, none⟩) | _ => True)
        (by kernel_rfl) (by kernel_rfl) (Below.refl _ _).drew (fun i u u' h h' => ?_) (fun i j v u u' hn h h' hv => ?_) [(some 30, [], false), (some 31, [(0, 30)], false), (some 32, [], false), (some 33, [(1, 31), (2, 32)], false), (some 34, [], false), (some 35, [(3, 33), (4, 34)], false), (some 36, [], false), (some 37, [(6, 36)], false), (some 38, [], false), (some 39, [(8, 38)], false), (some 40, [(7, 37), (9, 39)], false), (some 41, [(5, 35), (10, 40)], true), (some 42, [], true)] 13 rfl _ rfl rfl (by kernel_rfl) (by kernel_rfl) ⟨?_, ?_, ?_, ?_, ?_, ?_, ?_, ?_, ?_, ?_, ?_, ?_, ?_, trivial⟩ ?_
      · split at h'
        · exact h.trans h'
        · exact h.trans (h'.mono h.size)
      · by_cases hia : i = 11
        · subst hia
          match j with
          | 0 => exact hv
          | 1 => exact hv
          | 2 => exact hv
          | 3 => exact hv
          | 4 => exact hv
          | 5 => exact absurd hn (by decide)
          | 6 => exact hv
          | 7 => exact hv
          | 8 => exact hv
          | 9 => exact hv
          | 10 => exact hv
          | 11 => exact absurd hn (by decide)
          | 12 => exact hv
          | _ + 13 => trivial
        · rw [if_neg hia] at h'
          match j with
          | 0 => exact hv
          | 1 => exact hv
          | 2 => exact hv
          | 3 => exact hv
          | 4 => exact hv
          | 5 => exact OwnM.later hv h'
          | 6 => exact hv
          | 7 => exact hv
          | 8 => exact hv
          | 9 => exact hv
          | 10 => exact hv
          | 11 => exact OwnM.later hv h'
          | 12 => exact hv
          | _ + 13 => trivial
      · rintro u hu
        exact opYields_val _ (by kernel_rfl) (by go_simp) ⟨Below.refl _ _, rfl⟩
      · rintro u hu _ rfl
        replace hu : Below w8.heap.size w8 u := hu
        obtain ⟨m0, m1, m2, m3, m4⟩ := (N3.later hu).cells
        exact opYields_val (.slice (some ⟨b, off, none⟩) n4 c4) (by kernel_rfl) (by go_simp) ⟨Below.refl _ _, rfl⟩
      · rintro u hu
        exact opYields_val _ (by kernel_rfl) (by go_simp) ⟨Below.refl _ _, rfl⟩
      · rintro u hu _ rfl _ rfl
        exact opYields_val (.slice (some ⟨b, off, none⟩) i c4) (by kernel_rfl) (by go_simp; intro hlt; omega) ⟨Below.refl _ _, rfl⟩
      · rintro u hu
        replace hu : Below w8.heap.size w8 u := hu
        obtain ⟨e0, e1, e2, e3, e4, e5⟩ := (M3.later hu).six
        simp only [Nat.zero_add] at e1 e2 e3 e4 e5
        dsimp only at e0 e1 e2 e3 e4 e5
        exact opYields_val (.agg #[.int .u8 md, .string mk, .string ml, .int .u32 mb, .int .u16 mp, .string ma]) (by kernel_rfl) (by go_simp) ⟨Below.refl _ _, rfl⟩
      · rintro u hu _ rfl _ rfl
        replace hu : Below w8.heap.size w8 u := hu
        exact opYields_call 20 #[.slice (some ⟨b, off, none⟩) i c4, .agg #[.int .u8 md, .string mk, .string ml, .int .u32 mb, .int .u16 mp, .string ma]] (by kernel_rfl) (by go_simp) ((HOi.out u (hb3.trans (hu.mono (by omega)))).mono fun x u' ⟨⟨v, h1, h2⟩, h3⟩ => ⟨_, h1, h3, row_mono h2 (by have := hu.size; omega)⟩)
      · rintro u hu
        exact opYields_val _ (by kernel_rfl) (by go_simp) ⟨Below.refl _ _, rfl⟩
      · rintro u hu _ rfl
        replace hu : Below w8.heap.size w8 u := hu
        obtain ⟨m0, m1, m2, m3, m4⟩ := (N3.later hu).cells
        exact opYields_val (.slice (some ⟨b, off, none⟩) n4 c4) (by kernel_rfl) (by go_simp) ⟨Below.refl _ _, rfl⟩
      · rintro u hu
        exact opYields_val _ (by kernel_rfl) (by go_simp) ⟨Below.refl _ _, rfl⟩
      · rintro u hu _ rfl
        have hwm : IntKind.i64.wrap ((i : Int) + 1) = (i : Int) + 1 := by rw [IntKind.wrap_i64]; omega
        exact opYields_val (.int .i64 ((i : Int) + 1)) (by kernel_rfl) (by go_simp; done) ⟨Below.refl _ _, rfl⟩
      · rintro u hu _ rfl _ rfl
        exact opYields_val (.slice (some ad) (n4 - (i + 1)) (c4 - (i + 1))) (by kernel_rfl) (by go_simp; rw [if_pos ⟨by omega, by omega⟩, HAD.out]) ⟨Below.refl _ _, rfl⟩
      · rintro u hu Y5 h5 _ rfl
        replace hu : Below w8.heap.size w8 u := hu
        replace h5 : OwnM u w8.heap.size Y5 OL := h5
        exact yMany M.cells 6 64 25 48 _ (by omega) (fun _ => rfl) Try.underlying25 info48 rfl (by omega) one_cell (by kernel_rfl) (.tmp 35) (.tmp 40) rfl w8.heap.size _ OL rfl h5 ad (n4 - (i + 1)) (c4 - (i + 1)) DL rfl hDl (HDLj.out u (hb3.trans (hu.mono (by omega)))) (by omega) hu.size fun v' w' h2 h3 => ⟨(Below.refl _ _).grown h3 hu.size (fun k hk => (World.ownsRow.lt h5 k hk).1), h2⟩
      · rintro u hu
        exact opYields_val _ (by kernel_rfl) (by go_simp) ⟨Below.refl _ _, rfl⟩
      · intro u hu x0 x1 x2 x3 x4 x5 x6 x7 x8 x9 x10 x11 e11 x12 e12
        replace hu : Below w8.heap.size w8 u := hu
        replace e11 : OwnM u w8.heap.size x11 (OL ++ DL) := e11
        replace e12 : x12 = .pointer (some ⟨k3, 4, none⟩) := e12
        subst e12
        obtain ⟨b4, d4, t4, rfl⟩ := row_slice e11
        have g4 := (Q3.later hu).free 4
        have Q4 := (Q3.later hu).put4 (.slice b4 d4 t4)
        obtain ⟨q0, q1, q2, q3, q4⟩ := (Q3.later hu).cells
        refine Puts.mk (u.setCell ⟨k3, 4, none⟩ (.slice b4 d4 t4)) (by kernel_rfl) (by go_simp) ?_
        have P4 := (P3.later hu).far (k' := k3) (i := 4) (u := .slice b4 d4 t4) (by omega)
        have s2 := row_type (i := 4) (u := .slice b4 d4 t4) (row_later r2 hu) (Q3.later hu) (by decide)
        have s3 := row_type (i := 4) (u := .slice b4 d4 t4) (row_later r3 hu) (Q3.later hu) (by decide)
        have s4 := row_set (i := 4) (u := .slice b4 d4 t4) (row_mono e11 (show k3 + 1 ≤ w8.heap.size by omega)) (Nat.lt_succ_self k3)
        have hb4 := (hb3.trans (hu.mono (by omega))).setCell (p := ⟨k3, 4, none⟩) (show k0 ≤ k3 by omega) (.slice b4 d4 t4)
        simp only [Act.put, List.setIfInBounds_toArray, List.set_cons_zero, List.set_cons_succ]
        clear g4 q0 q1 q2 q3 q4 N3 P3 M3 hb3 r2 r3 Q3 e11 hu HOi HDLj HAD HL
        generalize u.setCell ⟨k3, 4, none⟩ (.slice b4 d4 t4) = u1 at *
        obtain ⟨q0, q1, q2, q3, q4⟩ := Q4.cells
        obtain ⟨z0, z1, z2, z3, z4⟩ := P4.cells
        have f := P4.free
        have f0 := f 0
        have f1 := f 1
        have f2 := f 2
        have f3 := f 3
        have f4 := f 4
        clear f
        have hb5 := below_five hb4 (show k0 ≤ k1 by omega) (.bool false) (.slice none 0 0) (.slice b2 d2 t2) (.slice b3 d3 t3) (.slice b4 d4 t4)
        have v2 := row_mono (row_five s2 (show k1 < B6 by omega) (y0 := .bool false) (y1 := .slice none 0 0) (y2 := .slice b2 d2 t2) (y3 := .slice b3 d3 t3) (y4 := .slice b4 d4 t4)) (show k0 + 1 ≤ B6 by omega)
        have v3 := row_mono (row_five s3 (show k1 < B6 by omega) (y0 := .bool false) (y1 := .slice none 0 0) (y2 := .slice b2 d2 t2) (y3 := .slice b3 d3 t3) (y4 := .slice b4 d4 t4)) (show k0 + 1 ≤ B6 by omega)
        have v4 := row_mono (row_five s4 (show k1 < k3 + 1 by omega) (y0 := .bool false) (y1 := .slice none 0 0) (y2 := .slice b2 d2 t2) (y3 := .slice b3 d3 t3) (y4 := .slice b4 d4 t4)) (show k0 + 1 ≤ k3 + 1 by omega)
        go_wp2_with fail
        refine bodyPost_ret (v := .tuple #[.agg #[.bool false, .slice none 0 0, .slice b2 d2 t2, .slice b3 d3 t3, .slice b4 d4 t4], .int .i64 0]) (by simp [results, Try.results8, go_sem, z0, z1, z2, z3, z4]) rfl ⟨⟨_, _, _, rfl, ?_⟩, ?_⟩
        · rw [HPF.out, HQ0.out]
          exact ⟨row_nil _ _ _ _, v2, v3, v4⟩
        · rw [HQ0.out]; exact hb5
  exact key _ (hid rfl)
end Go.Proofs.Ytmnngfbcgpholaa.Key

namespace Go.Proofs.Ytmnngfbcgpholaa.Key
open Go.RowKit Draw
set_option linter.unusedVariables false
set_option linter.unusedSimpArgs false

def awM : M := ⟨3, ⟨#[109]⟩, ⟨#[]⟩, 5, 1, ⟨#[]⟩⟩
def awN : Nd := ⟨false, [], [], [⟨4, 1, ⟨#[]⟩, ⟨#[]⟩⟩], [awM]⟩
def awX : Nd := ⟨false, [], [⟨#[109]⟩, ⟨#[110]⟩], [⟨4, 1, ⟨#[]⟩, ⟨#[]⟩⟩, ⟨5, 1, ⟨#[109]⟩, ⟨#[]⟩⟩, ⟨4, 1, ⟨#[]⟩, ⟨#[]⟩⟩], []⟩
theorem aw_e : pasteE awN 0 = 0 := by kernel_rfl
theorem aw_x : pasteA awN 0 = awX := by kernel_rfl
theorem aw_few : Few awN := ⟨by decide, by decide, by decide, by decide⟩
theorem aw_lies {w : World} {k k' : Nat} (h : w.heap[k]? = some (.cells #[.int .u32 4, .int .u16 1, .string ⟨#[]⟩, .string ⟨#[]⟩] 46 (0, 0))) (h' : w.heap[k']? = some (.cells #[.int .u8 3, .string ⟨#[109]⟩, .string ⟨#[]⟩, .int .u32 5, .int .u16 1, .string ⟨#[]⟩] 48 (0, 0))) : Lies w awN ⟨none, 0, none, 0, some ⟨k, 0, none⟩, 1, some ⟨k', 0, none⟩, 1⟩ := by
  refine ⟨.inl rfl, .inl rfl, .inr ⟨k, 0, rfl, fun i hi => ?_⟩, .inr ⟨k', 0, rfl, fun i hi => ?_⟩⟩
  · have hi' : i < 1 := hi
    obtain rfl : i = 0 := by omega
    exact ⟨cell_of_row _ _ 0 _ _ _ h, cell_of_row _ _ 1 _ _ _ h, cell_of_row _ _ 2 _ _ _ h, cell_of_row _ _ 3 _ _ _ h⟩
  · have hi' : i < 1 := hi
    obtain rfl : i = 0 := by omega
    exact ⟨cell_of_row _ _ 0 _ _ _ h', cell_of_row _ _ 1 _ _ _ h', cell_of_row _ _ 2 _ _ _ h', cell_of_row _ _ 3 _ _ _ h', cell_of_row _ _ 4 _ _ _ h', cell_of_row _ _ 5 _ _ _ h'⟩
/-- what the example's answer holds -/
theorem aw_read {w w' : World} {x : Ending} (h : PasteSay w w' x awN 0) : ∃ b2 o2 c2 b3 o3 c3 a4 c4, x = .returned (.tuple #[.agg #[.bool false, .slice none 0 0, .slice (some ⟨b2, o2, none⟩) 2 c2, .slice (some ⟨b3, o3, none⟩) 3 c3, .slice a4 0 c4], .int .i64 0]) ∧ w'.cell? ⟨b2, o2, none⟩ = some (.string ⟨#[109]⟩) ∧ w'.cell? ⟨b2, o2 + 1, none⟩ = some (.string ⟨#[110]⟩) ∧ Four w' b3 o3 ⟨4, 1, ⟨#[]⟩, ⟨#[]⟩⟩ ∧ Four w' b3 (o3 + 8) ⟨4, 1, ⟨#[]⟩, ⟨#[]⟩⟩ := by
  obtain ⟨x2, x3, x4, rfl, ho⟩ := h
  rw [aw_e]
  rw [aw_x] at ho
  obtain ⟨q, -, rfl, rfl, rfl, hl⟩ := ho.lies
  obtain ⟨b2, o2, e2, t0⟩ := hl.h2.at (show 0 < awX.pv.length by decide)
  obtain ⟨b2', o2', e2', t1⟩ := hl.h2.at (show 1 < awX.pv.length by decide)
  obtain ⟨b3, o3, e3, f0⟩ := hl.h3.at (show 0 < awX.ks.length by decide)
  obtain ⟨b3', o3', e3', f1⟩ := hl.h3.at (show 2 < awX.ks.length by decide)
  rw [e2] at e2'
  rw [e3] at e3'
  simp only [Option.some.injEq, Addr.mk.injEq, and_true] at e2' e3'
  obtain ⟨rfl, rfl⟩ := e2'
  obtain ⟨rfl, rfl⟩ := e3'
  refine ⟨b2, o2, q.c2, b3, o3, q.c3, q.a4, q.c4, by rw [e2, e3]; rfl, t0, t1, ?_, f1⟩
  rw [Nat.zero_mul, Nat.add_zero] at f0
  exact f0

set_option maxRecDepth 100000 in
set_option maxHeartbeats 4000000 in
theorem awake7 (w : World) : Calls Try.prog 7 #[] w fun x w' => x = .returned (.bool true) ∧ Below w.heap.size w w' := by
  have hE : ((w.alloc (.cells #[.int .u32 4, .int .u16 1, .string ⟨#[]⟩, .string ⟨#[]⟩] 46)).alloc (.cells #[.int .u8 3, .string ⟨#[109]⟩, .string ⟨#[]⟩, .int .u32 5, .int .u16 1, .string ⟨#[]⟩] 48)).heap[w.heap.size]? = some (.cells #[.int .u32 4, .int .u16 1, .string ⟨#[]⟩, .string ⟨#[]⟩] 46 (0, 0)) := EBox.alloc (EBox.new w ⟨4, 1, ⟨#[]⟩, ⟨#[]⟩⟩) _
  have hM : ((w.alloc (.cells #[.int .u32 4, .int .u16 1, .string ⟨#[]⟩, .string ⟨#[]⟩] 46)).alloc (.cells #[.int .u8 3, .string ⟨#[109]⟩, .string ⟨#[]⟩, .int .u32 5, .int .u16 1, .string ⟨#[]⟩] 48)).heap[w.heap.size + 1]? = some (.cells #[.int .u8 3, .string ⟨#[109]⟩, .string ⟨#[]⟩, .int .u32 5, .int .u16 1, .string ⟨#[]⟩] 48 (0, 0)) := by
    have := MBox.new (w.alloc (.cells #[.int .u32 4, .int .u16 1, .string ⟨#[]⟩, .string ⟨#[]⟩] 46)) awM
    rw [World.size_alloc] at this
    exact this
  have hL := hid (aw_lies hE hM)
  have hb0 := (below_box w (.cells #[.int .u32 4, .int .u16 1, .string ⟨#[]⟩, .string ⟨#[]⟩] 46)).alloc (by rw [World.size_alloc]; omega) (.cells #[.int .u8 3, .string ⟨#[109]⟩, .string ⟨#[]⟩, .int .u32 5, .int .u16 1, .string ⟨#[]⟩] 48)
  have hL2 := hid (hL.out.alloc (.cells #[.bool false, .slice none 0 0, .slice none 0 0, .slice (some ⟨w.heap.size, 0, none⟩) 1 1, .slice (some ⟨w.heap.size + 1, 0, none⟩) 1 1] 27))
  have N0 := NBox.new ((w.alloc (.cells #[.int .u32 4, .int .u16 1, .string ⟨#[]⟩, .string ⟨#[]⟩] 46)).alloc (.cells #[.int .u8 3, .string ⟨#[109]⟩, .string ⟨#[]⟩, .int .u32 5, .int .u16 1, .string ⟨#[]⟩] 48)) (.bool false) (.slice none 0 0) (.slice none 0 0) (.slice (some ⟨w.heap.size, 0, none⟩) 1 1) (.slice (some ⟨w.heap.size + 1, 0, none⟩) 1 1)
  have hb1 := hb0.alloc (by rw [World.size_alloc, World.size_alloc]; omega) (.cells #[.bool false, .slice none 0 0, .slice none 0 0, .slice (some ⟨w.heap.size, 0, none⟩) 1 1, .slice (some ⟨w.heap.size + 1, 0, none⟩) 1 1] 27)
  rw [World.size_alloc, World.size_alloc] at N0
  clear hE hM hL hb0
  go_enter Try.func7, Try.ntmps7
  go_upto_region 2 with fail
  generalize ((w.alloc (.cells #[.int .u32 4, .int .u16 1, .string ⟨#[]⟩, .string ⟨#[]⟩] 46)).alloc (.cells #[.int .u8 3, .string ⟨#[109]⟩, .string ⟨#[]⟩, .int .u32 5, .int .u16 1, .string ⟨#[]⟩] 48)).alloc (.cells #[.bool false, .slice none 0 0, .slice none 0 0, .slice (some ⟨w.heap.size, 0, none⟩) 1 1, .slice (some ⟨w.heap.size + 1, 0, none⟩) 1 1] 27) = w2 at *
  have HP := hid (paste8 awN _ 0 w2 aw_few hL2.out (Nat.le_refl 1) (by decide))
  clear hL2
  obtain ⟨m0, m1, m2, m3, m4⟩ := N0.cells
  have hN0 := N0.lt
  go_wp2_with fail
  refine HP.out.mono ?_
  clear HP m0 m1 m2 m3 m4
  rintro x w3 ⟨hs, hb3⟩
  obtain ⟨b2, o2, c2, b3, o3, c3, a4, c4, rfl, t0, t1, f0, f1⟩ := aw_read hs
  replace hb1 := hb1.trans (hb3.mono (by omega))
  have hb4 := hb1.alloc hb1.size (.cells #[.bool false, .slice none 0 0, .slice (some ⟨b2, o2, none⟩) 2 c2, .slice (some ⟨b3, o3, none⟩) 3 c3, .slice a4 0 c4] 27)
  have Q0 := NBox.new w3 (.bool false) (.slice none 0 0) (.slice (some ⟨b2, o2, none⟩) 2 c2) (.slice (some ⟨b3, o3, none⟩) 3 c3) (.slice a4 0 c4)
  have bx := below_box w3 (.cells #[.bool false, .slice none 0 0, .slice (some ⟨b2, o2, none⟩) 2 c2, .slice (some ⟨b3, o3, none⟩) 3 c3, .slice a4 0 c4] 27)
  replace t0 := (bx.cell (p := ⟨b2, o2, none⟩) (World.block_lt_of_cell? w3 _ t0)).trans t0
  replace t1 := (bx.cell (p := ⟨b2, o2 + 1, none⟩) (World.block_lt_of_cell? w3 _ t1)).trans t1
  obtain ⟨d0, d1, d2, d3⟩ := f0.later bx
  obtain ⟨e0, e1, e2, e3⟩ := f1.later bx
  dsimp only at d0 d1 d2 d3 e0 e1 e2 e3
  clear hs hb3 N0 bx f0 f1
  go_upto_region 3 with fail
  obtain ⟨q0, q1, q2, q3, q4⟩ := Q0.cells
  generalize w3.alloc (.cells #[.bool false, .slice none 0 0, .slice (some ⟨b2, o2, none⟩) 2 c2, .slice (some ⟨b3, o3, none⟩) 3 c3, .slice a4 0 c4] 27) = w4 at *
  go_quiet (fail)
  go_wp2_with fail
  go_ret
  exact ⟨rfl, below_drew hb4 _⟩
end Go.Proofs.Ytmnngfbcgpholaa.Key

namespace Go.Proofs.Ytmnngfbcgpholaa.Key
open Go.RowKit
open Go.Op (bytesLess)

/-- the greater one -/
def up2 (a b : Int) : Int := if a < b then b else a
/-- the greatest Deep of kids -/
def kidD (ks : List E) : Nat → Int
  | 0 => 0
  | j + 1 => up2 (kidD ks j) (ks.getD j E.nil).deep
/-- .. and of Gotos -/
def bufD (s : Int) (bf : List M) : Nat → Int
  | 0 => s
  | j + 1 => if (bf.getD j M.nil).kind = 3 then up2 (bufD s bf j) (bf.getD j M.nil).deep else bufD s bf j
def deepM (n : Nd) : Int := bufD (kidD n.ks n.ks.length) n.bf n.bf.length
def deepI (n : Nd) : Int := if n.leaf then 1 else if deepM n = 65535 then 65535 else deepM n + 1
theorem kidD_at {ks : List E} {j : Nat} (h : j < ks.length) : kidD ks (j + 1) = up2 (kidD ks j) ks[j].deep := by rw [kidD, getD_at h]
theorem bufD_at {s : Int} {bf : List M} {j : Nat} (h : j < bf.length) : bufD s bf (j + 1) = if bf[j].kind = 3 then up2 (bufD s bf j) bf[j].deep else bufD s bf j := by rw [bufD, getD_at h]
theorem up2_in {a b : Int} (ha : 0 ≤ a ∧ a ≤ 65535) (hb : 0 ≤ b ∧ b ≤ 65535) : 0 ≤ up2 a b ∧ up2 a b ≤ 65535 := by
  unfold up2
  split
  · exact hb
  · exact ha
theorem kidD_in {ks : List E} (h : ∀ e ∈ ks, 0 ≤ e.deep ∧ e.deep ≤ 65535) : ∀ j, j ≤ ks.length → 0 ≤ kidD ks j ∧ kidD ks j ≤ 65535
  | 0, _ => by simp [kidD]
  | j + 1, hj => by
    rw [kidD_at (by omega)]
    exact up2_in (kidD_in h j (by omega)) (h _ (List.getElem_mem _))
theorem bufD_in {s : Int} {bf : List M} (hs : 0 ≤ s ∧ s ≤ 65535) (h : ∀ m ∈ bf, 0 ≤ m.deep ∧ m.deep ≤ 65535) : ∀ j, j ≤ bf.length → 0 ≤ bufD s bf j ∧ bufD s bf j ≤ 65535
  | 0, _ => hs
  | j + 1, hj => by
    rw [bufD_at (by omega)]
    have ih := bufD_in hs h j (by omega)
    split
    · exact up2_in ih (h _ (List.getElem_mem _))
    · exact ih
theorem wrap16 {z : Int} (h : 0 ≤ z ∧ z ≤ 65535) : IntKind.u16.wrap z = z := by
  have e : IntKind.u16.wrap z = z % 65536 := by first | rfl | simp [IntKind.wrap, IntKind.signed, IntKind.bits]
  rw [e]
  omega

set_option maxRecDepth 100000 in
set_option maxHeartbeats 2000000 in
theorem deep14 (n : Nd) (p : Pl) (w : World) (hf : Small n) (h : Lies w n p) :
    Calls Try.prog 14 #[nv n p] w fun x w' => x = .returned (.int .u16 (deepI n)) ∧ Below w.heap.size w w' := by
  have hb0 : Below w.heap.size w (w.alloc (.cells #[.bool n.leaf, .slice p.a1 n.ps.length p.c1, .slice p.a2 n.pv.length p.c2, .slice p.a3 n.ks.length p.c3, .slice p.a4 n.bf.length p.c4] 27)) := below_box w _
  have N0 := NBox.new w (.bool n.leaf) (.slice p.a1 n.ps.length p.c1) (.slice p.a2 n.pv.length p.c2) (.slice p.a3 n.ks.length p.c3) (.slice p.a4 n.bf.length p.c4)
  have hD : deepI n = if n.leaf then 1 else if deepM n = 65535 then 65535 else deepM n + 1 := rfl
  have hM : deepM n = bufD (kidD n.ks n.ks.length) n.bf n.bf.length := rfl
  obtain ⟨⟨l1, l2, l3, l4⟩, _, _, _, db, de⟩ := hf
  have KI := hid (fun j => kidD_in de j)
  have BI := hid (bufD_in (kidD_in de n.ks.length (Nat.le_refl _)) db)
  have q3 := hid h.h3
  have q4 := hid h.h4
  have DE := hid de
  have DB := hid db
  clear h db de
  generalize deepI n = R at *
  generalize deepM n = DM at *
  obtain ⟨lf, ps, pv, ks, bf⟩ := n
  obtain ⟨a1, c1, a2, c2, a3, c3, a4, c4⟩ := p
  dsimp only [nv] at *
  generalize ps.length = n1 at *
  generalize pv.length = n2 at *
  generalize hn3 : ks.length = n3 at *
  generalize hn4 : bf.length = n4 at *
  have HN3 := hid hn3
  have HN4 := hid hn4
  clear hn3 hn4
  cases lf
  case true =>
    have HR : Hid (R = 1) := hid hD
    clear hD hM
    go_enter Try.func14, Try.ntmps14
    go_wp2_with fail
    go_ret
    exact ⟨by rw [HR.out]; rfl, hb0⟩
  case false =>
  have HR : Hid (R = if DM = 65535 then 65535 else DM + 1) := hid hD
  have HM := hid hM
  clear hD hM
  go_enter Try.func14, Try.ntmps14
  go_wp2_with fail
  generalize (w.alloc (.cells #[.bool false, .slice a1 n1 c1, .slice a2 n2 c2, .slice a3 n3 c3, .slice a4 n4 c4] 27)) = w0 at *
  generalize hk0 : w.heap.size = k0 at *
  go_loopw [3, 11] (fun d i wr => ∃ j : Nat, j ≤ n3 ∧ i = .int .i64 j ∧ d = .int .i64 (kidD ks j) ∧ Below w0.heap.size w0 wr) (fun _ i _ => n3 - (intOf i).toNat)
  case atStart => exact ⟨0, Nat.zero_le _, rfl, rfl, Below.refl _ _⟩
  case round =>
    obtain ⟨j, hj, rfl, rfl, hb⟩ := hrel
    have hbw : Below k0 w wr := hb0.trans (hb.mono (by have := hb0.size; omega))
    by_cases hlt : j < n3
    · have hlt' : j < ks.length := by rw [HN3.out]; exact hlt
      obtain ⟨b, off, rfl, h6⟩ := (q3.out.later (by rw [hk0]; exact hbw)).at hlt'
      have HK := hid (kidD_at hlt')
      obtain ⟨e, HS⟩ : ∃ s, Hid (ks[j] = s) := ⟨_, hid rfl⟩
      rw [HS.out] at HK h6
      obtain ⟨bk, dp, st, ad⟩ := e
      obtain ⟨d0, d1, d2, d3⟩ := h6
      dsimp only at d0 d1 d2 d3 HK
      have hdp := hid (DE.out _ (List.getElem_mem hlt'))
      rw [HS.out] at hdp
      have hdp' : 0 ≤ dp ∧ dp ≤ 65535 := hdp.out
      obtain ⟨hdl, hdu⟩ := hdp'
      have hqi := KI.out j (by omega)
      obtain ⟨hql, hqu⟩ := hqi
      obtain ⟨m0, m1, m2, m3, m4⟩ := (N0.later hb).cells
      generalize kidD ks j = q at *
      by_cases hd : q < dp
      · have HF : Hid (kidD ks (j + 1) = dp) := hid (by rw [HK.out, up2, if_pos hd])
        clear HK
        go_wp2_with fail
        go_roundw
        case rel => exact ⟨j + 1, by omega, by go_num, by rw [HF.out], hb⟩
        case measure => simp [intOf]; omega
      · have HF : Hid (kidD ks (j + 1) = q) := hid (by rw [HK.out, up2, if_neg hd])
        clear HK
        go_wp2_with fail
        go_roundw
        case rel => exact ⟨j + 1, by omega, by go_num, by rw [HF.out], hb⟩
        case measure => simp [intOf]; omega
    · obtain rfl : j = n3 := by omega
      obtain ⟨m0, m1, m2, m3, m4⟩ := (N0.later hb).cells
      generalize kidD ks j = s at *
      go_wp2_with fail
      go_loopw [3, 34] (fun d i wr' => ∃ j : Nat, j ≤ n4 ∧ i = .int .i64 j ∧ d = .int .i64 (bufD s bf j) ∧ Below wr.heap.size wr wr') (fun _ i _ => n4 - (intOf i).toNat)
      case atStart => exact ⟨0, Nat.zero_le _, rfl, rfl, Below.refl _ _⟩
      case round =>
        obtain ⟨j, hj, rfl, rfl, hb3⟩ := hrel
        have hbw3 := hbw.trans (hb3.mono (by have := hbw.size; omega))
        clear m0 m1 m2 m3 m4
        by_cases hlt : j < n4
        · have hlt' : j < bf.length := by rw [HN4.out]; exact hlt
          obtain ⟨b, off, rfl, h6⟩ := (q4.out.later (by rw [hk0]; exact hbw3)).at hlt'
          have HK := hid (bufD_at (s := s) hlt')
          obtain ⟨m, HS⟩ : ∃ s, Hid (bf[j] = s) := ⟨_, hid rfl⟩
          rw [HS.out] at HK h6
          obtain ⟨kd, ky, vl, bk, dp, ad⟩ := m
          obtain ⟨d0, d1, d2, d3, d4, d5⟩ := h6
          dsimp only at d0 d1 d2 d3 d4 d5 HK
          have hdp := hid (DB.out _ (List.getElem_mem hlt'))
          rw [HS.out] at hdp
          have hdp' : 0 ≤ dp ∧ dp ≤ 65535 := hdp.out
          obtain ⟨hdl, hdu⟩ := hdp'
          have hqi := BI.out j (by omega)
          obtain ⟨hql, hqu⟩ := hqi
          obtain ⟨m0, m1, m2, m3, m4⟩ := ((N0.later hb).later hb3).cells
          have HKe := HK.out
          generalize bufD s bf j = q at *
          by_cases h3 : kd = 3
          · subst h3
            rw [if_pos rfl] at HKe
            by_cases hd : q < dp
            · have HF : Hid (bufD s bf (j + 1) = dp) := hid (by rw [HKe, up2, if_pos hd])
              clear HK HKe
              go_wp2_with fail
              go_roundw
              case rel => exact ⟨j + 1, by omega, by go_num, by rw [HF.out], hb3⟩
              case measure => simp [intOf]; omega
            · have HF : Hid (bufD s bf (j + 1) = q) := hid (by rw [HKe, up2, if_neg hd])
              clear HK HKe
              go_wp2_with fail
              go_roundw
              case rel => exact ⟨j + 1, by omega, by go_num, by rw [HF.out], hb3⟩
              case measure => simp [intOf]; omega
          · rw [if_neg h3] at HKe
            have HF := hid HKe
            have h3' : (kd == 3) = false := by simpa using h3
            clear HK HKe h3
            go_wp2_with fail
            go_roundw
            case rel => exact ⟨j + 1, by omega, by go_num, by rw [HF.out], hb3⟩
            case measure => simp [intOf]; omega
        · obtain rfl : j = n4 := by omega
          have hin := BI.out j (Nat.le_refl _)
          rw [← HM.out] at hin ⊢
          clear HM KI BI
          obtain ⟨hil, hiu⟩ := hin
          by_cases he : DM = 65535
          · subst he
            have HF : Hid (R = 65535) := hid (by rw [HR.out, if_pos rfl])
            clear HR
            go_wp2_with fail
            go_ret
            exact ⟨by rw [HF.out]; rfl, by first | exact hbw3 | (rw [hk0]; exact hbw3)⟩
          · have HF : Hid (R = DM + 1) := hid (by rw [HR.out, if_neg he])
            have he' : ¬ 65535 ≤ DM := by omega
            have hw := wrap16 (z := DM + 1) (by omega)
            clear HR
            go_wp2_with fail
            go_ret
            exact ⟨by rw [HF.out]; rfl, by first | exact hbw3 | (rw [hk0]; exact hbw3)⟩
theorem kidD_le {ks : List E} {B : Int} (h0 : 0 ≤ B) (h : ∀ e ∈ ks, e.deep ≤ B) : ∀ j, j ≤ ks.length → kidD ks j ≤ B
  | 0, _ => h0
  | j + 1, hj => by
    rw [kidD_at (by omega)]
    unfold up2
    split
    · exact h _ (List.getElem_mem _)
    · exact kidD_le h0 h j (by omega)
theorem bufD_le {s B : Int} {bf : List M} (h0 : s ≤ B) (h : ∀ m ∈ bf, m.kind = 3 → m.deep ≤ B) : ∀ j, j ≤ bf.length → bufD s bf j ≤ B
  | 0, _ => h0
  | j + 1, hj => by
    rw [bufD_at (by omega)]
    have ih := bufD_le h0 h j (by omega)
    split
    · rename_i h3
      unfold up2
      split
      · exact h _ (List.getElem_mem _) h3
      · exact ih
    · exact ih
theorem kidD_ge {ks : List E} {i : Nat} (hi : i < ks.length) : ∀ j, i < j → j ≤ ks.length → ks[i].deep ≤ kidD ks j
  | 0, h, _ => by omega
  | j + 1, h, hj => by
    rw [kidD_at (by omega)]
    unfold up2
    by_cases e : i = j
    · subst e; split <;> omega
    · have := kidD_ge hi j (by omega) (by omega)
      split <;> omega
theorem bufD_start {s : Int} {bf : List M} : ∀ j, j ≤ bf.length → s ≤ bufD s bf j
  | 0, _ => Int.le_refl _
  | j + 1, hj => by
    rw [bufD_at (by omega)]
    have := bufD_start (s := s) (bf := bf) j (by omega)
    unfold up2
    split
    · split <;> omega
    · exact this
theorem bufD_ge {s : Int} {bf : List M} {i : Nat} (hi : i < bf.length) (h3 : bf[i].kind = 3) : ∀ j, i < j → j ≤ bf.length → bf[i].deep ≤ bufD s bf j
  | 0, h, _ => by omega
  | j + 1, h, hj => by
    rw [bufD_at (by omega)]
    unfold up2
    by_cases e : i = j
    · subst e; rw [if_pos h3]; split <;> omega
    · have := bufD_ge (s := s) hi h3 j (by omega) (by omega)
      split
      · split <;> omega
      · exact this
theorem kidD_zero {ks : List E} : ∀ j, j ≤ ks.length → 0 ≤ kidD ks j
  | 0, _ => Int.le_refl _
  | j + 1, hj => by
    rw [kidD_at (by omega)]
    have := kidD_zero (ks := ks) j (by omega)
    unfold up2
    split <;> omega
theorem deepM_mono {x n : Nd} (hk : ∀ e ∈ x.ks, e ∈ n.ks ∨ ∃ m ∈ n.bf, m.kind = 3 ∧ e.deep = m.deep) (hb : ∀ m ∈ x.bf, m ∈ n.bf) : deepM x ≤ deepM n := by
  have h1 : ∀ m ∈ n.bf, m.kind = 3 → m.deep ≤ deepM n := by
    intro m hm h3
    obtain ⟨i, hi, rfl⟩ := List.getElem_of_mem hm
    exact bufD_ge hi h3 _ hi (Nat.le_refl _)
  have h2 : ∀ e ∈ n.ks, e.deep ≤ deepM n := by
    intro e he
    obtain ⟨i, hi, rfl⟩ := List.getElem_of_mem he
    exact Int.le_trans (kidD_ge hi _ hi (Nat.le_refl _)) (bufD_start _ (Nat.le_refl _))
  have h0 : 0 ≤ deepM n := Int.le_trans (kidD_zero _ (Nat.le_refl _)) (bufD_start _ (Nat.le_refl _))
  refine bufD_le (kidD_le h0 ?_ _ (Nat.le_refl _)) (fun m hm h3 => h1 m (hb m hm) h3) _ (Nat.le_refl _)
  intro e he
  rcases hk e he with h | ⟨m, hm, h3, e2⟩
  · exact h2 e h
  · rw [e2]; exact h1 m hm h3
/-- a node with a Goto pasted is no deeper -/
theorem paste_deep {n : Nd} {z : Int} (h : pasteE n z = 0) (hd : ∀ e ∈ n.ks, 0 ≤ e.deep ∧ e.deep ≤ 65535) (hb : ∀ m ∈ n.bf, 0 ≤ m.deep ∧ m.deep ≤ 65535) : deepI (pasteA n z) ≤ deepI n := by
  obtain ⟨i, hi, rfl, hg, hno, hA, hm, hl, hps, hlen, hp, hk, hbm, h16, h8⟩ := paste_zero h
  rw [hA]
  have h3 : n.bf[i].kind = 3 := by simpa [isGoto] using hg
  obtain ⟨r1, r2, r3, r4⟩ := around_all hp hlen hk (hbm _ (List.getElem_mem hi)) hg
  have hM : deepM (pasteF n i n.bf[i]) ≤ deepM n := by
    refine deepM_mono ?_ ?_
    · unfold pasteF
      dsimp only
      intro e he
      obtain ⟨x, hx, rfl⟩ := List.mem_map.1 he
      rcases (r2 x hx).2.2 with q | q
      · exact .inl q
      · exact .inr ⟨_, List.getElem_mem hi, h3, q⟩
    · unfold pasteF
      dsimp only
      intro m hm'
      rw [List.mem_append] at hm'
      rcases hm' with hm' | hm'
      · unfold othersL at hm'
        exact List.mem_of_mem_take (List.mem_filter.1 hm').1
      · exact List.mem_of_mem_drop hm'
  have hN := (bufD_in (kidD_in hd n.ks.length (Nat.le_refl _)) hb n.bf.length (Nat.le_refl _)).2
  rw [show bufD (kidD n.ks n.ks.length) n.bf n.bf.length = deepM n from rfl] at hN
  unfold deepI
  rw [if_neg (show ¬ (pasteF n i n.bf[i]).leaf = true by simp [pasteF]), if_neg (show ¬ n.leaf = true by rw [hl]; simp)]
  split
  · split <;> omega
  · split <;> omega
end Go.Proofs.Ytmnngfbcgpholaa.Key

namespace Go.Proofs.Ytmnngfbcgpholaa.Key
open Go.RowKit Draw
open Go.Op (bytesLess)
set_option linter.unusedVariables false
set_option linter.unusedSimpArgs false

theorem paste_leaf (n : Nd) (z : Int) : (pasteA n z).leaf = false := by
  unfold pasteA
  split
  · rfl
  · rfl
theorem paste_ps (n : Nd) (z : Int) : (pasteA n z).ps = [] := by
  unfold pasteA
  split
  · rfl
  · rfl
theorem paste_bf {n : Nd} {z : Int} {m : M} (h : m ∈ (pasteA n z).bf) : m ∈ n.bf := by
  unfold pasteA at h
  split at h
  · unfold pasteN pasteF at h
    dsimp only at h
    rw [List.mem_append] at h
    rcases h with h | h
    · unfold othersL at h
      exact List.mem_of_mem_take (List.mem_filter.1 h).1
    · exact List.mem_of_mem_drop h
  · cases h
theorem nil_small : Small nilN := ⟨⟨by decide, by decide, by decide, by decide⟩, (by intro m h; cases h), (by intro m h; cases h), (by intro m h; cases h), (by intro m h; cases h), (by intro m h; cases h)⟩
theorem paste_small {n : Nd} {z : Int} (hs : Small n) : Small (pasteA n z) := by
  by_cases h : pasteE n z = 0
  · have hbf := fun m (h : m ∈ (pasteA n z).bf) => paste_bf h
    obtain ⟨h1, h2, h3, h4, h5, h6⟩ := paste_may h
    have hps := paste_ps n z
    obtain ⟨i, hi, rfl, hg, hno, hA, hm, hl, hp0, hlen, hp, hk, hb, h16, h8⟩ := paste_zero h
    obtain ⟨r1, r2, r3, r4⟩ := around_all hp hlen hk (hb _ (List.getElem_mem hi)) hg
    have hkid : ∀ e ∈ (pasteA n i).ks, e.add.size ≤ 16 ∧ (e ∈ n.ks ∨ e.deep = n.bf[i].deep) := by
      intro e he
      rw [hA] at he
      unfold pasteF at he
      dsimp only at he
      obtain ⟨x, hx, rfl⟩ := List.mem_map.1 he
      obtain ⟨_, q2, q3⟩ := r2 x hx
      refine ⟨?_, q3⟩
      unfold okE at q2
      simp only [Bool.and_eq_true, decide_eq_true_eq] at q2
      exact q2.2.2
    refine ⟨⟨by rw [hps]; exact Nat.zero_le _, by omega, by omega, by omega⟩, fun m h => hs.kb m (hbf m h), fun m h => hs.ab m (hbf m h), fun e h => by have := (hkid e h).1; omega, fun m h => hs.db m (hbf m h), fun e h => ?_⟩
    rcases (hkid e h).2 with q | q
    · exact hs.de e q
    · rw [q]; exact hs.db _ (List.getElem_mem hi)
  · have : pasteA n z = nilN := by unfold pasteA; rw [if_neg h]
    rw [this]
    exact nil_small

/-- a node's lists, all in rows of the call's own -/
def OwnN (w : World) (B : Nat) (n : Nd) (q : Pl) : Prop := Owns w B n (.slice q.a1 n.ps.length q.c1) (.slice q.a2 n.pv.length q.c2) (.slice q.a3 n.ks.length q.c3) (.slice q.a4 n.bf.length q.c4)
theorem Owns.put {w : World} {B : Nat} {n : Nd} {x1 x2 x3 x4 : Value} (h : Owns w B n x1 x2 x3 x4) : ∃ q : Pl, x1 = .slice q.a1 n.ps.length q.c1 ∧ x2 = .slice q.a2 n.pv.length q.c2 ∧ x3 = .slice q.a3 n.ks.length q.c3 ∧ x4 = .slice q.a4 n.bf.length q.c4 ∧ OwnN w B n q := by
  obtain ⟨q, rfl, rfl, rfl, rfl, _⟩ := h.lies
  exact ⟨q, rfl, rfl, rfl, rfl, h⟩
theorem OwnN.lies {w : World} {B : Nat} {n : Nd} {q : Pl} (h : OwnN w B n q) : Lies w n q := by
  obtain ⟨q', e1, e2, e3, e4, hl⟩ := Owns.lies h
  obtain ⟨a1, c1, a2, c2, a3, c3, a4, c4⟩ := q
  obtain ⟨b1, d1, b2, d2, b3, d3, b4, d4⟩ := q'
  simp only [Value.slice.injEq, true_and] at e1 e2 e3 e4
  obtain ⟨rfl, rfl⟩ := e1
  obtain ⟨rfl, rfl⟩ := e2
  obtain ⟨rfl, rfl⟩ := e3
  obtain ⟨rfl, rfl⟩ := e4
  exact hl
theorem OwnN.later {w w' : World} {B : Nat} {n : Nd} {q : Pl} (h : OwnN w B n q) (hb : Below w.heap.size w w') : OwnN w' B n q := Owns.later h hb
theorem OwnN.mono {w : World} {B B' : Nat} {n : Nd} {q : Pl} (h : OwnN w B n q) (hB : B' ≤ B) : OwnN w B' n q := ⟨row_mono h.o1 hB, row_mono h.o2 hB, row_mono h.o3 hB, row_mono h.o4 hB⟩
theorem NBox.put0 {w : World} {k : Nat} {v0 v1 v2 v3 v4 : Value} (h : NBox w k v0 v1 v2 v3 v4) (y : Value) : NBox (w.setCell ⟨k, 0, none⟩ y) k y v1 v2 v3 v4 := Go.Joins.block_setCell h y
theorem NBox.five {w : World} {k : Nat} {v0 v1 v2 v3 v4 : Value} (h : NBox w k v0 v1 v2 v3 v4) (y0 y1 y2 y3 y4 : Value) : NBox (((((w.setCell ⟨k, 0, none⟩ y0).setCell ⟨k, 1, none⟩ y1).setCell ⟨k, 2, none⟩ y2).setCell ⟨k, 3, none⟩ y3).setCell ⟨k, 4, none⟩ y4) k y0 y1 y2 y3 y4 :=
  ((((h.put0 y0).put1 y1).put2 y2).put3 y3).put4 y4
theorem row_node {w : World} {B k : Nat} {v0 v1 v2 v3 v4 : Value} {e : TypeId} {sz : Nat} {v : Value} {n : Nat} {xs : List Value} (h : w.ownsRow B e sz v n xs) (hN : NBox w k v0 v1 v2 v3 v4) (he : e ≠ 27) (y0 y1 y2 y3 y4 : Value) :
    (((((w.setCell ⟨k, 0, none⟩ y0).setCell ⟨k, 1, none⟩ y1).setCell ⟨k, 2, none⟩ y2).setCell ⟨k, 3, none⟩ y3).setCell ⟨k, 4, none⟩ y4).ownsRow B e sz v n xs :=
  row_type (row_type (row_type (row_type (row_type h hN he) (hN.put0 y0) he) ((hN.put0 y0).put1 y1) he) (((hN.put0 y0).put1 y1).put2 y2) he) ((((hN.put0 y0).put1 y1).put2 y2).put3 y3) he
theorem OwnN.node {w : World} {B k : Nat} {v0 v1 v2 v3 v4 : Value} {n : Nd} {q : Pl} (h : OwnN w B n q) (hN : NBox w k v0 v1 v2 v3 v4) (y0 y1 y2 y3 y4 : Value) :
    OwnN (((((w.setCell ⟨k, 0, none⟩ y0).setCell ⟨k, 1, none⟩ y1).setCell ⟨k, 2, none⟩ y2).setCell ⟨k, 3, none⟩ y3).setCell ⟨k, 4, none⟩ y4) B n q :=
  ⟨row_node h.o1 hN (by decide) y0 y1 y2 y3 y4, row_node h.o2 hN (by decide) y0 y1 y2 y3 y4, row_node h.o3 hN (by decide) y0 y1 y2 y3 y4, row_node h.o4 hN (by decide) y0 y1 y2 y3 y4⟩
/-- a block that holds some node -/
def NEx (u : World) (k : Nat) : Prop := ∃ v0 v1 v2 v3 v4, NBox u k v0 v1 v2 v3 v4
theorem NEx.five {u : World} {k k' : Nat} {v0 v1 v2 v3 v4 : Value} (h : NEx u k') (hN : NBox u k v0 v1 v2 v3 v4) (y0 y1 y2 y3 y4 : Value) : NEx (((((u.setCell ⟨k, 0, none⟩ y0).setCell ⟨k, 1, none⟩ y1).setCell ⟨k, 2, none⟩ y2).setCell ⟨k, 3, none⟩ y3).setCell ⟨k, 4, none⟩ y4) k' := by
  by_cases e : k' = k
  · subst e
    exact ⟨_, _, _, _, _, hN.five y0 y1 y2 y3 y4⟩
  · obtain ⟨x0, x1, x2, x3, x4, hx⟩ := h
    exact ⟨_, _, _, _, _, ((((hx.far e).far e).far e).far e).far e⟩
/-- what Paste answers, as a place -/
theorem PasteSay.place {w w' : World} {x : Ending} {n : Nd} {z : Int} (h : PasteSay w w' x n z) : ∃ q : Pl, x = .returned (.tuple #[.agg #[.bool false, .slice q.a1 (pasteA n z).ps.length q.c1, .slice q.a2 (pasteA n z).pv.length q.c2, .slice q.a3 (pasteA n z).ks.length q.c3, .slice q.a4 (pasteA n z).bf.length q.c4], .int .i64 (pasteE n z)]) ∧ OwnN w' (w.heap.size + 1) (pasteA n z) q := by
  obtain ⟨x2, x3, x4, rfl, ho⟩ := h
  obtain ⟨q, e1, rfl, rfl, rfl, hq⟩ := ho.put
  exact ⟨q, by rw [e1], hq⟩
end Go.Proofs.Ytmnngfbcgpholaa.Key

namespace Go.Proofs.Ytmnngfbcgpholaa.Key
open Go.RowKit
open Go.Op (bytesLess)
set_option linter.unusedVariables false
set_option linter.unusedSimpArgs false

def kidsOf (l : List Pt) : List E := l.map Pt.kid
def pivsOf (l : List Pt) : List ByteArray := (l.drop 1).map Pt.lo
theorem kids_snoc (l : List Pt) (x : Pt) : kidsOf (l ++ [x]) = kidsOf l ++ [x.kid] := by unfold kidsOf; rw [List.map_append]; rfl
theorem pivs_snoc (l : List Pt) (x : Pt) : pivsOf (l ++ [x]) = if 0 < l.length then pivsOf l ++ [x.lo] else pivsOf l := piv_more l x
theorem kids_len (l : List Pt) : (kidsOf l).length = l.length := List.length_map _
theorem pivs_len (l : List Pt) : (pivsOf l).length ≤ l.length := by unfold pivsOf; rw [List.length_map, List.length_drop]; omega
/-- the kids ahead of a Goto, and it -/
def accA (n : Nd) (m : M) : List Pt := inW n (aheadR m) n.ks.length ++ [gotoPt m]
/-- .. and those behind it, of the first j -/
def accB (n : Nd) (m : M) (j : Nat) : List Pt := accA n m ++ if (aboutR m).e then inW n (behindR m) j else []
theorem accB_zero (n : Nd) (m : M) : accB n m 0 = accA n m := by
  unfold accB
  split
  · show _ ++ inW n (behindR m) 0 = _
    rw [show inW n (behindR m) 0 = [] from rfl, List.append_nil]
  · rw [List.append_nil]
theorem accB_end (n : Nd) (m : M) : accB n m n.ks.length = aroundL n m := rfl
/-- is a kid left out? -/
def skipB (n : Nd) (m : M) (j : Nat) : Bool := !(aboutR m).e || (endOf n.pv j && !bytesLess (aboutR m).hi (hiOf n.pv j).data.toList)
theorem accB_succ {n : Nd} (h : upTo (pivAt n.pv) n.pv.length = true) (m : M) {j : Nat} {x : E} (hx : n.ks[j]? = some x) (hj : j ≤ n.pv.length) : accB n m (j + 1) = if skipB n m j then accB n m j else accB n m j ++ [⟨str (maxL (loOf n.pv j).data.toList (aboutR m).hi), x⟩] := by
  unfold accB skipB
  cases he : (aboutR m).e
  · rfl
  · rw [if_pos rfl, if_pos rfl, inW_succ]
    show _ = if (!true || _) = true then _ else _
    rw [show behindR m = ⟨(aboutR m).hi, [], false⟩ from rfl, tch_behind h _ hj]
    cases hq : (endOf n.pv j && !bytesLess (aboutR m).hi (hiOf n.pv j).data.toList)
    · have ht : tch n.pv ⟨(aboutR m).hi, [], false⟩ j = true := by rw [tch_behind h _ hj, hq]; rfl
      have hp := part_behind ht
      have hk : (partAt n ⟨(aboutR m).hi, [], false⟩ j).kid = x := by
        obtain ⟨hj2, rfl⟩ := List.getElem?_eq_some_iff.1 hx
        exact getD_at hj2
      rw [if_pos (show (!false) = true from rfl), if_neg (show ¬ (!true || false) = true by simp), ← List.append_assoc]
      congr 2
      generalize partAt n ⟨(aboutR m).hi, [], false⟩ j = P at *
      obtain ⟨p1, p2⟩ := P
      dsimp only at hp hk
      rw [hp, hk]
    · rw [if_neg (show ¬ (!true) = true by simp), if_pos (show (!true || true) = true from rfl)]
/-- the kids ahead, of the first j -/
theorem inA_succ {n : Nd} (h : upTo (pivAt n.pv) n.pv.length = true) (g : List UInt8) {j : Nat} {x : E} (hx : n.ks[j]? = some x) (hj : j ≤ n.pv.length) (hl : bytesLess (loOf n.pv j).data.toList g = true) : inW n ⟨[], g, true⟩ (j + 1) = inW n ⟨[], g, true⟩ j ++ [⟨loOf n.pv j, x⟩] := by
  have ht : tch n.pv ⟨[], g, true⟩ j = true := by rw [tch_ahead h g hj]; exact hl
  rw [inW_succ, if_pos ht]
  congr 2
  have hp := part_ahead ht
  have hk : (partAt n ⟨[], g, true⟩ j).kid = x := by
    obtain ⟨hj2, rfl⟩ := List.getElem?_eq_some_iff.1 hx
    exact getD_at hj2
  generalize partAt n ⟨[], g, true⟩ j = P at *
  obtain ⟨p1, p2⟩ := P
  dsimp only at hp hk
  rw [hp, hk]
theorem inA_end {n : Nd} (h : upTo (pivAt n.pv) n.pv.length = true) (g : List UInt8) {j : Nat} (hj : j ≤ n.pv.length) (hlen : n.pv.length + 1 = n.ks.length) (hl : bytesLess (loOf n.pv j).data.toList g = false) : inW n ⟨[], g, true⟩ n.ks.length = inW n ⟨[], g, true⟩ j :=
  ahead_end h hj (by rw [tch_ahead h g hj]; exact hl) _ (by omega) (by omega)
/-- the messages that stay, of the first j -/
def keepL (bf : List M) (i : Nat) (m : M) : Nat → List M
  | 0 => []
  | j + 1 => if j = i ∨ (j < i ∧ insideR (aboutR (bf.getD j M.nil)) (aboutR m) = true) then keepL bf i m j else keepL bf i m j ++ [bf.getD j M.nil]
theorem keepL_le (bf : List M) (i : Nat) (m : M) : ∀ j, (keepL bf i m j).length ≤ j
  | 0 => Nat.le_refl _
  | j + 1 => by
    have := keepL_le bf i m j
    unfold keepL
    split
    · omega
    · rw [List.length_append, List.length_singleton]; omega
theorem keepL_at {bf : List M} {i : Nat} {m o : M} {j : Nat} (h : bf[j]? = some o) : keepL bf i m (j + 1) = if j = i ∨ (j < i ∧ insideR (aboutR o) (aboutR m) = true) then keepL bf i m j else keepL bf i m j ++ [o] := by
  obtain ⟨hj, rfl⟩ := List.getElem?_eq_some_iff.1 h
  rw [keepL, getD_at hj]
theorem keepL_low {bf : List M} {i : Nat} {m : M} (hm : ∀ o ∈ bf, mayB o = true) : ∀ j, j ≤ i → j ≤ bf.length → keepL bf i m j = othersL (bf.take j) m
  | 0, _, _ => rfl
  | j + 1, hji, hj => by
    have hx : bf[j]? = some bf[j] := List.getElem?_eq_getElem (by omega)
    rw [keepL_at hx, keepL_low hm j (by omega) (by omega), List.take_add_one, hx]
    show _ = othersL (bf.take j ++ [bf[j]]) m
    rw [others_succ, other_say (hm _ (List.getElem_mem _))]
    cases hq : insideR (aboutR bf[j]) (aboutR m)
    · rw [if_neg (by simp; omega), if_pos (show (!false) = true from rfl)]
    · rw [if_pos (.inr ⟨by omega, rfl⟩), if_neg (by simp)]
theorem keepL_high {bf : List M} {i : Nat} {m : M} (hm : ∀ o ∈ bf, mayB o = true) (hi : i < bf.length) : ∀ k, i + 1 + k ≤ bf.length → keepL bf i m (i + 1 + k) = othersL (bf.take i) m ++ (bf.drop (i + 1)).take k
  | 0, _ => by
    show keepL bf i m (i + 1) = _
    rw [keepL, if_pos (.inl rfl), keepL_low hm i (Nat.le_refl _) (by omega), List.take_zero, List.append_nil]
  | k + 1, hk => by
    have hx : bf[i + 1 + k]? = some bf[i + 1 + k] := List.getElem?_eq_getElem (by omega)
    rw [show i + 1 + (k + 1) = i + 1 + k + 1 by omega, keepL_at hx, keepL_high hm hi k (by omega), if_neg (by omega), List.append_assoc, List.take_add_one]
    congr 2
    rw [List.getElem?_drop, hx]
    rfl
theorem keepL_all {bf : List M} {i : Nat} {m : M} (hm : ∀ o ∈ bf, mayB o = true) (hi : i < bf.length) : keepL bf i m bf.length = othersL (bf.take i) m ++ bf.drop (i + 1) := by
  have h := keepL_high (m := m) hm hi (bf.length - (i + 1)) (by omega)
  rw [show i + 1 + (bf.length - (i + 1)) = bf.length by omega] at h
  rw [h, List.take_of_length_le (l := bf.drop (i + 1)) (by rw [List.length_drop]; omega)]
theorem paste_forms (n : Nd) (i : Nat) (m : M) (hm : ∀ o ∈ n.bf, mayB o = true) (hi : i < n.bf.length) : pasteF n i m = ⟨false, [], pivsOf (accB n m n.ks.length), kidsOf (accB n m n.ks.length), keepL n.bf i m n.bf.length⟩ := by
  rw [keepL_all hm hi]
  rfl
end Go.Proofs.Ytmnngfbcgpholaa.Key

namespace Go.Proofs.Ytmnngfbcgpholaa.Key
open Go.RowKit Draw
open Go.Op (bytesLess)
set_option linter.unusedVariables false
set_option linter.unusedSimpArgs false

theorem max_str (a : ByteArray) (l : List UInt8) : str (maxL a.data.toList l) = if bytesLess a.toList (str l).toList then str l else a := by
  unfold maxL
  rw [less_str, str_data]
  split
  · rfl
  · exact str_eq a

set_option maxRecDepth 100000 in
set_option maxHeartbeats 8000000 in
theorem paste9 (n : Nd) (p : Pl) (z : Int) (w : World) (hf : Few n) (h : Lies w n p) (hd0 : ∀ m ∈ n.bf, 0 ≤ m.deep) (hks : ∀ m ∈ n.bf, m.key.size ≤ 1000) :
    Calls Try.prog 9 #[nv n p, .int .i64 z] w fun x w' => PasteSay w w' x n z ∧ Below w.heap.size w w' := by
  have HM := hid (fun (wr : World) (hb : Below w.heap.size w wr) => may13 n p wr hf (h.later hb) hd0)
  have HF := hid (fun (wr : World) (hb : Below w.heap.size w wr) => first12 n p wr (by have := hf.l4; omega) (h.later hb))
  have HE := hid (show pasteE n z = if mayI n = 0 then (if 0 ≤ z ∧ z = firstI n.bf then 0 else 1) else 3 from rfl)
  have HZ := hid (fun e (h : pasteE n z = e) (h0 : e ≠ 0) => paste_no h h0)
  have HB := hid (fun (h0 : pasteE n z = 0) => paste_zero h0)
  have HR := hid (fun (j : Nat) (hj : j < n.ks.length) (wr : World) (hb : Below w.heap.size w wr) => range61 n p j wr hf.l2 hf.l3 hj (h.later hb))
  have HLk := hid (fun (wr : World) (hb : Below w.heap.size w wr) => h.h3.later hb)
  have HLb := hid (fun (wr : World) (hb : Below w.heap.size w wr) => h.h4.later hb)
  have HAo := hid (fun o (ho : o ∈ n.bf) wr => about15 o wr (hks o ho))
  have hl4 := hf.l4
  have hl3 := hf.l3
  clear h hf
  unfold PasteSay
  by_cases hm : mayI n = 0
  case neg =>
    have he3 : pasteE n z = 3 := by rw [HE.out, if_neg hm]
    rw [HZ.out 3 he3 (by decide), he3]
    have hd : (mayI n == 0) = false := by simp [hm]
    clear he3 HE HZ HB HF HR HLk HLb HAo hd0 hks
    generalize mayI n = mi at *
    obtain ⟨lB, ps, ws, ks, bf⟩ := n
    obtain ⟨a1, c1, a2, c2, a3, c3, a4, c4⟩ := p
    dsimp only [nv] at *
    have N0 := ((NBox.new w (.bool lB) (.slice a1 ps.length c1) (.slice a2 ws.length c2) (.slice a3 ks.length c3) (.slice a4 bf.length c4)).alloc (.cells #[.bool false, .slice none 0 0, .slice none 0 0, .slice none 0 0, .slice none 0 0] 27)).alloc (.cells #[.bool false, .slice none 0 0, .slice none 0 0, .slice none 0 0, .slice none 0 0] 27)
    have P0 := (NBox.new (w.alloc (.cells #[.bool lB, .slice a1 ps.length c1, .slice a2 ws.length c2, .slice a3 ks.length c3, .slice a4 bf.length c4] 27)) (.bool false) (.slice none 0 0) (.slice none 0 0) (.slice none 0 0) (.slice none 0 0)).alloc (.cells #[.bool false, .slice none 0 0, .slice none 0 0, .slice none 0 0, .slice none 0 0] 27)
    have Z0 := NBox.new ((w.alloc (.cells #[.bool lB, .slice a1 ps.length c1, .slice a2 ws.length c2, .slice a3 ks.length c3, .slice a4 bf.length c4] 27)).alloc (.cells #[.bool false, .slice none 0 0, .slice none 0 0, .slice none 0 0, .slice none 0 0] 27)) (.bool false) (.slice none 0 0) (.slice none 0 0) (.slice none 0 0) (.slice none 0 0)
    have hb0 := ((below_box w (.cells #[.bool lB, .slice a1 ps.length c1, .slice a2 ws.length c2, .slice a3 ks.length c3, .slice a4 bf.length c4] 27)).alloc (by rw [World.size_alloc]; omega) (.cells #[.bool false, .slice none 0 0, .slice none 0 0, .slice none 0 0, .slice none 0 0] 27)).alloc (by rw [World.size_alloc, World.size_alloc]; omega) (.cells #[.bool false, .slice none 0 0, .slice none 0 0, .slice none 0 0, .slice none 0 0] 27)
    rw [World.size_alloc] at P0
    rw [World.size_alloc, World.size_alloc] at Z0
    generalize ps.length = n1 at *
    generalize hn2 : ws.length = n2 at *
    generalize hn3 : ks.length = n3 at *
    generalize hn4 : bf.length = n4 at *
    have HN2 := hid hn2
    have HN3 := hid hn3
    have HN4 := hid hn4
    clear hn2 hn3 hn4
    go_enter Try.func9, Try.ntmps9
    go_upto_region 2 with fail
    generalize ((w.alloc (.cells #[.bool lB, .slice a1 n1 c1, .slice a2 n2 c2, .slice a3 n3 c3, .slice a4 n4 c4] 27)).alloc (.cells #[.bool false, .slice none 0 0, .slice none 0 0, .slice none 0 0, .slice none 0 0] 27)).alloc (.cells #[.bool false, .slice none 0 0, .slice none 0 0, .slice none 0 0, .slice none 0 0] 27) = w2 at *
    generalize hk0 : w.heap.size = k0 at *
    have HQ0 := hid hk0
    clear hk0
    generalize hk1 : k0 + 1 = k1 at *
    generalize hk2 : k1 + 1 = k2 at *
    have hP0 := Z0.lt
    obtain ⟨m0, m1, m2, m3, m4⟩ := N0.cells
    go_wp2_with fail
    refine (HM.out _ hb0).mono ?_
    clear HM m0 m1 m2 m3 m4
    rintro x w3 ⟨rfl, hb3⟩
    have hs3 := hb3.size
    have N1 := N0.later hb3
    have P1 := P0.later hb3
    have Z1 := Z0.later hb3
    have hb1 := hb0.trans (hb3.mono (by omega))
    clear N0 P0 Z0 hb0 hb3
    obtain ⟨y0, y1, y2, y3, y4⟩ := Z1.cells
    obtain ⟨z0, z1, z2, z3, z4⟩ := P1.cells
    have f := P1.free
    have f0 := f 0
    have f1 := f 1
    have f2 := f 2
    have f3 := f 3
    have f4 := f 4
    clear f
    have hb5 := below_five hb1 (show k0 ≤ k1 by omega) (.bool false) (.slice none 0 0) (.slice none 0 0) (.slice none 0 0) (.slice none 0 0)
    go_wp2_with fail
    refine bodyPost_ret (v := .tuple #[.agg #[.bool false, .slice none 0 0, .slice none 0 0, .slice none 0 0, .slice none 0 0], .int .i64 3]) (by simp [results, Try.results9, go_sem, z0, z1, z2, z3, z4]) rfl ⟨⟨_, _, _, rfl, ?_⟩, ?_⟩
    · exact ⟨row_nil _ _ _ _, row_nil _ _ _ _, row_nil _ _ _ _, row_nil _ _ _ _⟩
    · rw [HQ0.out]; exact hb5

  case pos =>
  have hd : (mayI n == 0) = true := by simp [hm]
  rw [hm] at HM
  by_cases hz : 0 ≤ z ∧ z = firstI n.bf
  case neg =>
    have he1 : pasteE n z = 1 := by rw [HE.out, if_pos hm, if_neg hz]
    rw [HZ.out 1 he1 (by decide), he1]
    clear he1 HE HZ HB HR HLk HLb HAo hd hm hd0 hks
    by_cases hneg : z < 0
    · have hd : decide (z < 0) = true := by simp [hneg]
      clear HF hz
      obtain ⟨lB, ps, ws, ks, bf⟩ := n
      obtain ⟨a1, c1, a2, c2, a3, c3, a4, c4⟩ := p
      dsimp only [nv] at *
      have N0 := ((NBox.new w (.bool lB) (.slice a1 ps.length c1) (.slice a2 ws.length c2) (.slice a3 ks.length c3) (.slice a4 bf.length c4)).alloc (.cells #[.bool false, .slice none 0 0, .slice none 0 0, .slice none 0 0, .slice none 0 0] 27)).alloc (.cells #[.bool false, .slice none 0 0, .slice none 0 0, .slice none 0 0, .slice none 0 0] 27)
      have P0 := (NBox.new (w.alloc (.cells #[.bool lB, .slice a1 ps.length c1, .slice a2 ws.length c2, .slice a3 ks.length c3, .slice a4 bf.length c4] 27)) (.bool false) (.slice none 0 0) (.slice none 0 0) (.slice none 0 0) (.slice none 0 0)).alloc (.cells #[.bool false, .slice none 0 0, .slice none 0 0, .slice none 0 0, .slice none 0 0] 27)
      have Z0 := NBox.new ((w.alloc (.cells #[.bool lB, .slice a1 ps.length c1, .slice a2 ws.length c2, .slice a3 ks.length c3, .slice a4 bf.length c4] 27)).alloc (.cells #[.bool false, .slice none 0 0, .slice none 0 0, .slice none 0 0, .slice none 0 0] 27)) (.bool false) (.slice none 0 0) (.slice none 0 0) (.slice none 0 0) (.slice none 0 0)
      have hb0 := ((below_box w (.cells #[.bool lB, .slice a1 ps.length c1, .slice a2 ws.length c2, .slice a3 ks.length c3, .slice a4 bf.length c4] 27)).alloc (by rw [World.size_alloc]; omega) (.cells #[.bool false, .slice none 0 0, .slice none 0 0, .slice none 0 0, .slice none 0 0] 27)).alloc (by rw [World.size_alloc, World.size_alloc]; omega) (.cells #[.bool false, .slice none 0 0, .slice none 0 0, .slice none 0 0, .slice none 0 0] 27)
      rw [World.size_alloc] at P0
      rw [World.size_alloc, World.size_alloc] at Z0
      generalize ps.length = n1 at *
      generalize hn2 : ws.length = n2 at *
      generalize hn3 : ks.length = n3 at *
      generalize hn4 : bf.length = n4 at *
      have HN2 := hid hn2
      have HN3 := hid hn3
      have HN4 := hid hn4
      clear hn2 hn3 hn4
      go_enter Try.func9, Try.ntmps9
      go_upto_region 2 with fail
      generalize ((w.alloc (.cells #[.bool lB, .slice a1 n1 c1, .slice a2 n2 c2, .slice a3 n3 c3, .slice a4 n4 c4] 27)).alloc (.cells #[.bool false, .slice none 0 0, .slice none 0 0, .slice none 0 0, .slice none 0 0] 27)).alloc (.cells #[.bool false, .slice none 0 0, .slice none 0 0, .slice none 0 0, .slice none 0 0] 27) = w2 at *
      generalize hk0 : w.heap.size = k0 at *
      have HQ0 := hid hk0
      clear hk0
      generalize hk1 : k0 + 1 = k1 at *
      generalize hk2 : k1 + 1 = k2 at *
      have hP0 := Z0.lt
      obtain ⟨m0, m1, m2, m3, m4⟩ := N0.cells
      go_wp2_with fail
      refine (HM.out _ hb0).mono ?_
      clear HM m0 m1 m2 m3 m4
      rintro x w3 ⟨rfl, hb3⟩
      have hs3 := hb3.size
      have N1 := N0.later hb3
      have P1 := P0.later hb3
      have Z1 := Z0.later hb3
      have hb1 := hb0.trans (hb3.mono (by omega))
      clear N0 P0 Z0 hb0 hb3
      obtain ⟨m0, m1, m2, m3, m4⟩ := N1.cells
      obtain ⟨y0, y1, y2, y3, y4⟩ := Z1.cells
      obtain ⟨z0, z1, z2, z3, z4⟩ := P1.cells
      have f := P1.free
      have f0 := f 0
      have f1 := f 1
      have f2 := f 2
      have f3 := f 3
      have f4 := f 4
      clear f
      have hb5 := below_five hb1 (show k0 ≤ k1 by omega) (.bool false) (.slice none 0 0) (.slice none 0 0) (.slice none 0 0) (.slice none 0 0)
      go_wp2_with fail
      refine bodyPost_ret (v := .tuple #[.agg #[.bool false, .slice none 0 0, .slice none 0 0, .slice none 0 0, .slice none 0 0], .int .i64 1]) (by simp [results, Try.results9, go_sem, z0, z1, z2, z3, z4]) rfl ⟨⟨_, _, _, rfl, ?_⟩, ?_⟩
      · exact ⟨row_nil _ _ _ _, row_nil _ _ _ _, row_nil _ _ _ _, row_nil _ _ _ _⟩
      · rw [HQ0.out]; exact hb5
    · by_cases hbig : (n.bf.length : Int) ≤ z
      · have hd : decide (z < 0) = false := by simp; omega
        have hd2 : decide ((n.bf.length : Int) ≤ z) = true := by simp [hbig]
        clear HF hz
        obtain ⟨lB, ps, ws, ks, bf⟩ := n
        obtain ⟨a1, c1, a2, c2, a3, c3, a4, c4⟩ := p
        dsimp only [nv] at *
        have N0 := ((NBox.new w (.bool lB) (.slice a1 ps.length c1) (.slice a2 ws.length c2) (.slice a3 ks.length c3) (.slice a4 bf.length c4)).alloc (.cells #[.bool false, .slice none 0 0, .slice none 0 0, .slice none 0 0, .slice none 0 0] 27)).alloc (.cells #[.bool false, .slice none 0 0, .slice none 0 0, .slice none 0 0, .slice none 0 0] 27)
        have P0 := (NBox.new (w.alloc (.cells #[.bool lB, .slice a1 ps.length c1, .slice a2 ws.length c2, .slice a3 ks.length c3, .slice a4 bf.length c4] 27)) (.bool false) (.slice none 0 0) (.slice none 0 0) (.slice none 0 0) (.slice none 0 0)).alloc (.cells #[.bool false, .slice none 0 0, .slice none 0 0, .slice none 0 0, .slice none 0 0] 27)
        have Z0 := NBox.new ((w.alloc (.cells #[.bool lB, .slice a1 ps.length c1, .slice a2 ws.length c2, .slice a3 ks.length c3, .slice a4 bf.length c4] 27)).alloc (.cells #[.bool false, .slice none 0 0, .slice none 0 0, .slice none 0 0, .slice none 0 0] 27)) (.bool false) (.slice none 0 0) (.slice none 0 0) (.slice none 0 0) (.slice none 0 0)
        have hb0 := ((below_box w (.cells #[.bool lB, .slice a1 ps.length c1, .slice a2 ws.length c2, .slice a3 ks.length c3, .slice a4 bf.length c4] 27)).alloc (by rw [World.size_alloc]; omega) (.cells #[.bool false, .slice none 0 0, .slice none 0 0, .slice none 0 0, .slice none 0 0] 27)).alloc (by rw [World.size_alloc, World.size_alloc]; omega) (.cells #[.bool false, .slice none 0 0, .slice none 0 0, .slice none 0 0, .slice none 0 0] 27)
        rw [World.size_alloc] at P0
        rw [World.size_alloc, World.size_alloc] at Z0
        generalize ps.length = n1 at *
        generalize hn2 : ws.length = n2 at *
        generalize hn3 : ks.length = n3 at *
        generalize hn4 : bf.length = n4 at *
        have HN2 := hid hn2
        have HN3 := hid hn3
        have HN4 := hid hn4
        clear hn2 hn3 hn4
        go_enter Try.func9, Try.ntmps9
        go_upto_region 2 with fail
        generalize ((w.alloc (.cells #[.bool lB, .slice a1 n1 c1, .slice a2 n2 c2, .slice a3 n3 c3, .slice a4 n4 c4] 27)).alloc (.cells #[.bool false, .slice none 0 0, .slice none 0 0, .slice none 0 0, .slice none 0 0] 27)).alloc (.cells #[.bool false, .slice none 0 0, .slice none 0 0, .slice none 0 0, .slice none 0 0] 27) = w2 at *
        generalize hk0 : w.heap.size = k0 at *
        have HQ0 := hid hk0
        clear hk0
        generalize hk1 : k0 + 1 = k1 at *
        generalize hk2 : k1 + 1 = k2 at *
        have hP0 := Z0.lt
        obtain ⟨m0, m1, m2, m3, m4⟩ := N0.cells
        go_wp2_with fail
        refine (HM.out _ hb0).mono ?_
        clear HM m0 m1 m2 m3 m4
        rintro x w3 ⟨rfl, hb3⟩
        have hs3 := hb3.size
        have N1 := N0.later hb3
        have P1 := P0.later hb3
        have Z1 := Z0.later hb3
        have hb1 := hb0.trans (hb3.mono (by omega))
        clear N0 P0 Z0 hb0 hb3
        obtain ⟨m0, m1, m2, m3, m4⟩ := N1.cells
        obtain ⟨y0, y1, y2, y3, y4⟩ := Z1.cells
        obtain ⟨z0, z1, z2, z3, z4⟩ := P1.cells
        have f := P1.free
        have f0 := f 0
        have f1 := f 1
        have f2 := f 2
        have f3 := f 3
        have f4 := f 4
        clear f
        have hb5 := below_five hb1 (show k0 ≤ k1 by omega) (.bool false) (.slice none 0 0) (.slice none 0 0) (.slice none 0 0) (.slice none 0 0)
        go_wp2_with fail
        refine bodyPost_ret (v := .tuple #[.agg #[.bool false, .slice none 0 0, .slice none 0 0, .slice none 0 0, .slice none 0 0], .int .i64 1]) (by simp [results, Try.results9, go_sem, z0, z1, z2, z3, z4]) rfl ⟨⟨_, _, _, rfl, ?_⟩, ?_⟩
        · exact ⟨row_nil _ _ _ _, row_nil _ _ _ _, row_nil _ _ _ _, row_nil _ _ _ _⟩
        · rw [HQ0.out]; exact hb5
      · have hd : decide (z < 0) = false := by simp; omega
        have hd2 : decide ((n.bf.length : Int) ≤ z) = false := by simp; omega
        have hne : ¬ firstI n.bf = z := fun e => hz ⟨by omega, e.symm⟩
        clear hz
        generalize firstI n.bf = fi at *
        obtain ⟨lB, ps, ws, ks, bf⟩ := n
        obtain ⟨a1, c1, a2, c2, a3, c3, a4, c4⟩ := p
        dsimp only [nv] at *
        have N0 := ((NBox.new w (.bool lB) (.slice a1 ps.length c1) (.slice a2 ws.length c2) (.slice a3 ks.length c3) (.slice a4 bf.length c4)).alloc (.cells #[.bool false, .slice none 0 0, .slice none 0 0, .slice none 0 0, .slice none 0 0] 27)).alloc (.cells #[.bool false, .slice none 0 0, .slice none 0 0, .slice none 0 0, .slice none 0 0] 27)
        have P0 := (NBox.new (w.alloc (.cells #[.bool lB, .slice a1 ps.length c1, .slice a2 ws.length c2, .slice a3 ks.length c3, .slice a4 bf.length c4] 27)) (.bool false) (.slice none 0 0) (.slice none 0 0) (.slice none 0 0) (.slice none 0 0)).alloc (.cells #[.bool false, .slice none 0 0, .slice none 0 0, .slice none 0 0, .slice none 0 0] 27)
        have Z0 := NBox.new ((w.alloc (.cells #[.bool lB, .slice a1 ps.length c1, .slice a2 ws.length c2, .slice a3 ks.length c3, .slice a4 bf.length c4] 27)).alloc (.cells #[.bool false, .slice none 0 0, .slice none 0 0, .slice none 0 0, .slice none 0 0] 27)) (.bool false) (.slice none 0 0) (.slice none 0 0) (.slice none 0 0) (.slice none 0 0)
        have hb0 := ((below_box w (.cells #[.bool lB, .slice a1 ps.length c1, .slice a2 ws.length c2, .slice a3 ks.length c3, .slice a4 bf.length c4] 27)).alloc (by rw [World.size_alloc]; omega) (.cells #[.bool false, .slice none 0 0, .slice none 0 0, .slice none 0 0, .slice none 0 0] 27)).alloc (by rw [World.size_alloc, World.size_alloc]; omega) (.cells #[.bool false, .slice none 0 0, .slice none 0 0, .slice none 0 0, .slice none 0 0] 27)
        rw [World.size_alloc] at P0
        rw [World.size_alloc, World.size_alloc] at Z0
        generalize ps.length = n1 at *
        generalize hn2 : ws.length = n2 at *
        generalize hn3 : ks.length = n3 at *
        generalize hn4 : bf.length = n4 at *
        have HN2 := hid hn2
        have HN3 := hid hn3
        have HN4 := hid hn4
        clear hn2 hn3 hn4
        go_enter Try.func9, Try.ntmps9
        go_upto_region 2 with fail
        generalize ((w.alloc (.cells #[.bool lB, .slice a1 n1 c1, .slice a2 n2 c2, .slice a3 n3 c3, .slice a4 n4 c4] 27)).alloc (.cells #[.bool false, .slice none 0 0, .slice none 0 0, .slice none 0 0, .slice none 0 0] 27)).alloc (.cells #[.bool false, .slice none 0 0, .slice none 0 0, .slice none 0 0, .slice none 0 0] 27) = w2 at *
        generalize hk0 : w.heap.size = k0 at *
        have HQ0 := hid hk0
        clear hk0
        generalize hk1 : k0 + 1 = k1 at *
        generalize hk2 : k1 + 1 = k2 at *
        have hP0 := Z0.lt
        obtain ⟨m0, m1, m2, m3, m4⟩ := N0.cells
        go_wp2_with fail
        refine (HM.out _ hb0).mono ?_
        clear HM m0 m1 m2 m3 m4
        rintro x w3 ⟨rfl, hb3⟩
        have hs3 := hb3.size
        have N1 := N0.later hb3
        have P1 := P0.later hb3
        have Z1 := Z0.later hb3
        have hb1 := hb0.trans (hb3.mono (by omega))
        clear N0 P0 Z0 hb0 hb3
        obtain ⟨m0, m1, m2, m3, m4⟩ := N1.cells
        go_wp2_with fail
        refine (HF.out _ hb1).mono ?_
        clear HF m0 m1 m2 m3 m4
        rintro x w4 ⟨rfl, hb4⟩
        have hs4 := hb4.size
        replace N1 := N1.later hb4
        replace P1 := P1.later hb4
        replace Z1 := Z1.later hb4
        replace hb1 := hb1.trans (hb4.mono (by omega))
        clear hb4
        obtain ⟨y0, y1, y2, y3, y4⟩ := Z1.cells
        obtain ⟨z0, z1, z2, z3, z4⟩ := P1.cells
        have f := P1.free
        have f0 := f 0
        have f1 := f 1
        have f2 := f 2
        have f3 := f 3
        have f4 := f 4
        clear f
        have hb5 := below_five hb1 (show k0 ≤ k1 by omega) (.bool false) (.slice none 0 0) (.slice none 0 0) (.slice none 0 0) (.slice none 0 0)
        go_wp2_with fail
        refine bodyPost_ret (v := .tuple #[.agg #[.bool false, .slice none 0 0, .slice none 0 0, .slice none 0 0, .slice none 0 0], .int .i64 1]) (by simp [results, Try.results9, go_sem, z0, z1, z2, z3, z4]) rfl ⟨⟨_, _, _, rfl, ?_⟩, ?_⟩
        · exact ⟨row_nil _ _ _ _, row_nil _ _ _ _, row_nil _ _ _ _, row_nil _ _ _ _⟩
        · rw [HQ0.out]; exact hb5
  case pos =>
  have h0 : pasteE n z = 0 := by rw [HE.out, if_pos hm, if_pos hz]
  obtain ⟨i, hi, rfl, hg, hno, hA, -, hl, hps, hlen, hp, hk, hbm, h16, h8⟩ := HB.out h0
  rw [h0, hA]
  obtain ⟨m, hmm⟩ : ∃ m, n.bf[i] = m := ⟨_, rfl⟩
  have hmem : m ∈ n.bf := by rw [← hmm]; exact List.getElem_mem hi
  have hab := about_goto hg
  have hAL := (around_all hp hlen hk (hbm _ (List.getElem_mem hi)) hg).2.2.1
  rw [hmm] at hAL hab ⊢
  have hz2 := hz.2
  rw [← hz2] at HF
  have HMM := hid (show n.bf[i]? = some m by rw [List.getElem?_eq_getElem hi, hmm])
  have HPF := hid (paste_forms n i m hbm hi)
  have haR : aheadR m = ⟨[], m.key.data.toList, true⟩ := by unfold aheadR; rw [hab]; rfl
  have HA0 := hid (show inW n (aheadR m) 0 = [] from rfl)
  have HA1 := hid (fun j x (hx : n.ks[j]? = some x) (hj : j ≤ n.pv.length) (hl : bytesLess (loOf n.pv j).data.toList m.key.data.toList = true) => (show inW n (aheadR m) (j + 1) = inW n (aheadR m) j ++ [⟨loOf n.pv j, x⟩] by rw [haR]; exact inA_succ hp _ hx hj hl))
  have HA2 := hid (fun j (hj : j ≤ n.pv.length) (hl : bytesLess (loOf n.pv j).data.toList m.key.data.toList = false) => (show inW n (aheadR m) n.ks.length = inW n (aheadR m) j by rw [haR]; exact inA_end hp _ hj hlen hl))
  have HAl := hid (fun j => inW_le n (aheadR m) j)
  have HAA := hid (show accA n m = inW n (aheadR m) n.ks.length ++ [gotoPt m] from rfl)
  have HB0 := hid (accB_zero n m)
  have HB1 := hid (fun j x (hx : n.ks[j]? = some x) (hj : j ≤ n.pv.length) => (show accB n m (j + 1) = if skipB n m j then accB n m j else accB n m j ++ [⟨if bytesLess (loOf n.pv j).toList (str (aboutR m).hi).toList then str (aboutR m).hi else loOf n.pv j, x⟩] by rw [← max_str]; exact accB_succ hp m hx hj))
  have HBs := hid (fun j => (show skipB n m j = (!(aboutR m).e || (endOf n.pv j && !bytesLess (str (aboutR m).hi).data.toList (hiOf n.pv j).data.toList)) from rfl))
  have HBn := hid (fun j => (show 0 < (accB n m j).length by unfold accB accA; simp only [List.length_append, List.length_singleton]; omega))
  have HBl := hid (fun j (hj : j ≤ n.ks.length) => (show (accB n m j).length ≤ 2 * n.ks.length + 1 by
    unfold accB accA
    have h1 := inW_le n (aheadR m) n.ks.length
    have h2 := inW_le n (behindR m) j
    split <;> simp only [List.length_append, List.length_singleton, List.length_nil] <;> omega))
  have HK1 := hid (fun j o (hx : n.bf[j]? = some o) => keepL_at (i := i) (m := m) hx)
  have HKl := hid (fun j => keepL_le n.bf i m j)
  have HSu := hid (fun wr => succ29 m.key.size m.key wr rfl (by have := hks m hmem; omega))
  rw [show sucS m.key.data.toList = str (aboutR m).hi by rw [hab]; rfl, show sucO m.key.data.toList = (aboutR m).e by rw [hab]; rfl] at HSu
  have HAm := hid (fun wr => about15 m wr (hks m hmem))
  have HG := hid (show gotoPt m = ⟨m.key, ⟨m.blk, m.deep, m.key, m.add⟩⟩ from rfl)
  have HIn := hid (fun o wr => (show Calls Try.prog 23 #[.agg #[.string (str (aboutR o).lo), .string (str (aboutR o).hi), .bool (aboutR o).e], .agg #[.string (str (aboutR m).lo), .string (str (aboutR m).hi), .bool (aboutR m).e]] wr fun x w' => x = .returned (.bool (insideR (aboutR o) (aboutR m))) ∧ Below wr.heap.size wr w' from inside31 (str (aboutR o).lo) (str (aboutR o).hi) (str (aboutR m).lo) (str (aboutR m).hi) (aboutR o).e (aboutR m).e wr))
  have HKs := hid hks
  clear hA h0 hz HE HZ HB hg hno hl hps hk hbm h16 hd hm hz2 hmm hmem hab haR hd0 hp hks
  obtain ⟨KA, hKA⟩ : ∃ f : Nat → List Pt, (fun j => inW n (aheadR m) j) = f := ⟨_, rfl⟩
  simp only [show ∀ j, inW n (aheadR m) j = KA j from fun j => congrFun hKA j] at HA0 HA1 HA2 HAl HAA
  obtain ⟨KB, hKB⟩ : ∃ f : Nat → List Pt, (fun j => accB n m j) = f := ⟨_, rfl⟩
  simp only [show ∀ j, accB n m j = KB j from fun j => congrFun hKB j] at HB0 HB1 HBl HBn HPF
  obtain ⟨KC, hKC⟩ : ∃ f : Nat → List M, (fun j => keepL n.bf i m j) = f := ⟨_, rfl⟩
  simp only [show ∀ j, keepL n.bf i m j = KC j from fun j => congrFun hKC j] at HK1 HKl HPF
  have HC0 := hid (show KC 0 = [] by rw [← congrFun hKC 0]; rfl)
  clear hKA hKB hKC
  generalize accA n m = AA at *
  generalize pasteF n i m = PF at *
  generalize gotoPt m = G at *
  obtain ⟨SK, hSK⟩ : ∃ f : Nat → Bool, (fun j => skipB n m j) = f := ⟨_, rfl⟩
  simp only [show ∀ j, skipB n m j = SK j from fun j => congrFun hSK j] at HB1 HBs
  clear hSK
  obtain ⟨lB, ps, ws, ks, bf⟩ := n
  obtain ⟨a1, c1, a2, c2, a3, c3, a4, c4⟩ := p
  dsimp only [nv] at *
  have N0 := ((NBox.new w (.bool lB) (.slice a1 ps.length c1) (.slice a2 ws.length c2) (.slice a3 ks.length c3) (.slice a4 bf.length c4)).alloc (.cells #[.bool false, .slice none 0 0, .slice none 0 0, .slice none 0 0, .slice none 0 0] 27)).alloc (.cells #[.bool false, .slice none 0 0, .slice none 0 0, .slice none 0 0, .slice none 0 0] 27)
  have P0 := (NBox.new (w.alloc (.cells #[.bool lB, .slice a1 ps.length c1, .slice a2 ws.length c2, .slice a3 ks.length c3, .slice a4 bf.length c4] 27)) (.bool false) (.slice none 0 0) (.slice none 0 0) (.slice none 0 0) (.slice none 0 0)).alloc (.cells #[.bool false, .slice none 0 0, .slice none 0 0, .slice none 0 0, .slice none 0 0] 27)
  have Z0 := NBox.new ((w.alloc (.cells #[.bool lB, .slice a1 ps.length c1, .slice a2 ws.length c2, .slice a3 ks.length c3, .slice a4 bf.length c4] 27)).alloc (.cells #[.bool false, .slice none 0 0, .slice none 0 0, .slice none 0 0, .slice none 0 0] 27)) (.bool false) (.slice none 0 0) (.slice none 0 0) (.slice none 0 0) (.slice none 0 0)
  have hb0 := ((below_box w (.cells #[.bool lB, .slice a1 ps.length c1, .slice a2 ws.length c2, .slice a3 ks.length c3, .slice a4 bf.length c4] 27)).alloc (by rw [World.size_alloc]; omega) (.cells #[.bool false, .slice none 0 0, .slice none 0 0, .slice none 0 0, .slice none 0 0] 27)).alloc (by rw [World.size_alloc, World.size_alloc]; omega) (.cells #[.bool false, .slice none 0 0, .slice none 0 0, .slice none 0 0, .slice none 0 0] 27)
  rw [World.size_alloc] at P0
  rw [World.size_alloc, World.size_alloc] at Z0
  generalize ps.length = n1 at *
  generalize hn2 : ws.length = n2 at *
  generalize hn3 : ks.length = n3 at *
  generalize hn4 : bf.length = n4 at *
  have HN2 := hid hn2
  have HN3 := hid hn3
  have HN4 := hid hn4
  clear hn2 hn3 hn4
  go_enter Try.func9, Try.ntmps9
  go_upto_region 2 with fail
  generalize ((w.alloc (.cells #[.bool lB, .slice a1 n1 c1, .slice a2 n2 c2, .slice a3 n3 c3, .slice a4 n4 c4] 27)).alloc (.cells #[.bool false, .slice none 0 0, .slice none 0 0, .slice none 0 0, .slice none 0 0] 27)).alloc (.cells #[.bool false, .slice none 0 0, .slice none 0 0, .slice none 0 0, .slice none 0 0] 27) = w2 at *
  generalize hk0 : w.heap.size = k0 at *
  have HQ0 := hid hk0
  clear hk0
  generalize hk1 : k0 + 1 = k1 at *
  generalize hk2 : k1 + 1 = k2 at *
  have hP0 := Z0.lt
  obtain ⟨m0, m1, m2, m3, m4⟩ := N0.cells
  go_wp2_with fail
  refine (HM.out _ hb0).mono ?_
  clear HM m0 m1 m2 m3 m4
  rintro x w3 ⟨rfl, hb3⟩
  have hs3 := hb3.size
  have N1 := N0.later hb3
  have P1 := P0.later hb3
  have Z1 := Z0.later hb3
  have hb1 := hb0.trans (hb3.mono (by omega))
  clear N0 P0 Z0 hb0 hb3
  obtain ⟨m0, m1, m2, m3, m4⟩ := N1.cells
  have hd : decide ((i : Int) < 0) = false := by simp
  have hii : (i : Int) < (n4 : Int) := by omega
  have hd2 : decide ((n4 : Int) ≤ (i : Int)) = false := by simp; omega
  have hd2' : decide (n4 ≤ i) = false := by simp; omega
  go_wp2_with fail
  refine (HF.out _ hb1).mono ?_
  clear HF m0 m1 m2 m3 m4
  rintro x w4 ⟨rfl, hb4⟩
  have hs4 := hb4.size
  replace N1 := N1.later hb4
  replace P1 := P1.later hb4
  replace Z1 := Z1.later hb4
  replace hb1 := hb1.trans (hb4.mono (by omega))
  clear hb4
  have hi' : i < bf.length := by rw [HN4.out]; exact hi
  obtain ⟨b4, o4, hA, g0, g1, g2, g3, g4, g5⟩ := (HLb.out w4 hb1).at hi'
  subst hA
  have HMe : bf[i] = m := by have := HMM.out; rw [List.getElem?_eq_getElem hi'] at this; exact Option.some.inj this
  rw [HMe] at g0 g1 g2 g3 g4 g5
  obtain ⟨m0, m1, m2, m3, m4⟩ := N1.cells
  have M2 := (MBox.new w4 m).alloc (.cells #[.bool false, .slice none 0 0, .slice none 0 0, .slice none 0 0, .slice none 0 0] 27)
  have bx := below_box w4 (.cells #[.int .u8 m.kind, .string m.key, .string m.val, .int .u32 m.blk, .int .u16 m.deep, .string m.add] 48)
  have bx2 := bx.alloc (by rw [World.size_alloc]; omega) (.cells #[.bool false, .slice none 0 0, .slice none 0 0, .slice none 0 0, .slice none 0 0] 27)
  have U2 := NBox.new (w4.alloc (.cells #[.int .u8 m.kind, .string m.key, .string m.val, .int .u32 m.blk, .int .u16 m.deep, .string m.add] 48)) (.bool false) (.slice none 0 0) (.slice none 0 0) (.slice none 0 0) (.slice none 0 0)
  rw [World.size_alloc] at U2
  have N2 := N1.later bx2
  have P2 := P1.later bx2
  have hs4' : k2 < w4.heap.size := Z1.lt
  have hb2 := hb1.trans (bx2.mono (by omega))
  clear HMM HMe hi' Z1 bx bx2
  obtain ⟨md, mk, ml, mb, mp, ma⟩ := m
  dsimp only at *
  go_upto_region 8 with fail
  clear m0 m1 m2 m3 m4 g0 g1 g2 g3 g4 g5 N1 P1 hb1 hd hd2 hd2'
  generalize hk3 : w4.heap.size = k3 at *
  generalize hk4 : k3 + 1 = k4 at *
  generalize (w4.alloc (.cells #[.int .u8 md, .string mk, .string ml, .int .u32 mb, .int .u16 mp, .string ma] 48)).alloc (.cells #[.bool false, .slice none 0 0, .slice none 0 0, .slice none 0 0, .slice none 0 0] 27) = w5 at *
  clear hk3
  have hU2 := U2.lt
  obtain ⟨m0, m1, m2, m3, m4⟩ := N2.cells
  go_upto_block 0 with fail
  clear m0 m1 m2 m3 m4
  go_cut [9, 10] from 47 to 79 (fun _ _ wx => ∃ y2 y3, NBox wx k4 (.bool false) (.slice none 0 0) y2 y3 (.slice none 0 0) ∧ wx.ownsRow (k4 + 1) 9 1 y2 (pivsOf (KA n3)).length ((pivsOf (KA n3)).flatMap tcell) ∧ wx.ownsRow (k4 + 1) 46 4 y3 (kidsOf (KA n3)).length ((kidsOf (KA n3)).flatMap E.cells) ∧ Below k4 w5 wx)
  case first =>
    go_wp2_with fail
    go_loopw [47] (fun i wr => ∃ (j : Nat) (y2 y3 : Value), j ≤ n3 ∧ i = .int .i64 j ∧ NBox wr k4 (.bool false) (.slice none 0 0) y2 y3 (.slice none 0 0) ∧ wr.ownsRow (k4 + 1) 9 1 y2 (pivsOf (KA j)).length ((pivsOf (KA j)).flatMap tcell) ∧ wr.ownsRow (k4 + 1) 46 4 y3 (kidsOf (KA j)).length ((kidsOf (KA j)).flatMap E.cells) ∧ Below k4 w5 wr) (fun i _ => n3 - (intOf i).toNat)
    case atStart => exact ⟨0, _, _, Nat.zero_le _, rfl, U2, by rw [HA0.out]; exact row_nil _ _ _ _, by rw [HA0.out]; exact row_nil _ _ _ _, Below.refl _ _⟩
    case round =>
      obtain ⟨j, y2, y3, hj, rfl, Q1, ho2, ho3, hb⟩ := hrel
      have hsr := hb.size
      have hbw := hb2.trans (hb.mono (by omega))
      by_cases hlt : j < n3
      · have hlt' : j < ks.length := by rw [HN3.out]; exact hlt
        obtain ⟨b, off, hA, -⟩ := (HLk.out wr hbw).at hlt'
        subst hA
        obtain ⟨x, hx⟩ : ∃ x, ks[j]? = some x := ⟨_, List.getElem?_eq_getElem hlt'⟩
        have hxe : ks[j] = x := by rw [List.getElem?_eq_getElem hlt'] at hx; exact Option.some.inj hx
        have HX4 := hid (fun u (hb : Below k0 w u) => (show Four u b (off + j * 4) x from by
          obtain ⟨b', off', e, hc⟩ := (HLk.out u hb).at hlt'
          simp only [Option.some.injEq, Addr.mk.injEq, and_true] at e
          obtain ⟨rfl, rfl⟩ := e
          rw [hxe] at hc
          exact hc))
        have hj2 : j ≤ n2 := by omega
        have HKx := hid (HA1.out j x hx hj2)
        have HKy := hid (HA2.out j hj2)
        have HRj := hid (HR.out j hlt)
        have hkl : (kidsOf (KA j)).length ≤ j := by rw [kids_len]; exact HAl.out j
        have hpl : (pivsOf (KA j)).length ≤ j := Nat.le_trans (pivs_len (KA j)) (HAl.out j)
        have HPs := hid (pivs_snoc (KA j) ⟨loOf ws j, x⟩)
        rw [← kids_len (KA j)] at HPs
        have HKs' := hid (kids_snoc (KA j) ⟨loOf ws j, x⟩)
        clear hx hxe
        generalize loOf ws j = L0 at *
        generalize hiOf ws j = L1 at *
        generalize endOf ws j = L2 at *
        obtain ⟨xb, xd, xs, xa⟩ := x
        dsimp only at *
        have hfd : ∀ w, (Instr.field 55 (.agg #[.string L0, .string L1, .bool L2]) 0).run Try.prog w = .ok (.string L0) w := fun _ => by kernel_rfl
        have N3 := N2.below hb (by omega)
        have M3 := M2.below hb (by omega)
        obtain ⟨m0, m1, m2, m3, m4⟩ := N3.cells
        go_wp2_with fail
        refine (HRj.out _ hbw).mono ?_
        rintro x w6 ⟨rfl, hb6⟩
        clear m0 m1 m2 m3 m4
        have hs6 := hb6.size
        replace N3 := N3.later hb6
        replace M3 := M3.later hb6
        have hq4 := Q1.lt
        replace Q1 := Q1.later hb6
        replace ho2 := row_later ho2 hb6
        replace ho3 := row_later ho3 hb6
        replace hb := hb.trans (hb6.mono (by omega))
        replace hbw := hbw.trans (hb6.mono (by omega))
        clear hb6
        obtain ⟨e0, e1, e2, e3, e4, e5⟩ := M3.six
        simp only [Nat.zero_add] at e1 e2 e3 e4 e5
        dsimp only at e0 e1 e2 e3 e4 e5
        cases hbl : bytesLess L0.toList mk.toList
        case false =>
          have HE := hid (HKy.out (by rw [← less_str]; exact hbl))
          go_wp2_with fail
          go_meet
          exact ⟨_, _, Q1, by rw [HE.out]; exact ho2, by rw [HE.out]; exact ho3, hb⟩
        case true =>
          have HE := hid (HKx.out (by rw [← less_str]; exact hbl))
          clear HKx HKy HRj
          obtain ⟨b3, d3, q3, rfl⟩ := row_slice ho3
          have hd3 : d3 = (kidsOf (KA j)).length := row_len ho3
          subst hd3
          obtain ⟨p0, p1, p2, p3, p4⟩ := Q1.cells
          by_cases h0 : 0 < (kidsOf (KA j)).length
          case neg =>
            have HPn := hid (HPs.out.trans (if_neg h0))
            have hd : decide ((0 : Int) < ((kidsOf (KA j)).length : Int)) = false := by rw [decide_eq_false_iff_not]; omega
            have hd' : decide (0 < (kidsOf (KA j)).length) = false := by rw [decide_eq_false_iff_not]; omega
            clear h0
            go_upto_region 15 with fail
            clear hd hd' p0 p1 p2 p3 p4 e0 e1 e2 e3 e4 e5 hbl hfd
            have hsA := hb.size
            have hQl := Q1.lt
            refine wp_region_until [(some 68, [], false), (some 69, [(0, 68)], false), (some 70, [], false), (some 71, [(2, 70)], false), (some 72, [], false), (some 73, [(3, 71), (4, 72)], false), (some 74, [(5, 73)], false), (some 75, [(6, 74)], false), (some 76, [(1, 69), (7, 75)], true), (some 77, [], true), (none, [(9, 77), (8, 76)], false)]
              (fun i u => if i ≤ 8 then Below w6.heap.size w6 u else w6.grownBy u (Value.slice b3 (kidsOf (KA j)).length q3).ownBlock) (fun i u u' => if i = 8 then u.grownBy u' (Value.slice b3 (kidsOf (KA j)).length q3).ownBlock else Below u.heap.size u u')
              (fun i Y u => match i with | 0 => Y = .pointer (some ⟨k4, 3, none⟩) | 1 => Y = (Value.slice b3 (kidsOf (KA j)).length q3) ∧ u.ownsRow (k4 + 1) 46 4 (Value.slice b3 (kidsOf (KA j)).length q3) (kidsOf (KA j)).length ((kidsOf (KA j)).flatMap E.cells) | 2 => Y = .pointer (some ⟨k0, 3, none⟩) | 3 => Y = .slice (some ⟨b, off, none⟩) n3 c3 | 4 => Y = .int .i64 j | 5 => Y = .pointer (some ⟨b, off + j * 4, none⟩) | 6 => Y = ev ⟨xb, xd, xs, xa⟩ | 7 => ∃ g, Y = .slice (some ⟨g, 0, none⟩) 1 1 ∧ EBox u g ⟨xb, xd, xs, xa⟩ | 8 => u.ownsRow (k4 + 1) 46 4 Y ((kidsOf (KA j)) ++ [E.mk xb xd xs xa]).length (((kidsOf (KA j)) ++ [E.mk xb xd xs xa]).flatMap E.cells) | 9 => Y = .pointer (some ⟨k4, 3, none⟩) | _ => True)
              (by kernel_rfl) (by kernel_rfl) (fun j => ?_) (fun i j u u' hl hi hj hr => ?_) (fun i j v u u' hn h h' hv => ?_) [(some 68, [], false), (some 69, [(0, 68)], false), (some 70, [], false), (some 71, [(2, 70)], false), (some 72, [], false), (some 73, [(3, 71), (4, 72)], false), (some 74, [(5, 73)], false), (some 75, [(6, 74)], false), (some 76, [(1, 69), (7, 75)], true), (some 77, [], true)] 10 rfl _ rfl rfl (by kernel_rfl) (by kernel_rfl) ⟨?_, ?_, ?_, ?_, ?_, ?_, ?_, ?_, ?_, ?_, trivial⟩ ?_
            · split
              · exact (Below.refl _ _).drew
              · exact below_grown _ (Below.refl _ _).drew
            · by_cases hia : i = 8
              · subst hia
                have hj2 : ¬ j ≤ 8 := by
                  intro hle
                  match j, hle, hl with
                    | 0, _, hl => exact absurd hl (by decide)
                    | 1, _, hl => exact absurd hl (by decide)
                    | 2, _, hl => exact absurd hl (by decide)
                    | 3, _, hl => exact absurd hl (by decide)
                    | 4, _, hl => exact absurd hl (by decide)
                    | 5, _, hl => exact absurd hl (by decide)
                    | 6, _, hl => exact absurd hl (by decide)
                    | 7, _, hl => exact absurd hl (by decide)
                    | 8, _, hl => exact absurd hl (by decide)
                    | n + 9, hle, _ => omega
                rw [if_pos (Nat.le_refl _)] at hi
                rw [if_neg hj2] at hj ⊢
                rw [if_pos rfl] at hr
                exact grown_trans hj hr
              · rw [if_neg hia] at hr
                split at hj
                · rename_i hle; rw [if_pos hle]; exact hj.trans (hr.mono hj.size)
                · rename_i hle; rw [if_neg hle]; exact grown_trans hj (below_grown _ hr)
            · by_cases hia : i = 8
              · subst hia
                match j with
                  | 0 => exact absurd hn (by decide)
                  | 1 => exact absurd hn (by decide)
                  | 2 => exact absurd hn (by decide)
                  | 3 => exact absurd hn (by decide)
                  | 4 => exact absurd hn (by decide)
                  | 5 => exact absurd hn (by decide)
                  | 6 => exact absurd hn (by decide)
                  | 7 => exact absurd hn (by decide)
                  | 8 => exact absurd hn (by decide)
                  | 9 => exact hv
                  | _ + 10 => trivial
              · rw [if_neg hia] at h'
                match j with
                  | 0 => exact hv
                  | 1 => exact ⟨hv.1, row_later hv.2 h'⟩
                  | 2 => exact hv
                  | 3 => exact hv
                  | 4 => exact hv
                  | 5 => exact hv
                  | 6 => exact hv
                  | 7 => obtain ⟨g, e1, e2⟩ := hv; exact ⟨g, e1, e2.later h'⟩
                  | 8 => exact row_later hv h'
                  | 9 => exact hv
                  | _ + 10 => trivial
            · rintro u hu
              exact opYields_val _ (by kernel_rfl) (by go_simp) ⟨Below.refl _ _, rfl⟩
            · rintro u hu _ rfl
              replace hu : Below w6.heap.size w6 u := hu
              obtain ⟨cc0, cc1, cc2, cc3, cc4⟩ := (Q1.later hu).cells
              exact opYields_val (Value.slice b3 (kidsOf (KA j)).length q3) (by kernel_rfl) (by go_simp) ⟨Below.refl _ _, rfl, row_later ho3 hu⟩
            · rintro u hu
              exact opYields_val _ (by kernel_rfl) (by go_simp) ⟨Below.refl _ _, rfl⟩
            · rintro u hu _ rfl
              replace hu : Below w6.heap.size w6 u := hu
              obtain ⟨cc0, cc1, cc2, cc3, cc4⟩ := (N3.later hu).cells
              exact opYields_val (.slice (some ⟨b, off, none⟩) n3 c3) (by kernel_rfl) (by go_simp) ⟨Below.refl _ _, rfl⟩
            · rintro u hu
              exact opYields_val _ (by kernel_rfl) (by go_simp) ⟨Below.refl _ _, rfl⟩
            · rintro u hu _ rfl _ rfl
              exact opYields_val (.pointer (some ⟨b, off + j * 4, none⟩)) (by kernel_rfl) (by go_simp) ⟨Below.refl _ _, rfl⟩
            · rintro u hu _ rfl
              replace hu : Below w6.heap.size w6 u := hu
              obtain ⟨t0, t1, t2, t3⟩ := HX4.out u (hbw.trans (hu.mono (by omega)))
              dsimp only at t0 t1 t2 t3
              exact opYields_val (ev ⟨xb, xd, xs, xa⟩) (by kernel_rfl) (by go_simp) ⟨Below.refl _ _, rfl⟩
            · rintro u hu _ rfl
              exact opYields_val (.slice (some ⟨u.heap.size, 0, none⟩) 1 1) (u' := u.alloc (.cells #[.int .u32 xb, .int .u16 xd, .string xs, .string xa] 46)) (by kernel_rfl) (by go_simp) ⟨below_box _ _, _, rfl, EBox.new u ⟨xb, xd, xs, xa⟩⟩
            · rintro u hu _ ⟨rfl, h1⟩ _ ⟨g, rfl, hg⟩
              replace hu : Below w6.heap.size w6 u := hu
              exact yOne E.cells 4 40 24 46 _ (by omega) (fun _ => rfl) Try.underlying24 info46 rfl (by omega) oneE (by kernel_rfl) (.tmp 69) (.tmp 75) rfl (k4 + 1) _ (kidsOf (KA j)) rfl h1 ⟨xb, xd, xs, xa⟩ g rfl hg.each (by omega) (by have := hu.size; omega) fun v' w' h2 h3 => ⟨h3, h2⟩
            · rintro u hu
              exact opYields_val _ (by kernel_rfl) (by go_simp) ⟨Below.refl _ _, rfl⟩
            · intro u hu x0 x1 x2 x3 x4 x5 x6 x7 x8 e8 x9 e9
              replace hu : w6.grownBy u (Value.slice b3 (kidsOf (KA j)).length q3).ownBlock := hu
              replace e9 : x9 = .pointer (some ⟨k4, 3, none⟩) := e9
              replace e8 : u.ownsRow (k4 + 1) 46 4 x8 ((kidsOf (KA j)) ++ [E.mk xb xd xs xa]).length (((kidsOf (KA j)) ++ [E.mk xb xd xs xa]).flatMap E.cells) := e8
              subst e9
              obtain ⟨b1, d1, q1, rfl⟩ := row_slice e8
              have Q7 := Q1.kept hu (row_ge ho3 (Nat.lt_succ_self k4))
              have f3 := Q7.free 3
              obtain ⟨y0, y1, y2', y3', y4⟩ := Q7.cells
              refine Puts.mk (u.setCell ⟨k4, 3, none⟩ (.slice b1 d1 q1)) (by kernel_rfl) (by go_simp) ?_
              have Q8 := Q7.put3 (.slice b1 d1 q1)
              have s3 := row_set (i := 3) (u := .slice b1 d1 q1) e8 (Nat.lt_succ_self k4)
              have s2 := row_set (i := 3) (u := .slice b1 d1 q1) (row_kept ho2 ho3 (by decide) hu) (Nat.lt_succ_self k4)
              have hb8 : Below k4 w5 (u.setCell ⟨k4, 3, none⟩ (.slice b1 d1 q1)) := (hb.grown hu (by omega) fun k hk => by have := (World.ownsRow.lt ho3 k hk).1; omega).setCell (p := ⟨k4, 3, none⟩) (Nat.le_refl _) _
              simp only [Act.put, List.setIfInBounds_toArray, List.set_cons_zero, List.set_cons_succ]
              clear f3 Q7 e8 hu y0 y1 y2' y3' y4 Q1 ho2 ho3 hb hbw N3 HX4
              generalize u.setCell ⟨k4, 3, none⟩ (.slice b1 d1 q1) = u1 at *
              go_wp2_with fail
              go_roundw
              case rel => exact ⟨j + 1, _, _, by omega, by go_num, Q8, by rw [HE.out, HPn.out]; exact s2, by rw [HE.out, HKs'.out]; exact s3, hb8⟩
              case measure => simp [intOf]; omega
          case pos =>
            have HPn := hid (HPs.out.trans (if_pos h0))
            have hd : decide ((0 : Int) < ((kidsOf (KA j)).length : Int)) = true := by rw [decide_eq_true_eq]; omega
            have hd' : decide (0 < (kidsOf (KA j)).length) = true := by rw [decide_eq_true_eq]; omega
            clear h0
            go_upto_region 14 with fail
            clear hd hd' e0 e1 e2 e3 e4 e5 hbl hfd
            obtain ⟨b2, d2, q2, rfl⟩ := row_slice ho2
            have hC := (OneCell.new w6 L0).each
            have bx := below_box w6 (.cells #[.string L0] 9)
            have r3' := row_later ho3 bx
            have r2' := row_later ho2 bx
            have Q6 := Q1.later bx
            have N6 := N3.later bx
            have hlw : k4 < w6.heap.size := Q1.lt
            have hb9 := hb.trans (bx.mono (by omega))
            go_upto_region 15 with (first | (at_builtin; (refine appOne tcell 1 16 23 9 _ (by omega) (fun _ => rfl) Try.underlying23 info9 rfl (by omega) oneT rfl _ _ rfl (k4 + 1) _ (pivsOf (KA j)) rfl r2' L0 w6.heap.size rfl hC (by omega) (by simp; omega) ?_); intro v' w12 h1 h2; obtain ⟨g6, n6, q6, rfl⟩ := row_slice h1; have Q7 := Q6.kept h2 (row_ge r2' (Nat.lt_succ_self k4)); have N7 := N6.kept h2 (row_ge r2' (show k0 < k4 + 1 by omega)); have s3 := row_kept r3' r2' (by decide) h2; have hb7 := hb9.grown h2 (by simp; omega) (fun k hk => by have := (World.ownsRow.lt r2' k hk).1; omega); clear p0 p1 p2 p3 p4 Q6 Q1 N6 N3 ho2 ho3 r2' r3' hb hb9 h2 hC bx; obtain ⟨p0, p1, p2, p3, p4⟩ := Q7.cells; have f2 := Q7.free 2) | fail)
            have Q9 := Q7.put2 (.slice g6 n6 q6)
            have N9 := N7.far (k' := k4) (i := 2) (u := .slice g6 n6 q6) (by omega)
            have r2 := row_set (i := 2) (u := .slice g6 n6 q6) h1 (Nat.lt_succ_self k4)
            have r3 := row_set (i := 2) (u := .slice g6 n6 q6) s3 (Nat.lt_succ_self k4)
            have hb10 := hb7.setCell (p := ⟨k4, 2, none⟩) (Nat.le_refl _) (.slice g6 n6 q6)
            clear p0 p1 p2 p3 p4 f2 Q7 N7 h1 s3 hb7 hbw
            generalize w12.setCell ⟨k4, 2, none⟩ (.slice g6 n6 q6) = w9 at *
            have hs10 := hb10.size
            have hbw := hb2.trans (hb10.mono (by omega))
            have hsA := hb10.size
            have hQl := Q9.lt
            refine wp_region_until [(some 68, [], false), (some 69, [(0, 68)], false), (some 70, [], false), (some 71, [(2, 70)], false), (some 72, [], false), (some 73, [(3, 71), (4, 72)], false), (some 74, [(5, 73)], false), (some 75, [(6, 74)], false), (some 76, [(1, 69), (7, 75)], true), (some 77, [], true), (none, [(9, 77), (8, 76)], false)]
              (fun i u => if i ≤ 8 then Below w9.heap.size w9 u else w9.grownBy u (Value.slice b3 (kidsOf (KA j)).length q3).ownBlock) (fun i u u' => if i = 8 then u.grownBy u' (Value.slice b3 (kidsOf (KA j)).length q3).ownBlock else Below u.heap.size u u')
              (fun i Y u => match i with | 0 => Y = .pointer (some ⟨k4, 3, none⟩) | 1 => Y = (Value.slice b3 (kidsOf (KA j)).length q3) ∧ u.ownsRow (k4 + 1) 46 4 (Value.slice b3 (kidsOf (KA j)).length q3) (kidsOf (KA j)).length ((kidsOf (KA j)).flatMap E.cells) | 2 => Y = .pointer (some ⟨k0, 3, none⟩) | 3 => Y = .slice (some ⟨b, off, none⟩) n3 c3 | 4 => Y = .int .i64 j | 5 => Y = .pointer (some ⟨b, off + j * 4, none⟩) | 6 => Y = ev ⟨xb, xd, xs, xa⟩ | 7 => ∃ g, Y = .slice (some ⟨g, 0, none⟩) 1 1 ∧ EBox u g ⟨xb, xd, xs, xa⟩ | 8 => u.ownsRow (k4 + 1) 46 4 Y ((kidsOf (KA j)) ++ [E.mk xb xd xs xa]).length (((kidsOf (KA j)) ++ [E.mk xb xd xs xa]).flatMap E.cells) | 9 => Y = .pointer (some ⟨k4, 3, none⟩) | _ => True)
              (by kernel_rfl) (by kernel_rfl) (fun j => ?_) (fun i j u u' hl hi hj hr => ?_) (fun i j v u u' hn h h' hv => ?_) [(some 68, [], false), (some 69, [(0, 68)], false), (some 70, [], false), (some 71, [(2, 70)], false), (some 72, [], false), (some 73, [(3, 71), (4, 72)], false), (some 74, [(5, 73)], false), (some 75, [(6, 74)], false), (some 76, [(1, 69), (7, 75)], true), (some 77, [], true)] 10 rfl _ rfl rfl (by kernel_rfl) (by kernel_rfl) ⟨?_, ?_, ?_, ?_, ?_, ?_, ?_, ?_, ?_, ?_, trivial⟩ ?_
            · split
              · exact (Below.refl _ _).drew
              · exact below_grown _ (Below.refl _ _).drew
            · by_cases hia : i = 8
              · subst hia
                have hj2 : ¬ j ≤ 8 := by
                  intro hle
                  match j, hle, hl with
                    | 0, _, hl => exact absurd hl (by decide)
                    | 1, _, hl => exact absurd hl (by decide)
                    | 2, _, hl => exact absurd hl (by decide)
                    | 3, _, hl => exact absurd hl (by decide)
                    | 4, _, hl => exact absurd hl (by decide)
                    | 5, _, hl => exact absurd hl (by decide)
                    | 6, _, hl => exact absurd hl (by decide)
                    | 7, _, hl => exact absurd hl (by decide)
                    | 8, _, hl => exact absurd hl (by decide)
                    | n + 9, hle, _ => omega
                rw [if_pos (Nat.le_refl _)] at hi
                rw [if_neg hj2] at hj ⊢
                rw [if_pos rfl] at hr
                exact grown_trans hj hr
              · rw [if_neg hia] at hr
                split at hj
                · rename_i hle; rw [if_pos hle]; exact hj.trans (hr.mono hj.size)
                · rename_i hle; rw [if_neg hle]; exact grown_trans hj (below_grown _ hr)
            · by_cases hia : i = 8
              · subst hia
                match j with
                  | 0 => exact absurd hn (by decide)
                  | 1 => exact absurd hn (by decide)
                  | 2 => exact absurd hn (by decide)
                  | 3 => exact absurd hn (by decide)
                  | 4 => exact absurd hn (by decide)
                  | 5 => exact absurd hn (by decide)
                  | 6 => exact absurd hn (by decide)
                  | 7 => exact absurd hn (by decide)
                  | 8 => exact absurd hn (by decide)
                  | 9 => exact hv
                  | _ + 10 => trivial
              · rw [if_neg hia] at h'
                match j with
                  | 0 => exact hv
                  | 1 => exact ⟨hv.1, row_later hv.2 h'⟩
                  | 2 => exact hv
                  | 3 => exact hv
                  | 4 => exact hv
                  | 5 => exact hv
                  | 6 => exact hv
                  | 7 => obtain ⟨g, e1, e2⟩ := hv; exact ⟨g, e1, e2.later h'⟩
                  | 8 => exact row_later hv h'
                  | 9 => exact hv
                  | _ + 10 => trivial
            · rintro u hu
              exact opYields_val _ (by kernel_rfl) (by go_simp) ⟨Below.refl _ _, rfl⟩
            · rintro u hu _ rfl
              replace hu : Below w9.heap.size w9 u := hu
              obtain ⟨cc0, cc1, cc2, cc3, cc4⟩ := (Q9.later hu).cells
              exact opYields_val (Value.slice b3 (kidsOf (KA j)).length q3) (by kernel_rfl) (by go_simp) ⟨Below.refl _ _, rfl, row_later r3 hu⟩
            · rintro u hu
              exact opYields_val _ (by kernel_rfl) (by go_simp) ⟨Below.refl _ _, rfl⟩
            · rintro u hu _ rfl
              replace hu : Below w9.heap.size w9 u := hu
              obtain ⟨cc0, cc1, cc2, cc3, cc4⟩ := (N9.later hu).cells
              exact opYields_val (.slice (some ⟨b, off, none⟩) n3 c3) (by kernel_rfl) (by go_simp) ⟨Below.refl _ _, rfl⟩
            · rintro u hu
              exact opYields_val _ (by kernel_rfl) (by go_simp) ⟨Below.refl _ _, rfl⟩
            · rintro u hu _ rfl _ rfl
              exact opYields_val (.pointer (some ⟨b, off + j * 4, none⟩)) (by kernel_rfl) (by go_simp) ⟨Below.refl _ _, rfl⟩
            · rintro u hu _ rfl
              replace hu : Below w9.heap.size w9 u := hu
              obtain ⟨t0, t1, t2, t3⟩ := HX4.out u (hbw.trans (hu.mono (by omega)))
              dsimp only at t0 t1 t2 t3
              exact opYields_val (ev ⟨xb, xd, xs, xa⟩) (by kernel_rfl) (by go_simp) ⟨Below.refl _ _, rfl⟩
            · rintro u hu _ rfl
              exact opYields_val (.slice (some ⟨u.heap.size, 0, none⟩) 1 1) (u' := u.alloc (.cells #[.int .u32 xb, .int .u16 xd, .string xs, .string xa] 46)) (by kernel_rfl) (by go_simp) ⟨below_box _ _, _, rfl, EBox.new u ⟨xb, xd, xs, xa⟩⟩
            · rintro u hu _ ⟨rfl, h1⟩ _ ⟨g, rfl, hg⟩
              replace hu : Below w9.heap.size w9 u := hu
              exact yOne E.cells 4 40 24 46 _ (by omega) (fun _ => rfl) Try.underlying24 info46 rfl (by omega) oneE (by kernel_rfl) (.tmp 69) (.tmp 75) rfl (k4 + 1) _ (kidsOf (KA j)) rfl h1 ⟨xb, xd, xs, xa⟩ g rfl hg.each (by omega) (by have := hu.size; omega) fun v' w' h2 h3 => ⟨h3, h2⟩
            · rintro u hu
              exact opYields_val _ (by kernel_rfl) (by go_simp) ⟨Below.refl _ _, rfl⟩
            · intro u hu x0 x1 x2 x3 x4 x5 x6 x7 x8 e8 x9 e9
              replace hu : w9.grownBy u (Value.slice b3 (kidsOf (KA j)).length q3).ownBlock := hu
              replace e9 : x9 = .pointer (some ⟨k4, 3, none⟩) := e9
              replace e8 : u.ownsRow (k4 + 1) 46 4 x8 ((kidsOf (KA j)) ++ [E.mk xb xd xs xa]).length (((kidsOf (KA j)) ++ [E.mk xb xd xs xa]).flatMap E.cells) := e8
              subst e9
              obtain ⟨b1, d1, q1, rfl⟩ := row_slice e8
              have Q7 := Q9.kept hu (row_ge r3 (Nat.lt_succ_self k4))
              have f3 := Q7.free 3
              obtain ⟨y0, y1, y2', y3', y4⟩ := Q7.cells
              refine Puts.mk (u.setCell ⟨k4, 3, none⟩ (.slice b1 d1 q1)) (by kernel_rfl) (by go_simp) ?_
              have Q8 := Q7.put3 (.slice b1 d1 q1)
              have s3 := row_set (i := 3) (u := .slice b1 d1 q1) e8 (Nat.lt_succ_self k4)
              have s2 := row_set (i := 3) (u := .slice b1 d1 q1) (row_kept r2 r3 (by decide) hu) (Nat.lt_succ_self k4)
              have hb8 : Below k4 w5 (u.setCell ⟨k4, 3, none⟩ (.slice b1 d1 q1)) := (hb10.grown hu (by omega) fun k hk => by have := (World.ownsRow.lt r3 k hk).1; omega).setCell (p := ⟨k4, 3, none⟩) (Nat.le_refl _) _
              simp only [Act.put, List.setIfInBounds_toArray, List.set_cons_zero, List.set_cons_succ]
              clear f3 Q7 e8 hu y0 y1 y2' y3' y4 Q9 r2 r3 hb10 hbw N9 HX4
              generalize u.setCell ⟨k4, 3, none⟩ (.slice b1 d1 q1) = u1 at *
              go_wp2_with fail
              go_roundw
              case rel => exact ⟨j + 1, _, _, by omega, by go_num, Q8, by rw [HE.out, HPn.out]; exact s2, by rw [HE.out, HKs'.out]; exact s3, hb8⟩
              case measure => simp [intOf]; omega
      · obtain rfl : j = n3 := by omega
        go_wp2_with fail
        go_meet
        exact ⟨_, _, Q1, ho2, ho3, hb⟩
  case rest =>
    obtain ⟨y2, y3, Q1, ho2, ho3, hb⟩ := hcut
    have hsr := hb.size
    have hbw := hb2.trans (hb.mono (by omega))
    have hkl : (kidsOf (KA n3)).length ≤ n3 := by rw [kids_len]; exact HAl.out n3
    have hpl : (pivsOf (KA n3)).length ≤ n3 := Nat.le_trans (pivs_len (KA n3)) (HAl.out n3)
    have HPs := hid (pivs_snoc (KA n3) G)
    have HKs' := hid (kids_snoc (KA n3) G)
    rw [← HAA.out] at HPs HKs'
    rw [← kids_len (KA n3)] at HPs
    rw [HG.out] at HPs HKs'
    dsimp only at HPs HKs'
    clear HAA HG HA0 HA1 HA2 HAl
    generalize kidsOf (KA n3) = KK at *
    generalize pivsOf (KA n3) = PP at *
    have N3 := N2.below hb (by omega)
    have M3 := M2.below hb (by omega)
    have P3 := P2.below hb (by omega)
    obtain ⟨b3, d3, q3, rfl⟩ := row_slice ho3
    have hd3 : d3 = KK.length := row_len ho3
    subst hd3
    obtain ⟨p0, p1, p2, p3, p4⟩ := Q1.cells
    obtain ⟨e0, e1, e2, e3, e4, e5⟩ := M3.six
    simp only [Nat.zero_add] at e1 e2 e3 e4 e5
    dsimp only at e0 e1 e2 e3 e4 e5
    have hlc := Q1.lt
    have hlm := M3.lt
    go_upto_if 82 with fail
    generalize hdd : decide (0 < KK.length) = B0
    go_cut [] from 83 to 90 (fun wx => ∃ y2, NBox wx k4 (.bool false) (.slice none 0 0) y2 (.slice b3 KK.length q3) (.slice none 0 0) ∧ wx.ownsRow (k4 + 1) 9 1 y2 (pivsOf AA).length ((pivsOf AA).flatMap tcell) ∧ wx.ownsRow (k4 + 1) 46 4 (.slice b3 KK.length q3) KK.length (KK.flatMap E.cells) ∧ Below k4 w5 wx)
    case first =>
      cases B0
      case false =>
        have h0 : ¬ 0 < KK.length := of_decide_eq_false hdd
        have HPn := hid (HPs.out.trans (if_neg h0))
        clear h0 hdd
        go_wp2_with fail
        go_meet
        exact ⟨_, Q1, by rw [HPn.out]; exact ho2, ho3, hb⟩
      case true =>
        have h0 : 0 < KK.length := of_decide_eq_true hdd
        have HPn := hid (HPs.out.trans (if_pos h0))
        clear h0 hdd
        obtain ⟨b2, d2, q2, rfl⟩ := row_slice ho2
        have hC := (OneCell.new wc mk).each
        have bx := below_box wc (.cells #[.string mk] 9)
        have r3' := row_later ho3 bx
        have r2' := row_later ho2 bx
        have Q6 := Q1.later bx
        have hb9 := hb.trans (bx.mono (by omega))
        go_wp2_with (first | (at_builtin; refine appOne tcell 1 16 23 9 _ (by omega) (fun _ => rfl) Try.underlying23 info9 rfl (by omega) oneT rfl _ _ rfl (k4 + 1) _ PP rfl r2' mk wc.heap.size rfl hC (by omega) (by simp; omega) ?_; intro v' w12 h1 h2; obtain ⟨g6, n6, q6, rfl⟩ := row_slice h1; have Q7 := Q6.kept h2 (row_ge r2' (Nat.lt_succ_self k4)); have s3 := row_kept r3' r2' (by decide) h2; have hb7 := hb9.grown h2 (by simp; omega) (fun k hk => by have := (World.ownsRow.lt r2' k hk).1; omega); clear p0 p1 p2 p3 p4 e0 e1 e2 e3 e4 e5 Q6 Q1 ho2 ho3 r2' r3' hb hb9 h2 hC bx; obtain ⟨p0, p1, p2, p3, p4⟩ := Q7.cells; have f2 := Q7.free 2) | fail)
        go_meet
        exact ⟨_, Q7.put2 _, by rw [HPn.out]; exact row_set h1 (Nat.lt_succ_self k4), row_set s3 (Nat.lt_succ_self k4), hb7.setCell (p := ⟨k4, 2, none⟩) (Nat.le_refl _) _⟩
    case rest =>
      clear p0 p1 p2 p3 p4 e0 e1 e2 e3 e4 e5 Q1 ho2 ho3 hb hbw N3 M3 P3 HPs hlc hlm
      obtain ⟨y2, Q1, ho2, ho3, hb⟩ := hcut
      have hbw := hb2.trans (hb.mono (by omega))
      have M3 := M2.below hb (by omega)
      obtain ⟨p0, p1, p2, p3, p4⟩ := Q1.cells
      obtain ⟨e0, e1, e2, e3, e4, e5⟩ := M3.six
      simp only [Nat.zero_add] at e1 e2 e3 e4 e5
      dsimp only at e0 e1 e2 e3 e4 e5
      have hlc := Q1.lt
      have hsc := hb.size
      have hC := (EBox.new wc ⟨mb, mp, mk, ma⟩).each
      have bx := below_box wc (.cells #[.int .u32 mb, .int .u16 mp, .string mk, .string ma] 46)
      have r3' := row_later ho3 bx
      have r2' := row_later ho2 bx
      have Q6 := Q1.later bx
      have hb9 := hb.trans (bx.mono (by omega))
      go_upto_region 20 with (first | (at_builtin; refine appOne E.cells 4 40 24 46 _ (by omega) (fun _ => rfl) Try.underlying24 info46 rfl (by omega) oneE rfl _ _ rfl (k4 + 1) _ KK rfl r3' ⟨mb, mp, mk, ma⟩ wc.heap.size rfl hC (by omega) (by simp; omega) ?_; intro v' w12 h1 h2; obtain ⟨g6, n6, q6, rfl⟩ := row_slice h1; have Q7 := Q6.kept h2 (row_ge r3' (Nat.lt_succ_self k4)); have s2 := row_kept r2' r3' (by decide) h2; have hb7 := hb9.grown h2 (by simp; omega) (fun k hk => by have := (World.ownsRow.lt r3' k hk).1; omega); clear p0 p1 p2 p3 p4 e0 e1 e2 e3 e4 e5 Q6 Q1 ho2 ho3 r2' r3' hb hb9 h2 hC bx M3; obtain ⟨p0, p1, p2, p3, p4⟩ := Q7.cells; have f3 := Q7.free 3) | fail)
      have Q9 := Q7.put3 (.slice g6 n6 q6)
      have r2 := row_set (i := 3) (u := .slice g6 n6 q6) s2 (Nat.lt_succ_self k4)
      have r3 := row_set (i := 3) (u := .slice g6 n6 q6) h1 (Nat.lt_succ_self k4)
      rw [← HKs'.out] at r3
      rw [← HB0.out] at r2 r3
      have hb10 := hb7.setCell (p := ⟨k4, 3, none⟩) (Nat.le_refl _) (.slice g6 n6 q6)
      clear p0 p1 p2 p3 p4 f3 Q7 h1 s2 hb7 hbw HKs' hsc
      generalize w12.setCell ⟨k4, 3, none⟩ (.slice g6 n6 q6) = w9 at *
      have M9 := M2.below hb10 (by omega)
      obtain ⟨e0, e1, e2, e3, e4, e5⟩ := M9.six
      simp only [Nat.zero_add] at e1 e2 e3 e4 e5
      dsimp only at e0 e1 e2 e3 e4 e5
      go_upto_region 21 with (first | (go_at_call 22; refine (HSu.out _).mono ?_; clear HSu; rintro x w10 ⟨rfl, hb11⟩) | fail)
      clear e0 e1 e2 e3 e4 e5 M9
      have hl9 := Q9.lt
      replace Q9 := Q9.later hb11
      replace r2 := row_later r2 hb11
      replace r3 := row_later r3 hb11
      replace hb10 := hb10.trans (hb11.mono (by omega))
      clear hb11
      unfold rv at HAm HAo
      generalize str (aboutR ⟨md, mk, ml, mb, mp, ma⟩).hi = S1 at *
      generalize (aboutR ⟨md, mk, ml, mb, mp, ma⟩).e = S2 at *
      have hl10 := Q9.lt
      have N9 := N2.below hb10 (by omega)
      obtain ⟨m0, m1, m2, m3, m4⟩ := N9.cells
      go_wp2_with fail
      clear m0 m1 m2 m3 m4 N9
      go_loopw [114] (fun i wr => ∃ (j : Nat) (y2 y3 : Value), j ≤ n3 ∧ i = .int .i64 j ∧ NBox wr k4 (.bool false) (.slice none 0 0) y2 y3 (.slice none 0 0) ∧ wr.ownsRow (k4 + 1) 9 1 y2 (pivsOf (KB j)).length ((pivsOf (KB j)).flatMap tcell) ∧ wr.ownsRow (k4 + 1) 46 4 y3 (kidsOf (KB j)).length ((kidsOf (KB j)).flatMap E.cells) ∧ Below k4 w5 wr) (fun i _ => n3 - (intOf i).toNat)
      case atStart => exact ⟨0, _, _, Nat.zero_le _, rfl, Q9, r2, r3, hb10⟩
      case round =>
        clear Q9 r2 r3 hb10 hl10 hl9
        obtain ⟨j, y2, y3, hj, rfl, Q1, ho2, ho3, hb⟩ := hrel
        have hsr := hb.size
        have hbw := hb2.trans (hb.mono (by omega))
        by_cases hlt : j < n3
        · have hlt' : j < ks.length := by rw [HN3.out]; exact hlt
          obtain ⟨b, off, hA, -⟩ := (HLk.out wr hbw).at hlt'
          subst hA
          obtain ⟨x, hx⟩ : ∃ x, ks[j]? = some x := ⟨_, List.getElem?_eq_getElem hlt'⟩
          have hxe : ks[j] = x := by rw [List.getElem?_eq_getElem hlt'] at hx; exact Option.some.inj hx
          have HX4 := hid (fun u (hb : Below k0 w u) => (show Four u b (off + j * 4) x from by
            obtain ⟨b', off', e, hc⟩ := (HLk.out u hb).at hlt'
            simp only [Option.some.injEq, Addr.mk.injEq, and_true] at e
            obtain ⟨rfl, rfl⟩ := e
            rw [hxe] at hc
            exact hc))
          have hj2 : j ≤ n2 := by omega
          have HKx := hid (HB1.out j x hx hj2)
          have HSx := hid (HBs.out j)
          have HRj := hid (HR.out j hlt)
          have hkl : (kidsOf (KB j)).length ≤ 2 * n3 + 1 := by rw [kids_len]; exact HBl.out j hj
          have hpl : (pivsOf (KB j)).length ≤ 2 * n3 + 1 := Nat.le_trans (pivs_len (KB j)) (HBl.out j hj)
          have HPs := hid (fun P => (pivs_snoc (KB j) P).trans (if_pos (HBn.out j)))
          have HKs' := hid (fun P => kids_snoc (KB j) P)
          clear hx hxe
          generalize loOf ws j = L0 at *
          generalize hiOf ws j = L1 at *
          generalize endOf ws j = L2 at *
          have hmx := fun W ts => run_max_str (P := Try.prog) W ts 9 L0 S1
          obtain ⟨xb, xd, xs, xa⟩ := x
          try dsimp only at *
          generalize (if bytesLess L0.toList S1.toList = true then S1 else L0) = MX at *
          have N3 := N2.below hb (by omega)
          obtain ⟨m0, m1, m2, m3, m4⟩ := N3.cells
          go_upto_region 25 with (first | (go_at_call 21; refine (HRj.out _ hbw).mono ?_; rintro x w6 ⟨rfl, hb6⟩) | fail)
          clear m0 m1 m2 m3 m4 HRj
          have hs6 := hb6.size
          have hq4 := Q1.lt
          have bx := below_box w6 (.cells #[.string L0, .string L1, .bool L2] 55)
          have Y1 := Box.new w6 (.string L0) (.string L1) (.bool L2)
          replace N3 := (N3.later hb6).later bx
          replace Q1 := (Q1.later hb6).later bx
          replace ho2 := row_later (row_later ho2 hb6) bx
          replace ho3 := row_later (row_later ho3 hb6) bx
          replace hb := (hb.trans (hb6.mono (by omega))).trans (bx.mono (by omega))
          replace hbw := (hbw.trans (hb6.mono (by omega))).trans (bx.mono (by have := hbw.size; omega))
          have hkr : k4 < w6.heap.size := by omega
          clear hb6 bx
          generalize w6.heap.size = kr at *
          generalize w6.alloc (.cells #[.string L0, .string L1, .bool L2] 55) = w7 at *
          obtain ⟨r0, r1, r2⟩ := Y1.cells
          go_cut [131] from 120 to 132 (fun v wx => v = .bool (SK j) ∧ wx = w7)
          case first =>
            cases hS : S2
            case false =>
              subst hS
              go_wp2_with fail
              go_meet
              exact ⟨by rw [HSx.out]; rfl, rfl⟩
            case true =>
              subst hS
              cases hL : L2
              case false =>
                subst hL
                go_wp2_with fail
                go_meet
                exact ⟨by rw [HSx.out]; rfl, rfl⟩
              case true =>
                subst hL
                have hle := le_str L1 S1
                cases hb1 : bytesLess L1.toList S1.toList
                all_goals cases hb2 : (L1.toList == S1.toList)
                all_goals
                  rw [hb1, hb2] at hle
                  have hv := congrArg (fun b => !b) hle
                  simp only [Bool.not_not, Bool.or_false, Bool.or_true, Bool.false_or, Bool.true_or, Bool.not_false, Bool.not_true] at hv
                  have HV := hid hv.symm
                  clear hv hle
                  go_wp2_with fail
                  go_meet
                  exact ⟨by rw [HSx.out]; simp [HV.out], rfl⟩
          case rest =>
            obtain ⟨rfl, rfl⟩ := hcut
            have hsw := hb.size
            cases hsk : SK j
            case true =>
              have HKz := hid (HKx.out.trans (if_pos hsk))
              clear r0 r1 r2
              go_wp2_with fail
              go_roundw
              case rel => exact ⟨j + 1, _, _, by omega, by go_num, Q1, by rw [HKz.out]; exact ho2, by rw [HKz.out]; exact ho3, hb⟩
              case measure => simp [intOf]; omega
            case false =>
              have HKz := hid (HKx.out.trans (if_neg (by rw [hsk]; simp)))
              have HPn := hid (HPs.out ⟨MX, ⟨xb, xd, xs, xa⟩⟩)
              have HKn := hid (HKs'.out ⟨MX, ⟨xb, xd, xs, xa⟩⟩)
              dsimp only at HPn HKn
              clear hsk HPs HKs' HKx HSx
              obtain ⟨b2, d2, q2, rfl⟩ := row_slice ho2
              obtain ⟨b3, d3, q3, rfl⟩ := row_slice ho3
              obtain ⟨p0, p1, p2, p3, p4⟩ := Q1.cells
              have hC := (OneCell.new wc MX).each
              have bx := below_box wc (.cells #[.string MX] 9)
              have r3' := row_later ho3 bx
              have r2' := row_later ho2 bx
              have Q6 := Q1.later bx
              have N6 := N3.later bx
              have hlw : k4 < wc.heap.size := Q1.lt
              have hb9 := hb.trans (bx.mono (by omega))
              go_upto_region 27 with (first | (at_builtin; refine appOne tcell 1 16 23 9 _ (by omega) (fun _ => rfl) Try.underlying23 info9 rfl (by omega) oneT rfl _ _ rfl (k4 + 1) _ (pivsOf (KB j)) rfl r2' MX wc.heap.size rfl hC (by omega) (by simp; omega) ?_; intro v' w12 h1 h2; obtain ⟨g6, n6, q6, rfl⟩ := row_slice h1; have Q7 := Q6.kept h2 (row_ge r2' (Nat.lt_succ_self k4)); have N7 := N6.kept h2 (row_ge r2' (show k0 < k4 + 1 by omega)); have s3 := row_kept r3' r2' (by decide) h2; have hb7 := hb9.grown h2 (by simp; omega) (fun k hk => by have := (World.ownsRow.lt r2' k hk).1; omega); clear p0 p1 p2 p3 p4 Q6 Q1 N6 N3 ho2 ho3 r2' r3' hb hb9 h2 hC bx r0 r1 r2 Y1; obtain ⟨p0, p1, p2, p3, p4⟩ := Q7.cells; have f2 := Q7.free 2) | fail)
              have Q9 := Q7.put2 (.slice g6 n6 q6)
              have N9 := N7.far (k' := k4) (i := 2) (u := .slice g6 n6 q6) (by omega)
              have r2 := row_set (i := 2) (u := .slice g6 n6 q6) h1 (Nat.lt_succ_self k4)
              have r3 := row_set (i := 2) (u := .slice g6 n6 q6) s3 (Nat.lt_succ_self k4)
              have hb10 := hb7.setCell (p := ⟨k4, 2, none⟩) (Nat.le_refl _) (.slice g6 n6 q6)
              clear p0 p1 p2 p3 p4 f2 Q7 N7 h1 s3 hb7 hbw hmx
              generalize w12.setCell ⟨k4, 2, none⟩ (.slice g6 n6 q6) = w9 at *
              have hs10 := hb10.size
              have hbw := hb2.trans (hb10.mono (by omega))
              have hsA := hb10.size
              have hQl := Q9.lt
              refine wp_region_until [(some 141, [], false), (some 142, [(0, 141)], false), (some 143, [], false), (some 144, [(2, 143)], false), (some 145, [], false), (some 146, [(3, 144), (4, 145)], false), (some 147, [(5, 146)], false), (some 148, [(6, 147)], false), (some 149, [(1, 142), (7, 148)], true), (some 150, [], true), (none, [(9, 150), (8, 149)], false)]
                (fun i u => if i ≤ 8 then Below w9.heap.size w9 u else w9.grownBy u (Value.slice b3 d3 q3).ownBlock) (fun i u u' => if i = 8 then u.grownBy u' (Value.slice b3 d3 q3).ownBlock else Below u.heap.size u u')
                (fun i Y u => match i with | 0 => Y = .pointer (some ⟨k4, 3, none⟩) | 1 => Y = (Value.slice b3 d3 q3) ∧ u.ownsRow (k4 + 1) 46 4 (Value.slice b3 d3 q3) (kidsOf (KB j)).length ((kidsOf (KB j)).flatMap E.cells) | 2 => Y = .pointer (some ⟨k0, 3, none⟩) | 3 => Y = .slice (some ⟨b, off, none⟩) n3 c3 | 4 => Y = .int .i64 j | 5 => Y = .pointer (some ⟨b, off + j * 4, none⟩) | 6 => Y = ev ⟨xb, xd, xs, xa⟩ | 7 => ∃ g, Y = .slice (some ⟨g, 0, none⟩) 1 1 ∧ EBox u g ⟨xb, xd, xs, xa⟩ | 8 => u.ownsRow (k4 + 1) 46 4 Y ((kidsOf (KB j)) ++ [E.mk xb xd xs xa]).length (((kidsOf (KB j)) ++ [E.mk xb xd xs xa]).flatMap E.cells) | 9 => Y = .pointer (some ⟨k4, 3, none⟩) | _ => True)
                (by kernel_rfl) (by kernel_rfl) (fun j => ?_) (fun i j u u' hl hi hj hr => ?_) (fun i j v u u' hn h h' hv => ?_) [(some 141, [], false), (some 142, [(0, 141)], false), (some 143, [], false), (some 144, [(2, 143)], false), (some 145, [], false), (some 146, [(3, 144), (4, 145)], false), (some 147, [(5, 146)], false), (some 148, [(6, 147)], false), (some 149, [(1, 142), (7, 148)], true), (some 150, [], true)] 10 rfl _ rfl rfl (by kernel_rfl) (by kernel_rfl) ⟨?_, ?_, ?_, ?_, ?_, ?_, ?_, ?_, ?_, ?_, trivial⟩ ?_
              · split
                · exact (Below.refl _ _).drew
                · exact below_grown _ (Below.refl _ _).drew
              · by_cases hia : i = 8
                · subst hia
                  have hj2 : ¬ j ≤ 8 := by
                    intro hle
                    match j, hle, hl with
                      | 0, _, hl => exact absurd hl (by decide)
                      | 1, _, hl => exact absurd hl (by decide)
                      | 2, _, hl => exact absurd hl (by decide)
                      | 3, _, hl => exact absurd hl (by decide)
                      | 4, _, hl => exact absurd hl (by decide)
                      | 5, _, hl => exact absurd hl (by decide)
                      | 6, _, hl => exact absurd hl (by decide)
                      | 7, _, hl => exact absurd hl (by decide)
                      | 8, _, hl => exact absurd hl (by decide)
                      | n + 9, hle, _ => omega
                  rw [if_pos (Nat.le_refl _)] at hi
                  rw [if_neg hj2] at hj ⊢
                  rw [if_pos rfl] at hr
                  exact grown_trans hj hr
                · rw [if_neg hia] at hr
                  split at hj
                  · rename_i hle; rw [if_pos hle]; exact hj.trans (hr.mono hj.size)
                  · rename_i hle; rw [if_neg hle]; exact grown_trans hj (below_grown _ hr)
              · by_cases hia : i = 8
                · subst hia
                  match j with
                    | 0 => exact absurd hn (by decide)
                    | 1 => exact absurd hn (by decide)
                    | 2 => exact absurd hn (by decide)
                    | 3 => exact absurd hn (by decide)
                    | 4 => exact absurd hn (by decide)
                    | 5 => exact absurd hn (by decide)
                    | 6 => exact absurd hn (by decide)
                    | 7 => exact absurd hn (by decide)
                    | 8 => exact absurd hn (by decide)
                    | 9 => exact hv
                    | _ + 10 => trivial
                · rw [if_neg hia] at h'
                  match j with
                    | 0 => exact hv
                    | 1 => exact ⟨hv.1, row_later hv.2 h'⟩
                    | 2 => exact hv
                    | 3 => exact hv
                    | 4 => exact hv
                    | 5 => exact hv
                    | 6 => exact hv
                    | 7 => obtain ⟨g, e1, e2⟩ := hv; exact ⟨g, e1, e2.later h'⟩
                    | 8 => exact row_later hv h'
                    | 9 => exact hv
                    | _ + 10 => trivial
              · rintro u hu
                exact opYields_val _ (by kernel_rfl) (by go_simp) ⟨Below.refl _ _, rfl⟩
              · rintro u hu _ rfl
                replace hu : Below w9.heap.size w9 u := hu
                obtain ⟨cc0, cc1, cc2, cc3, cc4⟩ := (Q9.later hu).cells
                exact opYields_val (Value.slice b3 d3 q3) (by kernel_rfl) (by go_simp) ⟨Below.refl _ _, rfl, row_later r3 hu⟩
              · rintro u hu
                exact opYields_val _ (by kernel_rfl) (by go_simp) ⟨Below.refl _ _, rfl⟩
              · rintro u hu _ rfl
                replace hu : Below w9.heap.size w9 u := hu
                obtain ⟨cc0, cc1, cc2, cc3, cc4⟩ := (N9.later hu).cells
                exact opYields_val (.slice (some ⟨b, off, none⟩) n3 c3) (by kernel_rfl) (by go_simp) ⟨Below.refl _ _, rfl⟩
              · rintro u hu
                exact opYields_val _ (by kernel_rfl) (by go_simp) ⟨Below.refl _ _, rfl⟩
              · rintro u hu _ rfl _ rfl
                exact opYields_val (.pointer (some ⟨b, off + j * 4, none⟩)) (by kernel_rfl) (by go_simp) ⟨Below.refl _ _, rfl⟩
              · rintro u hu _ rfl
                replace hu : Below w9.heap.size w9 u := hu
                obtain ⟨t0, t1, t2, t3⟩ := HX4.out u (hbw.trans (hu.mono (by omega)))
                dsimp only at t0 t1 t2 t3
                exact opYields_val (ev ⟨xb, xd, xs, xa⟩) (by kernel_rfl) (by go_simp) ⟨Below.refl _ _, rfl⟩
              · rintro u hu _ rfl
                exact opYields_val (.slice (some ⟨u.heap.size, 0, none⟩) 1 1) (u' := u.alloc (.cells #[.int .u32 xb, .int .u16 xd, .string xs, .string xa] 46)) (by kernel_rfl) (by go_simp) ⟨below_box _ _, _, rfl, EBox.new u ⟨xb, xd, xs, xa⟩⟩
              · rintro u hu _ ⟨rfl, h1⟩ _ ⟨g, rfl, hg⟩
                replace hu : Below w9.heap.size w9 u := hu
                exact yOne E.cells 4 40 24 46 _ (by omega) (fun _ => rfl) Try.underlying24 info46 rfl (by omega) oneE (by kernel_rfl) (.tmp 142) (.tmp 148) rfl (k4 + 1) _ (kidsOf (KB j)) rfl h1 ⟨xb, xd, xs, xa⟩ g rfl hg.each (by omega) (by have := hu.size; omega) fun v' w' h2 h3 => ⟨h3, h2⟩
              · rintro u hu
                exact opYields_val _ (by kernel_rfl) (by go_simp) ⟨Below.refl _ _, rfl⟩
              · intro u hu x0 x1 x2 x3 x4 x5 x6 x7 x8 e8 x9 e9
                replace hu : w9.grownBy u (Value.slice b3 d3 q3).ownBlock := hu
                replace e9 : x9 = .pointer (some ⟨k4, 3, none⟩) := e9
                replace e8 : u.ownsRow (k4 + 1) 46 4 x8 ((kidsOf (KB j)) ++ [E.mk xb xd xs xa]).length (((kidsOf (KB j)) ++ [E.mk xb xd xs xa]).flatMap E.cells) := e8
                subst e9
                obtain ⟨b1, d1, q1, rfl⟩ := row_slice e8
                have Q7 := Q9.kept hu (row_ge r3 (Nat.lt_succ_self k4))
                have f3 := Q7.free 3
                obtain ⟨y0, y1, y2', y3', y4⟩ := Q7.cells
                refine Puts.mk (u.setCell ⟨k4, 3, none⟩ (.slice b1 d1 q1)) (by kernel_rfl) (by go_simp) ?_
                have Q8 := Q7.put3 (.slice b1 d1 q1)
                have s3 := row_set (i := 3) (u := .slice b1 d1 q1) e8 (Nat.lt_succ_self k4)
                have s2 := row_set (i := 3) (u := .slice b1 d1 q1) (row_kept r2 r3 (by decide) hu) (Nat.lt_succ_self k4)
                have hb8 : Below k4 w5 (u.setCell ⟨k4, 3, none⟩ (.slice b1 d1 q1)) := (hb10.grown hu (by omega) fun k hk => by have := (World.ownsRow.lt r3 k hk).1; omega).setCell (p := ⟨k4, 3, none⟩) (Nat.le_refl _) _
                simp only [Act.put, List.setIfInBounds_toArray, List.set_cons_zero, List.set_cons_succ]
                clear f3 Q7 e8 hu y0 y1 y2' y3' y4 Q9 r2 r3 hb10 hbw N9 HX4
                generalize u.setCell ⟨k4, 3, none⟩ (.slice b1 d1 q1) = u1 at *
                go_wp2_with fail
                go_roundw
                case rel => exact ⟨j + 1, _, _, by omega, by go_num, Q8, by rw [HKz.out, HPn.out]; exact s2, by rw [HKz.out, HKn.out]; exact s3, hb8⟩
                case measure => simp [intOf]; omega
        · obtain rfl : j = n3 := by omega
          clear HB1 HBs HR HLk HBl HBn
          have N3 := N2.below hb (by omega)
          obtain ⟨m0, m1, m2, m3, m4⟩ := N3.cells
          have hlc := Q1.lt
          go_wp2_with fail
          clear m0 m1 m2 m3 m4 N3
          go_loopw [155] (fun i wr' => ∃ (q : Nat) (y4 : Value), q ≤ n4 ∧ i = .int .i64 q ∧ NBox wr' k4 (.bool false) (.slice none 0 0) y2 y3 y4 ∧ wr'.ownsRow (k4 + 1) 9 1 y2 (pivsOf (KB j)).length ((pivsOf (KB j)).flatMap tcell) ∧ wr'.ownsRow (k4 + 1) 46 4 y3 (kidsOf (KB j)).length ((kidsOf (KB j)).flatMap E.cells) ∧ wr'.ownsRow (k4 + 1) 48 6 y4 (KC q).length ((KC q).flatMap M.cells) ∧ Below k4 w5 wr') (fun i _ => n4 - (intOf i).toNat)
          case atStart => exact ⟨0, _, Nat.zero_le _, rfl, Q1, ho2, ho3, by rw [HC0.out]; exact row_nil _ _ _ _, hb⟩
          case round =>
            clear Q1 ho2 ho3 hb hsr hbw hlc
            obtain ⟨q, y4, hq, rfl, Q1, ho2, ho3, ho4, hb⟩ := hrel
            have hsr := hb.size
            have hlc := Q1.lt
            have hbw := hb2.trans (hb.mono (by omega))
            by_cases hlt2 : q < n4
            · have hlt' : q < bf.length := by rw [HN4.out]; exact hlt2
              obtain ⟨b', off', hA, g0, g1, g2, g3, g4, g5⟩ := (HLb.out _ hbw).at hlt'
              simp only [Option.some.injEq, Addr.mk.injEq, and_true] at hA
              obtain ⟨rfl, rfl⟩ := hA
              obtain ⟨x, hx⟩ : ∃ x, bf[q]? = some x := ⟨_, List.getElem?_eq_getElem hlt'⟩
              have hxe : bf[q] = x := by rw [List.getElem?_eq_getElem hlt'] at hx; exact Option.some.inj hx
              rw [hxe] at g0 g1 g2 g3 g4 g5
              have HKx := hid (HK1.out q x hx)
              have HAx := hid (HAo.out x (by rw [← hxe]; exact List.getElem_mem hlt'))
              have HIx := hid (HIn.out x)
              have hkl := HKl.out q
              clear hx hxe
              have N3 := N2.below hb (by omega)
              obtain ⟨m0, m1, m2, m3, m4⟩ := N3.cells
              generalize insideR (aboutR x) (aboutR ⟨md, mk, ml, mb, mp, ma⟩) = IB at *
              generalize str (aboutR x).lo = X0 at *
              generalize str (aboutR x).hi = X1 at *
              generalize (aboutR x).e = X2 at *
              generalize str (aboutR ⟨md, mk, ml, mb, mp, ma⟩).lo = S0 at *
              rename World => wr'
              have B1 := MBox.new wr' x
              have bx := below_box wr' (.cells #[.int .u8 x.kind, .string x.key, .string x.val, .int .u32 x.blk, .int .u16 x.deep, .string x.add] 48)
              have Q2 := Q1.later bx
              have M3 := (M2.below hb (by omega)).later bx
              have r2 := row_later ho2 bx
              have r3 := row_later ho3 bx
              have r4 := row_later ho4 bx
              have hb3 := hb.trans (bx.mono (by omega))
              obtain ⟨xk, xy, xv, xb, xd, xa⟩ := x
              dsimp only at *
              go_upto_region 33 with fail
              clear m0 m1 m2 m3 m4 g0 g1 g2 g3 g4 g5 N3 Q1 ho2 ho3 ho4 hb hbw
              have hkw : k4 < wr'.heap.size := by omega
              generalize wr'.heap.size = kq at *
              generalize wr'.alloc (.cells #[.int .u8 xk, .string xy, .string xv, .int .u32 xb, .int .u16 xd, .string xa] 48) = w7 at *
              have hs7 := hb3.size
              have hl7 := Q2.lt
              rcases Nat.lt_trichotomy q i with hqi | hqi | hqi
              · have hd : ((q : Int) == (i : Int)) = false := by simp; omega
                have hd1 : decide ((q : Int) = (i : Int)) = false := by simp; omega
                have hd2 : decide ((q : Int) < (i : Int)) = true := by simp; omega
                have hd3 : (q == i) = false := by simp; omega
                have hd4 : decide (q < i) = true := by simp; omega
                have hne : ¬ q = i := by omega
                have hne' : ¬ (q : Int) = (i : Int) := by omega
                refine wp_region_quiet (C := fun u => Below w7.heap.size w7 u) (by kernel_rfl) (by kernel_rfl) (Below.refl _ w7).drew ?_
                change wpQuiet _ _ _ _ (_ :: _) _
                repeat
                  first
                    | go_big_quiet_skip
                    | go_big_quiet_want
                      first
                        | refine quiet_c (.agg #[.string X0, .string X1, .bool X2]) 24 #[.agg #[.int .u8 xk, .string xy, .string xv, .int .u32 xb, .int .u16 xd, .string xa]] ?_ (fun u hu => (HAx.out u).mono fun x u' h => ⟨h.1, hu.trans (h.2.mono hu.size)⟩) ?_
                          · intro u hu
                            go_simp
                            done
                        | refine quiet_c (.agg #[.string S0, .string S1, .bool S2]) 24 #[.agg #[.int .u8 md, .string mk, .string ml, .int .u32 mb, .int .u16 mp, .string ma]] ?_ (fun u hu => (HAm.out u).mono fun x u' h => ⟨h.1, hu.trans (h.2.mono hu.size)⟩) ?_
                          · intro u hu
                            go_simp
                            done
                        | refine quiet_c (.bool IB) 23 #[.agg #[.string X0, .string X1, .bool X2], .agg #[.string S0, .string S1, .bool S2]] ?_ (fun u hu => (HIx.out u).mono fun x u' h => ⟨h.1, hu.trans (h.2.mono hu.size)⟩) ?_
                          · intro u hu
                            go_simp
                            done
                        | refine quiet_v (.agg #[.int .u8 xk, .string xy, .string xv, .int .u32 xb, .int .u16 xd, .string xa]) ?_ ?_
                          · intro u hu
                            obtain ⟨e0, e1, e2, e3, e4, e5⟩ := (B1.later hu).six
                            simp only [Nat.zero_add] at e1 e2 e3 e4 e5
                            dsimp only at e0 e1 e2 e3 e4 e5
                            go_simp
                            done
                        | refine quiet_v (.agg #[.int .u8 md, .string mk, .string ml, .int .u32 mb, .int .u16 mp, .string ma]) ?_ ?_
                          · intro u hu
                            obtain ⟨e0, e1, e2, e3, e4, e5⟩ := (M3.later hu).six
                            simp only [Nat.zero_add] at e1 e2 e3 e4 e5
                            dsimp only at e0 e1 e2 e3 e4 e5
                            go_simp
                            done
                        | refine quiet_v ?_ ?_ ?_
                          rotate_left
                          · intro u hu
                            go_simp
                            with_reducible rfl
                      go_simp
                      go_big_quiet_on
                refine wpQuiet_nil (fun u hu => ?_)
                replace Q2 := Q2.later hu
                replace B1 := B1.later hu
                replace r2 := row_later r2 hu
                replace r3 := row_later r3 hu
                replace r4 := row_later r4 hu
                have hsu := hu.size
                replace hb3 := hb3.trans (hu.mono (by omega))
                clear hu
                cases IB
                case true =>
                  have HKz := hid (HKx.out.trans (if_pos (.inr ⟨hqi, rfl⟩)))
                  go_wp2_with fail
                  go_roundw
                  case rel => exact ⟨q + 1, _, by omega, by go_num, Q2, r2, r3, by rw [HKz.out]; exact r4, hb3⟩
                  case measure => simp [intOf]; omega
                case false =>
                  have HKz := hid (HKx.out.trans (if_neg (by simp; omega)))
                  obtain ⟨b5, d5, t5, rfl⟩ := row_slice r4
                  obtain ⟨p0, p1, p2, p3, p4⟩ := Q2.cells
                  obtain ⟨e0, e1, e2, e3, e4, e5⟩ := B1.six
                  simp only [Nat.zero_add] at e1 e2 e3 e4 e5
                  dsimp only at e0 e1 e2 e3 e4 e5
                  have hC : ∀ j z, (M.cells ⟨xk, xy, xv, xb, xd, xa⟩)[j]? = some z → (u.alloc (.cells #[.int .u8 xk, .string xy, .string xv, .int .u32 xb, .int .u16 xd, .string xa] 48)).cell? ⟨u.heap.size, j, none⟩ = some z := fun j z hz => by
                    have := (MBox.new u ⟨xk, xy, xv, xb, xd, xa⟩).news j z hz
                    rw [add_plain, Nat.zero_add] at this
                    exact this
                  have bx := below_box u (.cells #[.int .u8 xk, .string xy, .string xv, .int .u32 xb, .int .u16 xd, .string xa] 48)
                  have s2 := row_later r2 bx
                  have s3 := row_later r3 bx
                  have s4 := row_later r4 bx
                  have Q3 := Q2.later bx
                  have hb4 := hb3.trans (bx.mono (by omega))
                  have hQ2 := Q2.lt
                  go_wp2_with (first | (at_builtin; refine appOne M.cells 6 64 25 48 _ (by omega) (fun _ => rfl) Try.underlying25 info48 rfl (by omega) one_cell rfl _ _ rfl (k4 + 1) _ (KC q) rfl s4 ⟨xk, xy, xv, xb, xd, xa⟩ u.heap.size rfl hC (by omega) (by simp; omega) ?_; intro v' w12 h1 h2; obtain ⟨g6, n6, q6, rfl⟩ := row_slice h1; have Q7 := Q3.kept h2 (row_ge s4 (Nat.lt_succ_self k4)); have u2 := row_kept s2 s4 (by decide) h2; have u3 := row_kept s3 s4 (by decide) h2; have hb7 := hb4.grown h2 (by simp; omega) (fun k hk => by have := (World.ownsRow.lt s4 k hk).1; omega); clear p0 p1 p2 p3 p4 e0 e1 e2 e3 e4 e5 Q3 Q2 r2 r3 r4 s2 s3 s4 hb3 hb4 h2 hC bx B1; obtain ⟨p0, p1, p2, p3, p4⟩ := Q7.cells; have f4 := Q7.free 4) | fail)
                  go_roundw
                  case rel => exact ⟨q + 1, _, by omega, by go_num, Q7.put4 _, row_set u2 (Nat.lt_succ_self k4), row_set u3 (Nat.lt_succ_self k4), by rw [HKz.out]; exact row_set h1 (Nat.lt_succ_self k4), hb7.setCell (p := ⟨k4, 4, none⟩) (Nat.le_refl _) _⟩
                  case measure => simp [intOf]; omega
              · subst hqi
                have HKz := hid (HKx.out.trans (if_pos (.inl rfl)))
                refine wp_region_quiet (C := fun u => Below w7.heap.size w7 u) (by kernel_rfl) (by kernel_rfl) (Below.refl _ w7).drew ?_
                change wpQuiet _ _ _ _ (_ :: _) _
                repeat
                  first
                    | go_big_quiet_skip
                    | go_big_quiet_want
                      first
                        | refine quiet_c (.agg #[.string X0, .string X1, .bool X2]) 24 #[.agg #[.int .u8 xk, .string xy, .string xv, .int .u32 xb, .int .u16 xd, .string xa]] ?_ (fun u hu => (HAx.out u).mono fun x u' h => ⟨h.1, hu.trans (h.2.mono hu.size)⟩) ?_
                          · intro u hu
                            go_simp
                            done
                        | refine quiet_c (.agg #[.string S0, .string S1, .bool S2]) 24 #[.agg #[.int .u8 md, .string mk, .string ml, .int .u32 mb, .int .u16 mp, .string ma]] ?_ (fun u hu => (HAm.out u).mono fun x u' h => ⟨h.1, hu.trans (h.2.mono hu.size)⟩) ?_
                          · intro u hu
                            go_simp
                            done
                        | refine quiet_c (.bool IB) 23 #[.agg #[.string X0, .string X1, .bool X2], .agg #[.string S0, .string S1, .bool S2]] ?_ (fun u hu => (HIx.out u).mono fun x u' h => ⟨h.1, hu.trans (h.2.mono hu.size)⟩) ?_
                          · intro u hu
                            go_simp
                            done
                        | refine quiet_v (.agg #[.int .u8 xk, .string xy, .string xv, .int .u32 xb, .int .u16 xd, .string xa]) ?_ ?_
                          · intro u hu
                            obtain ⟨e0, e1, e2, e3, e4, e5⟩ := (B1.later hu).six
                            simp only [Nat.zero_add] at e1 e2 e3 e4 e5
                            dsimp only at e0 e1 e2 e3 e4 e5
                            go_simp
                            done
                        | refine quiet_v (.agg #[.int .u8 md, .string mk, .string ml, .int .u32 mb, .int .u16 mp, .string ma]) ?_ ?_
                          · intro u hu
                            obtain ⟨e0, e1, e2, e3, e4, e5⟩ := (M3.later hu).six
                            simp only [Nat.zero_add] at e1 e2 e3 e4 e5
                            dsimp only at e0 e1 e2 e3 e4 e5
                            go_simp
                            done
                        | refine quiet_v ?_ ?_ ?_
                          rotate_left
                          · intro u hu
                            go_simp
                            with_reducible rfl
                      go_simp
                      go_big_quiet_on
                refine wpQuiet_nil (fun u hu => ?_)
                replace Q2 := Q2.later hu
                replace B1 := B1.later hu
                replace r2 := row_later r2 hu
                replace r3 := row_later r3 hu
                replace r4 := row_later r4 hu
                have hsu := hu.size
                replace hb3 := hb3.trans (hu.mono (by omega))
                clear hu
                go_wp2_with fail
                go_roundw
                case rel => exact ⟨q + 1, _, by omega, by go_num, Q2, r2, r3, by rw [HKz.out]; exact r4, hb3⟩
                case measure => simp [intOf]; omega
              · have hd : ((q : Int) == (i : Int)) = false := by simp; omega
                have hd1 : decide ((q : Int) = (i : Int)) = false := by simp; omega
                have hd2 : decide ((q : Int) < (i : Int)) = false := by simp; omega
                have hd3 : (q == i) = false := by simp; omega
                have hd4 : decide (q < i) = false := by simp; omega
                have hne : ¬ q = i := by omega
                have hne' : ¬ (q : Int) = (i : Int) := by omega
                have HKz := hid (HKx.out.trans (if_neg (by omega)))
                refine wp_region_quiet (C := fun u => Below w7.heap.size w7 u) (by kernel_rfl) (by kernel_rfl) (Below.refl _ w7).drew ?_
                change wpQuiet _ _ _ _ (_ :: _) _
                repeat
                  first
                    | go_big_quiet_skip
                    | go_big_quiet_want
                      first
                        | refine quiet_c (.agg #[.string X0, .string X1, .bool X2]) 24 #[.agg #[.int .u8 xk, .string xy, .string xv, .int .u32 xb, .int .u16 xd, .string xa]] ?_ (fun u hu => (HAx.out u).mono fun x u' h => ⟨h.1, hu.trans (h.2.mono hu.size)⟩) ?_
                          · intro u hu
                            go_simp
                            done
                        | refine quiet_c (.agg #[.string S0, .string S1, .bool S2]) 24 #[.agg #[.int .u8 md, .string mk, .string ml, .int .u32 mb, .int .u16 mp, .string ma]] ?_ (fun u hu => (HAm.out u).mono fun x u' h => ⟨h.1, hu.trans (h.2.mono hu.size)⟩) ?_
                          · intro u hu
                            go_simp
                            done
                        | refine quiet_c (.bool IB) 23 #[.agg #[.string X0, .string X1, .bool X2], .agg #[.string S0, .string S1, .bool S2]] ?_ (fun u hu => (HIx.out u).mono fun x u' h => ⟨h.1, hu.trans (h.2.mono hu.size)⟩) ?_
                          · intro u hu
                            go_simp
                            done
                        | refine quiet_v (.agg #[.int .u8 xk, .string xy, .string xv, .int .u32 xb, .int .u16 xd, .string xa]) ?_ ?_
                          · intro u hu
                            obtain ⟨e0, e1, e2, e3, e4, e5⟩ := (B1.later hu).six
                            simp only [Nat.zero_add] at e1 e2 e3 e4 e5
                            dsimp only at e0 e1 e2 e3 e4 e5
                            go_simp
                            done
                        | refine quiet_v (.agg #[.int .u8 md, .string mk, .string ml, .int .u32 mb, .int .u16 mp, .string ma]) ?_ ?_
                          · intro u hu
                            obtain ⟨e0, e1, e2, e3, e4, e5⟩ := (M3.later hu).six
                            simp only [Nat.zero_add] at e1 e2 e3 e4 e5
                            dsimp only at e0 e1 e2 e3 e4 e5
                            go_simp
                            done
                        | refine quiet_v ?_ ?_ ?_
                          rotate_left
                          · intro u hu
                            go_simp
                            with_reducible rfl
                      go_simp
                      go_big_quiet_on
                refine wpQuiet_nil (fun u hu => ?_)
                replace Q2 := Q2.later hu
                replace B1 := B1.later hu
                replace r2 := row_later r2 hu
                replace r3 := row_later r3 hu
                replace r4 := row_later r4 hu
                have hsu := hu.size
                replace hb3 := hb3.trans (hu.mono (by omega))
                clear hu
                obtain ⟨b5, d5, t5, rfl⟩ := row_slice r4
                obtain ⟨p0, p1, p2, p3, p4⟩ := Q2.cells
                obtain ⟨e0, e1, e2, e3, e4, e5⟩ := B1.six
                simp only [Nat.zero_add] at e1 e2 e3 e4 e5
                dsimp only at e0 e1 e2 e3 e4 e5
                have hC : ∀ j z, (M.cells ⟨xk, xy, xv, xb, xd, xa⟩)[j]? = some z → (u.alloc (.cells #[.int .u8 xk, .string xy, .string xv, .int .u32 xb, .int .u16 xd, .string xa] 48)).cell? ⟨u.heap.size, j, none⟩ = some z := fun j z hz => by
                  have := (MBox.new u ⟨xk, xy, xv, xb, xd, xa⟩).news j z hz
                  rw [add_plain, Nat.zero_add] at this
                  exact this
                have bx := below_box u (.cells #[.int .u8 xk, .string xy, .string xv, .int .u32 xb, .int .u16 xd, .string xa] 48)
                have s2 := row_later r2 bx
                have s3 := row_later r3 bx
                have s4 := row_later r4 bx
                have Q3 := Q2.later bx
                have hb4 := hb3.trans (bx.mono (by omega))
                have hQ2 := Q2.lt
                go_wp2_with (first | (at_builtin; refine appOne M.cells 6 64 25 48 _ (by omega) (fun _ => rfl) Try.underlying25 info48 rfl (by omega) one_cell rfl _ _ rfl (k4 + 1) _ (KC q) rfl s4 ⟨xk, xy, xv, xb, xd, xa⟩ u.heap.size rfl hC (by omega) (by simp; omega) ?_; intro v' w12 h1 h2; obtain ⟨g6, n6, q6, rfl⟩ := row_slice h1; have Q7 := Q3.kept h2 (row_ge s4 (Nat.lt_succ_self k4)); have u2 := row_kept s2 s4 (by decide) h2; have u3 := row_kept s3 s4 (by decide) h2; have hb7 := hb4.grown h2 (by simp; omega) (fun k hk => by have := (World.ownsRow.lt s4 k hk).1; omega); clear p0 p1 p2 p3 p4 e0 e1 e2 e3 e4 e5 Q3 Q2 r2 r3 r4 s2 s3 s4 hb3 hb4 h2 hC bx B1; obtain ⟨p0, p1, p2, p3, p4⟩ := Q7.cells; have f4 := Q7.free 4) | fail)
                go_roundw
                case rel => exact ⟨q + 1, _, by omega, by go_num, Q7.put4 _, row_set u2 (Nat.lt_succ_self k4), row_set u3 (Nat.lt_succ_self k4), by rw [HKz.out]; exact row_set h1 (Nat.lt_succ_self k4), hb7.setCell (p := ⟨k4, 4, none⟩) (Nat.le_refl _) _⟩
                case measure => simp [intOf]; omega
            · obtain rfl : q = n4 := by omega
              have P3 := P2.below hb (by omega)
              obtain ⟨p0, p1, p2, p3, p4⟩ := Q1.cells
              obtain ⟨z0, z1, z2, z3, z4⟩ := P3.cells
              have f := P3.free
              have f0 := f 0
              have f1 := f 1
              have f2 := f 2
              have f3 := f 3
              have f4 := f 4
              clear f
              obtain ⟨b2, d2, t2, rfl⟩ := row_slice ho2
              obtain ⟨b3, d3, t3, rfl⟩ := row_slice ho3
              obtain ⟨b5, d5, t5, rfl⟩ := row_slice ho4
              have hb5 := below_five hbw (show k0 ≤ k1 by omega) (.bool false) (.slice none 0 0) (.slice b2 d2 t2) (.slice b3 d3 t3) (.slice b5 d5 t5)
              have v2 := row_mono (row_five ho2 (show k1 < k4 + 1 by omega) (y0 := .bool false) (y1 := .slice none 0 0) (y2 := .slice b2 d2 t2) (y3 := .slice b3 d3 t3) (y4 := .slice b5 d5 t5)) (show k0 + 1 ≤ k4 + 1 by omega)
              have v3 := row_mono (row_five ho3 (show k1 < k4 + 1 by omega) (y0 := .bool false) (y1 := .slice none 0 0) (y2 := .slice b2 d2 t2) (y3 := .slice b3 d3 t3) (y4 := .slice b5 d5 t5)) (show k0 + 1 ≤ k4 + 1 by omega)
              have v4 := row_mono (row_five ho4 (show k1 < k4 + 1 by omega) (y0 := .bool false) (y1 := .slice none 0 0) (y2 := .slice b2 d2 t2) (y3 := .slice b3 d3 t3) (y4 := .slice b5 d5 t5)) (show k0 + 1 ≤ k4 + 1 by omega)
              go_wp2_with fail
              refine bodyPost_ret (v := .tuple #[.agg #[.bool false, .slice none 0 0, .slice b2 d2 t2, .slice b3 d3 t3, .slice b5 d5 t5], .int .i64 0]) (by simp [results, Try.results9, go_sem, z0, z1, z2, z3, z4]) rfl ⟨⟨_, _, _, rfl, ?_⟩, ?_⟩
              · rw [HPF.out, HQ0.out]
                exact ⟨row_nil _ _ _ _, v2, v3, v4⟩
              · rw [HQ0.out]; exact hb5
end Go.Proofs.Ytmnngfbcgpholaa.Key

namespace Go.Proofs.Ytmnngfbcgpholaa.Key
open Go.RowKit Draw
open Go.Op (bytesLess)
set_option linter.unusedVariables false
set_option linter.unusedSimpArgs false

set_option maxRecDepth 100000 in
set_option maxHeartbeats 4000000 in
theorem pastePlaces3 (n : Nd) (p : Pl) (z : Int) (w : World) (hi : n.In) (h : Lies w n p) (hroom : n.bf.length ≤ p.c4) :
    Calls Try.prog 3 #[nv n p, .int .i64 z] w fun x w' => x = .returned (.bool true) ∧ Below w.heap.size w w' := by
  have hb0 := below_box w (.cells #[.bool n.leaf, .slice p.a1 n.ps.length p.c1, .slice p.a2 n.pv.length p.c2, .slice p.a3 n.ks.length p.c3, .slice p.a4 n.bf.length p.c4] 27)
  have A0 := NBox.new w (.bool n.leaf) (.slice p.a1 n.ps.length p.c1) (.slice p.a2 n.pv.length p.c2) (.slice p.a3 n.ks.length p.c3) (.slice p.a4 n.bf.length p.c4)
  have HG := hid (great7 n p _ hi.long (h.later hb0))
  by_cases hg : greatN n = true
  · rw [hg] at HG
    clear h hi hg hroom
    obtain ⟨lB, ps, pv, ks, bf⟩ := n
    obtain ⟨a1, c1, a2, c2, a3, c3, a4, c4⟩ := p
    dsimp only [nv] at *
    obtain ⟨z0, z1, z2, z3, z4⟩ := A0.cells
    go_enter Try.func3, Try.ntmps3
    go_wp2_with fail
    refine HG.out.mono ?_
    rintro x w1 ⟨rfl, hb1⟩
    clear z0 z1 z2 z3 z4 HG
    replace hb1 := hb0.trans (hb1.mono hb0.size)
    clear A0 hb0
    go_wp2_with fail
    refine (awake7 _).mono ?_
    rintro x w2 ⟨rfl, hb2⟩
    go_wp2_with fail
    go_ret
    exact ⟨rfl, hb1.trans (hb2.mono hb1.size)⟩
  · rw [Bool.not_eq_true] at hg
    rw [hg] at HG
    have hs := small_of hg hi
    obtain ⟨F, hF⟩ : ∃ F, firstI n.bf = F := ⟨_, rfl⟩
    have HF := hid (fun (wr : World) (hb : Below w.heap.size w wr) => first12 n p wr (by have := hs.few.l4; omega) (h.later hb))
    have HF2 := hid (fun (wr : World) (hb : Below w.heap.size w wr) => first11 n p wr (by have := hs.few.l4; omega) (h.later hb))
    rw [hF] at HF HF2
    have HP := hid (fun (wr : World) (hb : Below w.heap.size w wr) => (paste8 n p z wr hs.few (h.later hb) hroom hs.kb).mono fun x w' (hx : PasteSay wr w' x n z ∧ Below wr.heap.size wr w') => And.intro hx.1.place hx.2)
    have HQ := hid (fun (wr : World) (hb : Below w.heap.size w wr) => (paste9 n p z wr hs.few (h.later hb) (fun m hm => (hs.db m hm).1) hs.kb).mono fun x w' (hx : PasteSay wr w' x n z ∧ Below wr.heap.size wr w') => And.intro hx.1.place hx.2)
    have HS := hid (fun (u : World) (q q' : Pl) (hl : Lies u (pasteA n z) q) (hl' : Lies u (pasteA n z) q') => (same10 (pasteA n z) (pasteA n z) q q' u (paste_small hs).few (paste_small hs).few hl hl').mono fun x w' (hx : Tells x (pasteA n z = pasteA n z) ∧ Below u.heap.size u w') => (show x = .returned (.bool true) ∧ Below u.heap.size u w' from by
      obtain ⟨⟨b, hx, hb⟩, hbw⟩ := hx
      have : b = true := hb.2 rfl
      exact ⟨by rw [hx, this], hbw⟩))
    obtain ⟨E, hE⟩ : ∃ E, pasteE n z = E := ⟨_, rfl⟩
    rw [hE] at HP HQ
    have hXl := paste_leaf n z
    generalize pasteA n z = X at *
    clear hg hi hE hF hs h hroom
    unfold nv at *
    rw [hXl] at HS
    clear hXl
    generalize X.ps.length = m1 at *
    generalize X.pv.length = m2 at *
    generalize X.ks.length = m3 at *
    generalize X.bf.length = m4 at *
    obtain ⟨lB, ps, pv, ks, bf⟩ := n
    obtain ⟨a1, c1, a2, c2, a3, c3, a4, c4⟩ := p
    dsimp only at *
    generalize ps.length = n1 at *
    generalize pv.length = n2 at *
    generalize ks.length = n3 at *
    generalize bf.length = n4 at *
    obtain ⟨z0, z1, z2, z3, z4⟩ := A0.cells
    go_enter Try.func3, Try.ntmps3
    go_wp2_with fail
    refine HG.out.mono ?_
    rintro x w1 ⟨rfl, hb1⟩
    have A1 := A0.later hb1
    clear z0 z1 z2 z3 z4 HG
    replace hb1 := hb0.trans (hb1.mono hb0.size)
    clear A0 hb0
    obtain ⟨z0, z1, z2, z3, z4⟩ := A1.cells
    have hA1 := A1.lt
    go_wp2_with fail
    refine (HP.out _ hb1).mono ?_
    clear HP z0 z1 z2 z3 z4
    rintro x w2 ⟨⟨q, rfl, o2⟩, hb2⟩
    have X2 := NBox.new w2 (.bool false) (.slice q.a1 m1 q.c1) (.slice q.a2 m2 q.c2) (.slice q.a3 m3 q.c3) (.slice q.a4 m4 q.c4)
    have bx := below_box w2 (.cells #[.bool false, .slice q.a1 m1 q.c1, .slice q.a2 m2 q.c2, .slice q.a3 m3 q.c3, .slice q.a4 m4 q.c4] 27)
    have A2 := (A1.later hb2).later bx
    have L2 := o2.lies.later bx
    have hs2 := hb2.size
    replace hb2 := (hb1.trans (hb2.mono hb1.size)).trans (bx.mono (by have := hb1.size; omega))
    have hk2 : w.heap.size < w2.heap.size := by omega
    clear A1 hb1 o2 bx
    go_upto_region 4 with fail
    generalize w2.heap.size = k2 at *
    generalize w2.alloc (.cells #[.bool false, .slice q.a1 m1 q.c1, .slice q.a2 m2 q.c2, .slice q.a3 m3 q.c3, .slice q.a4 m4 q.c4] 27) = w3 at *
    obtain ⟨z0, z1, z2, z3, z4⟩ := A2.cells
    have hA2 := A2.lt
    have hX2 := X2.lt
    go_wp2_with fail
    refine (HQ.out _ hb2).mono ?_
    clear HQ z0 z1 z2 z3 z4
    rintro x w4 ⟨⟨q', rfl, o4⟩, hb4⟩
    have X4 := NBox.new w4 (.bool false) (.slice q'.a1 m1 q'.c1) (.slice q'.a2 m2 q'.c2) (.slice q'.a3 m3 q'.c3) (.slice q'.a4 m4 q'.c4)
    have bx := below_box w4 (.cells #[.bool false, .slice q'.a1 m1 q'.c1, .slice q'.a2 m2 q'.c2, .slice q'.a3 m3 q'.c3, .slice q'.a4 m4 q'.c4] 27)
    have A4 := (A2.later hb4).later bx
    have Y4 := (X2.later hb4).later bx
    have L4 := (L2.later hb4).later bx
    have L4' := o4.lies.later bx
    have hs4 := hb4.size
    replace hb4 := (hb2.trans (hb4.mono hb2.size)).trans (bx.mono (by have := hb2.size; omega))
    have hk4 : k2 < w4.heap.size := by omega
    clear A2 X2 L2 hb2 o4 bx
    go_upto_region 5 with fail
    generalize w4.heap.size = k4 at *
    generalize w4.alloc (.cells #[.bool false, .slice q'.a1 m1 q'.c1, .slice q'.a2 m2 q'.c2, .slice q'.a3 m3 q'.c3, .slice q'.a4 m4 q'.c4] 27) = w5 at *
    have hs5 := hb4.size
    have HS5 := hid (fun u (hu : Below w5.heap.size w5 u) => HS.out u q q' (L4.later hu) (L4'.later hu))
    have HF5 := hid (fun u (hu : Below w5.heap.size w5 u) => HF.out u (hb4.trans (hu.mono hs5)))
    have HG5 := hid (fun u (hu : Below w5.heap.size w5 u) => HF2.out u (hb4.trans (hu.mono hs5)))
    clear HS HF HF2 L4 L4'
    refine wp_region_quiet (C := fun u => Below w5.heap.size w5 u) (by kernel_rfl) (by kernel_rfl) (Below.refl _ w5).drew ?_
    change wpQuiet _ _ _ _ (_ :: _) _
    repeat
      first
        | go_big_quiet_skip
        | go_big_quiet_want
          first
            | refine quiet_c (.bool true) 10 #[.agg #[.bool false, .slice q.a1 m1 q.c1, .slice q.a2 m2 q.c2, .slice q.a3 m3 q.c3, .slice q.a4 m4 q.c4], .agg #[.bool false, .slice q'.a1 m1 q'.c1, .slice q'.a2 m2 q'.c2, .slice q'.a3 m3 q'.c3, .slice q'.a4 m4 q'.c4]] ?_ (fun u hu => (HS5.out u hu).mono fun x u' h => ⟨h.1, hu.trans (h.2.mono hu.size)⟩) ?_
              · intro u hu
                go_simp
                done
            | refine quiet_c (.int .i64 F) 11 #[.agg #[.bool lB, .slice a1 n1 c1, .slice a2 n2 c2, .slice a3 n3 c3, .slice a4 n4 c4]] ?_ (fun u hu => (HG5.out u hu).mono fun x u' h => ⟨h.1, hu.trans (h.2.mono hu.size)⟩) ?_
              · intro u hu
                go_simp
                done
            | refine quiet_c (.int .i64 F) 12 #[.agg #[.bool lB, .slice a1 n1 c1, .slice a2 n2 c2, .slice a3 n3 c3, .slice a4 n4 c4]] ?_ (fun u hu => (HF5.out u hu).mono fun x u' h => ⟨h.1, hu.trans (h.2.mono hu.size)⟩) ?_
              · intro u hu
                go_simp
                done
            | refine quiet_c (.bool true) 7 #[] ?_ (fun u hu => (awake7 u).mono fun x u' h => ⟨h.1, hu.trans (h.2.mono hu.size)⟩) ?_
              · intro u hu
                go_simp
                done
            | refine quiet_v ?_ ?_ ?_
              rotate_left
              · intro u hu
                obtain ⟨z0, z1, z2, z3, z4⟩ := (A4.later hu).cells
                obtain ⟨y0, y1, y2, y3, y4⟩ := (Y4.later hu).cells
                obtain ⟨x0, x1, x2, x3, x4⟩ := (X4.later hu).cells
                go_simp
                with_reducible rfl
          go_simp
          go_big_quiet_on
    refine wpQuiet_nil (fun u hu => ?_)
    have hb6 := hb4.trans (hu.mono hs5)
    go_wp2_with fail
    go_ret
    exact ⟨rfl, hb6⟩
end Go.Proofs.Ytmnngfbcgpholaa.Key

namespace Go.Proofs.Ytmnngfbcgpholaa.pastePlaces
open Go.ChangeShapes Go.WideShapes Go.ChangeAt Go.RowKit Go.Joins
open Go.Op (bytesLess)
set_option linter.unusedVariables false

theorem own : ownKnob Try.prog.godebug = none := by kernel_rfl
theorem laidOut : laidOutB Try.prog = true := by kernel_rfl

set_option maxRecDepth 100000 in
set_option maxHeartbeats 4000000 in
theorem walk (n0 : Key.Nd) (p0 : Key.Pl) (n1 : Int) (w : World) (wl0 : Key.Lies w n0 p0) (wn0 : Key.Nd.In n0) (wp0 : Key.Pl.Ok p0 ∧ n0.bf.length ≤ p0.c4) (wi1 : (Lit.int .i64 n1).wf = true) :
    Calls Try.prog 3 #[Key.nv n0 p0, .int .i64 n1] w fun e w' => e = .returned (.bool true) ∧ Below w.heap.size w w' := by
  exact Key.pastePlaces3 n0 p0 n1 w wn0 wl0 wp0.2

set_option maxRecDepth 100000 in
theorem lifted (os : Os) (started : os.Started) (H : Type) (enc : TypeId × Value → H) :
    ReturnsInHanded {} Try.checked os 3 .any (Rows.pastePlacesSpec.pre6 enc Try.prog Try.f3 Rows.pastePlacesRow.domain false) (Rows.pastePlacesSpec.post enc Try.prog Try.f3 false true false false) := by
  refine returnsInHanded_of_change (C := Try.checked) own started (by kernel_rfl) Try.func3
    (ChangeSpec.witness6 (enc := enc) (C := Try.checked) false ⟨#[], #[.agg #[.bool false, .slice none 0 0, .slice none 0 0, .slice none 0 0, .slice none 0 0], .int .i64 0], []⟩ 8 (by kernel_rfl) (by kernel_rfl) (by kernel_rfl) (by kernel_rfl)) ?_
  intro W base args ds gs before hval0 hW hcnd _
  have hval : ∀ (j : Nat) t v, Try.f3.params[j]? = some t → args[j]? = some v → Value.okWide Try.prog W .any base t v := hval0
  have hW' := hW
  obtain ⟨p, q, hA0, hV, rfl, hfz, hnd⟩ := hW
  have hA : DataW.TrodAll enc Try.prog W 0 (fun _ => true) true Try.f3.params.toList args.toList ds p := hA0
  rw [Try.params3] at hA hval
  obtain ⟨v0, vs0, d0, ds0, pp0, qq0, hargs, rfl, rfl, g0, r0⟩ := trodAll_cons hA
  obtain ⟨v1, vs1, d1, ds1, pp1, qq1, rfl, rfl, rfl, g1, r1⟩ := trodAll_cons r0
  obtain ⟨rfl, rfl, rfl⟩ := trodAll_nil r1
  obtain rfl : args = #[v0, v1] := by cases args; simp_all
  obtain ⟨rfl, rfl⟩ := trodVars_none hV
  have k0 := g0
  have lt0 : ∀ x ∈ pp0, x.block < W.heap.size := by obtain ⟨m, hm⟩ := k0; exact DataW.trod_lt m _ _ _ hm
  obtain ⟨n0, p0, rfl, wl0, wn0, wp0⟩ := Key.opened_node (hval 0 27 v0 rfl rfl) g0
  have k1 := g1
  have lt1 : ∀ x ∈ pp1, x.block < W.heap.size := by obtain ⟨m, hm⟩ := k1; exact DataW.trod_lt m _ _ _ hm
  obtain ⟨n1, rfl, rfl, rfl, wi1⟩ := open_int Try.underlying3 (hval 1 3 v1 rfl rfl) g1
  clear hA0 hval0
  refine (walk n0 p0 n1 W wl0 wn0 wp0 wi1).mono fun e W' ⟨he, bel⟩ => ?_
  subst he
  exact ⟨_, rfl, _, _, _, [], _, [], hW', trodAll_mk1 (shut_bool Try.underlying4 _), (trodAll_cons_mk (Below.trod laidOut (by kernel_rfl) (of_decide_eq_true (by kernel_rfl)) k0 bel lt0) (trodAll_cons_mk (Below.trod laidOut (by kernel_rfl) (of_decide_eq_true (by kernel_rfl)) k1 bel lt1) trodAll_mk0)), rfl, bel.frame _, fun h => by cases h⟩

theorem over : Rows.pastePlacesRow.holds Try.pinned (OpenSpec.ofChange Rows.pastePlacesSpec) :=
  OpenClaim.holds_of_wide 3 Try.f3 rfl rfl rfl rfl rfl rfl rfl ⟨rfl, rfl, rfl, rfl, rfl⟩ rfl rfl rfl rfl rfl (by kernel_rfl) Try.func3 (by kernel_rfl)
    (of_decide_eq_true (by kernel_rfl)) (by unfold Func.isWrapper; first | (rw [if_pos (by decide +kernel)]; kernel_rfl) | (rw [if_neg (by decide +kernel)]; exact ⟨rfl, rfl⟩))
    (fun os started H enc _ => lifted os started H enc)

/-- the statement -/
theorem proved : Rows.PastePlacesSaid := over
#print axioms proved
end Go.Proofs.Ytmnngfbcgpholaa.pastePlaces
