/-
  Contracts of Cut, joined: the document's, and both for every two ranges.
-/
import Derived.Test.YtmnngfbcgpholaaLCut
namespace Go.Proofs.Ytmnngfbcgpholaa.Key
open Go.RowKit
open Go.Op (bytesLess)

theorem boxes4 {w w' : World} {o0 o1 : Obj} {v0 v1 v2 x0 x1 x2 : Value}
    (h : Below ((((w.alloc o0).alloc o1).alloc (.cells #[v0, v1, v2] 55)).alloc (.cells #[x0, x1, x2] 55)).heap.size
      ((((w.alloc o0).alloc o1).alloc (.cells #[v0, v1, v2] 55)).alloc (.cells #[x0, x1, x2] 55)) w') :
    Box w' (w.heap.size + 1 + 1) v0 v1 v2 ∧ Box w' (w.heap.size + 1 + 1 + 1) x0 x1 x2 ∧ Below w.heap.size w w' := by
  have q1 := Box.new ((w.alloc o0).alloc o1) v0 v1 v2
  have q2 := Box.new (((w.alloc o0).alloc o1).alloc (.cells #[v0, v1, v2] 55)) x0 x1 x2
  have q1' := (q1.alloc (.cells #[x0, x1, x2] 55)).later h
  have q2' := q2.later h
  have s1 : ((w.alloc o0).alloc o1).heap.size = w.heap.size + 1 + 1 := by simp
  have s2 : (((w.alloc o0).alloc o1).alloc (.cells #[v0, v1, v2] 55)).heap.size = w.heap.size + 1 + 1 + 1 := by simp
  rw [s1] at q1'
  rw [s2] at q2'
  refine ⟨q1', q2', ?_⟩
  have hb : Below w.heap.size w ((((w.alloc o0).alloc o1).alloc (.cells #[v0, v1, v2] 55)).alloc (.cells #[x0, x1, x2] 55)) :=
    (((((Below.refl _ _).alloc (Nat.le_refl _) _).alloc (by simp) _).alloc (by simp; omega) _).alloc (by simp; omega) _)
  exact hb.trans (h.mono hb.size)

/-- what Cut gathers -/
def cutL (lo lo' : ByteArray) : ByteArray := if bytesLess lo.toList lo'.toList then lo' else lo
def cutH (hi hi' : ByteArray) (e e' : Bool) : ByteArray := if e then (if e' then (if bytesLess hi'.toList hi.toList then hi' else hi) else hi) else if e' then hi' else ⟨#[]⟩
def cutV (lo hi : ByteArray) (e : Bool) (lo' hi' : ByteArray) (e' : Bool) : Value := endCut (cutL lo lo') (cutH hi hi' e e') (e || e') (emptyR (rg (cutL lo lo') (cutH hi hi' e e') (e || e')))
theorem raw_rg (lo hi lo' hi' : ByteArray) (e e' : Bool) : rg (cutL lo lo') (cutH hi hi' e e') (e || e') = rawCut (rg lo hi e) (rg lo' hi' e') := by
  unfold cutL cutH rawCut maxL minL rg
  simp only [less_str]
  cases e <;> cases e' <;> cases bytesLess lo.data.toList lo'.data.toList <;> cases bytesLess hi'.data.toList hi.data.toList <;> rfl
theorem cutV_eq (lo hi lo' hi' : ByteArray) (e e' : Bool) : cutV lo hi e lo' hi' e' = rv (cutR (rg lo hi e) (rg lo' hi' e')) := by
  unfold cutV cutR
  rw [← raw_rg]
  unfold endCut
  cases emptyR (rg (cutL lo lo') (cutH hi hi' e e') (e || e'))
  · exact (rv_rg _ _ _).symm
  · rfl
/-- Cut, the program's -/
theorem cut23 (lo hi : ByteArray) (e : Bool) (lo' hi' : ByteArray) (e' : Bool) (w : World) :
    Calls Try.prog 35 #[av lo hi e, av lo' hi' e'] w fun x w' => x = .returned (rv (cutR (rg lo hi e) (rg lo' hi' e'))) ∧ Below w.heap.size w w' := by
  rw [← cutV_eq]
  cases e <;> cases e'
  · exact cut23_ff lo hi lo' hi' _ w rfl
  · exact cut23_ft lo hi lo' hi' _ w rfl
  · exact cut23_tf lo hi lo' hi' _ w rfl
  · cases h : bytesLess hi'.toList hi.toList
    · have e : cutH hi hi' true true = hi := by simp [cutH, h]
      unfold cutV
      rw [e]
      exact cut23_t0 lo hi lo' hi' _ w rfl h
    · have e : cutH hi hi' true true = hi' := by simp [cutH, h]
      unfold cutV
      rw [e]
      exact cut23_t1 lo hi lo' hi' _ w rfl h
theorem three_ways (lo lo' : ByteArray) : (bytesLess lo'.toList lo.toList = false ∧ (lo'.toList == lo.toList) = false ∧ cutL lo lo' = lo') ∨ (bytesLess lo'.toList lo.toList = true ∧ (lo'.toList == lo.toList) = false ∧ cutL lo lo' = lo) ∨ (bytesLess lo'.toList lo.toList = false ∧ (lo'.toList == lo.toList) = true ∧ cutL lo lo' = lo) := by
  unfold cutL
  simp only [Lib.toList_data]
  cases h1 : bytesLess lo'.data.toList lo.data.toList
  · cases h2 : (lo'.data.toList == lo.data.toList)
    · refine .inl ⟨rfl, rfl, ?_⟩
      cases h3 : bytesLess lo.data.toList lo'.data.toList
      · have := less_same h1 h3
        rw [this] at h2
        simp at h2
      · simp
    · refine .inr (.inr ⟨rfl, rfl, ?_⟩)
      have := eq_of_beq h2
      rw [this, less_self]
      rfl
  · refine .inr (.inl ⟨rfl, ?_, ?_⟩)
    · rw [Bool.eq_false_iff]
      intro h
      rw [eq_of_beq h, less_self] at h1
      cases h1
    · rw [less_asymm h1]
      rfl
end Go.Proofs.Ytmnngfbcgpholaa.Key
