/-
  What is not too great is small.
-/
import Derived.Test.YtmnngfbcgpholaaGreat
import Derived.Test.YtmnngfbcgpholaaOp
import Derived.Test.YtmnngfbcgpholaaStep
namespace Go.Proofs.Ytmnngfbcgpholaa.Key
open Go.RowKit

theorem any_no {α : Type} {l : List α} {p : α → Bool} (h : l.any p = false) : ∀ x ∈ l, p x = false := by
  intro x hx
  cases hp : p x
  · rfl
  · rw [List.any_eq_true.2 ⟨x, hx, hp⟩] at h; cases h
theorem wf16 {z : Int} (h : (Lit.int .u16 z).wf = true) : 0 ≤ z ∧ z ≤ 65535 := by
  simp only [Lit.wf, Bool.and_eq_true, decide_eq_true_eq] at h
  have h2 : z ≤ IntKind.u16.max := h.2
  have h1 : IntKind.u16.min ≤ z := h.1
  have e1 : IntKind.u16.min = 0 := rfl
  have e2 : IntKind.u16.max = 65535 := by decide
  omega
theorem small_of {n : Nd} (h : greatN n = false) (hi : n.In) : Small n := by
  unfold greatN greatPL greatL at h
  simp only [Bool.or_eq_false_iff, decide_eq_false_iff_not] at h
  obtain ⟨h2, h3, ⟨h1, _⟩, ⟨h4, hM⟩, _, hE⟩ := h
  have hM := any_no hM
  have hE := any_no hE
  have hm : ∀ m ∈ n.bf, m.key.size ≤ 100 ∧ m.add.size ≤ 100 := fun m hm => by
    have := hM m hm
    unfold greatM at this
    simp only [Bool.or_eq_false_iff, decide_eq_false_iff_not] at this
    omega
  have he : ∀ e ∈ n.ks, e.add.size ≤ 100 := fun e h => by
    have := hE e h
    unfold greatE at this
    simp only [Bool.or_eq_false_iff, decide_eq_false_iff_not] at this
    omega
  exact ⟨⟨by omega, by omega, by omega, by omega⟩, fun m h => by have := (hm m h).1; omega, fun m h => by have := (hm m h).2; omega, fun e h => by have := he e h; omega, fun m h => wf16 (hi.bf m h).deep, fun e h => wf16 (hi.ks e h).deep⟩
theorem Nd.In.long {n : Nd} (h : n.In) : Long n := ⟨h.l1, h.l2, h.l3, h.l4⟩
end Go.Proofs.Ytmnngfbcgpholaa.Key
