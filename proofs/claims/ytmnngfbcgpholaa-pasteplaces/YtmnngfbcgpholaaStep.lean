/-
  Contract of Step, the program's.
-/
import Derived.Test.YtmnngfbcgpholaaMayN
import Derived.Test.YtmnngfbcgpholaaBy
import Derived.Test.YtmnngfbcgpholaaKid
import Derived.Test.YtmnngfbcgpholaaMs
import Derived.Lib.SmallJoins
namespace Go.Proofs.Ytmnngfbcgpholaa.Key
open Go.RowKit Draw
open Go.Op (bytesLess)

theorem WBox.put {w : World} {k : Nat} {v0 v1 v2 v3 v4 : Value} (h : WBox w k v0 v1 v2 v3 v4) (y0 y1 y2 y3 y4 : Value) :
    WBox (((((w.setCell ⟨k, 0, none⟩ y0).setCell ⟨k, 1, none⟩ y1).setCell ⟨k, 2, none⟩ y2).setCell ⟨k, 3, none⟩ y3).setCell ⟨k, 4, none⟩ y4) k y0 y1 y2 y3 y4 :=
  Go.Joins.block_setCell (Go.Joins.block_setCell (Go.Joins.block_setCell (Go.Joins.block_setCell (Go.Joins.block_setCell h y0) y1) y2) y3) y4
theorem NBox.beside {w : World} {k k' : Nat} {v0 v1 v2 v3 v4 : Value} (h : NBox w k v0 v1 v2 v3 v4) (hne : k < k') (y0 y1 y2 y3 y4 : Value) :
    NBox (((((w.setCell ⟨k', 0, none⟩ y0).setCell ⟨k', 1, none⟩ y1).setCell ⟨k', 2, none⟩ y2).setCell ⟨k', 3, none⟩ y3).setCell ⟨k', 4, none⟩ y4) k v0 v1 v2 v3 v4 := by
  unfold NBox
  rw [Below.heap_setCell _ _ _ _ (Nat.ne_of_lt hne), Below.heap_setCell _ _ _ _ (Nat.ne_of_lt hne), Below.heap_setCell _ _ _ _ (Nat.ne_of_lt hne), Below.heap_setCell _ _ _ _ (Nat.ne_of_lt hne), Below.heap_setCell _ _ _ _ (Nat.ne_of_lt hne)]
  exact h
/-- sizes that a call goes through -/
structure Small (n : Nd) : Prop where
  few : Few n
  kb : ∀ m ∈ n.bf, m.key.size ≤ 1000
  ab : ∀ m ∈ n.bf, m.add.size ≤ 1000
  ae : ∀ e ∈ n.ks, e.add.size ≤ 1000
  db : ∀ m ∈ n.bf, 0 ≤ m.deep ∧ m.deep ≤ 65535
  de : ∀ e ∈ n.ks, 0 ≤ e.deep ∧ e.deep ≤ 65535
/-- where a key leads -/
def stepW (n : Nd) (k : List UInt8) : Wy :=
  if mayI n = 0 then
    if n.leaf then pairW n.ps k
    else if 0 ≤ lastI n.bf k then byM (n.bf.getD (lastI n.bf k).toNat M.nil) k
    else byE (n.ks.getD (kidC n.pv k) E.nil) k
  else noWay
theorem may_zero {n : Nd} (h : mayI n = 0) : fineB n = true := by
  unfold mayI at h
  cases hm : manyB n
  · rw [hm] at h
    cases hf : fineB n
    · rw [hf] at h; cases h
    · rfl
  · rw [hm] at h; cases h
theorem may_fork {n : Nd} (h : mayI n = 0) (hl : n.leaf = false) : n.pv.length + 1 = n.ks.length ∧ upTo (pivAt n.pv) n.pv.length = true := by
  have := may_zero h
  unfold fineB forkB at this
  rw [hl] at this
  simp only [Bool.false_eq_true, if_false, Bool.and_eq_true, beq_iff_eq] at this
  exact ⟨this.2.1, this.2.2.1⟩
theorem lastP_lt (l : List M) (k : List UInt8) : ∀ n, lastP l k n < (n : Int) ∧ -1 ≤ lastP l k n
  | 0 => by simp [lastP]
  | n + 1 => by
    have := lastP_lt l k n
    rw [lastP]
    split
    · omega
    · omega
theorem lastI_cases (l : List M) (k : List UInt8) : (∃ i : Nat, lastI l k = i ∧ i < l.length) ∨ lastI l k = -1 := by
  have h := lastP_lt l k l.length
  unfold lastI
  by_cases h0 : lastP l k l.length < 0
  · right; omega
  · left; exact ⟨(lastP l k l.length).toNat, by omega, by omega⟩
end Go.Proofs.Ytmnngfbcgpholaa.Key
