/-
  Contracts of Shift and of Range (a kid's), the program's.
-/
import Derived.Test.YtmnngfbcgpholaaTp
import Derived.Test.YtmnngfbcgpholaaKidRef
namespace Go.Proofs.Ytmnngfbcgpholaa.Key
open Go.RowKit
open Go.Op (bytesLess)

set_option maxRecDepth 100000 in
set_option maxHeartbeats 1000000 in
/-- Range, the program's: of a kid of a node whose number of pivots fits -/
theorem range50 (n : Nd) (p : Pl) (j : Nat) (w : World) (hl : n.pv.length ≤ 1000) (hlen : n.pv.length + 1 = n.ks.length) (hj : j < n.ks.length) (h : Lies w n p) :
    Calls Try.prog 42 #[nv n p, .int .i64 j] w fun x w' => x = .returned (av (loOf n.pv j) (hiOf n.pv j) (endOf n.pv j)) ∧ Below w.heap.size w w' := by
  have h2 := h.h2
  clear h
  obtain ⟨lf, ps, pv, ks, bf⟩ := n
  obtain ⟨a1, c1, a2, c2, a3, c3, a4, c4⟩ := p
  dsimp only [nv] at *
  obtain ⟨lo, hlo⟩ : ∃ x, loOf pv j = x := ⟨_, rfl⟩
  obtain ⟨hi, hhi⟩ : ∃ x, hiOf pv j = x := ⟨_, rfl⟩
  obtain ⟨en, hen⟩ : ∃ x, endOf pv j = x := ⟨_, rfl⟩
  rw [hlo, hhi, hen]
  unfold loOf at hlo
  unfold hiOf at hhi
  unfold endOf at hen
  rw [if_pos (by omega)] at hlo
  have e3 : ¬ (j : Int) < 0 := by omega
  have e4 : ¬ (ks.length : Int) ≤ (j : Int) := by omega
  have e4' : ks.length ≠ 0 := by omega
  have hl3 : ks.length ≤ 1001 := by omega
  have e5 : ¬ (pv.length : Int) < (j : Int) := by omega
  cases j with
  | zero =>
    rw [show ahead pv 0 = ⟨#[]⟩ from rfl] at hlo
    subst hlo
    by_cases e : 0 < pv.length
    · obtain ⟨b, off, rfl, d0⟩ := h2.at e
      have hb := World.block_lt_of_cell? w _ d0
      rw [if_pos e, getD_at e] at hhi
      rw [decide_eq_true e] at hen
      have e1 : (0 : Int) < (ks.length : Int) - 1 := by omega
      subst hen hhi
      simp only [Nat.add_zero] at d0
      generalize pv[0] = s at *
      clear h2
      have hb' : b < w.heap.size + 1 := Nat.lt_succ_of_lt hb
      have hb'' : b < w.heap.size + 1 + 1 := Nat.lt_succ_of_lt hb'
      dsimp only at hb hb' hb''
      generalize ps.length = n1 at *
      generalize pv.length = n2 at *
      generalize ks.length = n3 at *
      generalize bf.length = n4 at *
      clear hlen hj
      go_enter Try.func42, Try.ntmps42
      go_wp2_with fail
      exact bodyPost_ret (v := .agg #[.string ⟨#[]⟩, .string s, .bool true]) (by simp [results, Try.results42, go_sem]) rfl ⟨rfl, below_three _ _ _ _⟩
    · have e1 : ks.length = 1 := by omega
      have e0 : pv.length = 0 := by omega
      rw [if_neg e] at hhi
      rw [decide_eq_false e] at hen
      subst hen hhi
      rw [e1, e0]
      clear h2 e1 e0 e e4 e5
      generalize ps.length = n1 at *
      generalize bf.length = n4 at *
      clear hlen hj
      go_enter Try.func42, Try.ntmps42
      go_wp2_with fail
      exact bodyPost_ret (v := .agg #[.string ⟨#[]⟩, .string ⟨#[]⟩, .bool false]) (by simp [results, Try.results42, go_sem]) rfl ⟨rfl, below_three _ _ _ _⟩
  | succ i =>
    have e1 : i < pv.length := by omega
    rw [ahead_at e1] at hlo
    rw [show ((i + 1 : Nat) : Int) = (i : Int) + 1 from rfl] at *
    have e1i : (i : Int) < (pv.length : Int) := by omega
    by_cases e2 : i + 1 < pv.length
    · obtain ⟨b, off, rfl, d0, d1⟩ := h2.at2 e1 e2
      have hb := World.block_lt_of_cell? w _ d0
      rw [if_pos e2, getD_at e2] at hhi
      rw [decide_eq_true e2] at hen
      subst hen hhi hlo
      have e2i : ((i : Int) + 1) < (pv.length : Int) := by omega
      have e6 : ((i : Int) + 1) < (ks.length : Int) - 1 := by omega
      generalize pv[i] = s at *
      generalize pv[i + 1] = s' at *
      clear h2
      have hb' : b < w.heap.size + 1 := Nat.lt_succ_of_lt hb
      have hb'' : b < w.heap.size + 1 + 1 := Nat.lt_succ_of_lt hb'
      dsimp only at hb hb' hb''
      generalize ps.length = n1 at *
      generalize pv.length = n2 at *
      generalize ks.length = n3 at *
      generalize bf.length = n4 at *
      clear hlen hj
      go_enter Try.func42, Try.ntmps42
      go_wp2_with fail
      exact bodyPost_ret (v := .agg #[.string s, .string s', .bool true]) (by simp [results, Try.results42, go_sem]) rfl ⟨rfl, below_three _ _ _ _⟩
    · obtain ⟨b, off, rfl, d0⟩ := h2.at e1
      have hb := World.block_lt_of_cell? w _ d0
      rw [if_neg e2] at hhi
      rw [decide_eq_false e2] at hen
      subst hen hhi hlo
      have e2i : ¬ ((i : Int) + 1) < (pv.length : Int) := by omega
      have e6 : ¬ ((i : Int) + 1) < (ks.length : Int) - 1 := by omega
      generalize pv[i] = s at *
      clear h2
      have hb' : b < w.heap.size + 1 := Nat.lt_succ_of_lt hb
      have hb'' : b < w.heap.size + 1 + 1 := Nat.lt_succ_of_lt hb'
      dsimp only at hb hb' hb''
      generalize ps.length = n1 at *
      generalize pv.length = n2 at *
      generalize ks.length = n3 at *
      generalize bf.length = n4 at *
      clear hlen hj
      go_enter Try.func42, Try.ntmps42
      go_wp2_with fail
      exact bodyPost_ret (v := .agg #[.string s, .string ⟨#[]⟩, .bool false]) (by simp [results, Try.results42, go_sem]) rfl ⟨rfl, below_three _ _ _ _⟩
end Go.Proofs.Ytmnngfbcgpholaa.Key
