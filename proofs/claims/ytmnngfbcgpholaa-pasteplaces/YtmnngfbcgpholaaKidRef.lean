/-
  Contracts of the document's Range and Kid.
-/
import Derived.Test.YtmnngfbcgpholaaKid
namespace Go.Proofs.Ytmnngfbcgpholaa.Key
open Go.RowKit
open Go.Op (bytesLess)

theorem below_three (w : World) (o0 o1 o2 : Obj) : Below w.heap.size w (((w.alloc o0).alloc o1).alloc o2) := ((below_box w o0).alloc (by simp) _).alloc (by simp; omega) _

set_option maxRecDepth 100000 in
set_option maxHeartbeats 2000000 in
theorem range61 (n : Nd) (p : Pl) (j : Nat) (w : World) (hl : n.pv.length ≤ 1000) (hl3 : n.ks.length ≤ 1000) (hj : j < n.ks.length) (h : Lies w n p) :
    Calls Try.prog 21 #[nv n p, .int .i64 j] w fun x w' => x = .returned (av (loOf n.pv j) (hiOf n.pv j) (endOf n.pv j)) ∧ Below w.heap.size w w' := by
  obtain ⟨_, h2, _, _⟩ := h
  obtain ⟨lf, ps, pv, ks, bf⟩ := n
  obtain ⟨a1, c1, a2, c2, a3, c3, a4, c4⟩ := p
  dsimp only [nv] at *
  have hlo : loOf pv j = if j ≤ pv.length then ahead pv j else ⟨#[]⟩ := rfl
  have hhi : hiOf pv j = if j < pv.length then pv.getD j default else ⟨#[]⟩ := rfl
  have hen : endOf pv j = decide (j < pv.length) := rfl
  have hj3 : ¬ ks.length ≤ j := by omega
  have hj3' : (j : Int) < (ks.length : Int) := by omega
  cases j with
  | zero =>
    rw [if_pos (Nat.zero_le _)] at hlo
    rw [hlo, show ahead pv 0 = ⟨#[]⟩ from rfl, show ((0 : Nat) : Int) = 0 from rfl]
    by_cases e : 0 < pv.length
    · obtain ⟨b, off, rfl, d0⟩ := h2.at e
      have hb := World.block_lt_of_cell? w _ d0
      rw [hhi, if_pos e, hen, decide_eq_true e, getD_at e]
      simp only [Nat.add_zero] at d0
      generalize pv[0] = s at *
      clear hlo hhi hen h2
      have hb' : b < w.heap.size + 1 := Nat.lt_succ_of_lt hb
      have hb'' : b < w.heap.size + 1 + 1 := Nat.lt_succ_of_lt hb'
      have e' : (0 : Int) < (pv.length : Int) := by omega
      generalize ps.length = n1 at *
      generalize pv.length = n2 at *
      generalize ks.length = n3 at *
      generalize bf.length = n4 at *
      dsimp only at hb hb' hb''
      go_enter Try.func21, Try.ntmps21
      go_wp2_with fail
      exact bodyPost_ret (v := .agg #[.string ⟨#[]⟩, .string s, .bool true]) (by simp [results, Try.results21, go_sem]) rfl ⟨rfl, below_three _ _ _ _⟩
    · have e0 : pv.length = 0 := by omega
      rw [hhi, if_neg e, hen, decide_eq_false e]
      rw [e0]
      clear hlo hhi hen h2 e e0
      generalize ps.length = n1 at *
      generalize ks.length = n3 at *
      generalize bf.length = n4 at *
      go_enter Try.func21, Try.ntmps21
      go_wp2_with fail
      exact bodyPost_ret (v := .agg #[.string ⟨#[]⟩, .string ⟨#[]⟩, .bool false]) (by simp [results, Try.results21, go_sem]) rfl ⟨rfl, below_three _ _ _ _⟩
  | succ i =>
    rw [show ((i + 1 : Nat) : Int) = (i : Int) + 1 from rfl] at *
    have hi1 : ¬ ((i : Int) + 1) < 0 := by omega
    by_cases e1 : i < pv.length
    · have e1i : (i : Int) < (pv.length : Int) := by omega
      rw [if_pos (by omega), ahead_at e1] at hlo
      by_cases e2 : i + 1 < pv.length
      · obtain ⟨b, off, rfl, d0, d1⟩ := h2.at2 e1 e2
        have hb := World.block_lt_of_cell? w _ d0
        rw [hlo, hhi, if_pos e2, hen, decide_eq_true e2, getD_at e2]
        have e2i : ((i : Int) + 1) < (pv.length : Int) := by omega
        generalize pv[i] = s at *
        generalize pv[i + 1] = s' at *
        clear hlo hhi hen h2
        have hb' : b < w.heap.size + 1 := Nat.lt_succ_of_lt hb
        have hb'' : b < w.heap.size + 1 + 1 := Nat.lt_succ_of_lt hb'
        dsimp only at hb hb' hb''
        generalize ps.length = n1 at *
        generalize pv.length = n2 at *
        generalize ks.length = n3 at *
        generalize bf.length = n4 at *
        go_enter Try.func21, Try.ntmps21
        go_wp2_with fail
        exact bodyPost_ret (v := .agg #[.string s, .string s', .bool true]) (by simp [results, Try.results21, go_sem]) rfl ⟨rfl, below_three _ _ _ _⟩
      · obtain ⟨b, off, rfl, d0⟩ := h2.at e1
        have hb := World.block_lt_of_cell? w _ d0
        rw [hlo, hhi, if_neg e2, hen, decide_eq_false e2]
        have e2i : ¬ ((i : Int) + 1) < (pv.length : Int) := by omega
        generalize pv[i] = s at *
        clear hlo hhi hen h2
        have hb' : b < w.heap.size + 1 := Nat.lt_succ_of_lt hb
        have hb'' : b < w.heap.size + 1 + 1 := Nat.lt_succ_of_lt hb'
        dsimp only at hb hb' hb''
        generalize ps.length = n1 at *
        generalize pv.length = n2 at *
        generalize ks.length = n3 at *
        generalize bf.length = n4 at *
        go_enter Try.func21, Try.ntmps21
        go_wp2_with fail
        exact bodyPost_ret (v := .agg #[.string s, .string ⟨#[]⟩, .bool false]) (by simp [results, Try.results21, go_sem]) rfl ⟨rfl, below_three _ _ _ _⟩
    · have e2 : ¬ i + 1 < pv.length := by omega
      have e1i : ¬ (i : Int) < (pv.length : Int) := by omega
      have e2i : ¬ ((i : Int) + 1) < (pv.length : Int) := by omega
      rw [if_neg (by omega)] at hlo
      rw [hlo, hhi, if_neg e2, hen, decide_eq_false e2]
      clear hlo hhi hen h2
      generalize ps.length = n1 at *
      generalize pv.length = n2 at *
      generalize ks.length = n3 at *
      generalize bf.length = n4 at *
      go_enter Try.func21, Try.ntmps21
      go_wp2_with fail
      exact bodyPost_ret (v := .agg #[.string ⟨#[]⟩, .string ⟨#[]⟩, .bool false]) (by simp [results, Try.results21, go_sem]) rfl ⟨rfl, below_three _ _ _ _⟩

end Go.Proofs.Ytmnngfbcgpholaa.Key
