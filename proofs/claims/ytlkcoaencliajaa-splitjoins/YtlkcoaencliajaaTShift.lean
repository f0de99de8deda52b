/-
  Contracts of Shift and of Range (a kid's), the program's.
-/
import Derived.Test.YtlkcoaencliajaaTp
import Derived.Test.YtlkcoaencliajaaKidRef
namespace Go.Proofs.Ytlkcoaencliajaa.Key
open Go.RowKit
open Go.Op (bytesLess)

set_option maxRecDepth 100000 in
set_option maxHeartbeats 1000000 in
/-- Shift -/
theorem shift19 (s d a : ByteArray) (w : World) (hs : s.size ≤ 1000000) (hd : d.size ≤ 1000000) (ha : a.size ≤ 1000000) :
    Calls Try.prog 76 #[lv s d, .string a] w fun x w' => x = .returned (.tuple #[lv (joS (joinO (lf ⟨#[]⟩ a) (lf s d))) (joA (joinO (lf ⟨#[]⟩ a) (lf s d))), .bool (joinO (lf ⟨#[]⟩ a) (lf s d)).isSome]) ∧ Below w.heap.size w w' := by
  have H1 := fun w => join18 ⟨#[]⟩ a s d w (by decide) ha hs hd
  generalize joS (joinO (lf ⟨#[]⟩ a) (lf s d)) = S at *
  generalize joA (joinO (lf ⟨#[]⟩ a) (lf s d)) = A at *
  generalize (joinO (lf ⟨#[]⟩ a) (lf s d)).isSome = b at *
  obtain ⟨q0, q1⟩ := two_pairs w (.string s) (.string d) (.string ⟨#[]⟩) (.string ⟨#[]⟩)
  have hb0 := below_two w (.cells #[.string s, .string d] 70) (.cells #[.string ⟨#[]⟩, .string ⟨#[]⟩] 70)
  clear hs hd ha
  go_enter Try.func76, Try.ntmps76
  go_wp2_with fail
  refine (H1 _).mono ?_
  clear H1
  rintro x w1 ⟨rfl, hb1⟩
  have R1 := q1.later hb1
  have hb := hb0.trans (hb1.mono hb0.size)
  obtain ⟨r0, r1⟩ := R1.cells
  obtain ⟨f0, f1⟩ := R1.free
  clear q0 q1 hb0 hb1 R1
  go_wp2_with fail
  exact bodyPost_ret (v := .tuple #[lv S A, .bool b]) (by simp [results, Try.results76, go_sem, r0, r1]) rfl ⟨rfl, (hb.setCell (by simp) _).setCell (by simp) _⟩

set_option maxRecDepth 100000 in
set_option maxHeartbeats 1000000 in
/-- Range, the program's: of a kid of a node whose number of pivots fits -/
theorem range50 (n : Nd) (p : Pl) (j : Nat) (w : World) (hl : n.pv.length ≤ 1000) (hlen : n.pv.length + 1 = n.ks.length) (hj : j < n.ks.length) (h : Lies w n p) :
    Calls Try.prog 75 #[nv n p, .int .i64 j] w fun x w' => x = .returned (av (loOf n.pv j) (hiOf n.pv j) (endOf n.pv j)) ∧ Below w.heap.size w w' := by
  have h2 := h.h2
  clear h
  obtain ⟨lf, ps, pv, ks, bf⟩ := n
  obtain ⟨a1, c1, a2, c2, a3, c3, a4, c4⟩ := p
  dsimp only [nv] at *
  obtain ⟨lo, hlo⟩ : ∃ x, loOf pv j = x := ⟨_, rfl⟩
  obtain ⟨hi, hhi⟩ : ∃ x, hiOf pv j = x := ⟨_, rfl⟩
  obtain ⟨en, hen⟩ : ∃ x, endOf pv j = x := ⟨_, rfl⟩
  rw [hlo, hhi, hen]
  unfold loOf at hlo
  unfold hiOf at hhi
  unfold endOf at hen
  rw [if_pos (by omega)] at hlo
  have e3 : ¬ (j : Int) < 0 := by omega
  have e4 : ¬ (ks.length : Int) ≤ (j : Int) := by omega
  have e4' : ks.length ≠ 0 := by omega
  have hl3 : ks.length ≤ 1001 := by omega
  have e5 : ¬ (pv.length : Int) < (j : Int) := by omega
  cases j with
  | zero =>
    rw [show ahead pv 0 = ⟨#[]⟩ from rfl] at hlo
    subst hlo
    by_cases e : 0 < pv.length
    · obtain ⟨b, off, rfl, d0⟩ := h2.at e
      have hb := World.block_lt_of_cell? w _ d0
      rw [if_pos e, getD_at e] at hhi
      rw [decide_eq_true e] at hen
      have e1 : (0 : Int) < (ks.length : Int) - 1 := by omega
      subst hen hhi
      simp only [Nat.add_zero] at d0
      generalize pv[0] = s at *
      clear h2
      have hb' : b < w.heap.size + 1 := Nat.lt_succ_of_lt hb
      have hb'' : b < w.heap.size + 1 + 1 := Nat.lt_succ_of_lt hb'
      dsimp only at hb hb' hb''
      generalize ps.length = n1 at *
      generalize pv.length = n2 at *
      generalize ks.length = n3 at *
      generalize bf.length = n4 at *
      clear hlen hj
      go_enter Try.func75, Try.ntmps75
      go_wp2_with fail
      exact bodyPost_ret (v := .agg #[.string ⟨#[]⟩, .string s, .bool true]) (by simp [results, Try.results75, go_sem]) rfl ⟨rfl, below_three _ _ _ _⟩
    · have e1 : ks.length = 1 := by omega
      have e0 : pv.length = 0 := by omega
      rw [if_neg e] at hhi
      rw [decide_eq_false e] at hen
      subst hen hhi
      rw [e1, e0]
      clear h2 e1 e0 e e4 e5
      generalize ps.length = n1 at *
      generalize bf.length = n4 at *
      clear hlen hj
      go_enter Try.func75, Try.ntmps75
      go_wp2_with fail
      exact bodyPost_ret (v := .agg #[.string ⟨#[]⟩, .string ⟨#[]⟩, .bool false]) (by simp [results, Try.results75, go_sem]) rfl ⟨rfl, below_three _ _ _ _⟩
  | succ i =>
    have e1 : i < pv.length := by omega
    rw [ahead_at e1] at hlo
    rw [show ((i + 1 : Nat) : Int) = (i : Int) + 1 from rfl] at *
    have e1i : (i : Int) < (pv.length : Int) := by omega
    by_cases e2 : i + 1 < pv.length
    · obtain ⟨b, off, rfl, d0, d1⟩ := h2.at2 e1 e2
      have hb := World.block_lt_of_cell? w _ d0
      rw [if_pos e2, getD_at e2] at hhi
      rw [decide_eq_true e2] at hen
      subst hen hhi hlo
      have e2i : ((i : Int) + 1) < (pv.length : Int) := by omega
      have e6 : ((i : Int) + 1) < (ks.length : Int) - 1 := by omega
      generalize pv[i] = s at *
      generalize pv[i + 1] = s' at *
      clear h2
      have hb' : b < w.heap.size + 1 := Nat.lt_succ_of_lt hb
      have hb'' : b < w.heap.size + 1 + 1 := Nat.lt_succ_of_lt hb'
      dsimp only at hb hb' hb''
      generalize ps.length = n1 at *
      generalize pv.length = n2 at *
      generalize ks.length = n3 at *
      generalize bf.length = n4 at *
      clear hlen hj
      go_enter Try.func75, Try.ntmps75
      go_wp2_with fail
      exact bodyPost_ret (v := .agg #[.string s, .string s', .bool true]) (by simp [results, Try.results75, go_sem]) rfl ⟨rfl, below_three _ _ _ _⟩
    · obtain ⟨b, off, rfl, d0⟩ := h2.at e1
      have hb := World.block_lt_of_cell? w _ d0
      rw [if_neg e2] at hhi
      rw [decide_eq_false e2] at hen
      subst hen hhi hlo
      have e2i : ¬ ((i : Int) + 1) < (pv.length : Int) := by omega
      have e6 : ¬ ((i : Int) + 1) < (ks.length : Int) - 1 := by omega
      generalize pv[i] = s at *
      clear h2
      have hb' : b < w.heap.size + 1 := Nat.lt_succ_of_lt hb
      have hb'' : b < w.heap.size + 1 + 1 := Nat.lt_succ_of_lt hb'
      dsimp only at hb hb' hb''
      generalize ps.length = n1 at *
      generalize pv.length = n2 at *
      generalize ks.length = n3 at *
      generalize bf.length = n4 at *
      clear hlen hj
      go_enter Try.func75, Try.ntmps75
      go_wp2_with fail
      exact bodyPost_ret (v := .agg #[.string s, .string ⟨#[]⟩, .bool false]) (by simp [results, Try.results75, go_sem]) rfl ⟨rfl, below_three _ _ _ _⟩
end Go.Proofs.Ytlkcoaencliajaa.Key
