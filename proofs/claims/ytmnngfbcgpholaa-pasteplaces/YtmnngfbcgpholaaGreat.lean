/-
  Contract of Great (of a node).
-/
import Derived.Test.YtmnngfbcgpholaaNode
namespace Go.Proofs.Ytmnngfbcgpholaa.Key
open Go.RowKit
open Go.Op (bytesLess)

def greatE (e : E) : Bool := decide (100 < e.strip.size) || decide (100 < e.add.size)
def greatT (s : ByteArray) : Bool := decide (100 < s.size)
def greatN (n : Nd) : Bool := decide (60 < n.pv.length) || (decide (60 < n.ks.length) || (greatPL n.ps || (greatL n.bf || (n.pv.any greatT || n.ks.any greatE))))
theorem n60 {n : Nat} {b : Bool} (h : decide (60 < n) = b) : decide ((60 : Int) < (n : Int)) = b := by rw [← h]; exact decide_eq_decide.2 (by omega)
/-- lengths as they come in -/
structure Long (n : Nd) : Prop where
  l1 : n.ps.length ≤ maxLen
  l2 : n.pv.length ≤ maxLen
  l3 : n.ks.length ≤ maxLen
  l4 : n.bf.length ≤ maxLen

set_option maxRecDepth 100000 in
set_option maxHeartbeats 2000000 in
theorem great7 (n : Nd) (p : Pl) (w : World) (hf : Long n) (h : Lies w n p) :
    Calls Try.prog 6 #[nv n p] w fun x w' => x = .returned (.bool (greatN n)) ∧ Below w.heap.size w w' := by
  have hb0 : Below w.heap.size w (w.alloc (.cells #[.bool n.leaf, .slice p.a1 n.ps.length p.c1, .slice p.a2 n.pv.length p.c2, .slice p.a3 n.ks.length p.c3, .slice p.a4 n.bf.length p.c4] 27)) := below_box w _
  have N0 := NBox.new w (.bool n.leaf) (.slice p.a1 n.ps.length p.c1) (.slice p.a2 n.pv.length p.c2) (.slice p.a3 n.ks.length p.c3) (.slice p.a4 n.bf.length p.c4)
  have h' := h.later hb0
  have HP := hid (great21 p.a1 p.c1 n.ps _ hf.l1 h'.h1)
  have HM := hid (great22 p.a4 p.c4 n.bf _ hf.l4 h'.h4)
  have hg : greatN n = (decide (60 < n.pv.length) || (decide (60 < n.ks.length) || (greatPL n.ps || (greatL n.bf || (n.pv.any greatT || n.ks.any greatE))))) := rfl
  obtain ⟨_, h2, h3, _⟩ := h'
  clear hf h
  generalize greatN n = G at *
  obtain ⟨lf, ps, pv, ks, bf⟩ := n
  obtain ⟨a1, c1, a2, c2, a3, c3, a4, c4⟩ := p
  dsimp only [nv] at *
  generalize greatPL ps = GP at *
  generalize greatL bf = GM at *
  generalize ps.length = n1 at *
  generalize hn2 : pv.length = n2 at *
  generalize hn3 : ks.length = n3 at *
  generalize bf.length = n4 at *
  have HN2 := hid hn2
  have HN3 := hid hn3
  clear hn2 hn3
  cases k1 : decide (60 < n2)
  case true =>
    rw [k1] at hg
    have k1' := n60 k1
    have HR : Hid (true = G) := hid hg.symm
    clear hg k1
    go_enter Try.func6, Try.ntmps6
    go_wp2_with fail
    go_ret
    exact ⟨ret_bool HR.out, hb0⟩
  case false =>
  have k1' := n60 k1
  cases k2 : decide (60 < n3)
  case true =>
    rw [k1, k2] at hg
    have k2' := n60 k2
    have HR : Hid (true = G) := hid hg.symm
    clear hg k1 k2
    go_enter Try.func6, Try.ntmps6
    go_wp2_with fail
    go_ret
    exact ⟨ret_bool HR.out, hb0⟩
  case false =>
  have k2' := n60 k2
  rw [k1, k2] at hg
  have hq2 : n2 ≤ 60 := by simpa using k1
  have hq3 : n3 ≤ 60 := by simpa using k2
  cases GP
  case true =>
    have HR : Hid (true = G) := hid hg.symm
    clear hg k1 k2
    go_enter Try.func6, Try.ntmps6
    go_wp2_with fail
    refine HP.out.mono ?_
    rintro x w1 ⟨rfl, rfl⟩
    go_wp2_with fail
    go_ret
    exact ⟨ret_bool HR.out, hb0⟩
  case false =>
  cases GM
  case true =>
    have HR : Hid (true = G) := hid hg.symm
    clear hg k1 k2
    go_enter Try.func6, Try.ntmps6
    go_wp2_with fail
    refine HP.out.mono ?_
    rintro x w1 ⟨rfl, rfl⟩
    go_wp2_with fail
    refine HM.out.mono ?_
    rintro x w1 ⟨rfl, rfl⟩
    go_wp2_with fail
    go_ret
    exact ⟨ret_bool HR.out, hb0⟩
  case false =>
  have HR : Hid (G = (pv.any greatT || ks.any greatE)) := hid hg
  clear hg k1 k2
  go_enter Try.func6, Try.ntmps6
  go_wp2_with fail
  refine HP.out.mono ?_
  rintro x w1 ⟨rfl, rfl⟩
  go_wp2_with fail
  refine HM.out.mono ?_
  rintro x w1 ⟨rfl, rfl⟩
  clear HP HM
  generalize (w.alloc (.cells #[.bool lf, .slice a1 n1 c1, .slice a2 n2 c2, .slice a3 n3 c3, .slice a4 n4 c4] 27)) = w0 at *
  obtain ⟨m0, m1, m2, m3, m4⟩ := N0.cells
  generalize hk0 : w.heap.size = k0 at *
  go_wp2_with fail
  go_loop [28] (fun i => ∃ j : Nat, j ≤ n2 ∧ i = .int .i64 j ∧ Hid ((pv.take j).any greatT = false)) (fun i => n2 - (intOf i).toNat)
  case atStart => exact ⟨0, Nat.zero_le _, rfl, by simp [Hid]⟩
  case round =>
    obtain ⟨j, hj, rfl, hjn⟩ := hrel
    by_cases hlt : j < n2
    · have hlt' : j < pv.length := by rw [HN2.out]; exact hlt
      obtain ⟨b, off, rfl, d0⟩ := h2.at hlt'
      obtain ⟨s, HS⟩ : ∃ m, Hid (pv[j] = m) := ⟨_, hid rfl⟩
      rw [HS.out] at d0
      cases q1 : decide (100 < s.size)
      · have q1' := gr_int q1
        have HG : Hid (greatT s = false) := hid q1
        clear q1
        go_wp2_with fail
        go_round
        case rel => exact ⟨j + 1, by omega, by go_num, by unfold Hid at *; rw [any_take_succ pv greatT hlt', hjn, HS, HG]; rfl⟩
        case measure => simp [intOf]; omega
      · have q1' := gr_int q1
        have HG : Hid (greatT s = true) := hid q1
        clear q1
        go_wp2_with fail
        go_ret
        exact ⟨ret_bool (by rw [HR.out, any_at pv greatT hlt' (by rw [HS.out]; exact HG.out)]; rfl), by first | exact hb0 | (rw [hk0]; exact hb0)⟩
    · obtain rfl : j = n2 := by omega
      have HR2 : Hid (G = ks.any greatE) := hid (by
        have h0 := hjn.out
        rw [← HN2.out, List.take_length] at h0
        rw [HR.out, h0]; rfl)
      clear HR
      go_wp2_with fail
      go_loop [42] (fun i => ∃ j : Nat, j ≤ n3 ∧ i = .int .i64 j ∧ Hid ((ks.take j).any greatE = false)) (fun i => n3 - (intOf i).toNat)
      case atStart => exact ⟨0, Nat.zero_le _, rfl, by simp [Hid]⟩
      case round =>
        obtain ⟨j, hj, rfl, hjn⟩ := hrel
        by_cases hlt : j < n3
        · have hlt' : j < ks.length := by rw [HN3.out]; exact hlt
          obtain ⟨b, off, rfl, h6⟩ := h3.at hlt'
          obtain ⟨e, HS⟩ : ∃ m, Hid (ks[j] = m) := ⟨_, hid rfl⟩
          rw [HS.out] at h6
          have hgE : greatE e = (decide (100 < e.strip.size) || decide (100 < e.add.size)) := rfl
          obtain ⟨bk, dp, st, ad⟩ := e
          obtain ⟨d0, d1, d2, d3⟩ := h6
          dsimp only at d0 d1 d2 d3 hgE
          cases q1 : decide (100 < st.size)
          · have q1' := gr_int q1
            cases q2 : decide (100 < ad.size)
            · have q2' := gr_int q2
              rw [q1, q2] at hgE
              have HG := hid hgE
              clear hgE q1 q2
              go_wp2_with fail
              go_round
              case rel => exact ⟨j + 1, by omega, by go_num, by unfold Hid at *; rw [any_take_succ ks greatE hlt', hjn, HS, HG]; rfl⟩
              case measure => simp [intOf]; omega
            · have q2' := gr_int q2
              rw [q1, q2] at hgE
              have HG := hid hgE
              clear hgE q1 q2
              go_wp2_with fail
              go_ret
              exact ⟨ret_bool (by rw [HR2.out]; exact (any_at ks greatE hlt' (by rw [HS.out]; exact HG.out)).symm), by first | exact hb0 | (rw [hk0]; exact hb0)⟩
          · have q1' := gr_int q1
            rw [q1] at hgE
            have HG := hid hgE
            clear hgE q1
            go_wp2_with fail
            go_ret
            exact ⟨ret_bool (by rw [HR2.out]; exact (any_at ks greatE hlt' (by rw [HS.out]; exact HG.out)).symm), by first | exact hb0 | (rw [hk0]; exact hb0)⟩
        · obtain rfl : j = n3 := by omega
          go_wp2_with fail
          go_ret
          refine ⟨ret_bool ?_, by first | exact hb0 | (rw [hk0]; exact hb0)⟩
          rw [HR2.out, ← hjn.out, ← HN3.out, List.take_length]
end Go.Proofs.Ytmnngfbcgpholaa.Key
