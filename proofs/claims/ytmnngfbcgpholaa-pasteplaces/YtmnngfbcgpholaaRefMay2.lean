/-
  Contract of May (of a node), the document's: all nodes.
-/
import Derived.Test.YtmnngfbcgpholaaRefMay
namespace Go.Proofs.Ytmnngfbcgpholaa.Key
open Go.RowKit
open Go.Op (bytesLess)

set_option maxRecDepth 100000 in
set_option maxHeartbeats 2000000 in
theorem may13 (n : Nd) (p : Pl) (w : World) (hf : Few n) (h : Lies w n p) (hd : ∀ m ∈ n.bf, 0 ≤ m.deep) :
    Calls Try.prog 13 #[nv n p] w fun x w' => x = .returned (.int .i64 (mayI n)) ∧ Below w.heap.size w w' := by
  cases hmany : manyB n
  · cases hlf : n.leaf
    · exact may13_fork n p w hf h hd hmany hlf
    · exact may13_leaf n p w hf h hmany hlf
  · have hb0 : Below w.heap.size w (w.alloc (.cells #[.bool n.leaf, .slice p.a1 n.ps.length p.c1, .slice p.a2 n.pv.length p.c2, .slice p.a3 n.ks.length p.c3, .slice p.a4 n.bf.length p.c4] 27)) := below_box w _
    have HR : Hid (mayI n = 13) := hid (by unfold mayI; rw [hmany]; rfl)
    have hm : (decide (16 < n.ps.length) || (decide (8 < n.ks.length) || decide (16 < n.bf.length))) = true := hmany
    clear hmany h hd hf
    generalize mayI n = R at *
    obtain ⟨lf, ps, pv, ks, bf⟩ := n
    obtain ⟨a1, c1, a2, c2, a3, c3, a4, c4⟩ := p
    dsimp only [nv] at *
    generalize ps.length = n1 at *
    generalize pv.length = n2 at *
    generalize ks.length = n3 at *
    generalize bf.length = n4 at *
    cases k1 : decide (16 < n1)
    case true =>
      have k1' := n16 k1
      clear hm k1
      go_enter Try.func13, Try.ntmps13
      go_wp2_with fail
      go_ret
      exact ⟨by rw [HR.out]; rfl, hb0⟩
    case false =>
    have k1' := n16 k1
    cases k2 : decide (8 < n3)
    case true =>
      have k2' := n8 k2
      clear hm k1 k2
      go_enter Try.func13, Try.ntmps13
      go_wp2_with fail
      go_ret
      exact ⟨by rw [HR.out]; rfl, hb0⟩
    case false =>
    have k2' := n8 k2
    rw [k1, k2, Bool.false_or, Bool.false_or] at hm
    have k3' := n16 hm
    clear hm k1 k2
    go_enter Try.func13, Try.ntmps13
    go_wp2_with fail
    go_ret
    exact ⟨by rw [HR.out]; rfl, hb0⟩
end Go.Proofs.Ytmnngfbcgpholaa.Key
