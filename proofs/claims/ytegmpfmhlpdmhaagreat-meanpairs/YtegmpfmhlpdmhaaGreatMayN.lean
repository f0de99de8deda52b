/-
  Contract of May (of a node), the program's.
-/
import Derived.Test.YtegmpfmhlpdmhaaGreatKm
namespace Go.Proofs.YtegmpfmhlpdmhaaGreat.Key
open Go.RowKit
open Go.Op (bytesLess)

/-- the error's number, where there are not too many of something -/
def ans (b : Bool) : Int := if b then 0 else 3
def manyB (n : Nd) : Bool := decide (16 < n.ps.length) || (decide (8 < n.ks.length) || decide (16 < n.bf.length))
def fineB (n : Nd) : Bool := if n.leaf then leafB n else forkB n
def mayI (n : Nd) : Int := if manyB n then 13 else ans (fineB n)
theorem many_int {k n : Nat} {b : Bool} (h : decide (k < n) = b) : decide ((k : Int) < (n : Int)) = b := by rw [← h]; exact decide_eq_decide.2 (by omega)
theorem n16 {n : Nat} {b : Bool} (h : decide (16 < n) = b) : decide ((16 : Int) < (n : Int)) = b := many_int h
theorem n8 {n : Nat} {b : Bool} (h : decide (8 < n) = b) : decide ((8 : Int) < (n : Int)) = b := many_int h
/-- lengths that a call goes through -/
structure Few (n : Nd) : Prop where
  l1 : n.ps.length ≤ 1000
  l2 : n.pv.length ≤ 1000
  l3 : n.ks.length ≤ 1000
  l4 : n.bf.length ≤ 1000

set_option maxRecDepth 100000 in
set_option maxHeartbeats 2000000 in
theorem may12 (n : Nd) (p : Pl) (w : World) (hf : Few n) (h : Lies w n p) :
    Calls Tryz.prog 37 #[nv n p] w fun x w' => x = .returned (.int .i64 (mayI n)) ∧ Below w.heap.size w w' := by
  have hb0 : Below w.heap.size w (w.alloc (.cells #[.bool n.leaf, .slice p.a1 n.ps.length p.c1, .slice p.a2 n.pv.length p.c2, .slice p.a3 n.ks.length p.c3, .slice p.a4 n.bf.length p.c4] 46)) := below_box w _
  have HL := hid (leaf34 n p _ hf.l1 (h.later hb0))
  have HF := hid (fork35 n p _ hf.l2 hf.l3 hf.l4 (h.later hb0))
  have N0 := NBox.new w (.bool n.leaf) (.slice p.a1 n.ps.length p.c1) (.slice p.a2 n.pv.length p.c2) (.slice p.a3 n.ks.length p.c3) (.slice p.a4 n.bf.length p.c4)
  have hmany : manyB n = (decide (16 < n.ps.length) || (decide (8 < n.ks.length) || decide (16 < n.bf.length))) := rfl
  have hmay : mayI n = if manyB n then 13 else ans (fineB n) := rfl
  have hfine : fineB n = if n.leaf then leafB n else forkB n := rfl
  obtain ⟨l1, l2, l3, l4⟩ := hf
  clear h
  generalize leafB n = LB at *
  generalize forkB n = FB at *
  generalize fineB n = FN at *
  generalize manyB n = MB at *
  generalize mayI n = R at *
  obtain ⟨lf, ps, pv, ks, bf⟩ := n
  obtain ⟨a1, c1, a2, c2, a3, c3, a4, c4⟩ := p
  dsimp only [nv] at *
  generalize ps.length = n1 at *
  generalize pv.length = n2 at *
  generalize ks.length = n3 at *
  generalize bf.length = n4 at *
  cases k1 : decide (16 < n1)
  case true =>
    rw [k1] at hmany
    have k1' := n16 k1
    have HR : Hid (R = 13) := hid (by rw [hmay, hmany]; rfl)
    clear hmany hmay hfine k1
    go_enter Tryz.func37, Tryz.ntmps37
    go_wp2_with fail
    go_ret
    exact ⟨by rw [HR.out]; rfl, hb0⟩
  case false =>
  have k1' := n16 k1
  cases k2 : decide (8 < n3)
  case true =>
    rw [k1, k2] at hmany
    have k2' := n8 k2
    have HR : Hid (R = 13) := hid (by rw [hmay, hmany]; rfl)
    clear hmany hmay hfine k1 k2
    go_enter Tryz.func37, Tryz.ntmps37
    go_wp2_with fail
    go_ret
    exact ⟨by rw [HR.out]; rfl, hb0⟩
  case false =>
  have k2' := n8 k2
  cases k3 : decide (16 < n4)
  case true =>
    rw [k1, k2, k3] at hmany
    have k3' := n16 k3
    have HR : Hid (R = 13) := hid (by rw [hmay, hmany]; rfl)
    clear hmany hmay hfine k1 k2 k3
    go_enter Tryz.func37, Tryz.ntmps37
    go_wp2_with fail
    go_ret
    exact ⟨by rw [HR.out]; rfl, hb0⟩
  case false =>
  have k3' := n16 k3
  rw [k1, k2, k3] at hmany
  have HR : Hid (R = ans FN) := hid (by rw [hmay, hmany]; rfl)
  clear hmany hmay k1 k2 k3
  cases lf
  · have HQ : Hid (R = ans FB) := hid (by rw [HR.out, hfine]; rfl)
    clear hfine HR HL
    go_enter Tryz.func37, Tryz.ntmps37
    go_wp2_with fail
    refine HF.out.mono ?_
    clear HF
    rintro x w1 ⟨rfl, hb1⟩
    have hb2 := hb0.trans (hb1.mono hb0.size)
    have N1 := N0.later hb1
    obtain ⟨m0, m1, m2, m3, m4⟩ := N1.cells
    clear hb1 hb0 N0 N1
    generalize hk0 : w.heap.size = k0 at *
    cases FB
    all_goals
      go_wp2_with fail
      go_ret
      exact ⟨by rw [HQ.out]; rfl, by rw [hk0]; exact hb2⟩
  · have HQ : Hid (R = ans LB) := hid (by rw [HR.out, hfine]; rfl)
    clear hfine HR HF
    go_enter Tryz.func37, Tryz.ntmps37
    go_wp2_with fail
    refine HL.out.mono ?_
    clear HL
    rintro x w1 ⟨rfl, hb1⟩
    have hb2 := hb0.trans (hb1.mono hb0.size)
    have N1 := N0.later hb1
    obtain ⟨m0, m1, m2, m3, m4⟩ := N1.cells
    clear hb1 hb0 N0 N1
    generalize hk0 : w.heap.size = k0 at *
    cases LB
    all_goals
      go_wp2_with fail
      go_ret
      exact ⟨by rw [HQ.out]; rfl, by rw [hk0]; exact hb2⟩
end Go.Proofs.YtegmpfmhlpdmhaaGreat.Key
