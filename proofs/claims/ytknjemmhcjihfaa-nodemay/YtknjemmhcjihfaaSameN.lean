/-
  Contracts of Same (of nodes), the program's and the document's.
-/
import Derived.Test.YtknjemmhcjihfaaAlike
import Derived.Test.YtknjemmhcjihfaaMayN
namespace Go.Proofs.Ytknjemmhcjihfaa.Key
open Go.RowKit Draw
open Go.Op (bytesLess)

theorem two_nodes (w : World) (o o' : Obj) : Below w.heap.size w ((w.alloc o).alloc o') := (below_box w o).alloc (by simp) _

set_option maxHeartbeats 1000000 in
theorem same11 (n n' : Nd) (p p' : Pl) (w : World) (hf : Few n) (hf' : Few n') (h : Lies w n p) (h' : Lies w n' p') :
    Calls Try.prog 11 #[nv n p, nv n' p'] w fun x w' => Tells x (n = n') ∧ Below w.heap.size w w' := by
  have hb0 := two_nodes w (.cells #[.bool n.leaf, .slice p.a1 n.ps.length p.c1, .slice p.a2 n.pv.length p.c2, .slice p.a3 n.ks.length p.c3, .slice p.a4 n.bf.length p.c4] 27) (.cells #[.bool n'.leaf, .slice p'.a1 n'.ps.length p'.c1, .slice p'.a2 n'.pv.length p'.c2, .slice p'.a3 n'.ks.length p'.c3, .slice p'.a4 n'.bf.length p'.c4] 27)
  have N0 := (NBox.new w (.bool n.leaf) (.slice p.a1 n.ps.length p.c1) (.slice p.a2 n.pv.length p.c2) (.slice p.a3 n.ks.length p.c3) (.slice p.a4 n.bf.length p.c4)).alloc (.cells #[.bool n'.leaf, .slice p'.a1 n'.ps.length p'.c1, .slice p'.a2 n'.pv.length p'.c2, .slice p'.a3 n'.ks.length p'.c3, .slice p'.a4 n'.bf.length p'.c4] 27)
  have M0 := NBox.new (w.alloc (.cells #[.bool n.leaf, .slice p.a1 n.ps.length p.c1, .slice p.a2 n.pv.length p.c2, .slice p.a3 n.ks.length p.c3, .slice p.a4 n.bf.length p.c4] 27)) (.bool n'.leaf) (.slice p'.a1 n'.ps.length p'.c1) (.slice p'.a2 n'.pv.length p'.c2) (.slice p'.a3 n'.ks.length p'.c3) (.slice p'.a4 n'.bf.length p'.c4)
  simp only [World.size_alloc] at M0
  obtain ⟨l1, l2, l3, l4⟩ := hf
  obtain ⟨r1, r2, r3, r4⟩ := hf'
  have H1 := hid (fun w' (hb : Below w.heap.size w w') => alike30 p.a1 p'.a1 p.c1 p'.c1 n.ps n'.ps w' (by unfold maxLen; omega) (by unfold maxLen; omega) (h.h1.later hb) (h'.h1.later hb))
  have H2 := hid (fun w' (hb : Below w.heap.size w w') => alike31 p.a2 p'.a2 p.c2 p'.c2 n.pv n'.pv w' (by unfold maxLen; omega) (by unfold maxLen; omega) (h.h2.later hb) (h'.h2.later hb))
  have H3 := hid (fun w' (hb : Below w.heap.size w w') => alike32 p.a3 p'.a3 p.c3 p'.c3 n.ks n'.ks w' (by unfold maxLen; omega) (by unfold maxLen; omega) (h.h3.later hb) (h'.h3.later hb))
  have H4 := hid (fun w' (hb : Below w.heap.size w w') => alike33 p.a4 p'.a4 p.c4 p'.c4 n.bf n'.bf w' (by unfold maxLen; omega) (by unfold maxLen; omega) (h.h4.later hb) (h'.h4.later hb))
  have HE : Hid (n = n' ↔ n.leaf = n'.leaf ∧ n.ps = n'.ps ∧ n.pv = n'.pv ∧ n.ks = n'.ks ∧ n.bf = n'.bf) := hid (by cases n; cases n'; simp)
  generalize (n = n') = G at *
  clear h h'
  obtain ⟨lf, ps, pv, ks, bf⟩ := n
  obtain ⟨a1, c1, a2, c2, a3, c3, a4, c4⟩ := p
  obtain ⟨lf', ps', pv', ks', bf'⟩ := n'
  obtain ⟨a1', c1', a2', c2', a3', c3', a4', c4'⟩ := p'
  dsimp only [nv] at *
  generalize (ps = ps') = G1 at *
  generalize (pv = pv') = G2 at *
  generalize (ks = ks') = G3 at *
  generalize (bf = bf') = G4 at *
  generalize ps.length = n1 at *
  generalize pv.length = n2 at *
  generalize ks.length = n3 at *
  generalize bf.length = n4 at *
  generalize ps'.length = n1' at *
  generalize pv'.length = n2' at *
  generalize ks'.length = n3' at *
  generalize bf'.length = n4' at *
  by_cases hl : lf = lf'
  case neg =>
    have HF : Hid (¬ G) := hid (fun g => hl (HE.out.1 g).1)
    clear HE H1 H2 H3 H4
    have hl' : (lf == lf') = false := by simpa using hl
    go_enter Try.func11, Try.ntmps11
    go_wp2_with fail
    go_ret
    exact ⟨Tells.no HF.out, hb0⟩
  case pos =>
  subst hl
  have hl' : (lf == lf) = true := by simp
  have HE' : Hid (G ↔ G1 ∧ G2 ∧ G3 ∧ G4) := hid (by rw [HE.out]; simp)
  clear HE
  go_enter Try.func11, Try.ntmps11
  go_wp2_with fail
  refine (H1.out _ hb0).mono ?_
  rintro x w1 ⟨⟨b1, rfl, e1⟩, hb1⟩
  have hbw1 := hb0.trans (hb1.mono hb0.size)
  have N1 := N0.later hb1
  have M1 := M0.later hb1
  clear N0 M0 hb0 hb1 H1
  obtain ⟨m0, m1, m2, m3, m4⟩ := N1.cells
  obtain ⟨k0, k1, k2, k3, k4⟩ := M1.cells
  cases b1
  case false =>
    have HF : Hid (¬ G) := hid (fun g => by have := e1.2 (HE'.out.1 g).1; cases this)
    clear e1 HE' H2 H3 H4
    go_wp2_with fail
    go_ret
    exact ⟨Tells.no HF.out, hbw1⟩
  case true =>
  have HE1 : Hid (G ↔ G2 ∧ G3 ∧ G4) := hid (by rw [HE'.out]; simp [e1.1 rfl])
  clear HE' e1
  go_wp2_with fail
  refine (H2.out _ hbw1).mono ?_
  rintro x w2 ⟨⟨b2, rfl, e2⟩, hb2⟩
  have hbw2 := hbw1.trans (hb2.mono hbw1.size)
  have N2 := N1.later hb2
  have M2 := M1.later hb2
  clear N1 M1 hbw1 hb2 H2 m0 m1 m2 m3 m4 k0 k1 k2 k3 k4
  obtain ⟨m0, m1, m2, m3, m4⟩ := N2.cells
  obtain ⟨k0, k1, k2, k3, k4⟩ := M2.cells
  cases b2
  case false =>
    have HF : Hid (¬ G) := hid (fun g => by have := e2.2 (HE1.out.1 g).1; cases this)
    clear e2 HE1 H3 H4
    go_wp2_with fail
    go_ret
    exact ⟨Tells.no HF.out, hbw2⟩
  case true =>
  have HE2 : Hid (G ↔ G3 ∧ G4) := hid (by rw [HE1.out]; simp [e2.1 rfl])
  clear HE1 e2
  go_wp2_with fail
  refine (H3.out _ hbw2).mono ?_
  rintro x w3 ⟨⟨b3, rfl, e3⟩, hb3⟩
  have hbw3 := hbw2.trans (hb3.mono hbw2.size)
  have N3 := N2.later hb3
  have M3 := M2.later hb3
  clear N2 M2 hbw2 hb3 H3 m0 m1 m2 m3 m4 k0 k1 k2 k3 k4
  obtain ⟨m0, m1, m2, m3, m4⟩ := N3.cells
  obtain ⟨k0, k1, k2, k3, k4⟩ := M3.cells
  cases b3
  case false =>
    have HF : Hid (¬ G) := hid (fun g => by have := e3.2 (HE2.out.1 g).1; cases this)
    clear e3 HE2 H4
    go_wp2_with fail
    go_ret
    exact ⟨Tells.no HF.out, hbw3⟩
  case true =>
  have HE3 : Hid (G ↔ G4) := hid (by rw [HE2.out]; simp [e3.1 rfl])
  clear HE2 e3
  go_wp2_with fail
  refine (H4.out _ hbw3).mono ?_
  rintro x w4 ⟨⟨b4, rfl, e4⟩, hb4⟩
  have hbw4 := hbw3.trans (hb4.mono hbw3.size)
  clear N3 M3 hbw3 hb4 H4 m0 m1 m2 m3 m4 k0 k1 k2 k3 k4
  cases b4
  case false =>
    have HF : Hid (¬ G) := hid (fun g => by have := e4.2 (HE3.out.1 g); cases this)
    clear e4 HE3
    go_wp2_with fail
    go_ret
    exact ⟨Tells.no HF.out, hbw4⟩
  case true =>
    have HF : Hid G := hid (HE3.out.2 (e4.1 rfl))
    clear e4 HE3
    go_wp2_with fail
    go_ret
    exact ⟨Tells.yes HF.out, hbw4⟩
end Go.Proofs.Ytknjemmhcjihfaa.Key
