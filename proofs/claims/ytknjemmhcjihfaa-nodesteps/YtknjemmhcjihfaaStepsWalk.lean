/-
  The walk of the statement NodeSteps.
-/
import Derived.Test.YtknjemmhcjihfaaLead
import Derived.Test.YtknjemmhcjihfaaSmall
import Derived.Test.YtknjemmhcjihfaaAwake
import Derived.Test.YtknjemmhcjihfaaQuiet
namespace Go.Proofs.Ytknjemmhcjihfaa.Key
open Go.RowKit Draw
open Go.Op (bytesLess)

set_option maxRecDepth 100000 in
set_option maxHeartbeats 2000000 in
theorem steps4 (n : Nd) (p : Pl) (k : ByteArray) (w : World) (hi : n.In) (hk : k.size ≤ maxLen) (h : Lies w n p) :
    Calls Try.prog 4 #[nv n p, .string k] w fun e w' => e = .returned (.bool true) ∧ Below w.heap.size w w' := by
  have hb0 : Below w.heap.size w (w.alloc (.cells #[.bool n.leaf, .slice p.a1 n.ps.length p.c1, .slice p.a2 n.pv.length p.c2, .slice p.a3 n.ks.length p.c3, .slice p.a4 n.bf.length p.c4] 27)) := below_box w _
  have N0 := NBox.new w (.bool n.leaf) (.slice p.a1 n.ps.length p.c1) (.slice p.a2 n.pv.length p.c2) (.slice p.a3 n.ks.length p.c3) (.slice p.a4 n.bf.length p.c4)
  have HG := hid (great7 n p _ hi.long (h.later hb0))
  have HS := hid (fun g => @small_of n g hi)
  have hh := hid h
  unfold maxLen at hk
  clear hi h
  cases g1 : greatN n
  case true =>
    rw [g1] at HG
    clear HS hh
    obtain ⟨lf, ps, pv, ks, bf⟩ := n
    obtain ⟨a1, c1, a2, c2, a3, c3, a4, c4⟩ := p
    dsimp only [nv] at *
    generalize ps.length = n1 at *
    generalize pv.length = n2 at *
    generalize ks.length = n3 at *
    generalize bf.length = n4 at *
    go_enter Try.func4, Try.ntmps4
    go_wp2_with fail
    refine HG.out.mono ?_
    rintro x w1 ⟨rfl, hb1⟩
    have hb2 := hb0.trans (hb1.mono hb0.size)
    clear HG
    go_wp2_with fail
    refine (awake8 _).mono ?_
    rintro x w2 ⟨rfl, hb3⟩
    go_wp2_with fail
    go_ret
    exact ⟨rfl, hb2.trans (hb3.mono hb2.size)⟩
  case false =>
  rw [g1] at HG
  have hsm := HS.out g1
  clear HS g1
  cases g4 : decide ((100 : Int) < (k.size : Int))
  case true =>
    clear hh hsm
    obtain ⟨lf, ps, pv, ks, bf⟩ := n
    obtain ⟨a1, c1, a2, c2, a3, c3, a4, c4⟩ := p
    dsimp only [nv] at *
    generalize ps.length = n1 at *
    generalize pv.length = n2 at *
    generalize ks.length = n3 at *
    generalize bf.length = n4 at *
    go_enter Try.func4, Try.ntmps4
    go_wp2_with fail
    refine HG.out.mono ?_
    rintro x w1 ⟨rfl, hb1⟩
    have hb2 := hb0.trans (hb1.mono hb0.size)
    clear HG
    go_wp2_with fail
    refine (awake8 _).mono ?_
    rintro x w2 ⟨rfl, hb3⟩
    go_wp2_with fail
    go_ret
    exact ⟨rfl, hb2.trans (hb3.mono hb2.size)⟩
  case false =>
  have hk' : k.size ≤ 1000 := by simp at g4; omega
  have S1 := hid (fun w' (hb : Below w.heap.size w w') => step19 n p k w' hsm hk' (hh.out.later hb))
  have S2 := hid (fun w' (hb : Below w.heap.size w w') => step20 n p k w' hsm hk' (hh.out.later hb))
  clear hh hsm
  generalize stepW n k.data.toList = y at *
  obtain ⟨yk, yv, yb, yd, yy⟩ := y
  obtain ⟨lf, ps, pv, ks, bf⟩ := n
  obtain ⟨a1, c1, a2, c2, a3, c3, a4, c4⟩ := p
  dsimp only [nv] at *
  generalize ps.length = n1 at *
  generalize pv.length = n2 at *
  generalize ks.length = n3 at *
  generalize bf.length = n4 at *
  go_enter Try.func4, Try.ntmps4
  go_wp2_with fail
  refine HG.out.mono ?_
  rintro x w1 ⟨rfl, hb1⟩
  have hb2 := hb0.trans (hb1.mono hb0.size)
  have N1 := N0.later hb1
  clear HG N0 hb1 hb0
  generalize hk0 : w.heap.size = k0 at *
  go_upto_region 3 with fail
  refine wp_region_quiet (C := fun u => Below w1.heap.size w1 u) (by kernel_rfl) (by kernel_rfl) ⟨rfl, rfl, rfl, Nat.le_refl _, fun _ _ => rfl⟩ ?_
  change wpQuiet _ _ _ _ (_ :: _) _
  have hs1 := hb2.size
  repeat
    refine wpQuiet_step (fun K hK => ?_)
    first
      | refine quiet_val ?_ (by kernel_rfl) ?_ ?_
        rotate_left
        · intro u hu
          obtain ⟨m0, m1, m2, m3, m4⟩ := (N1.later hu).cells
          go_simp
          with_reducible rfl
      | refine quiet_call (wv ⟨yk, yv, yb, yd, yy⟩) 19 #[.agg #[.bool lf, .slice a1 n1 c1, .slice a2 n2 c2, .slice a3 n3 c3, .slice a4 n4 c4], .string k] (by kernel_rfl) ?_ (fun u hu => (S1.out u (hb2.trans (hu.mono (by omega)))).mono fun x u' h => ⟨h.1, hu.trans (h.2.mono hu.size)⟩) ?_
        · intro u hu
          go_simp
          done
      | refine quiet_call (wv ⟨yk, yv, yb, yd, yy⟩) 20 #[.agg #[.bool lf, .slice a1 n1 c1, .slice a2 n2 c2, .slice a3 n3 c3, .slice a4 n4 c4], .string k] (by kernel_rfl) ?_ (fun u hu => (S2.out u (hb2.trans (hu.mono (by omega)))).mono fun x u' h => ⟨h.1, hu.trans (h.2.mono hu.size)⟩) ?_
        · intro u hu
          go_simp
          done
      | refine quiet_call (.bool true) 8 #[] (by kernel_rfl) ?_ (fun u hu => (awake8 u).mono fun x u' h => ⟨h.1, hu.trans (h.2.mono hu.size)⟩) ?_
        · intro u hu
          go_simp
          done
    go_simp
    refine hK _ ?_
    clear hK K
  refine wpQuiet_nil (fun u hu => ?_)
  go_wp2_with fail
  go_ret
  have hb4 := hb2.trans (hu.mono (by omega))
  exact ⟨rfl, by first | exact hb4 | (rw [hk0]; exact hb4)⟩
end Go.Proofs.Ytknjemmhcjihfaa.Key
