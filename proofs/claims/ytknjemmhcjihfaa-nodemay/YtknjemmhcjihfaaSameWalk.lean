/-
  The walk of the statement NodeSame.
-/
import Derived.Test.YtknjemmhcjihfaaSameRef
import Derived.Test.YtknjemmhcjihfaaSmall
import Derived.Test.YtknjemmhcjihfaaAwake
import Derived.Test.YtknjemmhcjihfaaQuiet
namespace Go.Proofs.Ytknjemmhcjihfaa.Key
open Go.RowKit Draw
open Go.Op (bytesLess)

theorem Tells.get {x : Ending} {p : Prop} {B : Bool} (h : Tells x p) (hB : B = true ↔ p) : x = .returned (.bool B) := by
  obtain ⟨b, rfl, hb⟩ := h
  have : b = B := Bool.eq_iff_iff.2 (hb.trans hB.symm)
  rw [this]
theorem a_bool (p : Prop) : ∃ B : Bool, B = true ↔ p := by
  by_cases h : p
  · exact ⟨true, by simp [h]⟩
  · exact ⟨false, by simp [h]⟩

set_option maxRecDepth 100000 in
set_option maxHeartbeats 2000000 in
theorem sames6 (n : Nd) (p : Pl) (n' : Nd) (p' : Pl) (w : World) (hi : n.In) (hi' : n'.In) (h : Lies w n p) (h' : Lies w n' p') :
    Calls Try.prog 6 #[nv n p, nv n' p'] w fun e w' => e = .returned (.bool true) ∧ Below w.heap.size w w' := by
  have hb0 := two_nodes w (.cells #[.bool n.leaf, .slice p.a1 n.ps.length p.c1, .slice p.a2 n.pv.length p.c2, .slice p.a3 n.ks.length p.c3, .slice p.a4 n.bf.length p.c4] 27) (.cells #[.bool n'.leaf, .slice p'.a1 n'.ps.length p'.c1, .slice p'.a2 n'.pv.length p'.c2, .slice p'.a3 n'.ks.length p'.c3, .slice p'.a4 n'.bf.length p'.c4] 27)
  have N0 := (NBox.new w (.bool n.leaf) (.slice p.a1 n.ps.length p.c1) (.slice p.a2 n.pv.length p.c2) (.slice p.a3 n.ks.length p.c3) (.slice p.a4 n.bf.length p.c4)).alloc (.cells #[.bool n'.leaf, .slice p'.a1 n'.ps.length p'.c1, .slice p'.a2 n'.pv.length p'.c2, .slice p'.a3 n'.ks.length p'.c3, .slice p'.a4 n'.bf.length p'.c4] 27)
  have M0 := NBox.new (w.alloc (.cells #[.bool n.leaf, .slice p.a1 n.ps.length p.c1, .slice p.a2 n.pv.length p.c2, .slice p.a3 n.ks.length p.c3, .slice p.a4 n.bf.length p.c4] 27)) (.bool n'.leaf) (.slice p'.a1 n'.ps.length p'.c1) (.slice p'.a2 n'.pv.length p'.c2) (.slice p'.a3 n'.ks.length p'.c3) (.slice p'.a4 n'.bf.length p'.c4)
  simp only [World.size_alloc] at M0
  have HG := hid (fun w' (hb : Below w.heap.size w w') => great7 n p w' hi.long (h.later hb))
  have HG' := hid (fun w' (hb : Below w.heap.size w w') => great7 n' p' w' hi'.long (h'.later hb))
  have HS := hid (fun g => (@small_of n g hi).few)
  have HS' := hid (fun g => (@small_of n' g hi').few)
  have hh := hid h
  have hh' := hid h'
  clear hi hi' h h'
  obtain ⟨B, hB⟩ := a_bool (n = n')
  have HB := hid hB
  clear hB
  cases g1 : greatN n
  case true =>
    rw [g1] at HG
    clear HS HS' hh hh' HG' HB
    obtain ⟨lf, ps, pv, ks, bf⟩ := n
    obtain ⟨a1, c1, a2, c2, a3, c3, a4, c4⟩ := p
    obtain ⟨lf', ps', pv', ks', bf'⟩ := n'
    obtain ⟨a1', c1', a2', c2', a3', c3', a4', c4'⟩ := p'
    dsimp only [nv] at *
    generalize ps.length = n1 at *
    generalize pv.length = n2 at *
    generalize ks.length = n3 at *
    generalize bf.length = n4 at *
    generalize ps'.length = n1' at *
    generalize pv'.length = n2' at *
    generalize ks'.length = n3' at *
    generalize bf'.length = n4' at *
    go_enter Try.func6, Try.ntmps6
    go_wp2_with fail
    refine (HG.out _ hb0).mono ?_
    rintro x w1 ⟨rfl, hb1⟩
    have hb2 := hb0.trans (hb1.mono hb0.size)
    clear HG
    go_wp2_with fail
    refine (awake8 _).mono ?_
    rintro x w2 ⟨rfl, hb3⟩
    go_wp2_with fail
    go_ret
    exact ⟨rfl, hb2.trans (hb3.mono hb2.size)⟩
  case false =>
  rw [g1] at HG
  have few := HS.out g1
  clear HS g1
  cases g2 : greatN n'
  case true =>
    rw [g2] at HG'
    clear HS' hh hh' HB few
    obtain ⟨lf, ps, pv, ks, bf⟩ := n
    obtain ⟨a1, c1, a2, c2, a3, c3, a4, c4⟩ := p
    obtain ⟨lf', ps', pv', ks', bf'⟩ := n'
    obtain ⟨a1', c1', a2', c2', a3', c3', a4', c4'⟩ := p'
    dsimp only [nv] at *
    generalize ps.length = n1 at *
    generalize pv.length = n2 at *
    generalize ks.length = n3 at *
    generalize bf.length = n4 at *
    generalize ps'.length = n1' at *
    generalize pv'.length = n2' at *
    generalize ks'.length = n3' at *
    generalize bf'.length = n4' at *
    go_enter Try.func6, Try.ntmps6
    go_wp2_with fail
    refine (HG.out _ hb0).mono ?_
    rintro x w1 ⟨rfl, hb1⟩
    have hb2 := hb0.trans (hb1.mono hb0.size)
    obtain ⟨m0, m1, m2, m3, m4⟩ := (M0.later hb1).cells
    clear HG N0 M0 hb0 hb1
    go_wp2_with fail
    refine (HG'.out _ hb2).mono ?_
    rintro x w2 ⟨rfl, hb3⟩
    have hb4 := hb2.trans (hb3.mono hb2.size)
    clear HG' m0 m1 m2 m3 m4 hb2 hb3
    go_wp2_with fail
    refine (awake8 _).mono ?_
    rintro x w3 ⟨rfl, hb5⟩
    go_wp2_with fail
    go_ret
    exact ⟨rfl, hb4.trans (hb5.mono hb4.size)⟩
  case false =>
  rw [g2] at HG'
  have few' := HS'.out g2
  clear HS' g2
  have S1 : Hid (∀ w', Below w.heap.size w w' → Calls Try.prog 11 #[nv n p, nv n' p'] w' fun x w'' => x = .returned (.bool B) ∧ Below w'.heap.size w' w'') := hid (fun w' hb => (same11 n n' p p' w' few few' (hh.out.later hb) (hh'.out.later hb)).mono fun x w'' h => ⟨h.1.get HB.out, h.2⟩)
  have S2 : Hid (∀ w', Below w.heap.size w w' → Calls Try.prog 10 #[nv n p, nv n' p'] w' fun x w'' => x = .returned (.bool B) ∧ Below w'.heap.size w' w'') := hid (fun w' hb => (same10 n n' p p' w' few few' (hh.out.later hb) (hh'.out.later hb)).mono fun x w'' h => ⟨h.1.get HB.out, h.2⟩)
  have S3 : Hid (∀ w', Below w.heap.size w w' → Calls Try.prog 11 #[nv n p, nv n p] w' fun x w'' => x = .returned (.bool true) ∧ Below w'.heap.size w' w'') := hid (fun w' hb => (same11 n n p p w' few few (hh.out.later hb) (hh.out.later hb)).mono fun x w'' h => ⟨h.1.get (by simp), h.2⟩)
  have S4 : Hid (∀ w', Below w.heap.size w w' → Calls Try.prog 11 #[nv n' p', nv n' p'] w' fun x w'' => x = .returned (.bool true) ∧ Below w'.heap.size w' w'') := hid (fun w' hb => (same11 n' n' p' p' w' few' few' (hh'.out.later hb) (hh'.out.later hb)).mono fun x w'' h => ⟨h.1.get (by simp), h.2⟩)
  clear hh hh' HB few few'
  obtain ⟨lf, ps, pv, ks, bf⟩ := n
  obtain ⟨a1, c1, a2, c2, a3, c3, a4, c4⟩ := p
  obtain ⟨lf', ps', pv', ks', bf'⟩ := n'
  obtain ⟨a1', c1', a2', c2', a3', c3', a4', c4'⟩ := p'
  dsimp only [nv] at *
  generalize ps.length = n1 at *
  generalize pv.length = n2 at *
  generalize ks.length = n3 at *
  generalize bf.length = n4 at *
  generalize ps'.length = n1' at *
  generalize pv'.length = n2' at *
  generalize ks'.length = n3' at *
  generalize bf'.length = n4' at *
  go_enter Try.func6, Try.ntmps6
  go_wp2_with fail
  refine (HG.out _ hb0).mono ?_
  rintro x w1 ⟨rfl, hb1⟩
  have hb2 := hb0.trans (hb1.mono hb0.size)
  have N1 := N0.later hb1
  have M1 := M0.later hb1
  obtain ⟨m0, m1, m2, m3, m4⟩ := M1.cells
  clear HG N0 M0 hb0 hb1
  go_wp2_with fail
  refine (HG'.out _ hb2).mono ?_
  rintro x w2 ⟨rfl, hb3⟩
  have hb4 := hb2.trans (hb3.mono hb2.size)
  have N2 := N1.later hb3
  have M2 := M1.later hb3
  clear HG' m0 m1 m2 m3 m4 hb2 hb3 N1 M1
  generalize hk0 : w.heap.size = k0 at *
  go_upto_region 3 with fail
  refine wp_region_quiet (C := fun u => Below w2.heap.size w2 u) (by kernel_rfl) (by kernel_rfl) ⟨rfl, rfl, rfl, Nat.le_refl _, fun _ _ => rfl⟩ ?_
  change wpQuiet _ _ _ _ (_ :: _) _
  have hs1 := hb4.size
  repeat
    refine wpQuiet_step (fun K hK => ?_)
    first
      | refine quiet_val ?_ (by kernel_rfl) ?_ ?_
        rotate_left
        · intro u hu
          obtain ⟨m0, m1, m2, m3, m4⟩ := (N2.later hu).cells
          obtain ⟨z0, z1, z2, z3, z4⟩ := (M2.later hu).cells
          go_simp
          with_reducible rfl
      | refine quiet_call (.bool B) 11 #[.agg #[.bool lf, .slice a1 n1 c1, .slice a2 n2 c2, .slice a3 n3 c3, .slice a4 n4 c4], .agg #[.bool lf', .slice a1' n1' c1', .slice a2' n2' c2', .slice a3' n3' c3', .slice a4' n4' c4']] (by kernel_rfl) ?_ (fun u hu => (S1.out u (hb4.trans (hu.mono (by omega)))).mono fun x u' h => ⟨h.1, hu.trans (h.2.mono hu.size)⟩) ?_
        · intro u hu
          go_simp
          done
      | refine quiet_call (.bool B) 10 #[.agg #[.bool lf, .slice a1 n1 c1, .slice a2 n2 c2, .slice a3 n3 c3, .slice a4 n4 c4], .agg #[.bool lf', .slice a1' n1' c1', .slice a2' n2' c2', .slice a3' n3' c3', .slice a4' n4' c4']] (by kernel_rfl) ?_ (fun u hu => (S2.out u (hb4.trans (hu.mono (by omega)))).mono fun x u' h => ⟨h.1, hu.trans (h.2.mono hu.size)⟩) ?_
        · intro u hu
          go_simp
          done
      | refine quiet_call (.bool true) 11 #[.agg #[.bool lf, .slice a1 n1 c1, .slice a2 n2 c2, .slice a3 n3 c3, .slice a4 n4 c4], .agg #[.bool lf, .slice a1 n1 c1, .slice a2 n2 c2, .slice a3 n3 c3, .slice a4 n4 c4]] (by kernel_rfl) ?_ (fun u hu => (S3.out u (hb4.trans (hu.mono (by omega)))).mono fun x u' h => ⟨h.1, hu.trans (h.2.mono hu.size)⟩) ?_
        · intro u hu
          go_simp
          done
      | refine quiet_call (.bool true) 11 #[.agg #[.bool lf', .slice a1' n1' c1', .slice a2' n2' c2', .slice a3' n3' c3', .slice a4' n4' c4'], .agg #[.bool lf', .slice a1' n1' c1', .slice a2' n2' c2', .slice a3' n3' c3', .slice a4' n4' c4']] (by kernel_rfl) ?_ (fun u hu => (S4.out u (hb4.trans (hu.mono (by omega)))).mono fun x u' h => ⟨h.1, hu.trans (h.2.mono hu.size)⟩) ?_
        · intro u hu
          go_simp
          done
      | refine quiet_call (.bool true) 8 #[] (by kernel_rfl) ?_ (fun u hu => (awake8 u).mono fun x u' h => ⟨h.1, hu.trans (h.2.mono hu.size)⟩) ?_
        · intro u hu
          go_simp
          done
    go_simp
    refine hK _ ?_
    clear hK K
  refine wpQuiet_nil (fun u hu => ?_)
  go_wp2_with fail
  go_ret
  have hb6 := hb4.trans (hu.mono (by omega))
  exact ⟨rfl, by first | exact hb6 | (rw [hk0]; exact hb6)⟩
end Go.Proofs.Ytknjemmhcjihfaa.Key
