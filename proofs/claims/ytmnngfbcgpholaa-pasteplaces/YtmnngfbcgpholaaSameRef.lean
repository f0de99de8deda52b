/-
  Contract of Same (of nodes), the document's.
-/
import Derived.Test.YtmnngfbcgpholaaSameN
namespace Go.Proofs.Ytmnngfbcgpholaa.Key
open Go.RowKit Draw
open Go.Op (bytesLess)

theorem not_take {α : Type} {l l' : List α} {j : Nat} (h1 : j < l.length) (h2 : j < l'.length) (h : l[j] ≠ l'[j]) : ¬ l = l' := by
  rintro rfl
  exact h rfl

set_option maxRecDepth 100000 in
set_option maxHeartbeats 2000000 in
theorem same10 (n n' : Nd) (p p' : Pl) (w : World) (hf : Few n) (hf' : Few n') (h : Lies w n p) (h' : Lies w n' p') :
    Calls Try.prog 10 #[nv n p, nv n' p'] w fun x w' => Tells x (n = n') ∧ Below w.heap.size w w' := by
  have hb0 := two_nodes w (.cells #[.bool n.leaf, .slice p.a1 n.ps.length p.c1, .slice p.a2 n.pv.length p.c2, .slice p.a3 n.ks.length p.c3, .slice p.a4 n.bf.length p.c4] 27) (.cells #[.bool n'.leaf, .slice p'.a1 n'.ps.length p'.c1, .slice p'.a2 n'.pv.length p'.c2, .slice p'.a3 n'.ks.length p'.c3, .slice p'.a4 n'.bf.length p'.c4] 27)
  have N0 := (NBox.new w (.bool n.leaf) (.slice p.a1 n.ps.length p.c1) (.slice p.a2 n.pv.length p.c2) (.slice p.a3 n.ks.length p.c3) (.slice p.a4 n.bf.length p.c4)).alloc (.cells #[.bool n'.leaf, .slice p'.a1 n'.ps.length p'.c1, .slice p'.a2 n'.pv.length p'.c2, .slice p'.a3 n'.ks.length p'.c3, .slice p'.a4 n'.bf.length p'.c4] 27)
  have M0 := NBox.new (w.alloc (.cells #[.bool n.leaf, .slice p.a1 n.ps.length p.c1, .slice p.a2 n.pv.length p.c2, .slice p.a3 n.ks.length p.c3, .slice p.a4 n.bf.length p.c4] 27)) (.bool n'.leaf) (.slice p'.a1 n'.ps.length p'.c1) (.slice p'.a2 n'.pv.length p'.c2) (.slice p'.a3 n'.ks.length p'.c3) (.slice p'.a4 n'.bf.length p'.c4)
  simp only [World.size_alloc] at M0
  obtain ⟨l1, l2, l3, l4⟩ := hf
  obtain ⟨r1, r2, r3, r4⟩ := hf'
  have H1 := hid (fun w' (hb : Below w.heap.size w w') => same28 p.a1 p'.a1 p.c1 p'.c1 n.ps n'.ps w' (by unfold maxLen; omega) (by unfold maxLen; omega) (h.h1.later hb) (h'.h1.later hb))
  have H4 := hid (fun w' (hb : Below w.heap.size w w') => same29 p.a4 p'.a4 p.c4 p'.c4 n.bf n'.bf w' (by unfold maxLen; omega) (by unfold maxLen; omega) (h.h4.later hb) (h'.h4.later hb))
  have HE : Hid (n = n' ↔ n.leaf = n'.leaf ∧ n.ps = n'.ps ∧ n.pv = n'.pv ∧ n.ks = n'.ks ∧ n.bf = n'.bf) := hid (by cases n; cases n'; simp)
  generalize (n = n') = G at *
  have hh := hid h
  have hh' := hid h'
  clear h h'
  obtain ⟨lf, ps, pv, ks, bf⟩ := n
  obtain ⟨a1, c1, a2, c2, a3, c3, a4, c4⟩ := p
  obtain ⟨lf', ps', pv', ks', bf'⟩ := n'
  obtain ⟨a1', c1', a2', c2', a3', c3', a4', c4'⟩ := p'
  have q2 := hid hh.out.h2
  have q2' := hid hh'.out.h2
  have q3 := hid hh.out.h3
  have q3' := hid hh'.out.h3
  clear hh hh'
  dsimp only [nv] at *
  generalize (ps = ps') = G1 at *
  generalize (bf = bf') = G4 at *
  generalize ps.length = n1 at *
  generalize bf.length = n4 at *
  generalize ps'.length = n1' at *
  generalize bf'.length = n4' at *
  by_cases hl : lf = lf'
  case neg =>
    have HF : Hid (¬ G) := hid (fun g => hl (HE.out.1 g).1)
    clear HE H1 H4 q2 q2' q3 q3'
    have hl' : (lf == lf') = false := by simpa using hl
    generalize pv.length = n2 at *
    generalize ks.length = n3 at *
    generalize pv'.length = n2' at *
    generalize ks'.length = n3' at *
    go_enter Try.func10, Try.ntmps10
    go_wp2_with fail
    go_ret
    exact ⟨Tells.no HF.out, hb0⟩
  case pos =>
  subst hl
  have hl' : (lf == lf) = true := by simp
  by_cases e2 : pv.length = pv'.length
  case neg =>
    have HF : Hid (¬ G) := hid (fun g => e2 (by rw [(HE.out.1 g).2.2.1]))
    clear HE H1 H4 q2 q2' q3 q3'
    generalize pv.length = n2 at *
    generalize ks.length = n3 at *
    generalize pv'.length = n2' at *
    generalize ks'.length = n3' at *
    have t2 : ((n2 : Int) == (n2' : Int)) = false := by simp; omega
    go_enter Try.func10, Try.ntmps10
    go_wp2_with fail
    go_ret
    exact ⟨Tells.no HF.out, hb0⟩
  case pos =>
  by_cases e3 : ks.length = ks'.length
  case neg =>
    have HF : Hid (¬ G) := hid (fun g => e3 (by rw [(HE.out.1 g).2.2.2.1]))
    clear HE H1 H4 q2 q2' q3 q3'
    rw [← e2] at hb0 ⊢
    clear e2
    generalize pv.length = n2 at *
    generalize ks.length = n3 at *
    generalize ks'.length = n3' at *
    have t3 : ((n3 : Int) == (n3' : Int)) = false := by simp; omega
    go_enter Try.func10, Try.ntmps10
    go_wp2_with fail
    go_ret
    exact ⟨Tells.no HF.out, hb0⟩
  case pos =>
  have HX : Hid (G ↔ G1 ∧ pv = pv' ∧ ks = ks' ∧ G4) := hid (by rw [HE.out]; simp)
  have E2 := hid e2
  have E3 := hid e3
  rw [← e2, ← e3] at hb0 N0 M0 ⊢
  clear HE e2 e3
  generalize hn2 : pv.length = n2 at *
  generalize hn3 : ks.length = n3 at *
  have HN2 := hid hn2
  have HN3 := hid hn3
  clear hn2 hn3
  go_enter Try.func10, Try.ntmps10
  go_wp2_with fail
  generalize (w.alloc (.cells #[.bool lf, .slice a1 n1 c1, .slice a2 n2 c2, .slice a3 n3 c3, .slice a4 n4 c4] 27)).alloc (.cells #[.bool lf, .slice a1' n1' c1', .slice a2' n2 c2', .slice a3' n3 c3', .slice a4' n4' c4'] 27) = w0 at *
  generalize hk0 : w.heap.size = k0 at *
  go_loopw [33] (fun i wr => ∃ j : Nat, j ≤ n2 ∧ i = .int .i64 j ∧ Hid (pv.take j = pv'.take j) ∧ Below w0.heap.size w0 wr) (fun i _ => n2 - (intOf i).toNat)
  case atStart => exact ⟨0, Nat.zero_le _, rfl, by simp [Hid], Below.refl _ _⟩
  case round =>
    obtain ⟨j, hj, rfl, hjt, hb⟩ := hrel
    have hbw : Below k0 w wr := hb0.trans (hb.mono (by have := hb0.size; omega))
    have N1 := N0.later hb
    have M1 := M0.later hb
    obtain ⟨m0, m1, m2, m3, m4⟩ := N1.cells
    obtain ⟨z0, z1, z2, z3, z4⟩ := M1.cells
    by_cases hlt : j < n2
    · have hlt1 : j < pv.length := by rw [HN2.out]; exact hlt
      have hlt2 : j < pv'.length := by have := E2.out; omega
      obtain ⟨b, off, rfl, d0⟩ := (q2.out.later (by rw [hk0]; exact hbw)).at hlt1
      obtain ⟨b', off', rfl, d0'⟩ := (q2'.out.later (by rw [hk0]; exact hbw)).at hlt2
      obtain ⟨m, HM⟩ : ∃ m, Hid (pv[j] = m) := ⟨_, hid rfl⟩
      obtain ⟨m', HM'⟩ : ∃ m, Hid (pv'[j] = m) := ⟨_, hid rfl⟩
      rw [HM.out] at d0
      rw [HM'.out] at d0'
      cases q : (m.toList == m'.toList)
      · have HF : Hid (¬ G) := hid (fun g => not_take hlt1 hlt2 (by rw [HM.out, HM'.out]; exact not_sameS q) (HX.out.1 g).2.1)
        clear HX H1 H4
        go_wp2_with fail
        go_quiet (fail)
        go_wp2_with fail
        go_ret
        exact ⟨Tells.no HF.out, by rw [hk0]; exact ⟨hbw.os, hbw.tape, hbw.output, hbw.size, hbw.block⟩⟩
      · have HF : Hid (m = m') := hid (is_sameS q)
        clear HX H1 H4
        go_wp2_with fail
        go_quiet (fail)
        go_wp2_with fail
        go_roundw
        case rel => exact ⟨j + 1, by omega, by go_num, hid (take_two hlt1 hlt2 hjt.out (HM.out.trans (HF.out.trans HM'.out.symm))), ⟨hb.os, hb.tape, hb.output, hb.size, hb.block⟩⟩
        case measure => simp [intOf]; omega
    · obtain rfl : j = n2 := by omega
      have HX2 : Hid (G ↔ G1 ∧ ks = ks' ∧ G4) := hid (by
        have h0 := hjt.out
        rw [← HN2.out, List.take_length, HN2.out, E2.out, List.take_length] at h0
        rw [HX.out]
        simp [h0])
      clear HX hjt
      go_wp2_with fail
      go_loopw [51] (fun i wr' => ∃ j : Nat, j ≤ n3 ∧ i = .int .i64 j ∧ Hid (ks.take j = ks'.take j) ∧ Below wr.heap.size wr wr') (fun i _ => n3 - (intOf i).toNat)
      case atStart => exact ⟨0, Nat.zero_le _, rfl, by simp [Hid], Below.refl _ _⟩
      case round =>
        obtain ⟨j, hj, rfl, hjt, hb3⟩ := hrel
        have hbw3 := hbw.trans (hb3.mono (by have := hbw.size; omega))
        have N2 := N1.later hb3
        have M2 := M1.later hb3
        clear m0 m1 m2 m3 m4 z0 z1 z2 z3 z4
        obtain ⟨m0, m1, m2, m3, m4⟩ := N2.cells
        obtain ⟨z0, z1, z2, z3, z4⟩ := M2.cells
        by_cases hlt : j < n3
        · have hlt1 : j < ks.length := by rw [HN3.out]; exact hlt
          have hlt2 : j < ks'.length := by have := E3.out; omega
          clear m0 m1 m2 m3 m4 z0 z1 z2 z3 z4
          obtain ⟨b, off, rfl, h6⟩ := (q3.out.later (by rw [hk0]; exact hbw3)).at hlt1
          obtain ⟨b', off', rfl, h6'⟩ := (q3'.out.later (by rw [hk0]; exact hbw3)).at hlt2
          obtain ⟨m, HM⟩ : ∃ m, Hid (ks[j] = m) := ⟨_, hid rfl⟩
          obtain ⟨m', HM'⟩ : ∃ m, Hid (ks'[j] = m) := ⟨_, hid rfl⟩
          rw [HM.out] at h6
          rw [HM'.out] at h6'
          have HS := hid (@is_sameE m m')
          have HD := hid (@not_sameE m m')
          obtain ⟨bk, dp, st, ad⟩ := m
          obtain ⟨bk', dp', st', ad'⟩ := m'
          dsimp only at HS HD
          obtain ⟨t, HT⟩ : ∃ t, Hid (((bk == bk') && ((dp == dp') && ((st.toList == st'.toList) && (ad.toList == ad'.toList)))) = t) := ⟨_, hid rfl⟩
          rw [HT.out] at HS HD
          go_upto_region 12 with fail
          refine wp_region_each [(some 54, [], false), (some 55, [(0, 54)], false), (some 56, [], false), (some 57, [(1, 55), (2, 56)], false), (some 58, [(3, 57)], false), (some 59, [], false), (some 60, [(5, 59)], false), (some 61, [], false), (some 62, [(6, 60), (7, 61)], false), (some 63, [(8, 62)], false), (some 64, [(4, 58), (9, 63)], true)]
            (fun u => Below wr.heap.size wr u) (fun _ u u' => Below u.heap.size u u')
            (fun i v _ => v = match i with | 0 => .pointer (some ⟨k0, 3, none⟩) | 1 => .slice (some ⟨b, off, none⟩) n3 c3 | 2 => .int .i64 j | 3 => .pointer (some ⟨b, off + j * 4, none⟩) | 4 => (ev ⟨bk, dp, st, ad⟩) | 5 => .pointer (some ⟨k0 + 1, 3, none⟩) | 6 => .slice (some ⟨b', off', none⟩) n3 c3' | 7 => .int .i64 j | 8 => .pointer (some ⟨b', off' + j * 4, none⟩) | 9 => (ev ⟨bk', dp', st', ad'⟩) | _ => .bool (!t))
            (by kernel_rfl) (by kernel_rfl) (Below.refl _ _).drew (fun _ u u' h h' => h.trans (h'.mono h.size)) (fun _ _ _ _ _ _ _ _ h => h) ⟨?_, ?_, ?_, ?_, ?_, ?_, ?_, ?_, ?_, ?_, ?_, trivial⟩ ?_
          · rintro u hu
            exact opYields_val _ (by kernel_rfl) (by go_simp) ⟨Below.refl _ _, rfl⟩
          · rintro u hu _ rfl
            obtain ⟨m0, m1, m2, m3, m4⟩ := (N2.later hu).cells
            exact opYields_val (.slice (some ⟨b, off, none⟩) n3 c3) (by kernel_rfl) (by go_simp) ⟨Below.refl _ _, rfl⟩
          · rintro u hu
            exact opYields_val _ (by kernel_rfl) (by go_simp) ⟨Below.refl _ _, rfl⟩
          · rintro u hu _ rfl _ rfl
            exact opYields_val _ (by kernel_rfl) (by go_simp) ⟨Below.refl _ _, rfl⟩
          · rintro u hu _ rfl
            obtain ⟨c0, c1, c2, c3⟩ := h6.later hu
            exact opYields_val (ev ⟨bk, dp, st, ad⟩) (by kernel_rfl) (by go_simp) ⟨Below.refl _ _, rfl⟩
          · rintro u hu
            exact opYields_val _ (by kernel_rfl) (by go_simp) ⟨Below.refl _ _, rfl⟩
          · rintro u hu _ rfl
            obtain ⟨m0, m1, m2, m3, m4⟩ := (M2.later hu).cells
            exact opYields_val (.slice (some ⟨b', off', none⟩) n3 c3') (by kernel_rfl) (by go_simp) ⟨Below.refl _ _, rfl⟩
          · rintro u hu
            exact opYields_val _ (by kernel_rfl) (by go_simp) ⟨Below.refl _ _, rfl⟩
          · rintro u hu _ rfl _ rfl
            exact opYields_val _ (by kernel_rfl) (by go_simp) ⟨Below.refl _ _, rfl⟩
          · rintro u hu _ rfl
            obtain ⟨c0, c1, c2, c3⟩ := h6'.later hu
            exact opYields_val (ev ⟨bk', dp', st', ad'⟩) (by kernel_rfl) (by go_simp) ⟨Below.refl _ _, rfl⟩
          · rintro u hu _ rfl _ rfl
            refine opYields_val (.bool (!t)) (by kernel_rfl) ?_ ⟨Below.refl _ _, rfl⟩
            rw [← HT.out]
            cases q0 : (bk == bk')
            · go_simp
            cases q1 : (dp == dp')
            · go_simp
            cases q2 : (st.toList == st'.toList)
            · go_simp
            cases q3 : (ad.toList == ad'.toList)
            · go_simp
            · go_simp
          · rintro u hu _ _ _ _ _ _ _ _ _ _ _ rfl
            have hb' := hb3.trans (hu.mono hb3.size)
            have hbw' := hbw.trans (hb'.mono (by have := hbw.size; omega))
            simp only [givingAll, Act.put, List.setIfInBounds_toArray, List.set_cons_zero, List.set_cons_succ]
            cases t
            · have hne := HD.out rfl
              have HF : Hid (¬ G) := hid (fun g => not_take hlt1 hlt2 (by rw [HM.out, HM'.out]; exact hne) (HX2.out.1 g).2.1)
              clear HD HS HT HX2 H1 H4 hne
              go_wp2_with fail
              go_ret
              exact ⟨Tells.no HF.out, by rw [hk0]; exact hbw'⟩
            · have heq := hid (HS.out rfl)
              clear HD HS HT HX2 H1 H4
              go_wp2_with fail
              go_roundw
              case rel => exact ⟨j + 1, by omega, by go_num, hid (take_two hlt1 hlt2 hjt.out (HM.out.trans (heq.out.trans HM'.out.symm))), hb'⟩
              case measure => simp [intOf]; omega
        · obtain rfl : j = n3 := by omega
          have HX3 : Hid (G ↔ G1 ∧ G4) := hid (by
            have h0 := hjt.out
            rw [← HN3.out, List.take_length, HN3.out, E3.out, List.take_length] at h0
            rw [HX2.out]
            simp [h0])
          clear HX2 hjt
          go_wp2_with fail
          refine (H1.out _ hbw3).mono ?_
          rintro x w1 ⟨⟨b1, rfl, e1⟩, hb4⟩
          have hbw4 := hbw3.trans (hb4.mono (by have := hbw3.size; omega))
          have N3 := N2.later hb4
          have M3 := M2.later hb4
          clear m0 m1 m2 m3 m4 z0 z1 z2 z3 z4 H1
          obtain ⟨m0, m1, m2, m3, m4⟩ := N3.cells
          obtain ⟨z0, z1, z2, z3, z4⟩ := M3.cells
          cases b1
          case false =>
            have HF : Hid (¬ G) := hid (fun g => by have := e1.2 (HX3.out.1 g).1; cases this)
            clear e1 HX3 H4
            go_wp2_with fail
            go_ret
            exact ⟨Tells.no HF.out, by rw [hk0]; exact hbw4⟩
          case true =>
          have HX4 : Hid (G ↔ G4) := hid (by rw [HX3.out]; simp [e1.1 rfl])
          clear e1 HX3
          go_wp2_with fail
          refine (H4.out _ hbw4).mono ?_
          rintro x w2 ⟨⟨b2, rfl, e2⟩, hb5⟩
          have hbw5 := hbw4.trans (hb5.mono (by have := hbw4.size; omega))
          have HF : Hid (b2 = true ↔ G) := hid (by rw [e2, HX4.out])
          clear e2 HX4 H4 m0 m1 m2 m3 m4 z0 z1 z2 z3 z4
          cases b2
          · have HG : Hid (¬ G) := hid (fun g => by have := HF.out.2 g; cases this)
            clear HF
            go_wp2_with fail
            go_ret
            exact ⟨Tells.no HG.out, by rw [hk0]; exact hbw5⟩
          · have HG : Hid G := hid (HF.out.1 rfl)
            clear HF
            go_wp2_with fail
            go_ret
            exact ⟨Tells.yes HG.out, by rw [hk0]; exact hbw5⟩
end Go.Proofs.Ytmnngfbcgpholaa.Key
