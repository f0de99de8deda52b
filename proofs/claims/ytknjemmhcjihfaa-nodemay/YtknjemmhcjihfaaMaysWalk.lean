/-
  The walk of the statement NodeMay.
-/
import Derived.Test.YtknjemmhcjihfaaBump
import Derived.Test.YtknjemmhcjihfaaSameWalk
import Derived.Test.YtknjemmhcjihfaaTargetsWalk
import Derived.Test.YtknjemmhcjihfaaRefMay2
namespace Go.Proofs.Ytknjemmhcjihfaa.Key
open Go.RowKit Draw
open Go.Op (bytesLess)

theorem bump_other {n : Nd} (hi : n.In) (h0 : 0 < n.ks.length) : (⟨n.leaf, n.ps, n.pv, n.ks.map bumpE, n.bf⟩ : Nd) ≠ n := by
  intro e
  have hk : n.ks.map bumpE = n.ks := congrArg Nd.ks e
  have hb : bumpE n.ks[0] = n.ks[0] := by
    have h1 : (n.ks.map bumpE)[0]? = n.ks[0]? := by rw [hk]
    rw [List.getElem?_map, List.getElem?_eq_getElem h0] at h1
    simpa using h1
  exact bump_ne (hi.ks _ (List.getElem_mem h0)).blk (congrArg E.blk hb)

set_option maxRecDepth 100000 in
set_option maxHeartbeats 2000000 in
theorem mays3 (n : Nd) (p : Pl) (w : World) (hi : n.In) (hp : p.Ok) (h : Lies w n p) :
    Calls Try.prog 3 #[nv n p] w fun e w' => e = .returned (.bool true) ∧ Below w.heap.size w w' := by
  have hb0 : Below w.heap.size w (w.alloc (.cells #[.bool n.leaf, .slice p.a1 n.ps.length p.c1, .slice p.a2 n.pv.length p.c2, .slice p.a3 n.ks.length p.c3, .slice p.a4 n.bf.length p.c4] 27)) := below_box w _
  have N0 := NBox.new w (.bool n.leaf) (.slice p.a1 n.ps.length p.c1) (.slice p.a2 n.pv.length p.c2) (.slice p.a3 n.ks.length p.c3) (.slice p.a4 n.bf.length p.c4)
  have HG := hid (great7 n p _ hi.long (h.later hb0))
  cases g1 : greatN n
  case true =>
    rw [g1] at HG
    clear hi hp h
    obtain ⟨lf, ps, pv, ks, bf⟩ := n
    obtain ⟨a1, c1, a2, c2, a3, c3, a4, c4⟩ := p
    dsimp only [nv] at *
    generalize ps.length = n1 at *
    generalize pv.length = n2 at *
    generalize ks.length = n3 at *
    generalize bf.length = n4 at *
    go_enter Try.func3, Try.ntmps3
    go_wp2_with fail
    refine HG.out.mono ?_
    rintro x w1 ⟨rfl, hb1⟩
    have hb2 := hb0.trans (hb1.mono hb0.size)
    clear HG
    go_wp2_with fail
    refine (awake8 _).mono ?_
    rintro x w2 ⟨rfl, hb3⟩
    go_wp2_with fail
    go_ret
    exact ⟨rfl, hb2.trans (hb3.mono hb2.size)⟩
  case false =>
  rw [g1] at HG
  have hsm := small_of g1 hi
  have few := hsm.few
  have few' : Few ⟨n.leaf, n.ps, n.pv, n.ks.map bumpE, n.bf⟩ := ⟨few.l1, few.l2, by dsimp only; rw [List.length_map]; exact few.l3, few.l4⟩
  clear g1
  have O9 := hid (fun w' (hb : Below w.heap.size w w') => own9 n p w' few hp (h.later hb))
  have HL := hid (fun w' (hb : Below w.heap.size w w') => h.later hb)
  have SR : Hid (∀ w' q, Lies w' n q → Below w.heap.size w w' → Calls Try.prog 10 #[nv n q, nv n p] w' fun x w'' => x = .returned (.bool true) ∧ Below w'.heap.size w' w'') := hid (fun w' q hq hb => (same10 n n q p w' few few hq (h.later hb)).mono fun x w'' h => ⟨h.1.get (by simp), h.2⟩)
  have SP : Hid (∀ w' q, Lies w' n q → Below w.heap.size w w' → Calls Try.prog 11 #[nv n q, nv n p] w' fun x w'' => x = .returned (.bool true) ∧ Below w'.heap.size w' w'') := hid (fun w' q hq hb => (same11 n n q p w' few few hq (h.later hb)).mono fun x w'' h => ⟨h.1.get (by simp), h.2⟩)
  have SN : Hid (0 < n.ks.length → ∀ w' q, Lies w' ⟨n.leaf, n.ps, n.pv, n.ks.map bumpE, n.bf⟩ q → Below w.heap.size w w' → Calls Try.prog 11 #[nv ⟨n.leaf, n.ps, n.pv, n.ks.map bumpE, n.bf⟩ q, nv n p] w' fun x w'' => x = .returned (.bool false) ∧ Below w'.heap.size w' w'') := hid (fun h0 w' q hq hb => (same11 _ n q p w' few' few hq (h.later hb)).mono fun x w'' h => ⟨h.1.get (by simp [bump_other hi h0]), h.2⟩)
  have BN := hid (fun (e : E) (he : e ∈ n.ks) => bump_ne (hi.ks e he).blk)
  have P1 := hid (fun w' (hb : Below w.heap.size w w') => may12 n p w' few (h.later hb))
  have P2 := hid (fun w' (hb : Below w.heap.size w w') => may13 n p w' few (h.later hb) (fun m hm => (hsm.db m hm).1))
  have P3 := hid (fun w' (hb : Below w.heap.size w w') => deep14 n p w' hsm (h.later hb))
  have P4 := hid (fun w' (hb : Below w.heap.size w w') => deep15 n p w' hsm (h.later hb))
  have P5 := hid (fun w' (hb : Below w.heap.size w w') => targets17 n p w' few (h.later hb))
  have P6 := hid (fun w' (hb : Below w.heap.size w w') => targets18 n p w' few (h.later hb))
  have hTL : (targetsL n).length ≤ 2000 := by
    have h1 := few.l3
    have h2 := few.l4
    have h3 := blocks_len n.bf
    unfold targetsL
    rw [List.length_append, List.length_map]
    omega
  have l3 := few.l3
  clear hi hp h hsm few few'
  generalize mayI n = R at *
  generalize deepI n = DI at *
  generalize targetsL n = TL at *
  obtain ⟨lf, ps, pv, ks, bf⟩ := n
  obtain ⟨a1, c1, a2, c2, a3, c3, a4, c4⟩ := p
  dsimp only [nv] at *
  rw [List.length_map] at SN
  generalize hn3 : ks.length = n3 at *
  have HN3 := hid hn3
  clear hn3
  generalize hn1 : ps.length = n1 at *
  generalize hn2 : pv.length = n2 at *
  generalize hn4 : bf.length = n4 at *
  go_enter Try.func3, Try.ntmps3
  go_wp2_with fail
  refine HG.out.mono ?_
  rintro x w1 ⟨rfl, hb1⟩
  have hb2 := hb0.trans (hb1.mono hb0.size)
  have N1 := N0.later hb1
  obtain ⟨m0, m1, m2, m3, m4⟩ := N1.cells
  clear HG N0 hb0 hb1
  go_wp2_with fail
  refine (O9.out w1 hb2).mono ?_
  clear O9 m0 m1 m2 m3 m4
  rintro x w2 ⟨x1, x2, x3, x4, rfl, ho, hb3⟩
  obtain ⟨⟨b1, d1, b2, d2, b3, d3, b4, d4⟩, e1, e2, e3, e4, hq⟩ := ho.lies
  dsimp only at e1 e2 e3 e4
  rw [hn1] at e1
  rw [hn2] at e2
  rw [HN3.out] at e3
  rw [hn4] at e4
  subst e1 e2 e3 e4
  clear hn1 hn2 hn4
  have hs2 := hb2.size
  have N2 := N1.later hb3
  have hlt2 := N2.lt
  obtain ⟨m0, m1, m2, m3, m4⟩ := N2.cells
  have ho3 := ho.later (below_box w2 (.cells #[.bool lf, .slice b1 n1 d1, .slice b2 n2 d2, .slice b3 n3 d3, .slice b4 n4 d4] 27))
  have N3 := N2.alloc (.cells #[.bool lf, .slice b1 n1 d1, .slice b2 n2 d2, .slice b3 n3 d3, .slice b4 n4 d4] 27)
  have M3 := NBox.new w2 (.bool lf) (.slice b1 n1 d1) (.slice b2 n2 d2) (.slice b3 n3 d3) (.slice b4 n4 d4)
  have hw3 : Below w1.heap.size w1 (w2.alloc (.cells #[.bool lf, .slice b1 n1 d1, .slice b2 n2 d2, .slice b3 n3 d3, .slice b4 n4 d4] 27)) := hb3.alloc hb3.size _
  have hbw3 := hb2.trans (hw3.mono hs2)
  have HSR := SR.out _ ⟨b1, d1, b2, d2, b3, d3, b4, d4⟩ ho3.lies' hbw3
  dsimp only at HSR
  clear SR ho hb3 hq N1
  go_wp2_with fail
  refine HSR.mono ?_
  clear HSR m0 m1 m2 m3 m4 N2 hlt2
  generalize w2.alloc (.cells #[.bool lf, .slice b1 n1 d1, .slice b2 n2 d2, .slice b3 n3 d3, .slice b4 n4 d4] 27) = w3 at *
  generalize w2.heap.size = k1 at *
  generalize hk0 : w.heap.size = k0 at *
  rintro x w4 ⟨rfl, hb4⟩
  have hw4 := hw3.trans (hb4.mono hw3.size)
  have hbw4 := hb2.trans (hw4.mono (by omega))
  have ho4 := ho3.later hb4
  have N4 := N3.later hb4
  have M4 := M3.later hb4
  clear ho3 N3 M3 hw3 hbw3 hb4
  obtain ⟨m0, m1, m2, m3, m4⟩ := N4.cells
  obtain ⟨z0, z1, z2, z3, z4⟩ := M4.cells
  have HSP := SP.out _ ⟨b1, d1, b2, d2, b3, d3, b4, d4⟩ ho4.lies' hbw4
  dsimp only at HSP
  clear SP
  go_wp2_with fail
  refine HSP.mono ?_
  clear HSP m0 m1 m2 m3 m4 z0 z1 z2 z3 z4
  rintro x w5 ⟨rfl, hb5⟩
  have hw5 := hw4.trans (hb5.mono hw4.size)
  have ho5 := ho4.later hb5
  have N5 := N4.later hb5
  have M5 := M4.later hb5
  clear ho4 N4 M4 hw4 hbw4 hb5
  have hkw : k0 < w1.heap.size ∨ True := .inr trivial
  clear hkw
  go_wp2_with fail
  go_loopw [4] (fun i wr => ∃ j : Nat, j ≤ n3 ∧ i = .int .i64 j ∧ Owns wr (w1.heap.size + 1 + 1) ⟨lf, ps, pv, bumpL ks j, bf⟩ (.slice b1 n1 d1) (.slice b2 n2 d2) (.slice b3 n3 d3) (.slice b4 n4 d4) ∧ NBox wr k0 (.bool lf) (.slice a1 n1 c1) (.slice a2 n2 c2) (.slice a3 n3 c3) (.slice a4 n4 c4) ∧ NBox wr k1 (.bool lf) (.slice b1 n1 d1) (.slice b2 n2 d2) (.slice b3 n3 d3) (.slice b4 n4 d4) ∧ Below w1.heap.size w1 wr) (fun i _ => n3 - (intOf i).toNat)
  case atStart => exact ⟨0, Nat.zero_le _, rfl, by rw [bumpL_zero]; exact ho5, N5, M5, hw5⟩
  case round =>
    obtain ⟨j, hj, rfl, hoj, Nj, Mj, hwj⟩ := hrel
    obtain ⟨z0, z1, z2, z3, z4⟩ := Mj.cells
    clear ho5 N5 M5 hw5
    by_cases hlt : j < n3
    · have hlt' : j < ks.length := by rw [HN3.out]; exact hlt
      obtain ⟨g, rfl, hBg, hg, h6⟩ := hoj.edge hlt'
      have hob := hoj.bump' HN3.out hlt' hg
      obtain ⟨cur, hg'⟩ := hg
      have Nj' := fun u => NBox.type (i := j * 4) (u := u) Nj hg'
      have Mj' := fun u => NBox.type (i := j * 4) (u := u) Mj hg'
      have fz : wr.frozen? ⟨g, j * 4, none⟩ = false := frozen_of_row _ _ _ _ _ hg'
      generalize hkj : ks[j] = e at *
      obtain ⟨bk, dp, st, ad⟩ := e
      obtain ⟨q0, q1, q2, q3⟩ := h6
      dsimp only at q0 q1 q2 q3 hob
      clear hoj hg'
      go_wp2_with fail
      go_roundw
      case rel => exact ⟨j + 1, by omega, by go_num, hob, Nj' _, Mj' _, hwj.setCell (p := ⟨g, j * 4, none⟩) (by dsimp only; omega) _⟩
      case measure => simp [intOf]; omega
    · obtain rfl : j = n3 := by omega
      rw [← HN3.out, bumpL_all, HN3.out] at hoj
      have hbwj := hb2.trans (hwj.mono (by omega))
      have hsj := hbwj.size
      have hqj := hoj.lies'
      rcases Nat.eq_zero_or_pos j with h0 | h0
      · subst h0
        clear SN hqj hoj
        go_upto_region 10 with fail
        clear z0 z1 z2 z3 z4
        refine wp_region_each [(some 36, [], false), (some 37, [(0, 36)], false), (some 38, [(1, 37)], false), (some 39, [(2, 38)], false), (some 40, [(3, 39)], false), (some 41, [(4, 40)], false), (some 42, [(4, 40)], false), (some 43, [(5, 41), (6, 42), (4, 40)], false), (some 44, [(7, 43), (4, 40)], false), (some 45, [(8, 44)], false), (some 46, [(9, 45), (8, 44)], false), (some 47, [(10, 46), (8, 44)], false), (some 48, [(11, 47), (8, 44)], false), (some 49, [(12, 48), (8, 44)], false), (some 50, [(8, 44)], false), (some 51, [(14, 50), (8, 44)], false), (some 52, [(15, 51), (8, 44)], false), (some 53, [(16, 52), (8, 44)], false), (some 54, [(17, 53), (8, 44)], false), (some 55, [(13, 49), (18, 54), (8, 44)], false), (some 56, [(8, 44), (19, 55), (4, 40)], false), (some 57, [(4, 40), (20, 56)], true)]
          (fun u => Below wr.heap.size wr u) (fun _ u u' => Below u.heap.size u u')
          (fun i v _ => v = match i with | 0 => .pointer (some ⟨k1, 3, none⟩) | 1 => .slice b3 0 d3 | 2 => .int .i64 0 | 3 => .bool false | 4 => .bool false | 5 => undef | 6 => undef | 7 => undef | 8 => undef | 9 => undef | 10 => undef | 11 => undef | 12 => undef | 13 => undef | 14 => undef | 15 => undef | 16 => undef | 17 => undef | 18 => undef | 19 => undef | 20 => undef | _ => .bool false)
          (by kernel_rfl) (by kernel_rfl) (Below.refl _ _).drew (fun _ u u' h h' => h.trans (h'.mono h.size)) (fun _ _ _ _ _ _ _ _ h => h) ⟨?_, ?_, ?_, ?_, ?_, ?_, ?_, ?_, ?_, ?_, ?_, ?_, ?_, ?_, ?_, ?_, ?_, ?_, ?_, ?_, ?_, ?_, trivial⟩ ?_
        · rintro u hu
          exact opYields_val (.pointer (some ⟨k1, 3, none⟩)) (by kernel_rfl) (by go_simp) ⟨Below.refl _ _, rfl⟩
        · rintro u hu _ rfl
          obtain ⟨z0, z1, z2, z3, z4⟩ := (Mj.later hu).cells
          exact opYields_val (.slice b3 0 d3) (by kernel_rfl) (by go_simp) ⟨Below.refl _ _, rfl⟩
        · rintro u hu _ rfl
          exact opYields_val (.int .i64 0) (by kernel_rfl) (by go_simp) ⟨Below.refl _ _, rfl⟩
        · rintro u hu _ rfl
          exact opYields_val (.bool false) (by kernel_rfl) (by go_simp) ⟨Below.refl _ _, rfl⟩
        · rintro u hu _ rfl
          exact opYields_val (.bool false) (by kernel_rfl) (by go_simp) ⟨Below.refl _ _, rfl⟩
        · rintro u hu _ rfl
          exact opYields_not (by kernel_rfl) ⟨Below.refl _ _, rfl⟩
        · rintro u hu _ rfl
          exact opYields_not (by kernel_rfl) ⟨Below.refl _ _, rfl⟩
        · rintro u hu _ rfl _ rfl _ rfl
          exact opYields_not (by kernel_rfl) ⟨Below.refl _ _, rfl⟩
        · rintro u hu _ rfl _ rfl
          exact opYields_not (by kernel_rfl) ⟨Below.refl _ _, rfl⟩
        · rintro u hu _ rfl
          exact opYields_not (by kernel_rfl) ⟨Below.refl _ _, rfl⟩
        · rintro u hu _ rfl _ rfl
          exact opYields_not (by kernel_rfl) ⟨Below.refl _ _, rfl⟩
        · rintro u hu _ rfl _ rfl
          exact opYields_not (by kernel_rfl) ⟨Below.refl _ _, rfl⟩
        · rintro u hu _ rfl _ rfl
          exact opYields_not (by kernel_rfl) ⟨Below.refl _ _, rfl⟩
        · rintro u hu _ rfl _ rfl
          exact opYields_not (by kernel_rfl) ⟨Below.refl _ _, rfl⟩
        · rintro u hu _ rfl
          exact opYields_not (by kernel_rfl) ⟨Below.refl _ _, rfl⟩
        · rintro u hu _ rfl _ rfl
          exact opYields_not (by kernel_rfl) ⟨Below.refl _ _, rfl⟩
        · rintro u hu _ rfl _ rfl
          exact opYields_not (by kernel_rfl) ⟨Below.refl _ _, rfl⟩
        · rintro u hu _ rfl _ rfl
          exact opYields_not (by kernel_rfl) ⟨Below.refl _ _, rfl⟩
        · rintro u hu _ rfl _ rfl
          exact opYields_not (by kernel_rfl) ⟨Below.refl _ _, rfl⟩
        · rintro u hu _ rfl _ rfl _ rfl
          exact opYields_not (by kernel_rfl) ⟨Below.refl _ _, rfl⟩
        · rintro u hu _ rfl _ rfl _ rfl
          exact opYields_not (by kernel_rfl) ⟨Below.refl _ _, rfl⟩
        · rintro u hu _ rfl _ rfl
          exact opYields_val (.bool false) (by kernel_rfl) (by go_simp) ⟨Below.refl _ _, rfl⟩
        rintro u hu _ _ _ _ _ _ _ _ _ _ _ _ _ _ _ _ _ _ _ _ _ _ rfl
        simp only [givingAll, Act.put, List.setIfInBounds_toArray, List.set_cons_zero, List.set_cons_succ]
        go_wp2_with fail
        have hsu := hu.size
        have hbu := hbwj.trans (hu.mono (by omega))
        have hsb := hbu.size
        have Nu := Nj.later hu
        refine wp_region_each [(some 58, [], false), (some 59, [(0, 58)], false), (some 60, [], false), (some 61, [(2, 60)], false), (some 62, [(1, 59), (3, 61)], false), (some 63, [(4, 62)], false), (some 64, [(5, 63)], false), (some 65, [(6, 64), (5, 63)], false), (some 66, [(5, 63)], false), (some 67, [(8, 66), (5, 63)], false), (some 68, [(7, 65), (9, 67), (5, 63)], false), (some 69, [(5, 63), (10, 68)], false), (some 70, [(11, 69)], false), (some 71, [(12, 70)], false), (some 72, [(13, 71), (12, 70)], false), (some 73, [(12, 70)], false), (some 74, [(15, 73), (12, 70)], false), (some 75, [(14, 72), (16, 74), (12, 70)], false), (some 76, [(12, 70), (17, 75)], false), (some 77, [(18, 76)], false), (some 78, [(19, 77)], false), (some 79, [(19, 77), (20, 78)], false), (some 2, [(21, 79)], true)]
          (fun u' => Below u.heap.size u u') (fun _ u' u'' => Below u'.heap.size u' u'')
          (fun i v u' => match i with | 0 => v = .agg #[.bool lf, .slice a1 n1 c1, .slice a2 n2 c2, .slice a3 0 c3, .slice a4 n4 c4] | 1 => v = .int .i64 R | 2 => v = .agg #[.bool lf, .slice a1 n1 c1, .slice a2 n2 c2, .slice a3 0 c3, .slice a4 n4 c4] | 3 => v = .int .i64 R | 4 => v = .bool true | 5 => v = .bool true | 6 => v = .agg #[.bool lf, .slice a1 n1 c1, .slice a2 n2 c2, .slice a3 0 c3, .slice a4 n4 c4] | 7 => v = .int .u16 DI | 8 => v = .agg #[.bool lf, .slice a1 n1 c1, .slice a2 n2 c2, .slice a3 0 c3, .slice a4 n4 c4] | 9 => v = .int .u16 DI | 10 => v = .bool true | 11 => v = .bool true | 12 => v = .bool true | 13 => v = .agg #[.bool lf, .slice a1 n1 c1, .slice a2 n2 c2, .slice a3 0 c3, .slice a4 n4 c4] | 14 => OwnU u' u.heap.size v TL | 15 => v = .agg #[.bool lf, .slice a1 n1 c1, .slice a2 n2 c2, .slice a3 0 c3, .slice a4 n4 c4] | 16 => OwnU u' u.heap.size v TL | 17 => v = .bool true | 18 => v = .bool true | 19 => v = .bool true | 20 => v = .bool true | 21 => v = .bool true | 22 => v = .bool true | _ => True)
          (by kernel_rfl) (by kernel_rfl) (Below.refl _ _).drew (fun i u' u'' h h' => h.trans (h'.mono h.size)) (fun i q v u' u'' hn h h' hv => ?_) ⟨?_, ?_, ?_, ?_, ?_, ?_, ?_, ?_, ?_, ?_, ?_, ?_, ?_, ?_, ?_, ?_, ?_, ?_, ?_, ?_, ?_, ?_, ?_, trivial⟩ ?_
        · match q with
          | 0 => exact hv
          | 1 => exact hv
          | 2 => exact hv
          | 3 => exact hv
          | 4 => exact hv
          | 5 => exact hv
          | 6 => exact hv
          | 7 => exact hv
          | 8 => exact hv
          | 9 => exact hv
          | 10 => exact hv
          | 11 => exact hv
          | 12 => exact hv
          | 13 => exact hv
          | 14 => exact OwnU.later hv h'
          | 15 => exact hv
          | 16 => exact OwnU.later hv h'
          | 17 => exact hv
          | 18 => exact hv
          | 19 => exact hv
          | 20 => exact hv
          | 21 => exact hv
          | 22 => exact hv
          | _ + 23 => trivial
        · rintro u' hu'
          obtain ⟨m0, m1, m2, m3, m4⟩ := (Nu.later hu').cells
          exact opYields_val (.agg #[.bool lf, .slice a1 n1 c1, .slice a2 n2 c2, .slice a3 0 c3, .slice a4 n4 c4]) (by kernel_rfl) (by go_simp) ⟨Below.refl _ _, rfl⟩
        · rintro u' hu' _ rfl
          exact opYields_call 12 #[.agg #[.bool lf, .slice a1 n1 c1, .slice a2 n2 c2, .slice a3 0 c3, .slice a4 n4 c4]] (by kernel_rfl) (by go_simp) ((P1.out u' (hbu.trans (hu'.mono (by omega)))).mono fun x u'' h => ⟨_, h.1, h.2, rfl⟩)
        · rintro u' hu'
          obtain ⟨m0, m1, m2, m3, m4⟩ := (Nu.later hu').cells
          exact opYields_val (.agg #[.bool lf, .slice a1 n1 c1, .slice a2 n2 c2, .slice a3 0 c3, .slice a4 n4 c4]) (by kernel_rfl) (by go_simp) ⟨Below.refl _ _, rfl⟩
        · rintro u' hu' _ rfl
          exact opYields_call 13 #[.agg #[.bool lf, .slice a1 n1 c1, .slice a2 n2 c2, .slice a3 0 c3, .slice a4 n4 c4]] (by kernel_rfl) (by go_simp) ((P2.out u' (hbu.trans (hu'.mono (by omega)))).mono fun x u'' h => ⟨_, h.1, h.2, rfl⟩)
        · rintro u' hu' _ rfl _ rfl
          exact opYields_val (.bool true) (by kernel_rfl) (by go_simp) ⟨Below.refl _ _, rfl⟩
        · rintro u' hu' _ rfl
          exact opYields_val (.bool true) (by kernel_rfl) (by go_simp) ⟨Below.refl _ _, rfl⟩
        · rintro u' hu' _ rfl
          obtain ⟨m0, m1, m2, m3, m4⟩ := (Nu.later hu').cells
          exact opYields_val (.agg #[.bool lf, .slice a1 n1 c1, .slice a2 n2 c2, .slice a3 0 c3, .slice a4 n4 c4]) (by kernel_rfl) (by go_simp) ⟨Below.refl _ _, rfl⟩
        · rintro u' hu' _ rfl _ rfl
          exact opYields_call 14 #[.agg #[.bool lf, .slice a1 n1 c1, .slice a2 n2 c2, .slice a3 0 c3, .slice a4 n4 c4]] (by kernel_rfl) (by go_simp) ((P3.out u' (hbu.trans (hu'.mono (by omega)))).mono fun x u'' h => ⟨_, h.1, h.2, rfl⟩)
        · rintro u' hu' _ rfl
          obtain ⟨m0, m1, m2, m3, m4⟩ := (Nu.later hu').cells
          exact opYields_val (.agg #[.bool lf, .slice a1 n1 c1, .slice a2 n2 c2, .slice a3 0 c3, .slice a4 n4 c4]) (by kernel_rfl) (by go_simp) ⟨Below.refl _ _, rfl⟩
        · rintro u' hu' _ rfl _ rfl
          exact opYields_call 15 #[.agg #[.bool lf, .slice a1 n1 c1, .slice a2 n2 c2, .slice a3 0 c3, .slice a4 n4 c4]] (by kernel_rfl) (by go_simp) ((P4.out u' (hbu.trans (hu'.mono (by omega)))).mono fun x u'' h => ⟨_, h.1, h.2, rfl⟩)
        · rintro u' hu' _ rfl _ rfl _ rfl
          exact opYields_val (.bool true) (by kernel_rfl) (by go_simp) ⟨Below.refl _ _, rfl⟩
        · rintro u' hu' _ rfl _ rfl
          exact opYields_val (.bool true) (by kernel_rfl) (by go_simp) ⟨Below.refl _ _, rfl⟩
        · rintro u' hu' _ rfl
          exact opYields_val (.bool true) (by kernel_rfl) (by go_simp) ⟨Below.refl _ _, rfl⟩
        · rintro u' hu' _ rfl
          obtain ⟨m0, m1, m2, m3, m4⟩ := (Nu.later hu').cells
          exact opYields_val (.agg #[.bool lf, .slice a1 n1 c1, .slice a2 n2 c2, .slice a3 0 c3, .slice a4 n4 c4]) (by kernel_rfl) (by go_simp) ⟨Below.refl _ _, rfl⟩
        · rintro u' hu' _ rfl _ rfl
          exact opYields_call 17 #[.agg #[.bool lf, .slice a1 n1 c1, .slice a2 n2 c2, .slice a3 0 c3, .slice a4 n4 c4]] (by kernel_rfl) (by go_simp) ((P5.out u' (hbu.trans (hu'.mono (by omega)))).mono fun x u'' ⟨v, h1, h2, h3⟩ => ⟨v, h1, h3, row_mono h2 hu'.size⟩)
        · rintro u' hu' _ rfl
          obtain ⟨m0, m1, m2, m3, m4⟩ := (Nu.later hu').cells
          exact opYields_val (.agg #[.bool lf, .slice a1 n1 c1, .slice a2 n2 c2, .slice a3 0 c3, .slice a4 n4 c4]) (by kernel_rfl) (by go_simp) ⟨Below.refl _ _, rfl⟩
        · rintro u' hu' _ rfl _ rfl
          exact opYields_call 18 #[.agg #[.bool lf, .slice a1 n1 c1, .slice a2 n2 c2, .slice a3 0 c3, .slice a4 n4 c4]] (by kernel_rfl) (by go_simp) ((P6.out u' (hbu.trans (hu'.mono (by omega)))).mono fun x u'' ⟨v, h1, h2, h3⟩ => ⟨v, h1, h3, row_mono h2 hu'.size⟩)
        · rintro u' hu' v1 o1 v2 o2 _ rfl
          obtain ⟨ta, tc, rfl, t1, _⟩ := OwnU.nums o1
          obtain ⟨ta', tc', rfl, t2, _⟩ := OwnU.nums o2
          exact opYields_call 16 #[.slice ta TL.length tc, .slice ta' TL.length tc'] (by kernel_rfl) (by go_simp) ((blocks16 ta ta' tc tc' TL TL u' (by unfold maxLen; omega) (by unfold maxLen; omega) t1 t2).mono fun x u'' h => ⟨_, h.1.get (B := true) (by simp), h.2, rfl⟩)
        · rintro u' hu' _ rfl _ rfl
          exact opYields_val (.bool true) (by kernel_rfl) (by go_simp) ⟨Below.refl _ _, rfl⟩
        · rintro u' hu' _ rfl
          exact opYields_val (.bool true) (by kernel_rfl) (by go_simp) ⟨Below.refl _ _, rfl⟩
        · rintro u' hu' _ rfl
          exact opYields_call 8 #[] (by kernel_rfl) (by go_simp) ((awake8 u').mono fun x u'' h => ⟨_, h.1, h.2, rfl⟩)
        · rintro u' hu' _ rfl _ rfl
          exact opYields_val (.bool true) (by kernel_rfl) (by go_simp) ⟨Below.refl _ _, rfl⟩
        · rintro u' hu' _ rfl
          exact opYields_val (.bool true) (by kernel_rfl) (by go_simp) ⟨Below.refl _ _, rfl⟩
        · rintro u' hu' _ _ _ _ _ _ _ _ _ _ _ _ _ _ _ _ _ _ _ _ _ _ _ rfl
          simp only [givingAll, Act.put, List.setIfInBounds_toArray, List.set_cons_zero, List.set_cons_succ]
          have hbe := hbu.trans (hu'.mono (by omega))
          go_wp2_with fail
          go_ret
          exact ⟨rfl, by first | exact hbe | (rw [hk0]; exact hbe)⟩
      · have hk0' : 0 < ks.length := by rw [HN3.out]; exact h0
        obtain ⟨g, off', e3, f6⟩ := hqj.h3.at (i := 0) (by dsimp only; rw [List.length_map]; exact hk0')
        obtain ⟨b, off, e3', f6'⟩ := (HL.out wr (by first | exact hbwj | (rw [hk0]; exact hbwj))).h3.at (i := 0) hk0'
        dsimp only at e3 e3' f6 f6'
        rw [List.getElem_map] at f6
        have hbn := BN.out _ (List.getElem_mem hk0')
        have hsn := hid (fun u (hu : Below wr.heap.size wr u) => SN.out h0 u ⟨b1, d1, b2, d2, b3, d3, b4, d4⟩ (hqj.later hu) (hbwj.trans (hu.mono (by omega))))
        clear SN hqj hoj
        subst e3 e3'
        generalize ks[0] = e at *
        obtain ⟨bk, dp, st, ad⟩ := e
        unfold bumpE at f6
        dsimp only at f6 f6' hbn hsn
        generalize IntKind.u32.wrap (bk + 1) = nb at *
        have hbn' : (nb == bk) = false := by simpa using hbn
        clear hbn
        simp only [Nat.zero_mul, Nat.add_zero] at f6 f6'
        go_upto_region 10 with fail
        clear z0 z1 z2 z3 z4
        refine wp_region_each [(some 36, [], false), (some 37, [(0, 36)], false), (some 38, [(1, 37)], false), (some 39, [(2, 38)], false), (some 40, [(3, 39)], false), (some 41, [(4, 40)], false), (some 42, [(4, 40)], false), (some 43, [(5, 41), (6, 42), (4, 40)], false), (some 44, [(7, 43), (4, 40)], false), (some 45, [(8, 44)], false), (some 46, [(9, 45), (8, 44)], false), (some 47, [(10, 46), (8, 44)], false), (some 48, [(11, 47), (8, 44)], false), (some 49, [(12, 48), (8, 44)], false), (some 50, [(8, 44)], false), (some 51, [(14, 50), (8, 44)], false), (some 52, [(15, 51), (8, 44)], false), (some 53, [(16, 52), (8, 44)], false), (some 54, [(17, 53), (8, 44)], false), (some 55, [(13, 49), (18, 54), (8, 44)], false), (some 56, [(8, 44), (19, 55), (4, 40)], false), (some 57, [(4, 40), (20, 56)], true)]
          (fun u => Below wr.heap.size wr u) (fun _ u u' => Below u.heap.size u u')
          (fun i v _ => v = match i with | 0 => .pointer (some ⟨k1, 3, none⟩) | 1 => .slice (some ⟨g, off', none⟩) j d3 | 2 => .int .i64 j | 3 => .bool true | 4 => .bool true | 5 => .agg #[.bool lf, .slice b1 n1 d1, .slice b2 n2 d2, .slice (some ⟨g, off', none⟩) j d3, .slice b4 n4 d4] | 6 => .agg #[.bool lf, .slice a1 n1 c1, .slice a2 n2 c2, .slice (some ⟨b, off, none⟩) j c3, .slice a4 n4 c4] | 7 => .bool false | 8 => .bool false | 9 => .pointer (some ⟨k1, 3, none⟩) | 10 => .slice (some ⟨g, off', none⟩) j d3 | 11 => .pointer (some ⟨g, off', none⟩) | 12 => .pointer (some ⟨g, off', none⟩) | 13 => .int .u32 nb | 14 => .pointer (some ⟨k0, 3, none⟩) | 15 => .slice (some ⟨b, off, none⟩) j c3 | 16 => .pointer (some ⟨b, off, none⟩) | 17 => .pointer (some ⟨b, off, none⟩) | 18 => .int .u32 bk | 19 => .bool false | 20 => .bool false | _ => .bool false)
          (by kernel_rfl) (by kernel_rfl) (Below.refl _ _).drew (fun _ u u' h h' => h.trans (h'.mono h.size)) (fun _ _ _ _ _ _ _ _ h => h) ⟨?_, ?_, ?_, ?_, ?_, ?_, ?_, ?_, ?_, ?_, ?_, ?_, ?_, ?_, ?_, ?_, ?_, ?_, ?_, ?_, ?_, ?_, trivial⟩ ?_
        · rintro u hu
          exact opYields_val (.pointer (some ⟨k1, 3, none⟩)) (by kernel_rfl) (by go_simp) ⟨Below.refl _ _, rfl⟩
        · rintro u hu _ rfl
          obtain ⟨z0, z1, z2, z3, z4⟩ := (Mj.later hu).cells
          exact opYields_val (.slice (some ⟨g, off', none⟩) j d3) (by kernel_rfl) (by go_simp) ⟨Below.refl _ _, rfl⟩
        · rintro u hu _ rfl
          exact opYields_val (.int .i64 j) (by kernel_rfl) (by go_simp) ⟨Below.refl _ _, rfl⟩
        · rintro u hu _ rfl
          have h0' : (0 : Int) < (j : Int) := by omega
          exact opYields_val (.bool true) (by kernel_rfl) (by go_simp) ⟨Below.refl _ _, rfl⟩
        · rintro u hu _ rfl
          exact opYields_val (.bool true) (by kernel_rfl) (by go_simp) ⟨Below.refl _ _, rfl⟩
        · rintro u hu _ rfl
          obtain ⟨z0, z1, z2, z3, z4⟩ := (Mj.later hu).cells
          exact opYields_val (.agg #[.bool lf, .slice b1 n1 d1, .slice b2 n2 d2, .slice (some ⟨g, off', none⟩) j d3, .slice b4 n4 d4]) (by kernel_rfl) (by go_simp) ⟨Below.refl _ _, rfl⟩
        · rintro u hu _ rfl
          obtain ⟨m0, m1, m2, m3, m4⟩ := (Nj.later hu).cells
          exact opYields_val (.agg #[.bool lf, .slice a1 n1 c1, .slice a2 n2 c2, .slice (some ⟨b, off, none⟩) j c3, .slice a4 n4 c4]) (by kernel_rfl) (by go_simp) ⟨Below.refl _ _, rfl⟩
        · rintro u hu _ rfl _ rfl _ rfl
          exact opYields_call 11 #[.agg #[.bool lf, .slice b1 n1 d1, .slice b2 n2 d2, .slice (some ⟨g, off', none⟩) j d3, .slice b4 n4 d4], .agg #[.bool lf, .slice a1 n1 c1, .slice a2 n2 c2, .slice (some ⟨b, off, none⟩) j c3, .slice a4 n4 c4]] (by kernel_rfl) (by go_simp) ((hsn.out u hu).mono fun x u' h => ⟨_, h.1, h.2, rfl⟩)
        · rintro u hu _ rfl _ rfl
          exact opYields_val (.bool false) (by kernel_rfl) (by go_simp) ⟨Below.refl _ _, rfl⟩
        · rintro u hu _ rfl
          exact opYields_val (.pointer (some ⟨k1, 3, none⟩)) (by kernel_rfl) (by go_simp) ⟨Below.refl _ _, rfl⟩
        · rintro u hu _ rfl _ rfl
          obtain ⟨z0, z1, z2, z3, z4⟩ := (Mj.later hu).cells
          exact opYields_val (.slice (some ⟨g, off', none⟩) j d3) (by kernel_rfl) (by go_simp) ⟨Below.refl _ _, rfl⟩
        · rintro u hu _ rfl _ rfl
          exact opYields_val (.pointer (some ⟨g, off', none⟩)) (by kernel_rfl) (by go_simp) ⟨Below.refl _ _, rfl⟩
        · rintro u hu _ rfl _ rfl
          exact opYields_val (.pointer (some ⟨g, off', none⟩)) (by kernel_rfl) (by go_simp) ⟨Below.refl _ _, rfl⟩
        · rintro u hu _ rfl _ rfl
          obtain ⟨r0, r1, r2, r3⟩ := f6.later hu
          exact opYields_val (.int .u32 nb) (by kernel_rfl) (by go_simp) ⟨Below.refl _ _, rfl⟩
        · rintro u hu _ rfl
          exact opYields_val (.pointer (some ⟨k0, 3, none⟩)) (by kernel_rfl) (by go_simp) ⟨Below.refl _ _, rfl⟩
        · rintro u hu _ rfl _ rfl
          obtain ⟨m0, m1, m2, m3, m4⟩ := (Nj.later hu).cells
          exact opYields_val (.slice (some ⟨b, off, none⟩) j c3) (by kernel_rfl) (by go_simp) ⟨Below.refl _ _, rfl⟩
        · rintro u hu _ rfl _ rfl
          exact opYields_val (.pointer (some ⟨b, off, none⟩)) (by kernel_rfl) (by go_simp) ⟨Below.refl _ _, rfl⟩
        · rintro u hu _ rfl _ rfl
          exact opYields_val (.pointer (some ⟨b, off, none⟩)) (by kernel_rfl) (by go_simp) ⟨Below.refl _ _, rfl⟩
        · rintro u hu _ rfl _ rfl
          obtain ⟨s0, s1, s2, s3⟩ := f6'.later hu
          exact opYields_val (.int .u32 bk) (by kernel_rfl) (by go_simp) ⟨Below.refl _ _, rfl⟩
        · rintro u hu _ rfl _ rfl _ rfl
          exact opYields_val (.bool false) (by kernel_rfl) (by go_simp) ⟨Below.refl _ _, rfl⟩
        · rintro u hu _ rfl _ rfl _ rfl
          exact opYields_val (.bool false) (by kernel_rfl) (by go_simp) ⟨Below.refl _ _, rfl⟩
        · rintro u hu _ rfl _ rfl
          exact opYields_val (.bool false) (by kernel_rfl) (by go_simp) ⟨Below.refl _ _, rfl⟩
        rintro u hu _ _ _ _ _ _ _ _ _ _ _ _ _ _ _ _ _ _ _ _ _ _ rfl
        simp only [givingAll, Act.put, List.setIfInBounds_toArray, List.set_cons_zero, List.set_cons_succ]
        go_wp2_with fail
        have hsu := hu.size
        have hbu := hbwj.trans (hu.mono (by omega))
        have hsb := hbu.size
        have Nu := Nj.later hu
        refine wp_region_each [(some 58, [], false), (some 59, [(0, 58)], false), (some 60, [], false), (some 61, [(2, 60)], false), (some 62, [(1, 59), (3, 61)], false), (some 63, [(4, 62)], false), (some 64, [(5, 63)], false), (some 65, [(6, 64), (5, 63)], false), (some 66, [(5, 63)], false), (some 67, [(8, 66), (5, 63)], false), (some 68, [(7, 65), (9, 67), (5, 63)], false), (some 69, [(5, 63), (10, 68)], false), (some 70, [(11, 69)], false), (some 71, [(12, 70)], false), (some 72, [(13, 71), (12, 70)], false), (some 73, [(12, 70)], false), (some 74, [(15, 73), (12, 70)], false), (some 75, [(14, 72), (16, 74), (12, 70)], false), (some 76, [(12, 70), (17, 75)], false), (some 77, [(18, 76)], false), (some 78, [(19, 77)], false), (some 79, [(19, 77), (20, 78)], false), (some 2, [(21, 79)], true)]
          (fun u' => Below u.heap.size u u') (fun _ u' u'' => Below u'.heap.size u' u'')
          (fun i v u' => match i with | 0 => v = .agg #[.bool lf, .slice a1 n1 c1, .slice a2 n2 c2, .slice (some ⟨b, off, none⟩) j c3, .slice a4 n4 c4] | 1 => v = .int .i64 R | 2 => v = .agg #[.bool lf, .slice a1 n1 c1, .slice a2 n2 c2, .slice (some ⟨b, off, none⟩) j c3, .slice a4 n4 c4] | 3 => v = .int .i64 R | 4 => v = .bool true | 5 => v = .bool true | 6 => v = .agg #[.bool lf, .slice a1 n1 c1, .slice a2 n2 c2, .slice (some ⟨b, off, none⟩) j c3, .slice a4 n4 c4] | 7 => v = .int .u16 DI | 8 => v = .agg #[.bool lf, .slice a1 n1 c1, .slice a2 n2 c2, .slice (some ⟨b, off, none⟩) j c3, .slice a4 n4 c4] | 9 => v = .int .u16 DI | 10 => v = .bool true | 11 => v = .bool true | 12 => v = .bool true | 13 => v = .agg #[.bool lf, .slice a1 n1 c1, .slice a2 n2 c2, .slice (some ⟨b, off, none⟩) j c3, .slice a4 n4 c4] | 14 => OwnU u' u.heap.size v TL | 15 => v = .agg #[.bool lf, .slice a1 n1 c1, .slice a2 n2 c2, .slice (some ⟨b, off, none⟩) j c3, .slice a4 n4 c4] | 16 => OwnU u' u.heap.size v TL | 17 => v = .bool true | 18 => v = .bool true | 19 => v = .bool true | 20 => v = .bool true | 21 => v = .bool true | 22 => v = .bool true | _ => True)
          (by kernel_rfl) (by kernel_rfl) (Below.refl _ _).drew (fun i u' u'' h h' => h.trans (h'.mono h.size)) (fun i q v u' u'' hn h h' hv => ?_) ⟨?_, ?_, ?_, ?_, ?_, ?_, ?_, ?_, ?_, ?_, ?_, ?_, ?_, ?_, ?_, ?_, ?_, ?_, ?_, ?_, ?_, ?_, ?_, trivial⟩ ?_
        · match q with
          | 0 => exact hv
          | 1 => exact hv
          | 2 => exact hv
          | 3 => exact hv
          | 4 => exact hv
          | 5 => exact hv
          | 6 => exact hv
          | 7 => exact hv
          | 8 => exact hv
          | 9 => exact hv
          | 10 => exact hv
          | 11 => exact hv
          | 12 => exact hv
          | 13 => exact hv
          | 14 => exact OwnU.later hv h'
          | 15 => exact hv
          | 16 => exact OwnU.later hv h'
          | 17 => exact hv
          | 18 => exact hv
          | 19 => exact hv
          | 20 => exact hv
          | 21 => exact hv
          | 22 => exact hv
          | _ + 23 => trivial
        · rintro u' hu'
          obtain ⟨m0, m1, m2, m3, m4⟩ := (Nu.later hu').cells
          exact opYields_val (.agg #[.bool lf, .slice a1 n1 c1, .slice a2 n2 c2, .slice (some ⟨b, off, none⟩) j c3, .slice a4 n4 c4]) (by kernel_rfl) (by go_simp) ⟨Below.refl _ _, rfl⟩
        · rintro u' hu' _ rfl
          exact opYields_call 12 #[.agg #[.bool lf, .slice a1 n1 c1, .slice a2 n2 c2, .slice (some ⟨b, off, none⟩) j c3, .slice a4 n4 c4]] (by kernel_rfl) (by go_simp) ((P1.out u' (hbu.trans (hu'.mono (by omega)))).mono fun x u'' h => ⟨_, h.1, h.2, rfl⟩)
        · rintro u' hu'
          obtain ⟨m0, m1, m2, m3, m4⟩ := (Nu.later hu').cells
          exact opYields_val (.agg #[.bool lf, .slice a1 n1 c1, .slice a2 n2 c2, .slice (some ⟨b, off, none⟩) j c3, .slice a4 n4 c4]) (by kernel_rfl) (by go_simp) ⟨Below.refl _ _, rfl⟩
        · rintro u' hu' _ rfl
          exact opYields_call 13 #[.agg #[.bool lf, .slice a1 n1 c1, .slice a2 n2 c2, .slice (some ⟨b, off, none⟩) j c3, .slice a4 n4 c4]] (by kernel_rfl) (by go_simp) ((P2.out u' (hbu.trans (hu'.mono (by omega)))).mono fun x u'' h => ⟨_, h.1, h.2, rfl⟩)
        · rintro u' hu' _ rfl _ rfl
          exact opYields_val (.bool true) (by kernel_rfl) (by go_simp) ⟨Below.refl _ _, rfl⟩
        · rintro u' hu' _ rfl
          exact opYields_val (.bool true) (by kernel_rfl) (by go_simp) ⟨Below.refl _ _, rfl⟩
        · rintro u' hu' _ rfl
          obtain ⟨m0, m1, m2, m3, m4⟩ := (Nu.later hu').cells
          exact opYields_val (.agg #[.bool lf, .slice a1 n1 c1, .slice a2 n2 c2, .slice (some ⟨b, off, none⟩) j c3, .slice a4 n4 c4]) (by kernel_rfl) (by go_simp) ⟨Below.refl _ _, rfl⟩
        · rintro u' hu' _ rfl _ rfl
          exact opYields_call 14 #[.agg #[.bool lf, .slice a1 n1 c1, .slice a2 n2 c2, .slice (some ⟨b, off, none⟩) j c3, .slice a4 n4 c4]] (by kernel_rfl) (by go_simp) ((P3.out u' (hbu.trans (hu'.mono (by omega)))).mono fun x u'' h => ⟨_, h.1, h.2, rfl⟩)
        · rintro u' hu' _ rfl
          obtain ⟨m0, m1, m2, m3, m4⟩ := (Nu.later hu').cells
          exact opYields_val (.agg #[.bool lf, .slice a1 n1 c1, .slice a2 n2 c2, .slice (some ⟨b, off, none⟩) j c3, .slice a4 n4 c4]) (by kernel_rfl) (by go_simp) ⟨Below.refl _ _, rfl⟩
        · rintro u' hu' _ rfl _ rfl
          exact opYields_call 15 #[.agg #[.bool lf, .slice a1 n1 c1, .slice a2 n2 c2, .slice (some ⟨b, off, none⟩) j c3, .slice a4 n4 c4]] (by kernel_rfl) (by go_simp) ((P4.out u' (hbu.trans (hu'.mono (by omega)))).mono fun x u'' h => ⟨_, h.1, h.2, rfl⟩)
        · rintro u' hu' _ rfl _ rfl _ rfl
          exact opYields_val (.bool true) (by kernel_rfl) (by go_simp) ⟨Below.refl _ _, rfl⟩
        · rintro u' hu' _ rfl _ rfl
          exact opYields_val (.bool true) (by kernel_rfl) (by go_simp) ⟨Below.refl _ _, rfl⟩
        · rintro u' hu' _ rfl
          exact opYields_val (.bool true) (by kernel_rfl) (by go_simp) ⟨Below.refl _ _, rfl⟩
        · rintro u' hu' _ rfl
          obtain ⟨m0, m1, m2, m3, m4⟩ := (Nu.later hu').cells
          exact opYields_val (.agg #[.bool lf, .slice a1 n1 c1, .slice a2 n2 c2, .slice (some ⟨b, off, none⟩) j c3, .slice a4 n4 c4]) (by kernel_rfl) (by go_simp) ⟨Below.refl _ _, rfl⟩
        · rintro u' hu' _ rfl _ rfl
          exact opYields_call 17 #[.agg #[.bool lf, .slice a1 n1 c1, .slice a2 n2 c2, .slice (some ⟨b, off, none⟩) j c3, .slice a4 n4 c4]] (by kernel_rfl) (by go_simp) ((P5.out u' (hbu.trans (hu'.mono (by omega)))).mono fun x u'' ⟨v, h1, h2, h3⟩ => ⟨v, h1, h3, row_mono h2 hu'.size⟩)
        · rintro u' hu' _ rfl
          obtain ⟨m0, m1, m2, m3, m4⟩ := (Nu.later hu').cells
          exact opYields_val (.agg #[.bool lf, .slice a1 n1 c1, .slice a2 n2 c2, .slice (some ⟨b, off, none⟩) j c3, .slice a4 n4 c4]) (by kernel_rfl) (by go_simp) ⟨Below.refl _ _, rfl⟩
        · rintro u' hu' _ rfl _ rfl
          exact opYields_call 18 #[.agg #[.bool lf, .slice a1 n1 c1, .slice a2 n2 c2, .slice (some ⟨b, off, none⟩) j c3, .slice a4 n4 c4]] (by kernel_rfl) (by go_simp) ((P6.out u' (hbu.trans (hu'.mono (by omega)))).mono fun x u'' ⟨v, h1, h2, h3⟩ => ⟨v, h1, h3, row_mono h2 hu'.size⟩)
        · rintro u' hu' v1 o1 v2 o2 _ rfl
          obtain ⟨ta, tc, rfl, t1, _⟩ := OwnU.nums o1
          obtain ⟨ta', tc', rfl, t2, _⟩ := OwnU.nums o2
          exact opYields_call 16 #[.slice ta TL.length tc, .slice ta' TL.length tc'] (by kernel_rfl) (by go_simp) ((blocks16 ta ta' tc tc' TL TL u' (by unfold maxLen; omega) (by unfold maxLen; omega) t1 t2).mono fun x u'' h => ⟨_, h.1.get (B := true) (by simp), h.2, rfl⟩)
        · rintro u' hu' _ rfl _ rfl
          exact opYields_val (.bool true) (by kernel_rfl) (by go_simp) ⟨Below.refl _ _, rfl⟩
        · rintro u' hu' _ rfl
          exact opYields_val (.bool true) (by kernel_rfl) (by go_simp) ⟨Below.refl _ _, rfl⟩
        · rintro u' hu' _ rfl
          exact opYields_call 8 #[] (by kernel_rfl) (by go_simp) ((awake8 u').mono fun x u'' h => ⟨_, h.1, h.2, rfl⟩)
        · rintro u' hu' _ rfl _ rfl
          exact opYields_val (.bool true) (by kernel_rfl) (by go_simp) ⟨Below.refl _ _, rfl⟩
        · rintro u' hu' _ rfl
          exact opYields_val (.bool true) (by kernel_rfl) (by go_simp) ⟨Below.refl _ _, rfl⟩
        · rintro u' hu' _ _ _ _ _ _ _ _ _ _ _ _ _ _ _ _ _ _ _ _ _ _ _ rfl
          simp only [givingAll, Act.put, List.setIfInBounds_toArray, List.set_cons_zero, List.set_cons_succ]
          have hbe := hbu.trans (hu'.mono (by omega))
          go_wp2_with fail
          go_ret
          exact ⟨rfl, by first | exact hbe | (rw [hk0]; exact hbe)⟩
end Go.Proofs.Ytknjemmhcjihfaa.Key
