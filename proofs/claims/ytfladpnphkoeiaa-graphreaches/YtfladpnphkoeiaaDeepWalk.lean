/-
  The walk of the statement GraphDeep.
-/
import Derived.Test.YtfladpnphkoeiaaAwake
namespace Go.Proofs.Ytfladpnphkoeiaa.Key
open Go.RowKit
set_option linter.unusedVariables false
set_option linter.unusedSimpArgs false

theorem fine_of {l : List It} (h : greatI l = false) (hin : ∀ x ∈ l, x.In) : Fine l ∧ l.length ≤ 30 := by
  unfold greatI at h
  simp only [Bool.or_eq_false_iff, decide_eq_false_iff_not] at h
  have h30 : l.length ≤ 30 := by omega
  exact ⟨⟨by omega, hin, fun x hx => small_of (any_no h.2 x hx) (hin x hx).nd⟩, h30⟩
theorem found_mem {l : List It} {b : Int} {y : It} (h : findI l b = some y) : y ∈ l := List.mem_of_find?_eq_some h
set_option maxRecDepth 100000 in
set_option maxHeartbeats 800000 in
theorem graphDeep6 (a : Option Addr) (c : Nat) (l : List It) (w : World) (wl : Items w a l) (wn : l.length ≤ c) (wc : c ≤ maxLen) (wm : ∀ m ∈ l, m.In) :
    Calls Try.prog 6 #[.slice a l.length c] w fun x w' => x = .returned (.bool true) ∧ Below w.heap.size w w' := by
  have HG := great9 a c l w (by omega) wl wm
  cases hg : greatI l
  case true =>
    rw [hg] at HG
    generalize l.length = n at *
    go_enter Try.func6, Try.ntmps6
    go_wp2_with fail
    refine HG.mono ?_
    rintro e w1 ⟨rfl, hb1⟩
    go_wp2_with fail
    refine (awake8 w1).mono ?_
    rintro e w2 ⟨rfl, hb2⟩
    go_wp2_with fail
    go_ret
    exact ⟨rfl, hb1.trans (hb2.mono hb1.size)⟩
  case false =>
  rw [hg] at HG
  obtain ⟨hfine, h30⟩ := fine_of hg wm
  have HR := hid (fun w1 (hb1 : Below w.heap.size w w1) => right11 a c l w1 hfine (wl.later hb1))
  cases hr : rightB l
  case false =>
    rw [hr] at HR
    generalize l.length = n at *
    go_enter Try.func6, Try.ntmps6
    go_wp2_with fail
    refine HG.mono ?_
    rintro e w1 ⟨rfl, hb1⟩
    go_wp2_with fail
    refine (HR.out w1 hb1).mono ?_
    rintro e w2 ⟨rfl, hb2⟩
    have hb12 := hb1.trans (hb2.mono hb1.size)
    go_wp2_with fail
    refine (awake8 w2).mono ?_
    rintro e w3 ⟨rfl, hb3⟩
    go_wp2_with fail
    go_ret
    exact ⟨rfl, hb12.trans (hb3.mono hb12.size)⟩
  case true =>
  rw [hr] at HR
  have HRD := hid (fun (x : It) (hx : x ∈ l) (t : Int) (ht : t ∈ targetsL x.nd) => right_deep hr hx ht)
  have HI := hid wl
  have HF := hid hfine
  have HFD := hid (fun b w1 (hb1 : Below w.heap.size w w1) => find9 a c l b w1 hfine (wl.later hb1))
  have hsm := hfine.sml
  clear hg hr wl
  generalize hn : l.length = n at *
  have HN := hid hn
  clear hn hfine
  go_enter Try.func6, Try.ntmps6
  go_wp2_with fail
  refine HG.mono ?_
  rintro e w1 ⟨rfl, hb1⟩
  go_wp2_with fail
  refine (HR.out w1 hb1).mono ?_
  rintro e w2 ⟨rfl, hb2⟩
  have hb12 := hb1.trans (hb2.mono hb1.size)
  clear HG HR hb1 hb2
  generalize hk0 : w.heap.size = k0 at *
  go_wp2_with fail
  go_loopw [3] (fun i wr => ∃ j : Nat, j ≤ n ∧ i = .int .i64 j ∧ Below k0 w wr) (fun i _ => n - (intOf i).toNat)
  case atStart => exact ⟨0, Nat.zero_le _, rfl, hb12⟩
  case round =>
    clear hb12
    obtain ⟨j, hj, rfl, hb⟩ := hrel
    have hbs : k0 ≤ wr.heap.size := by rw [← hk0]; exact hb.size
    by_cases hlt : j < n
    · have hlt' : j < l.length := by rw [HN.out]; exact hlt
      obtain ⟨b, off, rfl, h6, h7⟩ := (HI.out.later (by rw [hk0]; exact hb)).at hlt'
      have hxs := hsm _ (List.getElem_mem hlt')
      have HRX := hid (fun t (ht : t ∈ targetsL l[j].nd) => HRD.out _ (List.getElem_mem hlt') t ht)
      have HAT := hid (fun u (hu : Below k0 w u) => (show ItC u b (off + j * 6) l[j] ∧ Lies u l[j].nd l[j].pl by
        obtain ⟨b', off', e, h8, h9⟩ := (HI.out.later (by rw [hk0]; exact hu)).at hlt'
        simp only [Option.some.injEq, Addr.mk.injEq, and_true] at e
        obtain ⟨rfl, rfl⟩ := e
        exact ⟨h8, h9⟩))
      obtain ⟨x, HX⟩ : ∃ m, Hid (l[j] = m) := ⟨_, hid rfl⟩
      rw [HX.out] at h6 h7 hxs HRX HAT
      have HT := targets18 x.nd x.pl wr hxs.few h7
      have HDX := hid (fun u (hu : Below k0 w u) => deep15 x.nd x.pl u hxs (HAT.out u hu).2)
      have htl : (targetsL x.nd).length ≤ 2000 := by
        have h1 := hxs.few.l3
        have h2 := hxs.few.l4
        have h3 := blocks_len x.nd.bf
        unfold targetsL
        simp
        omega
      obtain ⟨DX, HDX'⟩ : ∃ m, Hid (deepI x.nd = m) := ⟨_, hid rfl⟩
      rw [HDX'.out] at HDX HRX
      obtain ⟨T, HTT⟩ : ∃ m, Hid (targetsL x.nd = m) := ⟨_, hid rfl⟩
      rw [HTT.out] at HT htl HRX
      obtain ⟨bk, ⟨lf, ps, pv, ks, bf⟩, ⟨a1, c1, a2, c2, a3, c3, a4, c4⟩⟩ := x
      have HC : Hid (∀ u, Below k0 w u → u.cell? ⟨b, off + j * 6 + 1, none⟩ = some (.bool lf) ∧ u.cell? ⟨b, off + j * 6 + 2, none⟩ = some (.slice a1 ps.length c1) ∧ u.cell? ⟨b, off + j * 6 + 3, none⟩ = some (.slice a2 pv.length c2) ∧ u.cell? ⟨b, off + j * 6 + 4, none⟩ = some (.slice a3 ks.length c3) ∧ u.cell? ⟨b, off + j * 6 + 5, none⟩ = some (.slice a4 bf.length c4)) := hid (fun u hu => ⟨(HAT.out u hu).1.c1, (HAT.out u hu).1.c2, (HAT.out u hu).1.c3, (HAT.out u hu).1.c4, (HAT.out u hu).1.c5⟩)
      obtain ⟨d0, d1, d2, d3, d4, d5⟩ := h6
      dsimp only [nv] at *
      clear h7 hxs HAT HTT HDX'
      generalize ps.length = n1 at *
      generalize pv.length = n2 at *
      generalize ks.length = n3 at *
      generalize bf.length = n4 at *
      go_wp2_with fail
      refine HT.mono ?_
      rintro e w3 ⟨v, rfl, hv, hb3⟩
      have hb4 := hb.trans (hb3.mono hbs)
      have hvf : ∃ va vc, v = .slice va T.length vc := by
        rcases hv.row with ⟨rfl, rfl⟩ | ⟨g, cap, cur, rfl, _⟩
        · exact ⟨_, _, rfl⟩
        · exact ⟨_, _, rfl⟩
      obtain ⟨va, vc, rfl⟩ := hvf
      obtain ⟨m4, HM4⟩ : ∃ m, Hid (T.length = m) := ⟨_, hid rfl⟩
      rw [HM4.out] at htl hv ⊢
      clear HT d0 d1 d2 d3 d4 d5 hb hb3
      go_wp2_with fail
      go_loopw [5] (fun i wr => ∃ t : Nat, t ≤ m4 ∧ i = .int .i64 t ∧ Below k0 w wr ∧ OwnU wr 0 (.slice va m4 vc) T) (fun i _ => m4 - (intOf i).toNat)
      case atStart => exact ⟨0, Nat.zero_le _, rfl, hb4, ownU_mono hv (Nat.zero_le _)⟩
      case round =>
        clear hv hb4
        obtain ⟨t, ht, rfl, hb, hv⟩ := hrel
        have hbs2 : k0 ≤ wr.heap.size := by rw [← hk0]; exact hb.size
        by_cases hlt3 : t < m4
        · obtain ⟨g, c', e, hcc⟩ := hv.at HM4.out hlt3
          simp only [Value.slice.injEq, true_and] at e
          obtain ⟨rfl, rfl⟩ := e
          have hmem : T.getD t 0 ∈ T := by
            have h3 : t < T.length := by rw [HM4.out]; exact hlt3
            have e : T.getD t 0 = T[t] := by simp [List.getD, List.getElem?_eq_getElem h3]
            rw [e]; exact List.getElem_mem h3
          obtain ⟨y, hy1, hy2⟩ := HRX.out _ hmem
          generalize T.getD t 0 = z at *
          have HF9 := HFD.out z wr (by first | exact hb | (rw [hk0]; exact hb))
          rw [hy1] at HF9
          have hys := hsm y (found_mem hy1)
          have hfn : foundN l z = y.nd := by unfold foundN; rw [hy1]; rfl
          replace hy1 := hid hy1
          clear hmem
          go_wp2_with fail
          refine HF9.mono ?_
          rintro e w4 ⟨⟨N, P, rfl, hN, hL⟩, hb5⟩
          rw [hfn] at hN
          subst hN
          have hbw4 := hb.trans (hb5.mono hbs2)
          have hv4 := hv.later hb5
          have HDN := hid (fun u (hu : Below w4.heap.size w4 u) => deep15 y.nd P u hys (hL.later hu))
          have hbx := below_box w4 (.cells #[.bool y.nd.leaf, .slice P.a1 y.nd.ps.length P.c1, .slice P.a2 y.nd.pv.length P.c2, .slice P.a3 y.nd.ks.length P.c3, .slice P.a4 y.nd.bf.length P.c4] 31)
          have N5 := NBox.new w4 (.bool y.nd.leaf) (.slice P.a1 y.nd.ps.length P.c1) (.slice P.a2 y.nd.pv.length P.c2) (.slice P.a3 y.nd.ks.length P.c3) (.slice P.a4 y.nd.bf.length P.c4)
          have hs4 : k0 ≤ w4.heap.size := Nat.le_trans hbs2 hb5.size
          have hb6 := hbw4.trans (hbx.mono hs4)
          have hv6 := hv4.later hbx
          obtain ⟨DN, HDN'⟩ : ∃ m, Hid (deepI y.nd = m) := ⟨_, hid rfl⟩
          rw [HDN'.out] at HDN hy2
          clear HF9 hfn hcc hv hv4 hL hys
          obtain ⟨yb, ⟨ylf, yps, ypv, yks, ybf⟩, ypl⟩ := y
          obtain ⟨A1, C1, A2, C2, A3, C3, A4, C4⟩ := P
          dsimp only [nv, Option.isSome] at *
          generalize yps.length = m1 at *
          generalize ypv.length = m2 at *
          generalize yks.length = m3 at *
          generalize ybf.length = m5 at *
          have hge : decide (DX ≤ DN) = false := by simpa using hy2
          clear hy2
          go_upto_region 11 with fail
          have HBX := hid hbx
          have HV6 := hid hv6
          have HB6 := hid hb6
          have HS4 : Hid (w4.heap.size ≤ (w4.alloc (.cells #[.bool ylf, .slice A1 m1 C1, .slice A2 m2 C2, .slice A3 m3 C3, .slice A4 m5 C4] 31)).heap.size) := hid hbx.size
          clear hbx hv6 hb6
          generalize (w4.alloc (.cells #[.bool ylf, .slice A1 m1 C1, .slice A2 m2 C2, .slice A3 m3 C3, .slice A4 m5 C4] 31)) = w5 at *
          generalize hkx : w4.heap.size = kx at *
          refine wp_region_quiet (C := fun u => Below w5.heap.size w5 u) (by kernel_rfl) (by kernel_rfl) ⟨rfl, rfl, rfl, Nat.le_refl _, fun _ _ => rfl⟩ ?_
          change wpQuiet _ _ _ _ (_ :: _) _
          have hlti : (j : Int) < (n : Int) := by omega
          repeat
            first
              | go_big_quiet_skip
              | go_big_quiet_want
                first
                  | refine quiet_v ?_ ?_ ?_
                    rotate_left
                    · intro u hu
                      obtain ⟨x0, x1, x2, x3, x4⟩ := (N5.later hu).cells
                      obtain ⟨y1, y2, y3, y4, y5⟩ := HC.out u (HB6.out.trans (hu.mono (by have := HS4.out; omega)))
                      go_simp
                      with_reducible rfl
                  | refine quiet_c (.int .u16 DN) 21 #[.agg #[.bool ylf, .slice A1 m1 C1, .slice A2 m2 C2, .slice A3 m3 C3, .slice A4 m5 C4]] ?_ (fun u hu => (HDN.out u (HBX.out.trans (hu.mono HS4.out))).mono fun x u' h => ⟨h.1, hu.trans (h.2.mono hu.size)⟩) ?_
                    · intro u hu
                      go_simp
                      done
                  | refine quiet_c (.int .u16 DX) 21 #[.agg #[.bool lf, .slice a1 n1 c1, .slice a2 n2 c2, .slice a3 n3 c3, .slice a4 n4 c4]] ?_ (fun u hu => (HDX.out u (HB6.out.trans (hu.mono (by have := HS4.out; omega)))).mono fun x u' h => ⟨h.1, hu.trans (h.2.mono hu.size)⟩) ?_
                    · intro u hu
                      go_simp
                      done
                go_simp
                go_big_quiet_on
          refine wpQuiet_nil (fun u hu => ?_)
          have hb7 := HB6.out.trans (hu.mono (by have := HS4.out; omega))
          have hv7 := HV6.out.later hu
          go_wp2_with fail
          go_roundw
          case rel => exact ⟨t + 1, by omega, by go_num, hb7, hv7⟩
          case measure => simp [intOf]; omega
        · obtain rfl : t = m4 := by omega
          go_wp2_with fail
          go_roundw
          case rel => exact ⟨j + 1, by omega, by go_num, hb⟩
          case measure => simp [intOf]; omega
    · obtain rfl : j = n := by omega
      go_wp2_with fail
      refine (awake8 wr).mono ?_
      rintro e w3 ⟨rfl, hb3⟩
      have hb4 := hb.trans (hb3.mono hbs)
      go_wp2_with fail
      go_ret
      exact ⟨rfl, by first | exact hb4 | (rw [hk0]; exact hb4)⟩
end Go.Proofs.Ytfladpnphkoeiaa.Key
