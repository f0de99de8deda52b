/-
  Contract of the document's Right.
-/
import Derived.Test.YtegmpfmhlpdmhaaGreatKv
import Derived.Test.YtegmpfmhlpdmhaaGreatKr
namespace Go.Proofs.YtegmpfmhlpdmhaaGreat.Key
open Go.RowKit Draw
set_option linter.unusedVariables false
set_option linter.unusedSimpArgs false

def leadsAt (l : List It) (i : Nat) : Bool := leadsB l (l.getD i It.nil).nd
theorem upTo_iff (p : Nat → Bool) (n : Nat) : upTo p n = true ↔ ∀ i, i < n → p i = true := by
  induction n with
  | zero => simp [upTo]
  | succ n ih =>
    rw [upTo, Bool.and_eq_true, ih]
    constructor
    · rintro ⟨h1, h2⟩ i hi
      by_cases e : i = n
      · subst e; exact h2
      · exact h1 i (by omega)
    · intro h
      exact ⟨fun i hi => h i (by omega), h n (by omega)⟩
theorem right_each (l : List It) : rightB l = upTo (fun i => stepB l i && leadsAt l i) l.length := by
  unfold rightB
  rw [upTo_and]
  congr 1
  refine Bool.eq_iff_iff.2 ?_
  rw [upTo_iff, List.all_eq_true]
  constructor
  · intro h i hi
    unfold leadsAt
    rw [getD_at hi]
    exact h _ (List.getElem_mem hi)
  · intro h x hx
    obtain ⟨i, hi, rfl⟩ := List.getElem_of_mem hx
    have := h i hi
    unfold leadsAt at this
    rw [getD_at hi] at this
    exact this
set_option maxRecDepth 100000 in
set_option maxHeartbeats 3000000 in
theorem right12 (a : Option Addr) (c : Nat) (l : List It) (w : World) (hl : Fine l) (h : Items w a l) :
    Calls Tryz.prog 15 #[.slice a l.length c] w fun x w' => x = .returned (.bool (rightB l)) ∧ Below w.heap.size w w' := by
  have HG := hid (right_each l)
  have HF := hid hl
  obtain ⟨hln, hin, hsm⟩ := hl
  generalize rightB l = G at *
  obtain ⟨n, HN⟩ : ∃ m, Hid (l.length = m) := ⟨_, hid rfl⟩
  rw [HN.out] at hln HG ⊢
  have HI := hid h
  clear h
  generalize hk0 : w.heap.size = k0 at *
  go_enter Tryz.func15, Tryz.ntmps15
  go_wp2_with fail
  go_loopw [9] (fun i wr => ∃ j : Nat, j ≤ n ∧ i = .int .i64 j ∧ Hid (upTo (fun i => stepB l i && leadsAt l i) j = true) ∧ Below k0 w wr) (fun i _ => n - (intOf i).toNat)
  case atStart => exact ⟨0, Nat.zero_le _, rfl, rfl, by rw [← hk0]; exact Below.refl _ _⟩
  case round =>
    obtain ⟨j, hj, rfl, hjn, hb⟩ := hrel
    have hbs : k0 ≤ wr.heap.size := by rw [← hk0]; exact hb.size
    by_cases hlt : j < n
    · have hlt' : j < l.length := by rw [HN.out]; exact hlt
      have hxs := hsm _ (List.getElem_mem hlt')
      obtain ⟨q0, HQ⟩ : ∃ q, Hid (stepB l j = q) := ⟨_, hid rfl⟩
      have hsb : (j = 0 ∧ q0 = decide (mayI l[j].nd = 0)) ∨ ∃ i, j = i + 1 ∧ ∃ hi : i < l.length, q0 = (decide (l[i].blk < l[j].blk) && decide (mayI l[j].nd = 0)) := by
        cases j with
        | zero => exact .inl ⟨rfl, by rw [← HQ.out, stepB_zero hlt']⟩
        | succ i => exact .inr ⟨i, rfl, by omega, by rw [← HQ.out, stepB_at hlt']⟩
      have hla : leadsAt l j = (l[j].nd.ks.all (fun e => fitsB l e.blk e.deep) && l[j].nd.bf.all (gotoB l)) := by unfold leadsAt; rw [getD_at hlt']; rfl
      obtain ⟨b, off, rfl, h6, h7⟩ := (HI.out.later (by rw [hk0]; exact hb)).at hlt'
      have HLI := hid (fun u (hu : Below k0 w u) => (show Lies u l[j].nd l[j].pl by
        obtain ⟨b', off', e, h8, h9⟩ := (HI.out.later (by rw [hk0]; exact hu)).at hlt'
        exact h9))
      have HAT := hid (fun u (hu : Below k0 w u) => (show ItC u b (off + j * 6) l[j] by
        obtain ⟨b', off', e, h8, h9⟩ := (HI.out.later (by rw [hk0]; exact hu)).at hlt'
        simp only [Option.some.injEq, Addr.mk.injEq, and_true] at e
        obtain ⟨rfl, rfl⟩ := e
        exact h8))
      have HPV := hid (fun i (hi : i < l.length) u (hu : Below k0 w u) => (show u.cell? ⟨b, off + i * 6, none⟩ = some (.int .u32 l[i].blk) by
        obtain ⟨b', off', e, h8, h9⟩ := (HI.out.later (by rw [hk0]; exact hu)).at hi
        simp only [Option.some.injEq, Addr.mk.injEq, and_true] at e
        obtain ⟨rfl, rfl⟩ := e
        exact h8.c0))
      obtain ⟨x, HX⟩ : ∃ m, Hid (l[j] = m) := ⟨_, hid rfl⟩
      rw [HX.out] at h6 h7 hxs hsb hla HLI HAT
      have HMY := hid (fun u (hu : Below k0 w u) => may13 x.nd x.pl u hxs.few (HLI.out u hu) (fun m hm => (hxs.db m hm).1))
      obtain ⟨MI, HMI⟩ : ∃ m, Hid (mayI x.nd = m) := ⟨_, hid rfl⟩
      have hq3 := hxs.few.l3
      have hq4 := hxs.few.l4
      rw [HMI.out] at HMY hsb
      have N5 := NBox.new wr (.bool x.nd.leaf) (.slice x.pl.a1 x.nd.ps.length x.pl.c1) (.slice x.pl.a2 x.nd.pv.length x.pl.c2) (.slice x.pl.a3 x.nd.ks.length x.pl.c3) (.slice x.pl.a4 x.nd.bf.length x.pl.c4)
      have hbx : Below k0 w (wr.alloc (.cells #[.bool x.nd.leaf, .slice x.pl.a1 x.nd.ps.length x.pl.c1, .slice x.pl.a2 x.nd.pv.length x.pl.c2, .slice x.pl.a3 x.nd.ks.length x.pl.c3, .slice x.pl.a4 x.nd.bf.length x.pl.c4] 46)) := hb.alloc hbs _
      have HC0 : Hid (∀ u, Below k0 w u → u.cell? ⟨b, off + j * 6, none⟩ = some (.int .u32 x.blk)) := hid (fun u hu => (HAT.out u hu).c0)
      obtain ⟨bk, ⟨lf, ps, pv, ks, bf⟩, ⟨a1, c1, a2, c2, a3, c3, a4, c4⟩⟩ := x
      obtain ⟨d0, d1, d2, d3, d4, d5⟩ := h6
      dsimp only [nv] at *
      clear h7 hxs HAT hb
      have HSB := hid hsb
      have HLA := hid hla
      have HB5 := hid hbx
      clear hsb hla hbx
      generalize ps.length = n1 at *
      generalize pv.length = n2 at *
      obtain ⟨n3, HN3⟩ : ∃ m, Hid (ks.length = m) := ⟨_, hid rfl⟩
      obtain ⟨n4, HN4⟩ : ∃ m, Hid (bf.length = m) := ⟨_, hid rfl⟩
      rw [HN3.out, HN4.out] at HMY N5 HB5
      rw [HN3.out] at d4 hq3
      rw [HN4.out] at d5 hq4
      cases j with
      | zero =>
        have hq : Hid (q0 = decide (MI = 0)) := hid (by rcases HSB.out with ⟨_, e⟩ | ⟨i, e, _⟩; exact e; omega)
        clear HSB HPV
        simp only [Nat.zero_mul, Nat.add_zero] at d0 d1 d2 d3 d4 d5
        rw [show ((0 : Nat) : Int) = 0 from rfl]
        by_cases hm0 : MI = 0
        · have hm0' : (MI == 0) = true := by simpa using hm0
          have HQ1 : Hid (stepB l 0 = true) := hid (by rw [HQ.out, hq.out, decide_eq_true hm0])
          have HPL : Hid ((ks.all (fun e => fitsB l e.blk e.deep) && bf.all (gotoB l)) = false → (stepB l 0 && leadsAt l 0) = false) := hid (fun e => by rw [HLA.out, e, Bool.and_false])
          have HPY : Hid ((ks.all (fun e => fitsB l e.blk e.deep) && bf.all (gotoB l)) = true → (stepB l 0 && leadsAt l 0) = true) := hid (fun e => by rw [HLA.out, e, HQ1.out]; rfl)
          clear hq HLA HQ1 HQ hm0'
          subst hm0
          go_upto_region 5 with fail
          generalize (wr.alloc (.cells #[.bool lf, .slice a1 n1 c1, .slice a2 n2 c2, .slice a3 n3 c3, .slice a4 n4 c4] 46)) = w5 at *
          generalize wr.heap.size = kx at *
          have hb5 := HB5.out
          have hs5 : k0 ≤ w5.heap.size := by rw [← hk0]; exact hb5.size
          refine wp_region_quiet (C := fun u => Below w5.heap.size w5 u) (by kernel_rfl) (by kernel_rfl) ⟨rfl, rfl, rfl, Nat.le_refl _, fun _ _ => rfl⟩ ?_
          change wpQuiet _ _ _ _ (_ :: _) _
          repeat
            first
              | go_big_quiet_skip
              | go_big_quiet_want
                first
                  | refine quiet_v ?_ ?_ ?_
                    rotate_left
                    · intro u hu
                      obtain ⟨m0, m1, m2, m3, m4⟩ := (N5.later hu).cells
                      go_simp
                      with_reducible rfl
                  | refine quiet_c (.int .i64 0) 26 #[.agg #[.bool lf, .slice a1 n1 c1, .slice a2 n2 c2, .slice a3 n3 c3, .slice a4 n4 c4]] ?_ (fun u hu => (HMY.out u (hb5.trans (hu.mono hs5))).mono fun x u' h => ⟨h.1, hu.trans (h.2.mono hu.size)⟩) ?_
                    · intro u hu
                      go_simp
                      done
                go_simp
                go_big_quiet_on
          refine wpQuiet_nil (fun u hu => ?_)
          obtain ⟨m0, m1, m2, m3, m4⟩ := (N5.later hu).cells
          go_wp2_with fail
          have hb6 := hb5.trans (hu.mono hs5)
          have hs6 : k0 ≤ u.heap.size := Nat.le_trans hs5 hu.size
          have N6 := N5.later hu
          clear m0 m1 m2 m3 m4
          go_loopw [41] (fun i wr => ∃ q : Nat, q ≤ n3 ∧ i = .int .i64 q ∧ Hid ((ks.take q).all (fun e => fitsB l e.blk e.deep) = true) ∧ Below u.heap.size u wr) (fun i _ => n3 - (intOf i).toNat)
          case atStart => exact ⟨0, Nat.zero_le _, rfl, by simp [Hid], Below.refl _ _⟩
          case round =>
            obtain ⟨q, hq, rfl, hqn, hbq⟩ := hrel
            have hb7 := hb6.trans (hbq.mono hs6)
            have hs7 : k0 ≤ wr.heap.size := Nat.le_trans hs6 hbq.size
            have N7 := N6.later hbq
            by_cases hltq : q < n3
            · have hltq' : q < ks.length := by rw [HN3.out]; exact hltq
              have hst := hid (all_take_succ ks (fun e => fitsB l e.blk e.deep) hltq')
              have hno := hid (fun hp => all_not ks (fun e => fitsB l e.blk e.deep) hltq' hp)
              obtain ⟨eb, eo, rfl, _⟩ := (HLI.out wr hb7).h3.at hltq'
              have HE := hid (fun u (hu : Below k0 w u) => (show Four u eb (eo + q * 4) ks[q] by
                obtain ⟨b', off', e, h8⟩ := (HLI.out u hu).h3.at hltq'
                simp only [Option.some.injEq, Addr.mk.injEq, and_true] at e
                obtain ⟨rfl, rfl⟩ := e
                exact h8))
              obtain ⟨e, HX2⟩ : ∃ m, Hid (ks[q] = m) := ⟨_, hid rfl⟩
              rw [HX2.out] at hst hno HE
              obtain ⟨F, HFQ⟩ : ∃ m, Hid (fitsB l e.blk e.deep = m) := ⟨_, hid rfl⟩
              have HLD := hid (fun u (hu : Below k0 w u) => leads29 (some ⟨b, off, none⟩) c l e.blk e.deep u HF.out (HI.out.later (by rw [hk0]; exact hu)))
              rw [HFQ.out, HN.out] at HLD
              rw [HFQ.out] at hst hno
              have HST : Hid ((ks.take (q + 1)).all (fun e => fitsB l e.blk e.deep) = F) := hid (by rw [hst.out, hqn.out]; rfl)
              obtain ⟨ebk, edp, esp, ead⟩ := e
              dsimp only at *
              have hltqi : (q : Int) < (n3 : Int) := by omega
              clear hst hqn
              have HNO : Hid (F = false → G = false) := hid (fun e => by rw [HG.out]; exact upTo_no hlt (HPL.out (by rw [hno.out e]; rfl)))
              clear hno
              cases F
              · go_upto_region 10 with fail
                refine wp_region_quiet (C := fun u => Below wr.heap.size wr u) (by kernel_rfl) (by kernel_rfl) ⟨rfl, rfl, rfl, Nat.le_refl _, fun _ _ => rfl⟩ ?_
                change wpQuiet _ _ _ _ (_ :: _) _
                repeat
                  first
                    | go_big_quiet_skip
                    | go_big_quiet_want
                      first
                        | refine quiet_v ?_ ?_ ?_
                          rotate_left
                          · intro u hu
                            obtain ⟨m0, m1, m2, m3, m4⟩ := (N7.later hu).cells
                            obtain ⟨e0, e1, e2, e3⟩ := HE.out u (hb7.trans (hu.mono hs7))
                            go_simp
                            with_reducible rfl
                        | refine quiet_c (.bool false) 27 #[.slice (some ⟨b, off, none⟩) n c, .int .u32 ebk, .int .u16 edp] ?_ (fun u hu => (HLD.out u (hb7.trans (hu.mono hs7))).mono fun x u' h => ⟨h.1, hu.trans (h.2.mono hu.size)⟩) ?_
                          · intro u hu
                            go_simp
                            done
                      go_simp
                      go_big_quiet_on
                refine wpQuiet_nil (fun u hu => ?_)
                go_wp2_with fail
                go_ret
                have hb8 := hb7.trans (hu.mono hs7)
                exact ⟨ret_bool (HNO.out (by first | rfl | trivial)).symm, by first | exact hb8 | (rw [hk0]; exact hb8)⟩
              · go_upto_region 10 with fail
                refine wp_region_quiet (C := fun u => Below wr.heap.size wr u) (by kernel_rfl) (by kernel_rfl) ⟨rfl, rfl, rfl, Nat.le_refl _, fun _ _ => rfl⟩ ?_
                change wpQuiet _ _ _ _ (_ :: _) _
                repeat
                  first
                    | go_big_quiet_skip
                    | go_big_quiet_want
                      first
                        | refine quiet_v ?_ ?_ ?_
                          rotate_left
                          · intro u hu
                            obtain ⟨m0, m1, m2, m3, m4⟩ := (N7.later hu).cells
                            obtain ⟨e0, e1, e2, e3⟩ := HE.out u (hb7.trans (hu.mono hs7))
                            go_simp
                            with_reducible rfl
                        | refine quiet_c (.bool true) 27 #[.slice (some ⟨b, off, none⟩) n c, .int .u32 ebk, .int .u16 edp] ?_ (fun u hu => (HLD.out u (hb7.trans (hu.mono hs7))).mono fun x u' h => ⟨h.1, hu.trans (h.2.mono hu.size)⟩) ?_
                          · intro u hu
                            go_simp
                            done
                      go_simp
                      go_big_quiet_on
                refine wpQuiet_nil (fun u hu => ?_)
                go_wp2_with fail
                go_roundw
                case rel => exact ⟨q + 1, by omega, by go_num, HST, hbq.trans (hu.mono hbq.size)⟩
                case measure => simp [intOf]; omega
            · obtain rfl : q = n3 := by omega
              have HK : Hid (ks.all (fun e => fitsB l e.blk e.deep) = true) := hid (by have := hqn.out; rw [← HN3.out, List.take_length] at this; exact this)
              have HPL2 : Hid (bf.all (gotoB l) = false → (stepB l 0 && leadsAt l 0) = false) := hid (fun e => HPL.out (by rw [HK.out, e]; rfl))
              have HPY2 : Hid (bf.all (gotoB l) = true → (stepB l 0 && leadsAt l 0) = true) := hid (fun e => HPY.out (by rw [HK.out, e]; rfl))
              clear HPL HPY hqn
              obtain ⟨m0, m1, m2, m3, m4⟩ := N7.cells
              go_wp2_with fail
              go_loopw [63] (fun i wr => ∃ q : Nat, q ≤ n4 ∧ i = .int .i64 q ∧ Hid ((bf.take q).all (gotoB l) = true) ∧ Below u.heap.size u wr) (fun i _ => n4 - (intOf i).toNat)
              case atStart => exact ⟨0, Nat.zero_le _, rfl, by simp [Hid], hbq⟩
              case round =>
                clear m0 m1 m2 m3 m4 hb7 hs7 N7 hbq
                obtain ⟨q, hq, rfl, hqn, hbq⟩ := hrel
                have hb7 := hb6.trans (hbq.mono hs6)
                have hs7 : k0 ≤ wr.heap.size := Nat.le_trans hs6 hbq.size
                have N7 := N6.later hbq
                by_cases hltq : q < n4
                · have hltq' : q < bf.length := by rw [HN4.out]; exact hltq
                  have hst := hid (all_take_succ bf (gotoB l) hltq')
                  have hno := hid (fun hp => all_not bf (gotoB l) hltq' hp)
                  obtain ⟨eb, eo, rfl, _⟩ := (HLI.out wr hb7).h4.at hltq'
                  have HE := hid (fun u (hu : Below k0 w u) => (show Six u eb (eo + q * 6) bf[q] by
                    obtain ⟨b', off', e, h8⟩ := (HLI.out u hu).h4.at hltq'
                    simp only [Option.some.injEq, Addr.mk.injEq, and_true] at e
                    obtain ⟨rfl, rfl⟩ := e
                    exact h8))
                  obtain ⟨e, HX2⟩ : ∃ m, Hid (bf[q] = m) := ⟨_, hid rfl⟩
                  rw [HX2.out] at hst hno HE
                  have hgf : gotoB l e = if e.kind = 3 then fitsB l e.blk e.deep else true := rfl
                  have HLD := hid (fun u (hu : Below k0 w u) => leads29 (some ⟨b, off, none⟩) c l e.blk e.deep u HF.out (HI.out.later (by rw [hk0]; exact hu)))
                  rw [HN.out] at HLD
                  have hltqi : (q : Int) < (n4 : Int) := by omega
                  by_cases hk : e.kind = 3
                  · obtain ⟨F, HFQ⟩ : ∃ m, Hid (fitsB l e.blk e.deep = m) := ⟨_, hid rfl⟩
                    rw [HFQ.out] at HLD hgf
                    rw [hgf.trans (if_pos hk)] at hst hno
                    have HST : Hid ((bf.take (q + 1)).all (gotoB l) = F) := hid (by rw [hst.out, hqn.out]; rfl)
                    have HNO : Hid (F = false → G = false) := hid (fun e => by rw [HG.out]; exact upTo_no hlt (HPL2.out (hno.out e)))
                    have hk' : (e.kind == 3) = true := by simpa using hk
                    clear hst hno hqn hgf hk
                    obtain ⟨ekd, eky, evl, ebk, edp, ead⟩ := e
                    dsimp only at *
                    cases F
                    · go_upto_region 16 with fail
                      refine wp_region_quiet (C := fun u => Below wr.heap.size wr u) (by kernel_rfl) (by kernel_rfl) ⟨rfl, rfl, rfl, Nat.le_refl _, fun _ _ => rfl⟩ ?_
                      change wpQuiet _ _ _ _ (_ :: _) _
                      repeat
                        first
                          | go_big_quiet_skip
                          | go_big_quiet_want
                            first
                              | refine quiet_v ?_ ?_ ?_
                                rotate_left
                                · intro u hu
                                  obtain ⟨m0, m1, m2, m3, m4⟩ := (N7.later hu).cells
                                  obtain ⟨e0, e1, e2, e3, e4, e5⟩ := HE.out u (hb7.trans (hu.mono hs7))
                                  go_simp
                                  with_reducible rfl
                              | refine quiet_c (.bool false) 27 #[.slice (some ⟨b, off, none⟩) n c, .int .u32 ebk, .int .u16 edp] ?_ (fun u hu => (HLD.out u (hb7.trans (hu.mono hs7))).mono fun x u' h => ⟨h.1, hu.trans (h.2.mono hu.size)⟩) ?_
                                · intro u hu
                                  go_simp
                                  done
                            go_simp
                            go_big_quiet_on
                      refine wpQuiet_nil (fun u hu => ?_)
                      go_wp2_with fail
                      go_ret
                      have hb8 := hb7.trans (hu.mono hs7)
                      exact ⟨ret_bool (HNO.out (by first | rfl | trivial)).symm, by first | exact hb8 | (rw [hk0]; exact hb8)⟩
                    · go_upto_region 16 with fail
                      refine wp_region_quiet (C := fun u => Below wr.heap.size wr u) (by kernel_rfl) (by kernel_rfl) ⟨rfl, rfl, rfl, Nat.le_refl _, fun _ _ => rfl⟩ ?_
                      change wpQuiet _ _ _ _ (_ :: _) _
                      repeat
                        first
                          | go_big_quiet_skip
                          | go_big_quiet_want
                            first
                              | refine quiet_v ?_ ?_ ?_
                                rotate_left
                                · intro u hu
                                  obtain ⟨m0, m1, m2, m3, m4⟩ := (N7.later hu).cells
                                  obtain ⟨e0, e1, e2, e3, e4, e5⟩ := HE.out u (hb7.trans (hu.mono hs7))
                                  go_simp
                                  with_reducible rfl
                              | refine quiet_c (.bool true) 27 #[.slice (some ⟨b, off, none⟩) n c, .int .u32 ebk, .int .u16 edp] ?_ (fun u hu => (HLD.out u (hb7.trans (hu.mono hs7))).mono fun x u' h => ⟨h.1, hu.trans (h.2.mono hu.size)⟩) ?_
                                · intro u hu
                                  go_simp
                                  done
                            go_simp
                            go_big_quiet_on
                      refine wpQuiet_nil (fun u hu => ?_)
                      go_wp2_with fail
                      go_roundw
                      case rel => exact ⟨q + 1, by omega, by go_num, HST, hbq.trans (hu.mono hbq.size)⟩
                      case measure => simp [intOf]; omega
                  · rw [hgf.trans (if_neg hk)] at hst
                    have HST : Hid ((bf.take (q + 1)).all (gotoB l) = true) := hid (by rw [hst.out, hqn.out]; rfl)
                    have hk' : (e.kind == 3) = false := by simpa using hk
                    clear hst hno hqn hgf hk HLD
                    obtain ⟨ekd, eky, evl, ebk, edp, ead⟩ := e
                    dsimp only at *
                    go_upto_region 16 with fail
                    refine wp_region_quiet (C := fun u => Below wr.heap.size wr u) (by kernel_rfl) (by kernel_rfl) ⟨rfl, rfl, rfl, Nat.le_refl _, fun _ _ => rfl⟩ ?_
                    change wpQuiet _ _ _ _ (_ :: _) _
                    repeat
                      first
                        | go_big_quiet_skip
                        | go_big_quiet_want
                          first
                            | refine quiet_v ?_ ?_ ?_
                              rotate_left
                              · intro u hu
                                obtain ⟨m0, m1, m2, m3, m4⟩ := (N7.later hu).cells
                                obtain ⟨e0, e1, e2, e3, e4, e5⟩ := HE.out u (hb7.trans (hu.mono hs7))
                                go_simp
                                with_reducible rfl
                          go_simp
                          go_big_quiet_on
                    refine wpQuiet_nil (fun u hu => ?_)
                    go_wp2_with fail
                    go_roundw
                    case rel => exact ⟨q + 1, by omega, by go_num, HST, hbq.trans (hu.mono hbq.size)⟩
                    case measure => simp [intOf]; omega
                · obtain rfl : q = n4 := by omega
                  have HB : Hid (bf.all (gotoB l) = true) := hid (by have := hqn.out; rw [← HN4.out, List.take_length] at this; exact this)
                  have HON := hid (HPY2.out HB.out)
                  go_wp2_with fail
                  go_roundw
                  case rel => exact ⟨0 + 1, by omega, by go_num, hid (by rw [upTo, hjn.out, HON.out]; rfl), hb7⟩
                  case measure => simp [intOf]; omega
        · have hm0' : (MI == 0) = false := by simpa using hm0
          have HPF : Hid ((stepB l 0 && leadsAt l 0) = false) := hid (by rw [HQ.out, hq.out, decide_eq_false hm0]; rfl)
          clear hm0 hq HLA HQ
          go_upto_region 5 with fail
          generalize (wr.alloc (.cells #[.bool lf, .slice a1 n1 c1, .slice a2 n2 c2, .slice a3 n3 c3, .slice a4 n4 c4] 46)) = w5 at *
          generalize wr.heap.size = kx at *
          have hb5 := HB5.out
          have hs5 : k0 ≤ w5.heap.size := by rw [← hk0]; exact hb5.size
          refine wp_region_quiet (C := fun u => Below w5.heap.size w5 u) (by kernel_rfl) (by kernel_rfl) ⟨rfl, rfl, rfl, Nat.le_refl _, fun _ _ => rfl⟩ ?_
          change wpQuiet _ _ _ _ (_ :: _) _
          repeat
            first
              | go_big_quiet_skip
              | go_big_quiet_want
                first
                  | refine quiet_v ?_ ?_ ?_
                    rotate_left
                    · intro u hu
                      obtain ⟨m0, m1, m2, m3, m4⟩ := (N5.later hu).cells
                      go_simp
                      with_reducible rfl
                  | refine quiet_c (.int .i64 MI) 26 #[.agg #[.bool lf, .slice a1 n1 c1, .slice a2 n2 c2, .slice a3 n3 c3, .slice a4 n4 c4]] ?_ (fun u hu => (HMY.out u (hb5.trans (hu.mono hs5))).mono fun x u' h => ⟨h.1, hu.trans (h.2.mono hu.size)⟩) ?_
                    · intro u hu
                      go_simp
                      done
                go_simp
                go_big_quiet_on
          refine wpQuiet_nil (fun u hu => ?_)
          go_wp2_with fail
          go_ret
          have hb6 := hb5.trans (hu.mono hs5)
          exact ⟨ret_bool (by rw [HG.out]; exact (upTo_no hlt HPF.out).symm), by first | exact hb6 | (rw [hk0]; exact hb6)⟩
      | succ i =>
        have hil : i < l.length := by omega
        have hq : Hid (q0 = (decide (l[i].blk < bk) && decide (MI = 0))) := hid (by
          rcases HSB.out with ⟨h, _⟩ | ⟨i', h, hi', e⟩
          · omega
          · obtain rfl : i = i' := (by omega)
            exact e)
        obtain ⟨yb, HYB⟩ : ∃ m, Hid (l[i].blk = m) := ⟨_, hid rfl⟩
        have HPC : Hid (∀ u, Below k0 w u → u.cell? ⟨b, off + i * 6, none⟩ = some (.int .u32 yb) ∧ u.cell? ⟨b, off + (i + 1) * 6, none⟩ = some (.int .u32 bk)) := hid (fun u hu => ⟨by rw [HPV.out i hil u hu, HYB.out], HC0.out u hu⟩)
        rw [HYB.out] at hq
        clear HSB HPV HC0
        rw [show ((i + 1 : Nat) : Int) = (i : Int) + 1 from rfl]
        have hlti : ((i : Int) + 1) < (n : Int) := by omega
        have hwi : IntKind.i64.wrap (i : Int) = (i : Int) := by rw [IntKind.wrap_i64]; omega
        have hlt2 : (i : Int) < (n : Int) := by omega
        have hp1 : (0 : Int) ≤ (i : Int) + 1 := by omega
        by_cases hle : bk ≤ yb
        · have hle' : decide (bk ≤ yb) = true := by simpa using hle
          have HPF : Hid ((stepB l (i + 1) && leadsAt l (i + 1)) = false) := hid (by rw [HQ.out, hq.out, decide_eq_false (by omega : ¬ yb < bk)]; rfl)
          clear hle hq HLA HQ
          go_upto_region 5 with fail
          generalize (wr.alloc (.cells #[.bool lf, .slice a1 n1 c1, .slice a2 n2 c2, .slice a3 n3 c3, .slice a4 n4 c4] 46)) = w5 at *
          generalize wr.heap.size = kx at *
          have hb5 := HB5.out
          have hs5 : k0 ≤ w5.heap.size := by rw [← hk0]; exact hb5.size
          refine wp_region_quiet (C := fun u => Below w5.heap.size w5 u) (by kernel_rfl) (by kernel_rfl) ⟨rfl, rfl, rfl, Nat.le_refl _, fun _ _ => rfl⟩ ?_
          change wpQuiet _ _ _ _ (_ :: _) _
          repeat
            first
              | go_big_quiet_skip
              | go_big_quiet_want
                first
                  | refine quiet_v ?_ ?_ ?_
                    rotate_left
                    · intro u hu
                      obtain ⟨m0, m1, m2, m3, m4⟩ := (N5.later hu).cells
                      obtain ⟨q0, q1⟩ := HPC.out u (hb5.trans (hu.mono hs5))
                      go_simp
                      with_reducible rfl
                  | refine quiet_c (.int .i64 MI) 26 #[.agg #[.bool lf, .slice a1 n1 c1, .slice a2 n2 c2, .slice a3 n3 c3, .slice a4 n4 c4]] ?_ (fun u hu => (HMY.out u (hb5.trans (hu.mono hs5))).mono fun x u' h => ⟨h.1, hu.trans (h.2.mono hu.size)⟩) ?_
                    · intro u hu
                      go_simp
                      done
                go_simp
                go_big_quiet_on
          refine wpQuiet_nil (fun u hu => ?_)
          go_wp2_with fail
          go_ret
          have hb6 := hb5.trans (hu.mono hs5)
          exact ⟨ret_bool (by rw [HG.out]; exact (upTo_no hlt HPF.out).symm), by first | exact hb6 | (rw [hk0]; exact hb6)⟩
        · have hle' : decide (bk ≤ yb) = false := by simpa using hle
          have hq : Hid (q0 = decide (MI = 0)) := hid (by rw [hq.out, decide_eq_true (by omega : yb < bk)]; rfl)
          clear hle
          by_cases hm0 : MI = 0
          · have hm0' : (MI == 0) = true := by simpa using hm0
            have HQ1 : Hid (stepB l (i + 1) = true) := hid (by rw [HQ.out, hq.out, decide_eq_true hm0])
            have HPL : Hid ((ks.all (fun e => fitsB l e.blk e.deep) && bf.all (gotoB l)) = false → (stepB l (i + 1) && leadsAt l (i + 1)) = false) := hid (fun e => by rw [HLA.out, e, Bool.and_false])
            have HPY : Hid ((ks.all (fun e => fitsB l e.blk e.deep) && bf.all (gotoB l)) = true → (stepB l (i + 1) && leadsAt l (i + 1)) = true) := hid (fun e => by rw [HLA.out, e, HQ1.out]; rfl)
            clear hq HLA HQ1 HQ hm0'
            subst hm0
            go_upto_region 5 with fail
            generalize (wr.alloc (.cells #[.bool lf, .slice a1 n1 c1, .slice a2 n2 c2, .slice a3 n3 c3, .slice a4 n4 c4] 46)) = w5 at *
            generalize wr.heap.size = kx at *
            have hb5 := HB5.out
            have hs5 : k0 ≤ w5.heap.size := by rw [← hk0]; exact hb5.size
            refine wp_region_quiet (C := fun u => Below w5.heap.size w5 u) (by kernel_rfl) (by kernel_rfl) ⟨rfl, rfl, rfl, Nat.le_refl _, fun _ _ => rfl⟩ ?_
            change wpQuiet _ _ _ _ (_ :: _) _
            repeat
              first
                | go_big_quiet_skip
                | go_big_quiet_want
                  first
                    | refine quiet_v ?_ ?_ ?_
                      rotate_left
                      · intro u hu
                        obtain ⟨m0, m1, m2, m3, m4⟩ := (N5.later hu).cells
                        obtain ⟨q0, q1⟩ := HPC.out u (hb5.trans (hu.mono hs5))
                        go_simp
                        with_reducible rfl
                    | refine quiet_c (.int .i64 0) 26 #[.agg #[.bool lf, .slice a1 n1 c1, .slice a2 n2 c2, .slice a3 n3 c3, .slice a4 n4 c4]] ?_ (fun u hu => (HMY.out u (hb5.trans (hu.mono hs5))).mono fun x u' h => ⟨h.1, hu.trans (h.2.mono hu.size)⟩) ?_
                      · intro u hu
                        go_simp
                        done
                  go_simp
                  go_big_quiet_on
            refine wpQuiet_nil (fun u hu => ?_)
            obtain ⟨m0, m1, m2, m3, m4⟩ := (N5.later hu).cells
            go_wp2_with fail
            have hb6 := hb5.trans (hu.mono hs5)
            have hs6 : k0 ≤ u.heap.size := Nat.le_trans hs5 hu.size
            have N6 := N5.later hu
            clear m0 m1 m2 m3 m4
            go_loopw [41] (fun i wr => ∃ q : Nat, q ≤ n3 ∧ i = .int .i64 q ∧ Hid ((ks.take q).all (fun e => fitsB l e.blk e.deep) = true) ∧ Below u.heap.size u wr) (fun i _ => n3 - (intOf i).toNat)
            case atStart => exact ⟨0, Nat.zero_le _, rfl, by simp [Hid], Below.refl _ _⟩
            case round =>
              obtain ⟨q, hq, rfl, hqn, hbq⟩ := hrel
              have hb7 := hb6.trans (hbq.mono hs6)
              have hs7 : k0 ≤ wr.heap.size := Nat.le_trans hs6 hbq.size
              have N7 := N6.later hbq
              by_cases hltq : q < n3
              · have hltq' : q < ks.length := by rw [HN3.out]; exact hltq
                have hst := hid (all_take_succ ks (fun e => fitsB l e.blk e.deep) hltq')
                have hno := hid (fun hp => all_not ks (fun e => fitsB l e.blk e.deep) hltq' hp)
                obtain ⟨eb, eo, rfl, _⟩ := (HLI.out wr hb7).h3.at hltq'
                have HE := hid (fun u (hu : Below k0 w u) => (show Four u eb (eo + q * 4) ks[q] by
                  obtain ⟨b', off', e, h8⟩ := (HLI.out u hu).h3.at hltq'
                  simp only [Option.some.injEq, Addr.mk.injEq, and_true] at e
                  obtain ⟨rfl, rfl⟩ := e
                  exact h8))
                obtain ⟨e, HX2⟩ : ∃ m, Hid (ks[q] = m) := ⟨_, hid rfl⟩
                rw [HX2.out] at hst hno HE
                obtain ⟨F, HFQ⟩ : ∃ m, Hid (fitsB l e.blk e.deep = m) := ⟨_, hid rfl⟩
                have HLD := hid (fun u (hu : Below k0 w u) => leads29 (some ⟨b, off, none⟩) c l e.blk e.deep u HF.out (HI.out.later (by rw [hk0]; exact hu)))
                rw [HFQ.out, HN.out] at HLD
                rw [HFQ.out] at hst hno
                have HST : Hid ((ks.take (q + 1)).all (fun e => fitsB l e.blk e.deep) = F) := hid (by rw [hst.out, hqn.out]; rfl)
                obtain ⟨ebk, edp, esp, ead⟩ := e
                dsimp only at *
                have hltqi : (q : Int) < (n3 : Int) := by omega
                clear hst hqn
                have HNO : Hid (F = false → G = false) := hid (fun e => by rw [HG.out]; exact upTo_no hlt (HPL.out (by rw [hno.out e]; rfl)))
                clear hno
                cases F
                · go_upto_region 10 with fail
                  refine wp_region_quiet (C := fun u => Below wr.heap.size wr u) (by kernel_rfl) (by kernel_rfl) ⟨rfl, rfl, rfl, Nat.le_refl _, fun _ _ => rfl⟩ ?_
                  change wpQuiet _ _ _ _ (_ :: _) _
                  repeat
                    first
                      | go_big_quiet_skip
                      | go_big_quiet_want
                        first
                          | refine quiet_v ?_ ?_ ?_
                            rotate_left
                            · intro u hu
                              obtain ⟨m0, m1, m2, m3, m4⟩ := (N7.later hu).cells
                              obtain ⟨e0, e1, e2, e3⟩ := HE.out u (hb7.trans (hu.mono hs7))
                              go_simp
                              with_reducible rfl
                          | refine quiet_c (.bool false) 27 #[.slice (some ⟨b, off, none⟩) n c, .int .u32 ebk, .int .u16 edp] ?_ (fun u hu => (HLD.out u (hb7.trans (hu.mono hs7))).mono fun x u' h => ⟨h.1, hu.trans (h.2.mono hu.size)⟩) ?_
                            · intro u hu
                              go_simp
                              done
                        go_simp
                        go_big_quiet_on
                  refine wpQuiet_nil (fun u hu => ?_)
                  go_wp2_with fail
                  go_ret
                  have hb8 := hb7.trans (hu.mono hs7)
                  exact ⟨ret_bool (HNO.out (by first | rfl | trivial)).symm, by first | exact hb8 | (rw [hk0]; exact hb8)⟩
                · go_upto_region 10 with fail
                  refine wp_region_quiet (C := fun u => Below wr.heap.size wr u) (by kernel_rfl) (by kernel_rfl) ⟨rfl, rfl, rfl, Nat.le_refl _, fun _ _ => rfl⟩ ?_
                  change wpQuiet _ _ _ _ (_ :: _) _
                  repeat
                    first
                      | go_big_quiet_skip
                      | go_big_quiet_want
                        first
                          | refine quiet_v ?_ ?_ ?_
                            rotate_left
                            · intro u hu
                              obtain ⟨m0, m1, m2, m3, m4⟩ := (N7.later hu).cells
                              obtain ⟨e0, e1, e2, e3⟩ := HE.out u (hb7.trans (hu.mono hs7))
                              go_simp
                              with_reducible rfl
                          | refine quiet_c (.bool true) 27 #[.slice (some ⟨b, off, none⟩) n c, .int .u32 ebk, .int .u16 edp] ?_ (fun u hu => (HLD.out u (hb7.trans (hu.mono hs7))).mono fun x u' h => ⟨h.1, hu.trans (h.2.mono hu.size)⟩) ?_
                            · intro u hu
                              go_simp
                              done
                        go_simp
                        go_big_quiet_on
                  refine wpQuiet_nil (fun u hu => ?_)
                  go_wp2_with fail
                  go_roundw
                  case rel => exact ⟨q + 1, by omega, by go_num, HST, hbq.trans (hu.mono hbq.size)⟩
                  case measure => simp [intOf]; omega
              · obtain rfl : q = n3 := by omega
                have HK : Hid (ks.all (fun e => fitsB l e.blk e.deep) = true) := hid (by have := hqn.out; rw [← HN3.out, List.take_length] at this; exact this)
                have HPL2 : Hid (bf.all (gotoB l) = false → (stepB l (i + 1) && leadsAt l (i + 1)) = false) := hid (fun e => HPL.out (by rw [HK.out, e]; rfl))
                have HPY2 : Hid (bf.all (gotoB l) = true → (stepB l (i + 1) && leadsAt l (i + 1)) = true) := hid (fun e => HPY.out (by rw [HK.out, e]; rfl))
                clear HPL HPY hqn
                obtain ⟨m0, m1, m2, m3, m4⟩ := N7.cells
                go_wp2_with fail
                go_loopw [63] (fun i wr => ∃ q : Nat, q ≤ n4 ∧ i = .int .i64 q ∧ Hid ((bf.take q).all (gotoB l) = true) ∧ Below u.heap.size u wr) (fun i _ => n4 - (intOf i).toNat)
                case atStart => exact ⟨0, Nat.zero_le _, rfl, by simp [Hid], hbq⟩
                case round =>
                  clear m0 m1 m2 m3 m4 hb7 hs7 N7 hbq
                  obtain ⟨q, hq, rfl, hqn, hbq⟩ := hrel
                  have hb7 := hb6.trans (hbq.mono hs6)
                  have hs7 : k0 ≤ wr.heap.size := Nat.le_trans hs6 hbq.size
                  have N7 := N6.later hbq
                  by_cases hltq : q < n4
                  · have hltq' : q < bf.length := by rw [HN4.out]; exact hltq
                    have hst := hid (all_take_succ bf (gotoB l) hltq')
                    have hno := hid (fun hp => all_not bf (gotoB l) hltq' hp)
                    obtain ⟨eb, eo, rfl, _⟩ := (HLI.out wr hb7).h4.at hltq'
                    have HE := hid (fun u (hu : Below k0 w u) => (show Six u eb (eo + q * 6) bf[q] by
                      obtain ⟨b', off', e, h8⟩ := (HLI.out u hu).h4.at hltq'
                      simp only [Option.some.injEq, Addr.mk.injEq, and_true] at e
                      obtain ⟨rfl, rfl⟩ := e
                      exact h8))
                    obtain ⟨e, HX2⟩ : ∃ m, Hid (bf[q] = m) := ⟨_, hid rfl⟩
                    rw [HX2.out] at hst hno HE
                    have hgf : gotoB l e = if e.kind = 3 then fitsB l e.blk e.deep else true := rfl
                    have HLD := hid (fun u (hu : Below k0 w u) => leads29 (some ⟨b, off, none⟩) c l e.blk e.deep u HF.out (HI.out.later (by rw [hk0]; exact hu)))
                    rw [HN.out] at HLD
                    have hltqi : (q : Int) < (n4 : Int) := by omega
                    by_cases hk : e.kind = 3
                    · obtain ⟨F, HFQ⟩ : ∃ m, Hid (fitsB l e.blk e.deep = m) := ⟨_, hid rfl⟩
                      rw [HFQ.out] at HLD hgf
                      rw [hgf.trans (if_pos hk)] at hst hno
                      have HST : Hid ((bf.take (q + 1)).all (gotoB l) = F) := hid (by rw [hst.out, hqn.out]; rfl)
                      have HNO : Hid (F = false → G = false) := hid (fun e => by rw [HG.out]; exact upTo_no hlt (HPL2.out (hno.out e)))
                      have hk' : (e.kind == 3) = true := by simpa using hk
                      clear hst hno hqn hgf hk
                      obtain ⟨ekd, eky, evl, ebk, edp, ead⟩ := e
                      dsimp only at *
                      cases F
                      · go_upto_region 16 with fail
                        refine wp_region_quiet (C := fun u => Below wr.heap.size wr u) (by kernel_rfl) (by kernel_rfl) ⟨rfl, rfl, rfl, Nat.le_refl _, fun _ _ => rfl⟩ ?_
                        change wpQuiet _ _ _ _ (_ :: _) _
                        repeat
                          first
                            | go_big_quiet_skip
                            | go_big_quiet_want
                              first
                                | refine quiet_v ?_ ?_ ?_
                                  rotate_left
                                  · intro u hu
                                    obtain ⟨m0, m1, m2, m3, m4⟩ := (N7.later hu).cells
                                    obtain ⟨e0, e1, e2, e3, e4, e5⟩ := HE.out u (hb7.trans (hu.mono hs7))
                                    go_simp
                                    with_reducible rfl
                                | refine quiet_c (.bool false) 27 #[.slice (some ⟨b, off, none⟩) n c, .int .u32 ebk, .int .u16 edp] ?_ (fun u hu => (HLD.out u (hb7.trans (hu.mono hs7))).mono fun x u' h => ⟨h.1, hu.trans (h.2.mono hu.size)⟩) ?_
                                  · intro u hu
                                    go_simp
                                    done
                              go_simp
                              go_big_quiet_on
                        refine wpQuiet_nil (fun u hu => ?_)
                        go_wp2_with fail
                        go_ret
                        have hb8 := hb7.trans (hu.mono hs7)
                        exact ⟨ret_bool (HNO.out (by first | rfl | trivial)).symm, by first | exact hb8 | (rw [hk0]; exact hb8)⟩
                      · go_upto_region 16 with fail
                        refine wp_region_quiet (C := fun u => Below wr.heap.size wr u) (by kernel_rfl) (by kernel_rfl) ⟨rfl, rfl, rfl, Nat.le_refl _, fun _ _ => rfl⟩ ?_
                        change wpQuiet _ _ _ _ (_ :: _) _
                        repeat
                          first
                            | go_big_quiet_skip
                            | go_big_quiet_want
                              first
                                | refine quiet_v ?_ ?_ ?_
                                  rotate_left
                                  · intro u hu
                                    obtain ⟨m0, m1, m2, m3, m4⟩ := (N7.later hu).cells
                                    obtain ⟨e0, e1, e2, e3, e4, e5⟩ := HE.out u (hb7.trans (hu.mono hs7))
                                    go_simp
                                    with_reducible rfl
                                | refine quiet_c (.bool true) 27 #[.slice (some ⟨b, off, none⟩) n c, .int .u32 ebk, .int .u16 edp] ?_ (fun u hu => (HLD.out u (hb7.trans (hu.mono hs7))).mono fun x u' h => ⟨h.1, hu.trans (h.2.mono hu.size)⟩) ?_
                                  · intro u hu
                                    go_simp
                                    done
                              go_simp
                              go_big_quiet_on
                        refine wpQuiet_nil (fun u hu => ?_)
                        go_wp2_with fail
                        go_roundw
                        case rel => exact ⟨q + 1, by omega, by go_num, HST, hbq.trans (hu.mono hbq.size)⟩
                        case measure => simp [intOf]; omega
                    · rw [hgf.trans (if_neg hk)] at hst
                      have HST : Hid ((bf.take (q + 1)).all (gotoB l) = true) := hid (by rw [hst.out, hqn.out]; rfl)
                      have hk' : (e.kind == 3) = false := by simpa using hk
                      clear hst hno hqn hgf hk HLD
                      obtain ⟨ekd, eky, evl, ebk, edp, ead⟩ := e
                      dsimp only at *
                      go_upto_region 16 with fail
                      refine wp_region_quiet (C := fun u => Below wr.heap.size wr u) (by kernel_rfl) (by kernel_rfl) ⟨rfl, rfl, rfl, Nat.le_refl _, fun _ _ => rfl⟩ ?_
                      change wpQuiet _ _ _ _ (_ :: _) _
                      repeat
                        first
                          | go_big_quiet_skip
                          | go_big_quiet_want
                            first
                              | refine quiet_v ?_ ?_ ?_
                                rotate_left
                                · intro u hu
                                  obtain ⟨m0, m1, m2, m3, m4⟩ := (N7.later hu).cells
                                  obtain ⟨e0, e1, e2, e3, e4, e5⟩ := HE.out u (hb7.trans (hu.mono hs7))
                                  go_simp
                                  with_reducible rfl
                            go_simp
                            go_big_quiet_on
                      refine wpQuiet_nil (fun u hu => ?_)
                      go_wp2_with fail
                      go_roundw
                      case rel => exact ⟨q + 1, by omega, by go_num, HST, hbq.trans (hu.mono hbq.size)⟩
                      case measure => simp [intOf]; omega
                  · obtain rfl : q = n4 := by omega
                    have HB : Hid (bf.all (gotoB l) = true) := hid (by have := hqn.out; rw [← HN4.out, List.take_length] at this; exact this)
                    have HON := hid (HPY2.out HB.out)
                    go_wp2_with fail
                    go_roundw
                    case rel => exact ⟨(i + 1) + 1, by omega, by go_num, hid (by rw [upTo, hjn.out, HON.out]; rfl), hb7⟩
                    case measure => simp [intOf]; omega
          · have hm0' : (MI == 0) = false := by simpa using hm0
            have HPF : Hid ((stepB l (i + 1) && leadsAt l (i + 1)) = false) := hid (by rw [HQ.out, hq.out, decide_eq_false hm0]; rfl)
            clear hm0 hq HLA HQ
            go_upto_region 5 with fail
            generalize (wr.alloc (.cells #[.bool lf, .slice a1 n1 c1, .slice a2 n2 c2, .slice a3 n3 c3, .slice a4 n4 c4] 46)) = w5 at *
            generalize wr.heap.size = kx at *
            have hb5 := HB5.out
            have hs5 : k0 ≤ w5.heap.size := by rw [← hk0]; exact hb5.size
            refine wp_region_quiet (C := fun u => Below w5.heap.size w5 u) (by kernel_rfl) (by kernel_rfl) ⟨rfl, rfl, rfl, Nat.le_refl _, fun _ _ => rfl⟩ ?_
            change wpQuiet _ _ _ _ (_ :: _) _
            repeat
              first
                | go_big_quiet_skip
                | go_big_quiet_want
                  first
                    | refine quiet_v ?_ ?_ ?_
                      rotate_left
                      · intro u hu
                        obtain ⟨m0, m1, m2, m3, m4⟩ := (N5.later hu).cells
                        obtain ⟨q0, q1⟩ := HPC.out u (hb5.trans (hu.mono hs5))
                        go_simp
                        with_reducible rfl
                    | refine quiet_c (.int .i64 MI) 26 #[.agg #[.bool lf, .slice a1 n1 c1, .slice a2 n2 c2, .slice a3 n3 c3, .slice a4 n4 c4]] ?_ (fun u hu => (HMY.out u (hb5.trans (hu.mono hs5))).mono fun x u' h => ⟨h.1, hu.trans (h.2.mono hu.size)⟩) ?_
                      · intro u hu
                        go_simp
                        done
                  go_simp
                  go_big_quiet_on
            refine wpQuiet_nil (fun u hu => ?_)
            go_wp2_with fail
            go_ret
            have hb6 := hb5.trans (hu.mono hs5)
            exact ⟨ret_bool (by rw [HG.out]; exact (upTo_no hlt HPF.out).symm), by first | exact hb6 | (rw [hk0]; exact hb6)⟩
    · obtain rfl : j = n := by omega
      go_wp2_with fail
      go_ret
      exact ⟨ret_bool (by rw [HG.out, hjn.out]), by first | exact hb | (rw [hk0]; exact hb)⟩
end Go.Proofs.YtegmpfmhlpdmhaaGreat.Key
