/-
  The walk of DiskPlays.
-/
import Derived.Test.YtklfpoojpfomeaaDt
import Derived.Test.YtklfpoojpfomeaaWKeeps
namespace Go.Proofs.Ytklfpoojpfomeaa.Key
open Go.RowKit Draw
set_option linter.unusedVariables false
set_option linter.unusedSimpArgs false
theorem Fine.step {d : Dk} {m : Nat} (h : Fine d m) {x : St} (hx : x.In) : Fine (stepD d x) (m + 1) := by
  obtain ⟨h1, h2, h3, h4⟩ := h
  obtain ⟨f1, f2, f3, f4, f5, f6, f7⟩ := fallD_more d
  have w1 : ∀ f : Int, (Lit.int .i64 f).wf = true ↔ (-9223372036854775808 ≤ f ∧ f ≤ 9223372036854775807) := fun f => by simp [Lit.wf, IntKind.max, IntKind.min, IntKind.bits, IntKind.signed]
  unfold stepD
  split
  · obtain ⟨q1, q2, q3⟩ := writeD_more d x.ix x.b
    have hk : (writeD d x.ix x.b).2.kept = d.kept ∧ ((writeD d x.ix x.b).2.fuse = d.fuse ∨ (0 < d.fuse ∧ (writeD d x.ix x.b).2.fuse = d.fuse - 1)) := by
      obtain ⟨_, g2, _, g4, _⟩ := fallD_more (waitD d x.ix x.b)
      unfold writeD
      split
      · exact ⟨rfl, .inl rfl⟩
      split
      · exact ⟨rfl, .inl rfl⟩
      split
      · exact ⟨rfl, .inl rfl⟩
      split
      · exact ⟨g2, .inl g4⟩
      split
      · next hp => exact ⟨rfl, .inr ⟨hp, rfl⟩⟩
      · exact ⟨rfl, .inl rfl⟩
    refine ⟨by rw [hk.1]; omega, by omega, h3.write _ _, ?_⟩
    rcases hk.2 with e | ⟨hp, e⟩
    · rw [e]; exact h4
    · rw [e]; rw [w1] at h4 ⊢; omega
  split
  · split
    · exact ⟨by omega, by omega, h3, h4⟩
    · refine ⟨?_, by show 0 ≤ d.falls ∧ d.falls ≤ _; omega, h3.barrier, h4⟩
      show (d.waits.foldl putD d.kept).length + 0 ≤ _
      have := puts_len d.waits d.kept
      omega
  split
  · refine ⟨by show d.kept.length + d.waits.length ≤ _; omega, by show 0 ≤ d.falls ∧ d.falls ≤ _; omega, h3, ?_⟩
    have hi := hx.ix
    rw [w1] at hi
    show (Lit.int .i64 (max x.ix 0)).wf = true
    rw [w1]
    omega
  split
  · exact ⟨by rw [f2, f3]; omega, by omega, h3.fall, by rw [f4]; exact h4⟩
  split
  · refine ⟨?_, by show 0 ≤ (fallD d).falls ∧ (fallD d).falls ≤ _; omega, h3.back _ _ _, (by show (Lit.int .i64 (-1)).wf = true; decide)⟩
    show (comesAllD x.keep x.torn (byD x.ix) d.kept 0 d.waits).length + 0 ≤ _
    have := comesAllD_len x.keep x.torn (byD x.ix) d.waits d.kept 0
    omega
  · exact ⟨by omega, by omega, h3, h4⟩
theorem stepD_n (d : Dk) (x : St) : (stepD d x).n = d.n := by
  unfold stepD
  split
  · exact writeD_n _ _ _
  split
  · exact barr_n d
  split
  · rfl
  split
  · exact (fallD_more d).1
  split
  · exact backD_n _ _ _ _
  · rfl
theorem small_at {l : List St} (h : greatS l = false) {x : St} (hx : x ∈ l) : x.b.length ≤ 3000 := by
  unfold greatS at h
  simp only [Bool.or_eq_false_iff, List.any_eq_false] at h
  have := h.2 x hx
  unfold gS at this
  simp at this
  omega
set_option maxRecDepth 100000 in
set_option maxHeartbeats 8000000 in
theorem diskPlays3 (N0 : Int) (a1 : Option Addr) (c1 : Nat) (l : List St) (w : World) (hN0 : (Lit.int .i64 N0).wf = true) (hst : Steps w a1 l) (hll : l.length ≤ maxLen) (hin : ∀ m ∈ l, m.In) :
    Calls Try.prog 3 #[.int .i64 N0, .slice a1 l.length c1] w fun x w' => x = .returned (.bool true) ∧ Below w.heap.size w w' := by
  have HX := hid (fun (u : World) (hu : Below w.heap.size w u) => hst.later hu)
  have HG := hid (fun (u : World) (hu : Below w.heap.size w u) => great9 a1 c1 l u (hst.later hu) hll)
  have HIN := hid hin
  have hlm := hll
  unfold maxLen at hll
  clear hst hin hlm
  by_cases hr : N0 < 1 ∨ 65536 < N0
  · have HN := new7 N0 w
    simp only [if_pos hr] at HN
    generalize l.length = n at *
    by_cases h1 : N0 < 1
    · have hd1 : decide (N0 < 1) = true := decide_eq_true h1
      go_enter Try.func3, Try.ntmps3
      go_wp2_with fail
      refine HN.mono ?_
      rintro e w1 ⟨rfl, hb1⟩
      go_wp2_with fail
      refine (awake8 w1).mono ?_
      rintro e w2 ⟨rfl, hb2⟩
      have HB2 := hid (hb1.trans (hb2.mono hb1.size))
      go_wp2_with fail
      go_ret
      exact ⟨rfl, HB2.out⟩
    · have hd1 : decide (N0 < 1) = false := decide_eq_false h1
      have hd2 : decide (65536 < N0) = true := decide_eq_true (by omega)
      go_enter Try.func3, Try.ntmps3
      go_wp2_with fail
      refine HN.mono ?_
      rintro e w1 ⟨rfl, hb1⟩
      go_wp2_with fail
      refine (awake8 w1).mono ?_
      rintro e w2 ⟨rfl, hb2⟩
      have HB2 := hid (hb1.trans (hb2.mono hb1.size))
      go_wp2_with fail
      go_ret
      exact ⟨rfl, HB2.out⟩
  · have HN := disk_new N0 w (by omega) (by omega)
    have hd1 : decide (N0 < 1) = false := decide_eq_false (by omega)
    have hd2 : decide (65536 < N0) = false := decide_eq_false (by omega)
    by_cases hg : greatS l = true
    · rw [hg] at HG
      generalize l.length = n at *
      go_enter Try.func3, Try.ntmps3
      go_wp2_with fail
      refine HN.mono ?_
      rintro e w1 ⟨p, rfl, hd0, hb1⟩
      have HG1 := HG.out w1 hb1
      have HB1 := hid hb1
      clear HN HG hd0 hb1
      go_wp2_with fail
      refine HG1.mono ?_
      rintro e w2 ⟨rfl, hb2⟩
      have HB2 := hid (HB1.out.trans (hb2.mono HB1.out.size))
      clear HG1 hb2
      go_wp2_with fail
      refine (awake8 w2).mono ?_
      rintro e w3 ⟨rfl, hb3⟩
      have HB3 := hid (HB2.out.trans (hb3.mono HB2.out.size))
      clear hb3
      go_wp2_with fail
      go_ret
      exact ⟨rfl, HB3.out⟩
    · have hg' : greatS l = false := by simpa using hg
      rw [hg'] at HG
      have HGS := hid hg'
      have hl60 : l.length ≤ 60 := by
        unfold greatS at hg'
        simp at hg'
        exact hg'.1
      clear hg hg'
      obtain ⟨n, hnl⟩ : ∃ n, l.length = n := ⟨_, rfl⟩
      rw [hnl] at hll hl60 HG ⊢
      have HNL := hid hnl
      clear hnl hr
      go_enter Try.func3, Try.ntmps3
      go_wp2_with fail
      refine HN.mono ?_
      rintro e w1 ⟨p, rfl, hd0, hb1⟩
      have HG1 := HG.out w1 hb1
      have HB1 := hid hb1
      have HD0 := hid (hd0 p)
      clear HN HG hd0 hb1
      go_wp2_with fail
      refine HG1.mono ?_
      rintro e w2 ⟨rfl, hbg⟩
      have Bx := below_box w2 (.cells #[.int .i64 N0, .slice none 0 0, .slice none 0 0, .bool false, .int .i64 0, .int .i64 (-1)] 31)
      have TM : DB (w2.alloc (.cells #[.int .i64 N0, .slice none 0 0, .slice none 0 0, .bool false, .int .i64 0, .int .i64 (-1)] 31)) w2.heap.size N0 (.slice none 0 0) (.slice none 0 0) false 0 (-1) := Go.heap_alloc_new _ _
      have hb2 := HB1.out.trans (hbg.mono HB1.out.size)
      have HQ := hid (And.intro TM (And.intro ((HD0.out.later hbg).later Bx) (And.intro (hb2.trans (Bx.mono hb2.size)) hb2.size)))
      clear HG1 hbg HB1 HD0 TM Bx hb2
      go_upto_region 7 with fail
      generalize w2.alloc (.cells #[.int .i64 N0, .slice none 0 0, .slice none 0 0, .bool false, .int .i64 0, .int .i64 (-1)] 31) = w3 at *
      obtain ⟨bm, hbme⟩ : ∃ bm, w2.heap.size = bm := ⟨_, rfl⟩
      rw [hbme] at HQ ⊢
      have hBm := HQ.out.2.2.2
      clear hbme
      go_wp2_with fail
      go_loopw [8] (fun i wr => ∃ (j : Nat), j ≤ n ∧ i = .int .i64 j ∧ ∃ (d : Dk) (m : Nat) (ka wa : Option Addr) (kc wc : Nat), Dsk wr w.heap.size p p d m ∧ m ≤ j ∧ Fine d m ∧ DB wr bm d.n (.slice ka d.kept.length kc) (.slice wa d.waits.length wc) d.down d.falls d.fuse ∧ DLies wr d ka wa ∧ (wa = none → wc = 0) ∧ d.n = N0 ∧ Below w.heap.size w wr) (fun i _ => n - (intOf i).toNat)
      case atStart =>
        obtain ⟨q1, q2, q3, q4⟩ := HQ.out
        exact ⟨0, Nat.zero_le _, rfl, ⟨N0, [], [], false, 0, -1⟩, 0, none, none, 0, 0, q2, Nat.le_refl _, ⟨Nat.le_refl _, ⟨Int.le_refl _, Int.le_refl _⟩, ⟨fun x hx => absurd hx (by simp), fun x hx => absurd hx (by simp)⟩, (by show (Lit.int .i64 (-1)).wf = true; decide)⟩, q1, ⟨.inl rfl, .inl rfl⟩, fun _ => rfl, rfl, q3⟩
      case round =>
        obtain ⟨j, hj, rfl, d, m, ka, wa, kc, wc, hD, hm, hF, hM, hL, hz, hnn, hb⟩ := hrel
        clear HQ
        have hBw := hD.size
        have hbm := hM.lt
        by_cases hlt : j < n
        · skip
          have hlt' : j < l.length := by rw [HNL.out]; exact hlt
          obtain ⟨b7, o7, hA, hC⟩ := (HX.out wr hb).at hlt'
          have hXA : ∀ u, Below w.heap.size w u → ∃ b off, a1 = some ⟨b, off, none⟩ ∧ StC u b (off + j * 5) l[j] := fun u hu => (HX.out u hu).at hlt'
          subst hA
          obtain ⟨x, hx⟩ : ∃ x, l[j]? = some x := ⟨_, List.getElem?_eq_getElem hlt'⟩
          have hxe : l[j] = x := by rw [List.getElem?_eq_getElem hlt'] at hx; exact Option.some.inj hx
          have hxm := List.mem_of_getElem? hx
          have hin := HIN.out x hxm
          have h3 := small_at HGS.out hxm
          have HFS := hid (hF.step hin)
          have HNS := hid (stepD_n d x)
          have HXC := hid (fun u (hu : Below w.heap.size w u) => show StC u b7 (o7 + j * 5) x by
            obtain ⟨b', o', e, hc⟩ := hXA u hu
            cases e
            rw [hxe] at hc
            exact hc)
          have HDO := hid (fun (u : World) (hS : Soft5 w.heap.size wr u) (hDu : Dsk u w.heap.size p p d m) => does10 p d m w.heap.size ka wa kc wc x u hDu (by omega) hF (hL.five hS) hz hin h3 (fun v hv => (HXC.out v (hb.trans (hS.below.trans hv))).hb) (fun v hv => (HXC.out v (hb.trans (hS.below.trans hv))).hk))
          unfold Does at HDO
          clear hx hxe hxm hXA hC hin h3 hF hlt'
          generalize stepD d x = d2 at *
          obtain ⟨nn, kp, wt, dn, fl, fu⟩ := d
          obtain ⟨n2, kp2, wt2, dn2, fl2, fu2⟩ := d2
          obtain ⟨kd, ix, ab, cb, bb, ak, ck, kk, tn⟩ := x
          dsimp only [dv, sv] at *

          go_upto_region 10 with fail
          refine region_put3 [(some 63, [], false), (some 64, [], false), (some 65, [], false), (some 66, [], false), (some 67, [(2, 65), (3, 66)], false), (some 68, [(4, 67)], false), (some 69, [(0, 63), (1, 64), (5, 68)], false), (some 62, [(6, 69)], false), (some 70, [(7, 62)], false), (some 71, [(7, 62)], true), (some 10, [], true), (some 9, [(8, 70)], true), (none, [(10, 10), (9, 71)], false)]
            (fun i u => if i = 6 then Soft5 w.heap.size wr u ∧ Dsk u w.heap.size p p ⟨nn, kp, wt, dn, fl, fu⟩ m else Soft5 w.heap.size wr u) (fun i u u' => if i = 6 then Soft5 w.heap.size u u' else Below u.heap.size u u')
            (fun i Y u => match i with | 0 => Y = ptr p | 1 => Y = .agg #[.int .i64 nn, .slice ka kp.length kc, .slice wa wt.length wc, .bool dn, .int .i64 fl, .int .i64 fu] | 2 => Y = .slice (some ⟨b7, o7, none⟩) n c1 | 3 => Y = .int .i64 j | 4 => Y = .pointer (some ⟨b7, o7 + j * 5, none⟩) | 5 => Y = .agg #[.int .i64 kd, .int .i64 ix, .slice ab bb.length cb, .slice ak kk.length ck, .int .i64 tn] | 6 => ∃ ka2 kc2 wa2 wc2, Y = .tuple #[.bool true, .agg #[.int .i64 n2, .slice ka2 kp2.length kc2, .slice wa2 wt2.length wc2, .bool dn2, .int .i64 fl2, .int .i64 fu2]] ∧ DLies u ⟨n2, kp2, wt2, dn2, fl2, fu2⟩ ka2 wa2 ∧ (wa2 = none → wc2 = 0) ∧ Dsk u w.heap.size p p ⟨n2, kp2, wt2, dn2, fl2, fu2⟩ (m + 1) | 7 => ∃ ka2 kc2 wa2 wc2, Y = .tuple #[.bool true, .agg #[.int .i64 n2, .slice ka2 kp2.length kc2, .slice wa2 wt2.length wc2, .bool dn2, .int .i64 fl2, .int .i64 fu2]] ∧ DLies u ⟨n2, kp2, wt2, dn2, fl2, fu2⟩ ka2 wa2 ∧ (wa2 = none → wc2 = 0) ∧ Dsk u w.heap.size p p ⟨n2, kp2, wt2, dn2, fl2, fu2⟩ (m + 1) | 8 => Y = .bool true | 9 => ∃ ka2 kc2 wa2 wc2, Y = .agg #[.int .i64 n2, .slice ka2 kp2.length kc2, .slice wa2 wt2.length wc2, .bool dn2, .int .i64 fl2, .int .i64 fu2] ∧ DLies u ⟨n2, kp2, wt2, dn2, fl2, fu2⟩ ka2 wa2 ∧ (wa2 = none → wc2 = 0) ∧ Dsk u w.heap.size p p ⟨n2, kp2, wt2, dn2, fl2, fu2⟩ (m + 1) | 10 => ∃ k, Y = .pointer (some ⟨k, 0, none⟩) ∧ DB u k 0 (.slice none 0 0) (.slice none 0 0) false 0 0 ∧ wr.heap.size ≤ k | 11 => Y = .bool true | _ => True)
            (by kernel_rfl) 12 (by kernel_rfl) (fun j => ?_) (fun i j u u' hl hi hj hr => ?_) (fun i j v u u' hn h h' hv => ?_) [(some 63, [], false), (some 64, [], false), (some 65, [], false), (some 66, [], false), (some 67, [(2, 65), (3, 66)], false), (some 68, [(4, 67)], false), (some 69, [(0, 63), (1, 64), (5, 68)], false), (some 62, [(6, 69)], false), (some 70, [(7, 62)], false), (some 71, [(7, 62)], true), (some 10, [], true), (some 9, [(8, 70)], true)] rfl _ rfl rfl rfl (by kernel_rfl) ⟨?_, ?_, ?_, ?_, ?_, ?_, ?_, ?_, ?_, ?_, ?_, ?_, trivial⟩ ?_
          · split
            · exact ⟨(Soft5.refl w.heap.size wr).drew, hD.drew⟩
            · exact (Soft5.refl w.heap.size wr).drew
          · by_cases hia : i = 6
            · subst hia
              have hj2 : ¬ j = 6 := by
                intro e
                subst e
                exact absurd hl (by decide)
              rw [if_pos rfl] at hi hr
              rw [if_neg hj2] at hj ⊢
              exact hj.trans hr
            · rw [if_neg hia] at hr
              by_cases hj6 : j = 6
              · rw [if_pos hj6] at hj ⊢
                exact ⟨hj.1.later hr (Nat.le_trans hBw hj.1.below.size), hj.2.later hr⟩
              · rw [if_neg hj6] at hj ⊢
                exact hj.later hr (Nat.le_trans hBw hj.below.size)
          · by_cases hia : i = 6
            · subst hia
              rw [if_pos rfl] at h'
              match j with
              | 0 => exact hv
              | 1 => exact hv
              | 2 => exact hv
              | 3 => exact hv
              | 4 => exact hv
              | 5 => exact hv
              | 6 => exact absurd hn (by decide)
              | 7 => exact absurd hn (by decide)
              | 8 => exact hv
              | 9 => exact absurd hn (by decide)
              | 10 => obtain ⟨k, e1, e2, e3⟩ := hv; exact ⟨k, e1, e2.five h', e3⟩
              | 11 => exact hv
              | _ + 12 => trivial
            · rw [if_neg hia] at h'
              match j with
              | 0 => exact hv
              | 1 => exact hv
              | 2 => exact hv
              | 3 => exact hv
              | 4 => exact hv
              | 5 => exact hv
              | 6 => obtain ⟨q1, q2, q3, q4, q5, q6, q7, q8⟩ := hv; exact ⟨q1, q2, q3, q4, q5, q6.later h', q7, q8.later h'⟩
              | 7 => obtain ⟨q1, q2, q3, q4, q5, q6, q7, q8⟩ := hv; exact ⟨q1, q2, q3, q4, q5, q6.later h', q7, q8.later h'⟩
              | 8 => exact hv
              | 9 => obtain ⟨q1, q2, q3, q4, q5, q6, q7, q8⟩ := hv; exact ⟨q1, q2, q3, q4, q5, q6.later h', q7, q8.later h'⟩
              | 10 => obtain ⟨k, e1, e2, e3⟩ := hv; exact ⟨k, e1, e2.later h', e3⟩
              | 11 => exact hv
              | _ + 12 => trivial
          · rintro u hu
            replace hu : Soft5 w.heap.size wr u := hu
            exact opYields_val (ptr p) (by kernel_rfl) (by go_simp) ⟨Below.refl _ _, rfl⟩
          · rintro u hu
            replace hu : Soft5 w.heap.size wr u := hu
            obtain ⟨c0, c1, c2, c3, c4, c5⟩ := (hM.five hu).cells
            exact opYields_val (.agg #[.int .i64 nn, .slice ka kp.length kc, .slice wa wt.length wc, .bool dn, .int .i64 fl, .int .i64 fu]) (by kernel_rfl) (by go_simp) ⟨Below.refl _ _, rfl⟩
          · rintro u hu
            replace hu : Soft5 w.heap.size wr u := hu
            exact opYields_val (.slice (some ⟨b7, o7, none⟩) n c1) (by kernel_rfl) (by go_simp) ⟨Below.refl _ _, rfl⟩
          · rintro u hu
            replace hu : Soft5 w.heap.size wr u := hu
            exact opYields_val (.int .i64 j) (by kernel_rfl) (by go_simp) ⟨Below.refl _ _, rfl⟩
          · rintro u hu _ rfl _ rfl
            replace hu : Soft5 w.heap.size wr u := hu
            exact opYields_val (.pointer (some ⟨b7, o7 + j * 5, none⟩)) (by kernel_rfl) (by go_simp) ⟨Below.refl _ _, rfl⟩
          · rintro u hu _ rfl
            replace hu : Soft5 w.heap.size wr u := hu
            obtain ⟨s0, s1, s2, s3, s4, _, _⟩ := HXC.out u (hb.trans hu.below)
            exact opYields_val (.agg #[.int .i64 kd, .int .i64 ix, .slice ab bb.length cb, .slice ak kk.length ck, .int .i64 tn]) (by kernel_rfl) (by go_simp) ⟨Below.refl _ _, rfl⟩
          · rintro u hu _ rfl _ rfl _ rfl
            replace hu : Soft5 w.heap.size wr u ∧ Dsk u w.heap.size p p ⟨nn, kp, wt, dn, fl, fu⟩ m := hu
            refine opYields_call 10 #[ptr p, .agg #[.int .i64 nn, .slice ka kp.length kc, .slice wa wt.length wc, .bool dn, .int .i64 fl, .int .i64 fu], .agg #[.int .i64 kd, .int .i64 ix, .slice ab bb.length cb, .slice ak kk.length ck, .int .i64 tn]] (by kernel_rfl) (by go_simp) ((HDO.out u hu.1 hu.2).mono ?_)
            rintro e u1 ⟨ka2, kc2, wa2, wc2, rfl, hL2, hz2, hD2, hS2⟩
            exact ⟨_, rfl, hS2, ka2, kc2, wa2, wc2, rfl, hL2, hz2, hD2⟩
          · rintro u hu _ ⟨ka2, kc2, wa2, wc2, rfl, hL2, hz2, hD2⟩
            replace hu : Soft5 w.heap.size wr u := hu
            exact opYields_val (.tuple #[.bool true, .agg #[.int .i64 n2, .slice ka2 kp2.length kc2, .slice wa2 wt2.length wc2, .bool dn2, .int .i64 fl2, .int .i64 fu2]]) (by kernel_rfl) (by go_simp) ⟨Below.refl _ _, ka2, kc2, wa2, wc2, rfl, hL2, hz2, hD2⟩
          · rintro u hu _ ⟨ka2, kc2, wa2, wc2, rfl, hL2, hz2, hD2⟩
            replace hu : Soft5 w.heap.size wr u := hu
            exact opYields_val (.bool true) (by kernel_rfl) (by go_simp) ⟨Below.refl _ _, rfl⟩
          · rintro u hu _ ⟨ka2, kc2, wa2, wc2, rfl, hL2, hz2, hD2⟩
            replace hu : Soft5 w.heap.size wr u := hu
            exact opYields_val (.agg #[.int .i64 n2, .slice ka2 kp2.length kc2, .slice wa2 wt2.length wc2, .bool dn2, .int .i64 fl2, .int .i64 fu2]) (by kernel_rfl) (by go_simp) ⟨Below.refl _ _, ka2, kc2, wa2, wc2, rfl, hL2, hz2, hD2⟩
          · rintro u hu
            replace hu : Soft5 w.heap.size wr u := hu
            exact opYields_val (.pointer (some ⟨u.heap.size, 0, none⟩)) (u' := u.alloc (.cells (dcs 0 (.slice none 0 0) (.slice none 0 0) false 0 0) 31)) (by kernel_rfl) (by go_simp) ⟨below_box _ _, _, rfl, Go.heap_alloc_new _ _, hu.below.size⟩
          · rintro u hu _ rfl
            replace hu : Soft5 w.heap.size wr u := hu
            exact opYields_val (.bool true) (by kernel_rfl) (by go_simp) ⟨Below.refl _ _, rfl⟩
          · intro u hu x0 x1 x2 x3 x4 x5 x6 x7 x8 x9 e9 x10 e10 x11 e11
            change opYields Try.prog _ _ _ u _
            simp only [Act.put, List.setIfInBounds_toArray, List.set_cons_zero, List.set_cons_succ]
            obtain ⟨ka2, kc2, wa2, wc2, rfl, hL2, hz2, hD2⟩ : ∃ ka2 kc2 wa2 wc2, x9 = .agg #[.int .i64 n2, .slice ka2 kp2.length kc2, .slice wa2 wt2.length wc2, .bool dn2, .int .i64 fl2, .int .i64 fu2] ∧ DLies u ⟨n2, kp2, wt2, dn2, fl2, fu2⟩ ka2 wa2 ∧ (wa2 = none → wc2 = 0) ∧ Dsk u w.heap.size p p ⟨n2, kp2, wt2, dn2, fl2, fu2⟩ (m + 1) := e9
            obtain ⟨k10, rfl, hK10, hKB⟩ : ∃ k, x10 = .pointer (some ⟨k, 0, none⟩) ∧ DB u k 0 (.slice none 0 0) (.slice none 0 0) false 0 0 ∧ wr.heap.size ≤ k := e10
            obtain rfl : x11 = .bool true := e11
            replace hu : Soft5 w.heap.size wr u := hu
            obtain ⟨z0, z1, z2, z3, z4, z5⟩ := hK10.cells
            have f0 := hK10.free 0
            have f1 := hK10.free 1
            have f2 := hK10.free 2
            have f3 := hK10.free 3
            have f4 := hK10.free 4
            have f5 := hK10.free 5
            obtain ⟨q5, q6⟩ := hK10.fill (n' := n2) (k' := .slice ka2 kp2.length kc2) (wv' := .slice wa2 wt2.length wc2) (dn' := dn2) (fl' := fl2) (fu' := fu2)
            have hM' := hM.five hu
            have hMc : DB _ bm nn (.slice ka kp.length kc) (.slice wa wt.length wc) dn fl fu := (q6.block bm hM'.lt (fun e => by have := Option.some.inj e; omega)).trans hM'
            have hbu := hb.trans hu.below
            have hne10 : k10 ≠ bm := by omega
            have HF := hid (And.intro q5 (And.intro hMc (And.intro (hL2.beside hK10 q6) (And.intro (hD2.side hK10 q6) (hbu.grown q6 (Nat.le_trans hBw hu.below.size) (fun k hk => by cases hk; omega))))))
            have HZ2 := hid hz2
            clear q5 q6 hM' hMc hbu hL2 hD2 hK10 hz2
            refine opYields_put (u' := ((((((u.setCell ⟨k10, 0, none⟩ (.int .i64 n2)).setCell ⟨k10, 1, none⟩ (.slice ka2 kp2.length kc2)).setCell ⟨k10, 2, none⟩ (.slice wa2 wt2.length wc2)).setCell ⟨k10, 3, none⟩ (.bool dn2)).setCell ⟨k10, 4, none⟩ (.int .i64 fl2)).setCell ⟨k10, 5, none⟩ (.int .i64 fu2))) (by kernel_rfl) (by go_simp) ?_
            clear z0 z1 z2 z3 z4 z5 f0 f1 f2 f3 f4 f5
            generalize ((((((u.setCell ⟨k10, 0, none⟩ (.int .i64 n2)).setCell ⟨k10, 1, none⟩ (.slice ka2 kp2.length kc2)).setCell ⟨k10, 2, none⟩ (.slice wa2 wt2.length wc2)).setCell ⟨k10, 3, none⟩ (.bool dn2)).setCell ⟨k10, 4, none⟩ (.int .i64 fl2)).setCell ⟨k10, 5, none⟩ (.int .i64 fu2)) = w8 at *
            obtain ⟨r1, r2, r3, r4, r5⟩ := HF.out
            clear HF
            obtain ⟨c0, c1, c2, c3, c4, c5⟩ := r1.cells
            obtain ⟨z0, z1, z2, z3, z4, z5⟩ := r2.cells
            have f0 := r2.free 0
            have f1 := r2.free 1
            have f2 := r2.free 2
            have f3 := r2.free 3
            have f4 := r2.free 4
            have f5 := r2.free 5
            obtain ⟨q5, q6⟩ := r2.fill (n' := n2) (k' := .slice ka2 kp2.length kc2) (wv' := .slice wa2 wt2.length wc2) (dn' := dn2) (fl' := fl2) (fu' := fu2)
            have HG := hid (And.intro q5 (And.intro (r3.beside r2 q6) (And.intro (r4.side r2 q6) (r5.grown q6 r4.size (fun k hk => by cases hk; omega)))))
            clear q5 q6 r1 r2 r3 r4 r5
            go_upto_region 12 with fail
            clear c0 c1 c2 c3 c4 c5 z0 z1 z2 z3 z4 z5 f0 f1 f2 f3 f4 f5
            generalize ((((((w8.setCell ⟨bm, 0, none⟩ (.int .i64 n2)).setCell ⟨bm, 1, none⟩ (.slice ka2 kp2.length kc2)).setCell ⟨bm, 2, none⟩ (.slice wa2 wt2.length wc2)).setCell ⟨bm, 3, none⟩ (.bool dn2)).setCell ⟨bm, 4, none⟩ (.int .i64 fl2)).setCell ⟨bm, 5, none⟩ (.int .i64 fu2)) = w9 at *
            have hn2e : N0 = n2 := (HNS.out.trans hnn).symm
            subst hn2e
            have HG9 := HG
            clear HG hD hM hL hb HDO HXC
            have hM9 := HG9.out.1
            have HUP := hid (fun (u : World) (hu : Below w9.heap.size w9 u) => disk_up (HG9.out.2.2.1.later hu))
            have HWA := hid (fun (u : World) (hu : Below w9.heap.size w9 u) => disk_waits (HG9.out.2.2.1.later hu))
            have HFA := hid (fun (u : World) (hu : Below w9.heap.size w9 u) => disk_falls (HG9.out.2.2.1.later hu))
            have HBL := hid (fun (u : World) (hu : Below w9.heap.size w9 u) => disk_blocks (HG9.out.2.2.1.later hu))
            dsimp only at HUP HWA HFA HBL
            obtain ⟨wl2, hwl⟩ : ∃ wl2, wt2.length = wl2 := ⟨_, rfl⟩
            have HWL := hid hwl
            rw [hwl] at HWA hM9 ⊢
            clear hwl
            cases dn2
            · simp only [Bool.not_false] at HUP
              refine region_each [(some 73, [], false), (some 74, [(0, 73)], false), (some 75, [(1, 74)], false), (some 76, [(2, 75)], false), (some 77, [(3, 76), (2, 75)], false), (some 78, [(2, 75)], false), (some 79, [(5, 78), (2, 75)], false), (some 80, [(4, 77), (6, 79), (2, 75)], false), (some 81, [(2, 75), (7, 80)], false), (some 82, [(8, 81)], false), (some 83, [(9, 82)], false), (some 84, [(10, 83), (9, 82)], false), (some 85, [(9, 82)], false), (some 86, [(12, 85), (9, 82)], false), (some 87, [(13, 86), (9, 82)], false), (some 88, [(11, 84), (14, 87), (9, 82)], false), (some 89, [(9, 82), (15, 88)], false), (some 90, [(16, 89)], false), (some 91, [(17, 90)], false), (some 92, [(18, 91), (17, 90)], false), (some 93, [(17, 90)], false), (some 94, [(20, 93), (17, 90)], false), (some 95, [(19, 92), (21, 94), (17, 90)], false), (some 96, [(17, 90), (22, 95)], false), (some 97, [(23, 96)], false), (some 98, [(24, 97)], false), (some 99, [(25, 98), (24, 97)], false), (some 100, [(24, 97)], false), (some 101, [(26, 99), (27, 100), (24, 97)], false), (some 102, [(24, 97), (28, 101)], true)]
                (fun i Y _ => Y = match i with | 0 => .bool true | 1 => .bool false | 2 => .bool false | 3 => ptr p | 4 => .bool true | 5 => .pointer (some ⟨bm, 3, none⟩) | 6 => .bool false | 7 => .bool false | 8 => .bool false | 9 => .bool false | 10 => ptr p | 11 => .int .i64 wl2 | 12 => .pointer (some ⟨bm, 2, none⟩) | 13 => .slice wa2 wl2 wc2 | 14 => .int .i64 wl2 | 15 => .bool false | 16 => .bool false | 17 => .bool false | 18 => ptr p | 19 => .int .i64 fl2 | 20 => .pointer (some ⟨bm, 4, none⟩) | 21 => .int .i64 fl2 | 22 => .bool false | 23 => .bool false | 24 => .bool false | 25 => ptr p | 26 => .int .i64 N0 | 27 => .int .i64 N0 | 28 => .bool false | _ => .bool false)
                (fun _ _ _ _ _ h => h) (by kernel_rfl) (by kernel_rfl) ⟨?_, ?_, ?_, ?_, ?_, ?_, ?_, ?_, ?_, ?_, ?_, ?_, ?_, ?_, ?_, ?_, ?_, ?_, ?_, ?_, ?_, ?_, ?_, ?_, ?_, ?_, ?_, ?_, ?_, ?_, trivial⟩ ?_
              · rintro u hu
                replace hu : Below w9.heap.size w9 u := hu
                exact opYields_val (.bool true) (by kernel_rfl) (by go_simp) ⟨Below.refl _ _, rfl⟩
              · rintro u hu _ rfl
                replace hu : Below w9.heap.size w9 u := hu
                exact opYields_val (.bool false) (by kernel_rfl) (by go_simp) ⟨Below.refl _ _, rfl⟩
              · rintro u hu _ rfl
                replace hu : Below w9.heap.size w9 u := hu
                exact opYields_val (.bool false) (by kernel_rfl) (by go_simp) ⟨Below.refl _ _, rfl⟩
              · rintro u hu _ rfl
                replace hu : Below w9.heap.size w9 u := hu
                exact opYields_val (ptr p) (by kernel_rfl) (by go_simp) ⟨Below.refl _ _, rfl⟩
              · rintro u hu _ rfl _ rfl
                replace hu : Below w9.heap.size w9 u := hu
                refine opYields_call 11 #[ptr p] (by kernel_rfl) (by go_simp) ((HUP.out u hu).mono ?_)
                rintro e u1 ⟨rfl, hu1⟩
                exact ⟨_, rfl, hu1, rfl⟩
              · rintro u hu _ rfl
                replace hu : Below w9.heap.size w9 u := hu
                exact opYields_val (.pointer (some ⟨bm, 3, none⟩)) (by kernel_rfl) (by go_simp) ⟨Below.refl _ _, rfl⟩
              · rintro u hu _ rfl _ rfl
                replace hu : Below w9.heap.size w9 u := hu
                obtain ⟨c0, c1, c2, c3, c4, c5⟩ := (hM9.later hu).cells
                exact opYields_val (.bool false) (by kernel_rfl) (by go_simp) ⟨Below.refl _ _, rfl⟩
              · rintro u hu _ rfl _ rfl _ rfl
                replace hu : Below w9.heap.size w9 u := hu
                exact opYields_val (.bool false) (by kernel_rfl) (by go_simp) ⟨Below.refl _ _, rfl⟩
              · rintro u hu _ rfl _ rfl
                replace hu : Below w9.heap.size w9 u := hu
                exact opYields_val (.bool false) (by kernel_rfl) (by go_simp) ⟨Below.refl _ _, rfl⟩
              · rintro u hu _ rfl
                replace hu : Below w9.heap.size w9 u := hu
                exact opYields_val (.bool false) (by kernel_rfl) (by go_simp) ⟨Below.refl _ _, rfl⟩
              · rintro u hu _ rfl
                replace hu : Below w9.heap.size w9 u := hu
                exact opYields_val (ptr p) (by kernel_rfl) (by go_simp) ⟨Below.refl _ _, rfl⟩
              · rintro u hu _ rfl _ rfl
                replace hu : Below w9.heap.size w9 u := hu
                refine opYields_call 12 #[ptr p] (by kernel_rfl) (by go_simp) ((HWA.out u hu).mono ?_)
                rintro e u1 ⟨rfl, hu1⟩
                exact ⟨_, rfl, hu1, rfl⟩
              · rintro u hu _ rfl
                replace hu : Below w9.heap.size w9 u := hu
                exact opYields_val (.pointer (some ⟨bm, 2, none⟩)) (by kernel_rfl) (by go_simp) ⟨Below.refl _ _, rfl⟩
              · rintro u hu _ rfl _ rfl
                replace hu : Below w9.heap.size w9 u := hu
                obtain ⟨c0, c1, c2, c3, c4, c5⟩ := (hM9.later hu).cells
                exact opYields_val (.slice wa2 wl2 wc2) (by kernel_rfl) (by go_simp) ⟨Below.refl _ _, rfl⟩
              · rintro u hu _ rfl _ rfl
                replace hu : Below w9.heap.size w9 u := hu
                exact opYields_val (.int .i64 wl2) (by kernel_rfl) (by go_simp) ⟨Below.refl _ _, rfl⟩
              · rintro u hu _ rfl _ rfl _ rfl
                replace hu : Below w9.heap.size w9 u := hu
                exact opYields_val (.bool false) (by kernel_rfl) (by go_simp) ⟨Below.refl _ _, rfl⟩
              · rintro u hu _ rfl _ rfl
                replace hu : Below w9.heap.size w9 u := hu
                exact opYields_val (.bool false) (by kernel_rfl) (by go_simp) ⟨Below.refl _ _, rfl⟩
              · rintro u hu _ rfl
                replace hu : Below w9.heap.size w9 u := hu
                exact opYields_val (.bool false) (by kernel_rfl) (by go_simp) ⟨Below.refl _ _, rfl⟩
              · rintro u hu _ rfl
                replace hu : Below w9.heap.size w9 u := hu
                exact opYields_val (ptr p) (by kernel_rfl) (by go_simp) ⟨Below.refl _ _, rfl⟩
              · rintro u hu _ rfl _ rfl
                replace hu : Below w9.heap.size w9 u := hu
                refine opYields_call 13 #[ptr p] (by kernel_rfl) (by go_simp) ((HFA.out u hu).mono ?_)
                rintro e u1 ⟨rfl, hu1⟩
                exact ⟨_, rfl, hu1, rfl⟩
              · rintro u hu _ rfl
                replace hu : Below w9.heap.size w9 u := hu
                exact opYields_val (.pointer (some ⟨bm, 4, none⟩)) (by kernel_rfl) (by go_simp) ⟨Below.refl _ _, rfl⟩
              · rintro u hu _ rfl _ rfl
                replace hu : Below w9.heap.size w9 u := hu
                obtain ⟨c0, c1, c2, c3, c4, c5⟩ := (hM9.later hu).cells
                exact opYields_val (.int .i64 fl2) (by kernel_rfl) (by go_simp) ⟨Below.refl _ _, rfl⟩
              · rintro u hu _ rfl _ rfl _ rfl
                replace hu : Below w9.heap.size w9 u := hu
                exact opYields_val (.bool false) (by kernel_rfl) (by go_simp) ⟨Below.refl _ _, rfl⟩
              · rintro u hu _ rfl _ rfl
                replace hu : Below w9.heap.size w9 u := hu
                exact opYields_val (.bool false) (by kernel_rfl) (by go_simp) ⟨Below.refl _ _, rfl⟩
              · rintro u hu _ rfl
                replace hu : Below w9.heap.size w9 u := hu
                exact opYields_val (.bool false) (by kernel_rfl) (by go_simp) ⟨Below.refl _ _, rfl⟩
              · rintro u hu _ rfl
                replace hu : Below w9.heap.size w9 u := hu
                exact opYields_val (ptr p) (by kernel_rfl) (by go_simp) ⟨Below.refl _ _, rfl⟩
              · rintro u hu _ rfl _ rfl
                replace hu : Below w9.heap.size w9 u := hu
                refine opYields_call 14 #[ptr p] (by kernel_rfl) (by go_simp) ((HBL.out u hu).mono ?_)
                rintro e u1 ⟨rfl, hu1⟩
                exact ⟨_, rfl, hu1, rfl⟩
              · rintro u hu _ rfl
                replace hu : Below w9.heap.size w9 u := hu
                exact opYields_val (.int .i64 N0) (by kernel_rfl) (by go_simp) ⟨Below.refl _ _, rfl⟩
              · rintro u hu _ rfl _ rfl _ rfl
                replace hu : Below w9.heap.size w9 u := hu
                exact opYields_val (.bool false) (by kernel_rfl) (by go_simp) ⟨Below.refl _ _, rfl⟩
              · rintro u hu _ rfl _ rfl
                replace hu : Below w9.heap.size w9 u := hu
                exact opYields_val (.bool false) (by kernel_rfl) (by go_simp) ⟨Below.refl _ _, rfl⟩
              · rintro u hu _ _ _ _ _ _ _ _ _ _ _ _ _ _ _ _ _ _ _ _ _ _ _ _ _ _ _ _ _ _ rfl
                replace hu : Below w9.heap.size w9 u := hu
                simp only [givingAll, Act.put, List.setIfInBounds_toArray, List.set_cons_zero, List.set_cons_succ]
                have hbu := HG9.out.2.2.2.trans (hu.mono HG9.out.2.2.1.size)
                have hMu := hM9.later hu
                have hDu := HG9.out.2.2.1.later hu
                have hLu := HG9.out.2.1.later hu
                have HRD := disk_read hDu 0 (by decide)
                have HR := hid (And.intro hDu (And.intro hMu (And.intro hLu hbu)))
                have HRR := hid (fun (v : World) (hv : DLies v ⟨N0, kp2, wt2, false, fl2, fu2⟩ ka2 wa2) => read16 ⟨N0, kp2, wt2, false, fl2, fu2⟩ 0 ka2 wa2 kc2 wc2 v (by have := HFS.out.len; dsimp only at this; unfold maxLen; dsimp only; omega) hv)
                generalize readD ⟨N0, kp2, wt2, false, fl2, fu2⟩ 0 = RD at *
                obtain ⟨rs, re⟩ := RD
                dsimp only [dv] at *
                rw [HWL.out] at HRR
                obtain ⟨rn, hrn⟩ : ∃ rn, rs.length = rn := ⟨_, rfl⟩
                have HRN := hid hrn
                rw [hrn] at HRD
                obtain ⟨c0, c1, c2, c3, c4, c5⟩ := hMu.cells
                clear hrn hbu hMu hDu hLu hM9 hu
                go_wp2_with fail
                refine HRD.mono ?_
                rintro e w10 ⟨⟨ra, rc, rfl, hby, hbn⟩, hb10⟩
                obtain ⟨g1, g2, g3, g4⟩ := HR.out
                have HBY := hid hby
                have HBN := hid hbn
                have hL10 := g3.later hb10
                have HRC := HRR.out w10 hL10
                have hM10 := g2.later hb10
                have HS := hid (And.intro (g1.later hb10) (And.intro hM10 (And.intro hL10 (g4.trans (hb10.mono g1.size)))))
                clear c0 c1 c2 c3 c4 c5 g1 g2 g3 g4 hL10 hb10 HRD HR HRR hby hbn
                obtain ⟨c0, c1, c2, c3, c4, c5⟩ := hM10.cells
                clear hM10
                go_wp2_with fail
                refine HRC.mono ?_
                rintro e w11 ⟨rfl, hb11⟩
                have hcv := conv_str (HBY.out.later hb11) rn rc (by rw [nums_length, str_size]; exact HRN.out) HBN.out
                rw [str_nums] at hcv
                obtain ⟨g1, g2, g3, g4⟩ := HS.out
                have HU := hid (And.intro (g1.later hb11) (And.intro (g2.later hb11) (And.intro (g3.later hb11) (g4.trans (hb11.mono g1.size)))))
                clear c0 c1 c2 c3 c4 c5 g1 g2 g3 g4 hb11 HRC HS
                go_wp2_with fail
                go_roundw
                case rel => exact ⟨j + 1, by omega, by go_num, ⟨N0, kp2, wt2, false, fl2, fu2⟩, m + 1, ka2, wa2, kc2, wc2, HU.out.1, by omega, HFS.out, by dsimp only; rw [HWL.out]; exact HU.out.2.1, HU.out.2.2.1, HZ2.out, rfl, HU.out.2.2.2⟩
                case measure => simp [intOf]; omega
            · simp only [Bool.not_true] at HUP
              refine region_each [(some 73, [], false), (some 74, [(0, 73)], false), (some 75, [(1, 74)], false), (some 76, [(2, 75)], false), (some 77, [(3, 76), (2, 75)], false), (some 78, [(2, 75)], false), (some 79, [(5, 78), (2, 75)], false), (some 80, [(4, 77), (6, 79), (2, 75)], false), (some 81, [(2, 75), (7, 80)], false), (some 82, [(8, 81)], false), (some 83, [(9, 82)], false), (some 84, [(10, 83), (9, 82)], false), (some 85, [(9, 82)], false), (some 86, [(12, 85), (9, 82)], false), (some 87, [(13, 86), (9, 82)], false), (some 88, [(11, 84), (14, 87), (9, 82)], false), (some 89, [(9, 82), (15, 88)], false), (some 90, [(16, 89)], false), (some 91, [(17, 90)], false), (some 92, [(18, 91), (17, 90)], false), (some 93, [(17, 90)], false), (some 94, [(20, 93), (17, 90)], false), (some 95, [(19, 92), (21, 94), (17, 90)], false), (some 96, [(17, 90), (22, 95)], false), (some 97, [(23, 96)], false), (some 98, [(24, 97)], false), (some 99, [(25, 98), (24, 97)], false), (some 100, [(24, 97)], false), (some 101, [(26, 99), (27, 100), (24, 97)], false), (some 102, [(24, 97), (28, 101)], true)]
                (fun i Y _ => Y = match i with | 0 => .bool true | 1 => .bool false | 2 => .bool false | 3 => ptr p | 4 => .bool false | 5 => .pointer (some ⟨bm, 3, none⟩) | 6 => .bool true | 7 => .bool false | 8 => .bool false | 9 => .bool false | 10 => ptr p | 11 => .int .i64 wl2 | 12 => .pointer (some ⟨bm, 2, none⟩) | 13 => .slice wa2 wl2 wc2 | 14 => .int .i64 wl2 | 15 => .bool false | 16 => .bool false | 17 => .bool false | 18 => ptr p | 19 => .int .i64 fl2 | 20 => .pointer (some ⟨bm, 4, none⟩) | 21 => .int .i64 fl2 | 22 => .bool false | 23 => .bool false | 24 => .bool false | 25 => ptr p | 26 => .int .i64 N0 | 27 => .int .i64 N0 | 28 => .bool false | _ => .bool false)
                (fun _ _ _ _ _ h => h) (by kernel_rfl) (by kernel_rfl) ⟨?_, ?_, ?_, ?_, ?_, ?_, ?_, ?_, ?_, ?_, ?_, ?_, ?_, ?_, ?_, ?_, ?_, ?_, ?_, ?_, ?_, ?_, ?_, ?_, ?_, ?_, ?_, ?_, ?_, ?_, trivial⟩ ?_
              · rintro u hu
                replace hu : Below w9.heap.size w9 u := hu
                exact opYields_val (.bool true) (by kernel_rfl) (by go_simp) ⟨Below.refl _ _, rfl⟩
              · rintro u hu _ rfl
                replace hu : Below w9.heap.size w9 u := hu
                exact opYields_val (.bool false) (by kernel_rfl) (by go_simp) ⟨Below.refl _ _, rfl⟩
              · rintro u hu _ rfl
                replace hu : Below w9.heap.size w9 u := hu
                exact opYields_val (.bool false) (by kernel_rfl) (by go_simp) ⟨Below.refl _ _, rfl⟩
              · rintro u hu _ rfl
                replace hu : Below w9.heap.size w9 u := hu
                exact opYields_val (ptr p) (by kernel_rfl) (by go_simp) ⟨Below.refl _ _, rfl⟩
              · rintro u hu _ rfl _ rfl
                replace hu : Below w9.heap.size w9 u := hu
                refine opYields_call 11 #[ptr p] (by kernel_rfl) (by go_simp) ((HUP.out u hu).mono ?_)
                rintro e u1 ⟨rfl, hu1⟩
                exact ⟨_, rfl, hu1, rfl⟩
              · rintro u hu _ rfl
                replace hu : Below w9.heap.size w9 u := hu
                exact opYields_val (.pointer (some ⟨bm, 3, none⟩)) (by kernel_rfl) (by go_simp) ⟨Below.refl _ _, rfl⟩
              · rintro u hu _ rfl _ rfl
                replace hu : Below w9.heap.size w9 u := hu
                obtain ⟨c0, c1, c2, c3, c4, c5⟩ := (hM9.later hu).cells
                exact opYields_val (.bool true) (by kernel_rfl) (by go_simp) ⟨Below.refl _ _, rfl⟩
              · rintro u hu _ rfl _ rfl _ rfl
                replace hu : Below w9.heap.size w9 u := hu
                exact opYields_val (.bool false) (by kernel_rfl) (by go_simp) ⟨Below.refl _ _, rfl⟩
              · rintro u hu _ rfl _ rfl
                replace hu : Below w9.heap.size w9 u := hu
                exact opYields_val (.bool false) (by kernel_rfl) (by go_simp) ⟨Below.refl _ _, rfl⟩
              · rintro u hu _ rfl
                replace hu : Below w9.heap.size w9 u := hu
                exact opYields_val (.bool false) (by kernel_rfl) (by go_simp) ⟨Below.refl _ _, rfl⟩
              · rintro u hu _ rfl
                replace hu : Below w9.heap.size w9 u := hu
                exact opYields_val (ptr p) (by kernel_rfl) (by go_simp) ⟨Below.refl _ _, rfl⟩
              · rintro u hu _ rfl _ rfl
                replace hu : Below w9.heap.size w9 u := hu
                refine opYields_call 12 #[ptr p] (by kernel_rfl) (by go_simp) ((HWA.out u hu).mono ?_)
                rintro e u1 ⟨rfl, hu1⟩
                exact ⟨_, rfl, hu1, rfl⟩
              · rintro u hu _ rfl
                replace hu : Below w9.heap.size w9 u := hu
                exact opYields_val (.pointer (some ⟨bm, 2, none⟩)) (by kernel_rfl) (by go_simp) ⟨Below.refl _ _, rfl⟩
              · rintro u hu _ rfl _ rfl
                replace hu : Below w9.heap.size w9 u := hu
                obtain ⟨c0, c1, c2, c3, c4, c5⟩ := (hM9.later hu).cells
                exact opYields_val (.slice wa2 wl2 wc2) (by kernel_rfl) (by go_simp) ⟨Below.refl _ _, rfl⟩
              · rintro u hu _ rfl _ rfl
                replace hu : Below w9.heap.size w9 u := hu
                exact opYields_val (.int .i64 wl2) (by kernel_rfl) (by go_simp) ⟨Below.refl _ _, rfl⟩
              · rintro u hu _ rfl _ rfl _ rfl
                replace hu : Below w9.heap.size w9 u := hu
                exact opYields_val (.bool false) (by kernel_rfl) (by go_simp) ⟨Below.refl _ _, rfl⟩
              · rintro u hu _ rfl _ rfl
                replace hu : Below w9.heap.size w9 u := hu
                exact opYields_val (.bool false) (by kernel_rfl) (by go_simp) ⟨Below.refl _ _, rfl⟩
              · rintro u hu _ rfl
                replace hu : Below w9.heap.size w9 u := hu
                exact opYields_val (.bool false) (by kernel_rfl) (by go_simp) ⟨Below.refl _ _, rfl⟩
              · rintro u hu _ rfl
                replace hu : Below w9.heap.size w9 u := hu
                exact opYields_val (ptr p) (by kernel_rfl) (by go_simp) ⟨Below.refl _ _, rfl⟩
              · rintro u hu _ rfl _ rfl
                replace hu : Below w9.heap.size w9 u := hu
                refine opYields_call 13 #[ptr p] (by kernel_rfl) (by go_simp) ((HFA.out u hu).mono ?_)
                rintro e u1 ⟨rfl, hu1⟩
                exact ⟨_, rfl, hu1, rfl⟩
              · rintro u hu _ rfl
                replace hu : Below w9.heap.size w9 u := hu
                exact opYields_val (.pointer (some ⟨bm, 4, none⟩)) (by kernel_rfl) (by go_simp) ⟨Below.refl _ _, rfl⟩
              · rintro u hu _ rfl _ rfl
                replace hu : Below w9.heap.size w9 u := hu
                obtain ⟨c0, c1, c2, c3, c4, c5⟩ := (hM9.later hu).cells
                exact opYields_val (.int .i64 fl2) (by kernel_rfl) (by go_simp) ⟨Below.refl _ _, rfl⟩
              · rintro u hu _ rfl _ rfl _ rfl
                replace hu : Below w9.heap.size w9 u := hu
                exact opYields_val (.bool false) (by kernel_rfl) (by go_simp) ⟨Below.refl _ _, rfl⟩
              · rintro u hu _ rfl _ rfl
                replace hu : Below w9.heap.size w9 u := hu
                exact opYields_val (.bool false) (by kernel_rfl) (by go_simp) ⟨Below.refl _ _, rfl⟩
              · rintro u hu _ rfl
                replace hu : Below w9.heap.size w9 u := hu
                exact opYields_val (.bool false) (by kernel_rfl) (by go_simp) ⟨Below.refl _ _, rfl⟩
              · rintro u hu _ rfl
                replace hu : Below w9.heap.size w9 u := hu
                exact opYields_val (ptr p) (by kernel_rfl) (by go_simp) ⟨Below.refl _ _, rfl⟩
              · rintro u hu _ rfl _ rfl
                replace hu : Below w9.heap.size w9 u := hu
                refine opYields_call 14 #[ptr p] (by kernel_rfl) (by go_simp) ((HBL.out u hu).mono ?_)
                rintro e u1 ⟨rfl, hu1⟩
                exact ⟨_, rfl, hu1, rfl⟩
              · rintro u hu _ rfl
                replace hu : Below w9.heap.size w9 u := hu
                exact opYields_val (.int .i64 N0) (by kernel_rfl) (by go_simp) ⟨Below.refl _ _, rfl⟩
              · rintro u hu _ rfl _ rfl _ rfl
                replace hu : Below w9.heap.size w9 u := hu
                exact opYields_val (.bool false) (by kernel_rfl) (by go_simp) ⟨Below.refl _ _, rfl⟩
              · rintro u hu _ rfl _ rfl
                replace hu : Below w9.heap.size w9 u := hu
                exact opYields_val (.bool false) (by kernel_rfl) (by go_simp) ⟨Below.refl _ _, rfl⟩
              · rintro u hu _ _ _ _ _ _ _ _ _ _ _ _ _ _ _ _ _ _ _ _ _ _ _ _ _ _ _ _ _ _ rfl
                replace hu : Below w9.heap.size w9 u := hu
                simp only [givingAll, Act.put, List.setIfInBounds_toArray, List.set_cons_zero, List.set_cons_succ]
                have hbu := HG9.out.2.2.2.trans (hu.mono HG9.out.2.2.1.size)
                have hMu := hM9.later hu
                have hDu := HG9.out.2.2.1.later hu
                have hLu := HG9.out.2.1.later hu
                obtain ⟨c0, c1, c2, c3, c4, c5⟩ := hMu.cells
                have HR := hid (And.intro hDu (And.intro hMu (And.intro hLu hbu)))
                clear hbu hMu hDu hLu hM9 hu
                go_wp2_with fail
                go_roundw
                case rel => exact ⟨j + 1, by omega, by go_num, ⟨N0, kp2, wt2, true, fl2, fu2⟩, m + 1, ka2, wa2, kc2, wc2, HR.out.1, by omega, HFS.out, by dsimp only; rw [HWL.out]; exact HR.out.2.1, HR.out.2.2.1, HZ2.out, rfl, HR.out.2.2.2⟩
                case measure => simp [intOf]; omega
        · obtain rfl : j = n := by omega
          have HB := hid hb
          clear hD hF hM hL hb
          go_wp2_with fail
          refine (awake8 wr).mono ?_
          rintro e w5 ⟨rfl, hb5⟩
          have HB5 := hid (HB.out.trans (hb5.mono HB.out.size))
          clear hb5
          go_wp2_with fail
          go_ret
          exact ⟨rfl, HB5.out⟩
end Go.Proofs.Ytklfpoojpfomeaa.Key
