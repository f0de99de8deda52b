/-
  Contract of the document's Counts.
-/
import Derived.Test.YtfladpnphkoeiaaAdd
import Derived.Test.YtfladpnphkoeiaaDraw3
namespace Go.Proofs.Ytfladpnphkoeiaa.Key
open Go.RowKit Draw
set_option linter.unusedVariables false
set_option linter.unusedSimpArgs false

theorem refs_in {s : St} (h : Vok s) : ∀ x ∈ refsOf s, 0 ≤ x.n ∧ x.n ≤ 4294967295 := by
  intro x hx
  unfold refsOf at hx
  obtain ⟨y, hy, rfl⟩ := List.mem_map.1 hx
  exact h.2 _ (List.of_mem_zip (a := y.1) (b := y.2) hy).2
/-- what is put to a row of refs that counts -/
theorem add_cnt {p q : List (Int × Int)} {N : List (Int × Int)} (hq : N.length ≤ 10000) (h0 : ∀ x ∈ N, 0 ≤ x.2 ∧ x.2 ≤ 4294967295) {j : Nat} (hj : j < q.length) (hp : ∃ r, p ++ q.take (j + 1) ++ r = N) (w : World) (v : Value) (hv : RefsV w v (refsOf (cnt (p ++ q.take j)))) :
    Calls Try.prog 38 #[v, .int .u32 q[j].1, .int .u32 q[j].2] w fun e w' => (∃ v', e = .returned v' ∧ RefsV w' v' (refsOf (cnt (p ++ q.take (j + 1))))) ∧ Below w.heap.size w w' := by
  have hq2 : q.take (j + 1) = q.take j ++ [q[j]] := List.take_succ_eq_append_getElem hj
  obtain ⟨r, hr⟩ := hp
  have hrx : N = p ++ (q.take j ++ [q[j]]) ++ r := by rw [← hr, hq2]
  have hpre : ∀ x ∈ p ++ q.take j, 0 ≤ x.2 ∧ x.2 ≤ 4294967295 := fun x hx => h0 x (by rw [hrx]; exact List.mem_append_left _ (by rcases List.mem_append.1 hx with h | h; exact List.mem_append_left _ h; exact List.mem_append_right _ (List.mem_append_left _ h)))
  have hlast : 0 ≤ q[j].2 ∧ q[j].2 ≤ 4294967295 := h0 _ (by rw [hrx]; exact List.mem_append_left _ (List.mem_append_right _ (List.mem_append_right _ (by simp))))
  have hok := cnt_ok (p ++ q.take j) (fun x hx => (hpre x hx).1)
  have hlen : (refsOf (cnt (p ++ q.take j))).length ≤ 10000 := by
    rw [refsOf_len _ hok.1]
    have := cnt_len (p ++ q.take j)
    have h2 : (p ++ q.take j).length ≤ N.length := by rw [hrx]; simp only [List.length_append]; omega
    omega
  rw [cnt_take hj, ← addR_same _ _ _ hok.1 (cnt_rise _) hlast]
  exact add38 v _ _ _ w hlen hv (refs_in hok) hlast

set_option maxRecDepth 100000 in
set_option maxHeartbeats 1200000 in
theorem counts16 (a ra pa : Option Addr) (c rc pc : Nat) (l : List It) (roots : List Vo) (pend : List Rf) (w : World) (hl : Fine l) (hr1 : roots.length ≤ 1000) (hp1 : pend.length ≤ 1000) (hpn : ∀ x ∈ pend, 0 ≤ x.n ∧ x.n ≤ 4294967295)
    (hN : (namesL l roots pend).length ≤ 10000) (hi : Items w a l) (hr : Vols w ra roots) (hp : Refs w pa pend) :
    Calls Try.prog 16 #[.slice a l.length c, .slice ra roots.length rc, .slice pa pend.length pc] w fun e w' => (∃ v, e = .returned v ∧ RefsV w' v (countsL l roots pend)) ∧ Below w.heap.size w w' := by
  obtain ⟨hln, hin, hsm⟩ := hl
  have hpos : ∀ x ∈ namesL l roots pend, 0 ≤ x.2 ∧ x.2 ≤ 4294967295 := by
    intro x hx
    unfold namesL rootsN pendN at hx
    rcases List.mem_append.1 hx with hx | hx
    · rcases List.mem_append.1 hx with hx | hx
      · obtain ⟨y, _, rfl⟩ := List.mem_map.1 hx; simp
      · obtain ⟨y, _, hx⟩ := List.mem_flatMap.1 hx
        unfold targN at hx
        obtain ⟨z, _, rfl⟩ := List.mem_map.1 hx; simp
    · obtain ⟨y, hy, rfl⟩ := List.mem_map.1 hx
      exact hpn y hy
  have HAD := hid (fun (p q : List (Int × Int)) (j : Nat) (hj : j < q.length) (hp : ∃ r, p ++ q.take (j + 1) ++ r = namesL l roots pend) w v hv => add_cnt hN hpos hj hp w v hv)
  have HCL := hid (show countsL l roots pend = refsOf (cnt (namesL l roots pend)) from rfl)
  have HNM := hid (show namesL l roots pend = rootsN roots ++ l.flatMap targN ++ pendN pend from rfl)
  have HI := hid hi
  have HR := hid hr
  have HPD := hid hp
  have HLN := hid (show roots.length = (rootsN roots).length by simp [rootsN])
  have HAT := hid (fun j (h : j < roots.length) => (show (rootsN roots)[j]'(by rw [← HLN.out]; exact h) = (roots[j].blk, 1) by simp [rootsN]))
  clear hN hpos hi hr hp hpn
  generalize countsL l roots pend = CL at *
  generalize namesL l roots pend = NM at *
  obtain ⟨m1, HM1⟩ : ∃ m, Hid (roots.length = m) := ⟨_, hid rfl⟩
  obtain ⟨m2, HM2⟩ : ∃ m, Hid (l.length = m) := ⟨_, hid rfl⟩
  obtain ⟨m3, HM3⟩ : ∃ m, Hid (pend.length = m) := ⟨_, hid rfl⟩
  rw [HM1.out, HM2.out, HM3.out]
  rw [HM1.out] at hr1
  rw [HM2.out] at hln
  rw [HM3.out] at hp1
  have hb0 := below_box w (.cells #[] 58)
  go_enter Try.func16, Try.ntmps16
  go_wp2_with fail
  generalize w.alloc (.cells #[] 58) = w0 at *
  generalize hk0 : w.heap.size = k0 at *
  go_loopw [7, 16] (fun o i wr => ∃ j : Nat, j ≤ m1 ∧ i = .int .i64 j ∧ RefsV wr o (refsOf (cnt ([] ++ (rootsN roots).take j))) ∧ Below k0 w wr) (fun _ i _ => m1 - (intOf i).toNat)
  case atStart => exact ⟨0, Nat.zero_le _, rfl, ⟨_, _, rfl, .inl rfl⟩, hb0⟩
  case round =>
    clear hb0
    obtain ⟨j, hj, rfl, hO, hb⟩ := hrel
    have hbs : k0 ≤ wr.heap.size := by rw [← hk0]; exact hb.size
    by_cases hlt : j < m1
    · have hlt' : j < roots.length := by rw [HM1.out]; exact hlt
      have HC := HAD.out [] (rootsN roots) j (by rw [← HLN.out]; exact hlt') ⟨(rootsN roots).drop (j + 1) ++ (l.flatMap targN ++ pendN pend), by rw [HNM.out, List.nil_append, ← List.append_assoc, List.take_append_drop, List.append_assoc]⟩ wr _ hO
      rw [HAT.out j hlt'] at HC
      obtain ⟨b, off, rfl, h3⟩ := (HR.out.later (by rw [hk0]; exact hb)).one hlt'
      obtain ⟨x, HX⟩ : ∃ m, Hid (roots[j] = m) := ⟨_, hid rfl⟩
      rw [HX.out] at h3 HC
      obtain ⟨nm, bk, dp⟩ := x
      obtain ⟨d0, d1, d2⟩ := h3
      dsimp only at d0 d1 d2 HC
      obtain ⟨oa, oc, rfl, _⟩ := hO
      generalize (refsOf (cnt ([] ++ (rootsN roots).take j))).length = on at *
      go_wp2_with fail
      refine HC.mono ?_
      rintro e w1 ⟨⟨v, rfl, hv⟩, hb1⟩
      have hb2 := hb.trans (hb1.mono hbs)
      go_wp2_with fail
      go_roundw
      case rel => exact ⟨j + 1, by omega, by go_num, hv, hb2⟩
      case measure => simp [intOf]; omega
    · obtain rfl : j = m1 := by omega
      rw [show [] ++ (rootsN roots).take j = rootsN roots by rw [List.nil_append, ← HM1.out, HLN.out, List.take_length]] at hO
      clear HLN HAT HR HM1 hlt hj
      go_wp2_with fail
      go_loopw [7, 29] (fun o i wr => ∃ q : Nat, q ≤ m2 ∧ i = .int .i64 q ∧ RefsV wr o (refsOf (cnt (rootsN roots ++ (l.take q).flatMap targN))) ∧ Below k0 w wr) (fun _ i _ => m2 - (intOf i).toNat)
      case atStart => exact ⟨0, Nat.zero_le _, rfl, by simpa using hO, hb⟩
      case round =>
        clear hO hb hbs
        obtain ⟨q, hq, rfl, hO, hb⟩ := hrel
        have hbs : k0 ≤ wr.heap.size := by rw [← hk0]; exact hb.size
        by_cases hlt : q < m2
        · have hlt' : q < l.length := by rw [HM2.out]; exact hlt
          obtain ⟨b, off, rfl, h6, h7⟩ := (HI.out.later (by rw [hk0]; exact hb)).at hlt'
          have hxs := hsm _ (List.getElem_mem hlt')
          have hnx : (l.take (q + 1)).flatMap targN = (l.take q).flatMap targN ++ targN l[q] := by rw [List.take_succ_eq_append_getElem hlt', List.flatMap_append]; simp
          have hpr : ∃ r, (rootsN roots ++ (l.take q).flatMap targN) ++ targN l[q] ++ r = NM := ⟨(l.drop (q + 1)).flatMap targN ++ pendN pend, by
            rw [HNM.out, List.append_assoc (rootsN roots), ← hnx, List.append_assoc, ← List.append_assoc ((l.take (q + 1)).flatMap targN), ← List.flatMap_append, List.take_append_drop, List.append_assoc]⟩
          obtain ⟨x, HX⟩ : ∃ m, Hid (l[q] = m) := ⟨_, hid rfl⟩
          rw [HX.out] at h6 h7 hxs hnx hpr
          replace hnx := hid (show refsOf (cnt (rootsN roots ++ (l.take (q + 1)).flatMap targN)) = refsOf (cnt ((rootsN roots ++ (l.take q).flatMap targN) ++ targN x)) by rw [hnx, List.append_assoc])
          generalize hP : rootsN roots ++ (l.take q).flatMap targN = P at *
          have HPR := hid hpr
          have HT := targets18 x.nd x.pl wr hxs.few h7
          have HTL := hid (show (targN x) = (targetsL x.nd).map fun b => (b, 1) from rfl)
          have htl : (targetsL x.nd).length ≤ 2000 := by
            have h1 := hxs.few.l3
            have h2 := hxs.few.l4
            have h3 := blocks_len x.nd.bf
            unfold targetsL
            simp
            omega
          generalize targetsL x.nd = T at *
          generalize targN x = TN at *
          obtain ⟨bk, ⟨lf, ps, pv, ks, bf⟩, ⟨a1, c1, a2, c2, a3, c3, a4, c4⟩⟩ := x
          obtain ⟨d0, d1, d2, d3, d4, d5⟩ := h6
          dsimp only [nv] at *
          clear h7 hxs hP hpr
          generalize ps.length = n1 at *
          generalize pv.length = n2 at *
          generalize ks.length = n3 at *
          generalize bf.length = n4 at *
          have hOs : ∃ oa on oc, (∃ v, v = (Value.slice oa on oc) ∧ RefsV wr v (refsOf (cnt P))) := by
            obtain ⟨oa, oc, e, h⟩ := hO
            exact ⟨oa, _, oc, _, rfl, oa, oc, rfl, h⟩
          have HO := hid hO
          go_wp2_with fail
          refine HT.mono ?_
          rintro e w1 ⟨v, rfl, hv, hb1⟩
          have hb4 := hb.trans (hb1.mono hbs)
          have hO4 := HO.out.later hb1
          have hvf : ∃ va vc, v = .slice va T.length vc := by
            rcases hv.row with ⟨rfl, rfl⟩ | ⟨g, cap, cur, rfl, _⟩
            · exact ⟨_, _, rfl⟩
            · exact ⟨_, _, rfl⟩
          obtain ⟨va, vc, rfl⟩ := hvf
          obtain ⟨m4, HM4⟩ : ∃ m, Hid (T.length = m) := ⟨_, hid rfl⟩
          rw [HM4.out] at htl hv ⊢
          clear HT HO hO hOs d0 d1 d2 d3 d4 d5 hb hb1
          go_wp2_with fail
          go_loopw [7, 40] (fun o i wr => ∃ t : Nat, t ≤ m4 ∧ i = .int .i64 t ∧ RefsV wr o (refsOf (cnt (P ++ TN.take t))) ∧ OwnU wr 0 (.slice va m4 vc) T ∧ Below k0 w wr) (fun _ i _ => m4 - (intOf i).toNat)
          case atStart => exact ⟨0, Nat.zero_le _, rfl, by simpa using hO4, ownU_mono hv (Nat.zero_le _), hb4⟩
          case round =>
            clear hO4 hv hb4 hbs
            obtain ⟨t, ht, rfl, hO, hv, hb⟩ := hrel
            have hbs : k0 ≤ wr.heap.size := by rw [← hk0]; exact hb.size
            by_cases hlt3 : t < m4
            · have hlt3' : t < TN.length := by rw [HTL.out, List.length_map, HM4.out]; exact hlt3
              have hat : TN[t] = (T.getD t 0, 1) := by
                have e : T.getD t 0 = T[t]'(by rw [HM4.out]; exact hlt3) := by simp [List.getD, List.getElem?_eq_getElem (show t < T.length by rw [HM4.out]; exact hlt3)]
                rw [e]
                simp only [HTL.out, List.getElem_map]
              have HC := HAD.out P TN t hlt3' (by
                obtain ⟨r, hr⟩ := HPR.out
                exact ⟨TN.drop (t + 1) ++ r, by rw [← hr, ← List.append_assoc, List.append_assoc P, List.take_append_drop]⟩) wr _ hO
              rw [hat] at HC
              obtain ⟨g, c', e, hcc⟩ := hv.at HM4.out hlt3
              simp only [Value.slice.injEq, true_and] at e
              obtain ⟨rfl, rfl⟩ := e
              dsimp only at HC
              clear hat
              generalize T.getD t 0 = y at *
              obtain ⟨oa, oc, rfl, _⟩ := hO
              generalize (refsOf (cnt (P ++ TN.take t))).length = on at *
              go_wp2_with fail
              refine HC.mono ?_
              rintro e w1 ⟨⟨v, rfl, hv1⟩, hb1⟩
              have hb2 := hb.trans (hb1.mono hbs)
              have hv2 := hv.later hb1
              go_wp2_with fail
              go_roundw
              case rel => exact ⟨t + 1, by omega, by go_num, hv1, hv2, hb2⟩
              case measure => simp [intOf]; omega
            · obtain rfl : t = m4 := by omega
              have hfin : TN.take t = TN := by
                have : TN.length = t := by rw [HTL.out, List.length_map, HM4.out]
                rw [← this, List.take_length]
              rw [hfin] at hO
              go_wp2_with fail
              go_roundw
              case rel => exact ⟨q + 1, by omega, by go_num, by rw [hnx.out]; exact hO, hb⟩
              case measure => simp [intOf]; omega
        · obtain rfl : q = m2 := by omega
          rw [show l.take q = l by rw [← HM2.out, List.take_length]] at hO
          have HLP := hid (show pend.length = (pendN pend).length by simp [pendN])
          have HAT := hid (fun j (h : j < pend.length) => (show (pendN pend)[j]'(by rw [← HLP.out]; exact h) = (pend[j].blk, pend[j].n) by simp [pendN]))
          clear hlt hq
          go_wp2_with fail
          go_loopw [7, 53] (fun o i wr => ∃ t : Nat, t ≤ m3 ∧ i = .int .i64 t ∧ RefsV wr o (refsOf (cnt (rootsN roots ++ l.flatMap targN ++ (pendN pend).take t))) ∧ Below k0 w wr) (fun _ i _ => m3 - (intOf i).toNat)
          case atStart => exact ⟨0, Nat.zero_le _, rfl, by simpa using hO, hb⟩
          case round =>
            clear hO hb hbs
            obtain ⟨t, ht, rfl, hO, hb⟩ := hrel
            have hbs : k0 ≤ wr.heap.size := by rw [← hk0]; exact hb.size
            by_cases hlt : t < m3
            · have hlt' : t < pend.length := by rw [HM3.out]; exact hlt
              have HC := hid (fun u (hu : Below wr.heap.size wr u) => HAD.out (rootsN roots ++ l.flatMap targN) (pendN pend) t (by rw [← HLP.out]; exact hlt') ⟨(pendN pend).drop (t + 1), by rw [HNM.out, List.append_assoc, List.take_append_drop]⟩ u _ (hO.later hu))
              rw [HAT.out t hlt'] at HC
              obtain ⟨b, off, rfl, h3⟩ := (HPD.out.later (by rw [hk0]; exact hb)).one hlt'
              obtain ⟨x, HX⟩ : ∃ m, Hid (pend[t] = m) := ⟨_, hid rfl⟩
              rw [HX.out] at h3 HC
              have HT := hid h3
              obtain ⟨bk, nn⟩ := x
              clear h3
              dsimp only at HC
              obtain ⟨oa, oc, rfl, _⟩ := hO
              generalize (refsOf (cnt (rootsN roots ++ l.flatMap targN ++ (pendN pend).take t))).length = on at *
              obtain ⟨RN, HRN⟩ : ∃ m, Hid (refsOf (cnt (rootsN roots ++ l.flatMap targN ++ (pendN pend).take (t + 1))) = m) := ⟨_, hid rfl⟩
              rw [HRN.out] at HC
              have hlti : (t : Int) < (m3 : Int) := by omega
              go_upto_region 20 with fail
              refine wp_region_put [(some 56, [], false), (some 57, [], false), (some 58, [], false), (some 59, [(1, 57), (2, 58)], false), (some 60, [(3, 59)], false), (some 61, [(4, 60)], false), (some 62, [], false), (some 63, [], false), (some 64, [(6, 62), (7, 63)], false), (some 65, [(8, 64)], false), (some 66, [(9, 65)], false), (some 67, [(0, 56), (5, 61), (10, 66)], true), (some 7, [(11, 67)], false)]
                (fun u => Below wr.heap.size wr u) (fun _ u u' => Below u.heap.size u u')
                (fun i v u => match i with | 0 => v = .slice oa on oc | 1 => v = .slice (some ⟨b, off, none⟩) m3 pc | 2 => v = .int .i64 t | 3 => v = .pointer (some ⟨b, off + t * 2, none⟩) | 4 => v = .pointer (some ⟨b, off + t * 2, none⟩) | 5 => v = .int .u32 bk | 6 => v = .slice (some ⟨b, off, none⟩) m3 pc | 7 => v = .int .i64 t | 8 => v = .pointer (some ⟨b, off + t * 2, none⟩) | 9 => v = .pointer (some ⟨b, off + t * 2 + 1, none⟩) | 10 => v = .int .u32 nn | 11 => RefsV u v RN | _ => True)
                (by kernel_rfl) 12 (by kernel_rfl) (Below.refl _ _).drew (fun i u u' h h' => h.trans (h'.mono h.size)) (fun i j v u u' hn h h' hv => ?_) [(some 56, [], false), (some 57, [], false), (some 58, [], false), (some 59, [(1, 57), (2, 58)], false), (some 60, [(3, 59)], false), (some 61, [(4, 60)], false), (some 62, [], false), (some 63, [], false), (some 64, [(6, 62), (7, 63)], false), (some 65, [(8, 64)], false), (some 66, [(9, 65)], false), (some 67, [(0, 56), (5, 61), (10, 66)], true)] rfl _ rfl (by kernel_rfl) (by kernel_rfl) ⟨?_, ?_, ?_, ?_, ?_, ?_, ?_, ?_, ?_, ?_, ?_, ?_, trivial⟩ ?_
              · match j with
                | 0 => exact hv
                | 1 => exact hv
                | 2 => exact hv
                | 3 => exact hv
                | 4 => exact hv
                | 5 => exact hv
                | 6 => exact hv
                | 7 => exact hv
                | 8 => exact hv
                | 9 => exact hv
                | 10 => exact hv
                | 11 => exact RefsV.later hv h'
                | _ + 12 => trivial
              · rintro u hu
                exact opYields_val _ (by kernel_rfl) (by go_simp) ⟨Below.refl _ _, rfl⟩
              · rintro u hu
                exact opYields_val _ (by kernel_rfl) (by go_simp) ⟨Below.refl _ _, rfl⟩
              · rintro u hu
                exact opYields_val _ (by kernel_rfl) (by go_simp) ⟨Below.refl _ _, rfl⟩
              · rintro u hu _ rfl _ rfl
                exact opYields_val _ (by kernel_rfl) (by go_simp) ⟨Below.refl _ _, rfl⟩
              · rintro u hu _ rfl
                exact opYields_val _ (by kernel_rfl) (by go_simp) ⟨Below.refl _ _, rfl⟩
              · rintro u hu _ rfl
                obtain ⟨d0, d1⟩ := HT.out.later hu
                dsimp only at d0 d1
                exact opYields_val (.int .u32 bk) (by kernel_rfl) (by go_simp) ⟨Below.refl _ _, rfl⟩
              · rintro u hu
                exact opYields_val _ (by kernel_rfl) (by go_simp) ⟨Below.refl _ _, rfl⟩
              · rintro u hu
                exact opYields_val _ (by kernel_rfl) (by go_simp) ⟨Below.refl _ _, rfl⟩
              · rintro u hu _ rfl _ rfl
                exact opYields_val _ (by kernel_rfl) (by go_simp) ⟨Below.refl _ _, rfl⟩
              · rintro u hu _ rfl
                exact opYields_val _ (by kernel_rfl) (by go_simp) ⟨Below.refl _ _, rfl⟩
              · rintro u hu _ rfl
                obtain ⟨d0, d1⟩ := HT.out.later hu
                dsimp only at d0 d1
                exact opYields_val (.int .u32 nn) (by kernel_rfl) (by go_simp) ⟨Below.refl _ _, rfl⟩
              · rintro u hu _ rfl _ rfl _ rfl
                exact opYields_call 38 #[.slice oa on oc, .int .u32 bk, .int .u32 nn] (by kernel_rfl) (by go_simp) ((HC.out u hu).mono fun x u' ⟨⟨v, h1, h2⟩, h3⟩ => ⟨v, h1, h3, h2⟩)
              · rintro u hu _ _ _ _ _ _ _ _ _ _ _ v hv
                have hb2 := hb.trans (hu.mono hbs)
                replace hv : RefsV u v RN := hv
                simp only [Act.put, List.setIfInBounds_toArray, List.set_cons_zero, List.set_cons_succ]
                refine opYields_val v (by kernel_rfl) (by go_simp; rfl) ?_
                simp only [Act.put, List.setIfInBounds_toArray, List.set_cons_zero, List.set_cons_succ]
                go_wp2_with fail
                go_roundw
                case rel => exact ⟨t + 1, by omega, by go_num, by rw [HRN.out]; exact hv, hb2⟩
                case measure => simp [intOf]; omega
            · obtain rfl : t = m3 := by omega
              rw [show (pendN pend).take t = pendN pend by rw [← HM3.out, HLP.out, List.take_length], ← HNM.out] at hO
              obtain ⟨oa, oc, rfl, hO2⟩ := hO
              go_wp2_with fail
              go_ret
              exact ⟨⟨.slice oa (refsOf (cnt NM)).length oc, rfl, oa, oc, by rw [HCL.out], by rw [HCL.out]; exact hO2⟩, by first | exact hb | (rw [hk0]; exact hb)⟩
end Go.Proofs.Ytfladpnphkoeiaa.Key
