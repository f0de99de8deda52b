/-
  Contract of the document's Put: a node with kids.
-/
import Derived.Test.YtjegpcmejlffhaaLawA
import Derived.Test.YtjegpcmejlffhaaRefMay2
import Derived.Test.YtjegpcmejlffhaaPutS
namespace Go.Proofs.Ytjegpcmejlffhaa.Cod
set_option linter.unusedSimpArgs false
set_option linter.unusedVariables false
open Go.RowKit
open Pack (be txt Own Bytes)
open Key (M E Pr Nd Pl nv Lies mayI ev mv)

set_option maxRecDepth 100000 in
set_option maxHeartbeats 4000000 in
theorem rput9_fork (n : Nd) (p : Pl) (w : World) (h : Lies w n p) (hf : Key.Few n) (hk : Kinds n) (hm : mayI n = 0) (hlf : n.leaf = false) :
    Calls Try.prog 9 #[nv n p] w fun x w' => ∃ v, x = .returned (.tuple #[v, .int .i64 (mayI n)]) ∧ Written w' w.heap.size v n ∧ Below w.heap.size w w' := by
  have HM := hid (fun u (hu : Lies u n p) => Key.may13 n p u hf hu (fun m hm => (hk.md m hm).1))
  obtain ⟨hl2, hszT, hszE, hszM⟩ := fit_fork hk hm hlf
  have HW : Hid (∀ (u : World) (v : Value) (B : Nat), Own u B v (wFork n) → Written u B v n) := fun u v B h1 => ⟨fun h => absurd hm h, fun _ => by rw [show wN n = wFork n from if_neg (by rw [hlf]; intro h; cases h)]; exact h1⟩
  have hl3 := (may_parts hm).2.1
  have hl4 := (may_parts hm).2.2.1
  rw [hm] at HM ⊢
  obtain ⟨lf, ps, pv, ks, bf⟩ := n
  obtain ⟨a1, c1, a2, c2, a3, c3, a4, c4⟩ := p
  have HB0 := one_box w (.cells #[.bool false, .slice a1 ps.length c1, .slice a2 pv.length c2, .slice a3 ks.length c3, .slice a4 bf.length c4] 27)
  replace h := h.later HB0
  replace HM := hid (HM.out _ h)
  obtain ⟨h1, h2, h3, h4⟩ := h
  have HZ : Hid (wFork ⟨lf, ps, pv, ks, bf⟩ = be 1 2 ++ (be 1 ks.length ++ (ks.flatMap wE ++ (pv.flatMap txt ++ (be 1 bf.length ++ bf.flatMap wM))))) := rfl
  generalize wFork ⟨lf, ps, pv, ks, bf⟩ = Z at *
  clear hm
  dsimp only [nv] at *
  subst hlf
  generalize hps : ps.length = m1 at *
  generalize hpv : pv.length = m2 at *
  generalize hks : ks.length = m3 at *
  generalize hbf : bf.length = m4 at *
  replace hps := hid hps
  replace hpv := hid hpv
  replace hks := hid hks
  replace hbf := hid hbf
  have R0 := Row.new w #[.bool false, .slice a1 m1 c1, .slice a2 m2 c2, .slice a3 m3 c3, .slice a4 m4 c4] 27
  have hsz : (w.alloc (.cells #[.bool false, .slice a1 m1 c1, .slice a2 m2 c2, .slice a3 m3 c3, .slice a4 m4 c4] 27)).heap.size = w.heap.size + 1 := by simp
  go_enter Try.func9, Try.ntmps9
  go_upto_region 1 with fail
  generalize hW : w.alloc (.cells #[.bool false, .slice a1 m1 c1, .slice a2 m2 c2, .slice a3 m3 c3, .slice a4 m4 c4] 27) = w0 at *
  clear hW
  generalize hk0 : w.heap.size = k0 at *
  have q0 : w0.cell? ⟨k0, 0, none⟩ = some (.bool false) := R0.cell 0
  have q1 : w0.cell? ⟨k0, 1, none⟩ = some (.slice a1 m1 c1) := R0.cell 1
  have q2 : w0.cell? ⟨k0, 2, none⟩ = some (.slice a2 m2 c2) := R0.cell 2
  have q3 : w0.cell? ⟨k0, 3, none⟩ = some (.slice a3 m3 c3) := R0.cell 3
  have q4 : w0.cell? ⟨k0, 4, none⟩ = some (.slice a4 m4 c4) := R0.cell 4
  go_wp2_with fail
  refine HM.out.mono ?_
  rintro x wa ⟨rfl, HB⟩
  replace R0 := R0.later HB
  clear q0 q1 q2 q3 q4 HM
  have hs0 := HB0.size
  have hB : w0.heap.size = k0 + 1 := hsz
  have hoM := Pack.Own.made wa
  have HBM := HB.alloc HB.size (.cells #[] 5)
  have RM := R0.alloc (.cells #[] 5)
  go_upto_region 5 with fail
  generalize hW : wa.alloc (.cells #[] 5) = wb at *
  clear hW
  have q0 : wb.cell? ⟨k0, 0, none⟩ = some (.bool false) := RM.cell 0
  have q1 : wb.cell? ⟨k0, 3, none⟩ = some (.slice a3 m3 c3) := RM.cell 3
  replace hoM := hoM.mono HB.size
  have hoN := World.ownsRow.alloc hoM (.cells #[.int .u8 2, .int .u8 (m3 : Int)] 5)
  have hbN := Pack.digits_lie wb #[.int .u8 2, .int .u8 (m3 : Int)] (0, 0) [2, (m3 : Int)] rfl
  have HBN := HBM.alloc HBM.size (.cells #[.int .u8 2, .int .u8 (m3 : Int)] 5)
  have RN := RM.alloc (.cells #[.int .u8 2, .int .u8 (m3 : Int)] 5)
  have hBN := HBN.size
  clear R0 HB
  generalize hBB : w0.heap.size = B at *
  go_wp2_with (at_builtin; refine Pack.app rfl (.tmp 51) (.tmp 56) rfl B _ [] rfl hoN (some ⟨wb.heap.size, 0, none⟩) 2 2 [2, (m3 : Int)] rfl (fun h => by cases h) rfl hbN (by simp) hBN ?_; intro v1 wc hoY hg1; have R0 := RN.grown hg1 (fun e => by have := (World.ownsRow.lt hoN k0 e.symm).1; omega); have HB := HBN.grown hg1 hBN (fun j e => (World.ownsRow.lt hoN j e).1); have q1 : wc.cell? ⟨k0, 3, none⟩ = some (.slice a3 m3 c3) := R0.cell 3; obtain ⟨ay, cy, rfl, _, _⟩ := own_form (n := 2) hoY rfl)
  clear q0 q1 hoN hbN HBN RN RM hoM HBM
  have HE := hid (show [] ++ [2, (m3 : Int)] = be 1 2 ++ be 1 m3 by rw [← Pack.be_1 m3 (by omega)]; rfl)
  have hlY : ([] ++ [2, (m3 : Int)] : List Int).length ≤ 2 := by simp
  generalize ([] ++ [2, (m3 : Int)] : List Int) = Y at *
  go_wp2_with fail
  go_loopw [5, 7, 61] (fun v _ i wr => ∃ j : Nat, j ≤ m3 ∧ i = .int .i64 j ∧ Own wr B v (Y ++ (ks.take j).flatMap wE) ∧ Row wr k0 #[.bool false, .slice a1 m1 c1, .slice a2 m2 c2, .slice a3 m3 c3, .slice a4 m4 c4] 27 ∧ Below B w0 wr) (fun _ _ i _ => m3 - (intOf i).toNat)
  case atStart => exact ⟨0, Nat.zero_le _, rfl, by simpa using hoY, R0, HB⟩
  case round =>
    clear R0 HB
    obtain ⟨j, hj, rfl, ho0, R0, HB⟩ := hrel
    have hlen := flat_bound ks j Y wE_le hlY (by rw [hks.out]; exact (by omega : m3 ≤ 16))
    obtain ⟨nv0, hn0⟩ : ∃ mm, (Y ++ (ks.take j).flatMap wE).length = mm := ⟨_, rfl⟩
    have hnb0 : nv0 ≤ 10000 := by omega
    obtain ⟨av0, cv0, rfl, hby0, hnil0⟩ := own_form ho0 hn0
    by_cases hlt : j < m3
    · have hlt' : j < ks.length := by rw [hks.out]; exact hlt
      obtain ⟨b, off, rfl, four⟩ := (h3.later (by rw [hBB]; exact HB)).at hlt'
      have hs := hszE ks[j] (List.getElem_mem hlt')
      have HF := hid (flat_succ wE hlt' Y)
      obtain ⟨x, HX⟩ : ∃ s, Hid (ks[j] = s) := ⟨_, hid rfl⟩
      rw [HX.out] at four hs HF
      obtain ⟨bk, dp, st, ad⟩ := x
      obtain ⟨hb0, hb1, hd0, hd1, hs1, hs2⟩ := hs
      dsimp only at hb0 hb1 hd0 hd1 hs1 hs2
      obtain ⟨bn, rfl⟩ := Int.eq_ofNat_of_zero_le hb0
      obtain ⟨dn, rfl⟩ := Int.eq_ofNat_of_zero_le hd0
      replace hb1 : bn < 4294967296 := by omega
      replace hd1 : dn < 65536 := by omega
      clear hb0 hd0
      have hT1 := txt_le st
      have hT2 := txt_le ad
      have q1 : wr.cell? ⟨k0, 3, none⟩ = some (.slice (some ⟨b, off, none⟩) m3 c3) := R0.cell 3
      have e0 := four.c0
      dsimp only at e0
      go_wp2_with fail
      refine (Pack.ref_put_4 bn (by omega) av0 nv0 cv0 _ wr hn0 hby0 hnil0 (by omega)).mono ?_
      rintro _ u1 ⟨v, rfl, ho1, hb⟩
      obtain ⟨nv1, hn1⟩ : ∃ mm, ((Y ++ (ks.take j).flatMap wE) ++ be 4 bn).length = mm := ⟨_, rfl⟩
      have hnb1 : nv1 ≤ 10004 := by rw [← hn1, List.length_append, hn0]; first | (rw [Pack.be_length]; omega) | omega
      obtain ⟨av1, cv1, rfl, hby1, hnil1⟩ := own_form ho1 hn1
      replace R0 := R0.later hb
      replace ho1 := ho1.mono (show B ≤ wr.heap.size by have := HB.size; omega)
      replace HB := HB.trans (hb.mono (by have := HB.size; omega))
      replace four := four.later hb
      clear hb hby0 hnil0 ho0
      clear q1 e0
      have q1 : u1.cell? ⟨k0, 3, none⟩ = some (.slice (some ⟨b, off, none⟩) m3 c3) := R0.cell 3
      have e0 := four.c1
      dsimp only at e0
      go_wp2_with fail
      refine (Pack.ref_put_2 dn (by omega) av1 nv1 cv1 _ u1 hn1 hby1 hnil1 (by omega)).mono ?_
      rintro _ u2 ⟨v, rfl, ho2, hb⟩
      obtain ⟨nv2, hn2⟩ : ∃ mm, (((Y ++ (ks.take j).flatMap wE) ++ be 4 bn) ++ be 2 dn).length = mm := ⟨_, rfl⟩
      have hnb2 : nv2 ≤ 10006 := by rw [← hn2, List.length_append, hn1]; first | (rw [Pack.be_length]; omega) | omega
      obtain ⟨av2, cv2, rfl, hby2, hnil2⟩ := own_form ho2 hn2
      replace R0 := R0.later hb
      replace ho2 := ho2.mono (show B ≤ u1.heap.size by have := HB.size; omega)
      replace HB := HB.trans (hb.mono (by have := HB.size; omega))
      replace four := four.later hb
      clear hb hby1 hnil1 ho1
      clear q1 e0
      have q1 : u2.cell? ⟨k0, 3, none⟩ = some (.slice (some ⟨b, off, none⟩) m3 c3) := R0.cell 3
      have e0 := four.c2
      dsimp only at e0
      go_wp2_with fail
      refine (Pack.ref_putText st hs1 av2 nv2 cv2 _ u2 hn2 hby2 hnil2 (by omega)).mono ?_
      rintro _ u3 ⟨v, rfl, ho3, hb⟩
      obtain ⟨nv3, hn3⟩ : ∃ mm, ((((Y ++ (ks.take j).flatMap wE) ++ be 4 bn) ++ be 2 dn) ++ txt st).length = mm := ⟨_, rfl⟩
      have hnb3 : nv3 ≤ 10300 := by rw [← hn3, List.length_append, hn2]; first | (rw [Pack.be_length]; omega) | omega
      obtain ⟨av3, cv3, rfl, hby3, hnil3⟩ := own_form ho3 hn3
      replace R0 := R0.later hb
      replace ho3 := ho3.mono (show B ≤ u2.heap.size by have := HB.size; omega)
      replace HB := HB.trans (hb.mono (by have := HB.size; omega))
      replace four := four.later hb
      clear hb hby2 hnil2 ho2
      clear q1 e0
      have q1 : u3.cell? ⟨k0, 3, none⟩ = some (.slice (some ⟨b, off, none⟩) m3 c3) := R0.cell 3
      have e0 := four.c3
      dsimp only at e0
      go_wp2_with fail
      refine (Pack.ref_putText ad hs2 av3 nv3 cv3 _ u3 hn3 hby3 hnil3 (by omega)).mono ?_
      rintro _ u4 ⟨v, rfl, ho4, hb⟩
      obtain ⟨nv4, hn4⟩ : ∃ mm, (((((Y ++ (ks.take j).flatMap wE) ++ be 4 bn) ++ be 2 dn) ++ txt st) ++ txt ad).length = mm := ⟨_, rfl⟩
      have hnb4 : nv4 ≤ 10600 := by rw [← hn4, List.length_append, hn3]; first | (rw [Pack.be_length]; omega) | omega
      obtain ⟨av4, cv4, rfl, hby4, hnil4⟩ := own_form ho4 hn4
      replace R0 := R0.later hb
      replace ho4 := ho4.mono (show B ≤ u3.heap.size by have := HB.size; omega)
      replace HB := HB.trans (hb.mono (by have := HB.size; omega))
      clear hb hby3 hnil3 ho3
      clear q1 e0
      have HOW : Own u4 B (.slice av4 nv4 cv4) (Y ++ (ks.take (j + 1)).flatMap wE) := by
        have := ho4
        rw [show ((((Y ++ (ks.take j).flatMap wE) ++ be 4 bn) ++ be 2 dn) ++ txt st) ++ txt ad = (Y ++ (ks.take j).flatMap wE) ++ wE ⟨(bn : Int), (dn : Int), st, ad⟩ by simp only [wE, Int.toNat_natCast, List.append_assoc], HF.out] at this
        exact this
      go_wp2
      go_roundw
      case rel => exact ⟨j + 1, by omega, by go_num, HOW, R0, HB⟩
      case measure => simp [intOf]; omega
    · obtain rfl : m3 = j := by omega
      clear hlt hlen hj
      rw [flat_all wE hks.out] at ho0 hby0 hn0
      clear hlY
      generalize wr = w3 at *
      have hoY := ho0
      have hlY : (Y ++ ks.flatMap wE).length ≤ 10000 := by rw [hn0]; omega
      have HE2 : Hid (Y ++ ks.flatMap wE = (be 1 2 ++ be 1 m3) ++ ks.flatMap wE) := hid (by rw [HE.out])
      clear HE hby0 hnil0 ho0
      generalize Y ++ ks.flatMap wE = Y2 at *
      clear hn0
      have q1 : w3.cell? ⟨k0, 2, none⟩ = some (.slice a2 m2 c2) := R0.cell 2
      go_wp2_with fail
      clear q1
      go_loopw [5, 8, 104] (fun v _ i wr => ∃ j : Nat, j ≤ m2 ∧ i = .int .i64 j ∧ Own wr B v (Y2 ++ (pv.take j).flatMap txt) ∧ Row wr k0 #[.bool false, .slice a1 m1 c1, .slice a2 m2 c2, .slice a3 m3 c3, .slice a4 m4 c4] 27 ∧ Below B w0 wr) (fun _ _ i _ => m2 - (intOf i).toNat)
      case atStart => exact ⟨0, Nat.zero_le _, rfl, by simpa using hoY, R0, HB⟩
      case round =>
        clear R0 HB
        obtain ⟨j, hj, rfl, ho0, R0, HB⟩ := hrel
        have hlen := flat_bound pv j Y2 txt_le hlY (by rw [hpv.out]; exact hl2)
        obtain ⟨nv0, hn0⟩ : ∃ mm, (Y2 ++ (pv.take j).flatMap txt).length = mm := ⟨_, rfl⟩
        have hnb0 : nv0 ≤ 20000 := by omega
        obtain ⟨av0, cv0, rfl, hby0, hnil0⟩ := own_form ho0 hn0
        by_cases hlt : j < m2
        · have hlt' : j < pv.length := by rw [hpv.out]; exact hlt
          obtain ⟨b, off, rfl, e0⟩ := (h2.later (by rw [hBB]; exact HB)).at hlt'
          have hs := hszT pv[j] (List.getElem_mem hlt')
          have HF := hid (flat_succ txt hlt' Y2)
          obtain ⟨x, HX⟩ : ∃ s, Hid (pv[j] = s) := ⟨_, hid rfl⟩
          rw [HX.out] at e0 hs HF
          have hT1 := txt_le x
          have q1 : wr.cell? ⟨k0, 2, none⟩ = some (.slice (some ⟨b, off, none⟩) m2 c2) := R0.cell 2
          go_wp2_with fail
          refine (Pack.ref_putText x hs av0 nv0 cv0 _ wr hn0 hby0 hnil0 (by omega)).mono ?_
          rintro _ u1 ⟨v, rfl, ho1, hb⟩
          obtain ⟨nv1, hn1⟩ : ∃ mm, ((Y2 ++ (pv.take j).flatMap txt) ++ txt x).length = mm := ⟨_, rfl⟩
          have hnb1 : nv1 ≤ 21000 := by rw [← hn1, List.length_append, hn0]; first | (rw [Pack.be_length]; omega) | omega
          obtain ⟨av1, cv1, rfl, hby1, hnil1⟩ := own_form ho1 hn1
          replace R0 := R0.later hb
          replace ho1 := ho1.mono (show B ≤ wr.heap.size by have := HB.size; omega)
          replace HB := HB.trans (hb.mono (by have := HB.size; omega))
          clear hb hby0 hnil0 ho0
          have HOW : Own u1 B (.slice av1 nv1 cv1) (Y2 ++ (pv.take (j + 1)).flatMap txt) := by
            have := ho1
            rwa [HF.out] at this
          clear q1 e0
          go_wp2
          go_roundw
          case rel => exact ⟨j + 1, by omega, by go_num, HOW, R0, HB⟩
          case measure => simp [intOf]; omega
        · obtain rfl : m2 = j := by omega
          clear hlt hlen hj
          rw [flat_all txt hpv.out] at ho0 hby0 hn0
          clear hlY
          generalize wr = w4 at *
          have hoN := World.ownsRow.alloc ho0 (.cells #[.int .u8 (m4 : Int)] 5)
          have hbN := Pack.digits_lie w4 #[.int .u8 (m4 : Int)] (0, 0) [(m4 : Int)] rfl
          have HBN := HB.alloc (by have := HB.size; omega) (.cells #[.int .u8 (m4 : Int)] 5)
          have RN := R0.alloc (.cells #[.int .u8 (m4 : Int)] 5)
          have hBN : B ≤ (w4.alloc (.cells #[.int .u8 (m4 : Int)] 5)).heap.size := by rw [← hBB]; exact HBN.size
          have q1 : w4.cell? ⟨k0, 4, none⟩ = some (.slice a4 m4 c4) := R0.cell 4
          have HE3 : Hid ((Y2 ++ pv.flatMap txt) ++ be 1 m4 = (((be 1 2 ++ be 1 m3) ++ ks.flatMap wE) ++ pv.flatMap txt) ++ be 1 m4) := hid (by rw [HE2.out])
          clear R0 HB HE2
          go_wp2_with (at_builtin; refine Pack.app rfl (.tmp 115) (.tmp 120) rfl B _ (Y2 ++ pv.flatMap txt) rfl hoN (some ⟨w4.heap.size, 0, none⟩) 1 1 [(m4 : Int)] rfl (fun h => by cases h) rfl hbN (by rw [hn0]; omega) hBN ?_; intro v1 w5 hoY hg1; have R0 := RN.grown hg1 (fun e => by have := (World.ownsRow.lt hoN k0 e.symm).1; omega); have HB := HBN.grown hg1 hBN (fun j e => (World.ownsRow.lt hoN j e).1); have q1 : w5.cell? ⟨k0, 4, none⟩ = some (.slice a4 m4 c4) := R0.cell 4; rw [Pack.be_1 m4 (by omega)] at hoY; obtain ⟨ny, hny⟩ : ∃ mm, ((Y2 ++ pv.flatMap txt) ++ be 1 m4).length = mm := ⟨_, rfl⟩; obtain ⟨ay, cy, rfl, _, _⟩ := own_form hoY hny)
          have hlY : ((Y2 ++ pv.flatMap txt) ++ be 1 m4).length ≤ 20001 := by rw [List.length_append, hn0, Pack.be_length]; omega
          clear q1 hoN hbN HBN RN hby0 hnil0 ho0 hn0
          generalize (Y2 ++ pv.flatMap txt) ++ be 1 m4 = Y3 at *
          go_loopw [5, 9, 125] (fun v _ i wr => ∃ j : Nat, j ≤ m4 ∧ i = .int .i64 j ∧ Own wr B v (Y3 ++ (bf.take j).flatMap wM) ∧ Row wr k0 #[.bool false, .slice a1 m1 c1, .slice a2 m2 c2, .slice a3 m3 c3, .slice a4 m4 c4] 27 ∧ Below B w0 wr) (fun _ _ i _ => m4 - (intOf i).toNat)
          case atStart => exact ⟨0, Nat.zero_le _, rfl, by simpa using hoY, R0, HB⟩
          case round =>
            clear R0 HB
            obtain ⟨j, hj, rfl, ho0, R0, HB⟩ := hrel
            have hlen := flat_bound bf j Y3 wM_le hlY (by rw [hbf.out]; exact hl4)
            obtain ⟨nv0, hn0⟩ : ∃ mm, (Y3 ++ (bf.take j).flatMap wM).length = mm := ⟨_, rfl⟩
            have hnb0 : nv0 ≤ 40000 := by omega
            obtain ⟨av0, cv0, rfl, hby0, hnil0⟩ := own_form ho0 hn0
            by_cases hlt : j < m4
            · have hlt' : j < bf.length := by rw [hbf.out]; exact hlt
              obtain ⟨b, off, rfl, six⟩ := (h4.later (by rw [hBB]; exact HB)).at hlt'
              have hs := hszM bf[j] (List.getElem_mem hlt')
              have HF := hid (flat_succ wM hlt' Y3)
              obtain ⟨x, HX⟩ : ∃ s, Hid (bf[j] = s) := ⟨_, hid rfl⟩
              rw [HX.out] at six hs HF
              obtain ⟨kd, ky, vl, bk, dp, ad⟩ := x
              obtain ⟨hq0, hq1, hb0, hb1, hd0, hd1, hs1, hs2, hs3⟩ := hs
              dsimp only at hq0 hq1 hb0 hb1 hd0 hd1 hs1 hs2 hs3
              obtain ⟨qn, rfl⟩ := Int.eq_ofNat_of_zero_le hq0
              obtain ⟨bn, rfl⟩ := Int.eq_ofNat_of_zero_le hb0
              obtain ⟨dn, rfl⟩ := Int.eq_ofNat_of_zero_le hd0
              replace hq1 : qn < 256 := by omega
              replace hb1 : bn < 4294967296 := by omega
              replace hd1 : dn < 65536 := by omega
              clear hb0 hd0 hq0
              have hT1 := txt_le ky
              have hT2 := txt_le vl
              have hT3 := txt_le ad
              have q1 : wr.cell? ⟨k0, 4, none⟩ = some (.slice (some ⟨b, off, none⟩) m4 c4) := R0.cell 4
              obtain ⟨e0, e1, e2, e3, e4, e5⟩ := six
              dsimp only at e0 e1 e2 e3 e4 e5
              have HVL := hid (fun j' (e : (Value.slice av0 nv0 cv0).ownBlock = some j') => (World.ownsRow.lt ho0 j' e).2)
              have R5 := Row.new wr #[.int .u8 (qn : Int), .string ky, .string vl, .int .u32 (bn : Int), .int .u16 (dn : Int), .string ad] 60
              replace R0 := R0.alloc (.cells #[.int .u8 (qn : Int), .string ky, .string vl, .int .u32 (bn : Int), .int .u16 (dn : Int), .string ad] 60)
              replace ho0 : Own (wr.alloc (.cells #[.int .u8 (qn : Int), .string ky, .string vl, .int .u32 (bn : Int), .int .u16 (dn : Int), .string ad] 60)) B _ _ := World.ownsRow.alloc ho0 _
              replace HB := HB.alloc (by have := HB.size; omega) (.cells #[.int .u8 (qn : Int), .string ky, .string vl, .int .u32 (bn : Int), .int .u16 (dn : Int), .string ad] 60)
              have hk5 := HB.size
              go_upto_region 33 with fail
              generalize hW : wr.alloc (.cells #[.int .u8 (qn : Int), .string ky, .string vl, .int .u32 (bn : Int), .int .u16 (dn : Int), .string ad] 60) = uz at *
              clear hW e0 e1 e2 e3 e4 e5 q1 hby0
              generalize hk5' : wr.heap.size = k5 at *
              have f0 : uz.cell? ⟨k5, 0, none⟩ = some (.int .u8 (qn : Int)) := R5.cell 0
              have t5 := R5.lt
              have hoN := World.ownsRow.alloc ho0 (.cells #[.int .u8 (qn : Int)] 5)
              have hbN := Pack.digits_lie uz #[.int .u8 (qn : Int)] (0, 0) [(qn : Int)] rfl
              have HBN := HB.alloc (by have := HB.size; omega) (.cells #[.int .u8 (qn : Int)] 5)
              have RN := R0.alloc (.cells #[.int .u8 (qn : Int)] 5)
              have RN5 := R5.alloc (.cells #[.int .u8 (qn : Int)] 5)
              have hBN : B ≤ (uz.alloc (.cells #[.int .u8 (qn : Int)] 5)).heap.size := by rw [← hBB]; exact HBN.size
              clear R0 HB R5
              go_wp2_with (at_builtin; refine Pack.app rfl (.tmp 133) (.tmp 136) rfl B _ (Y3 ++ (bf.take j).flatMap wM) rfl hoN (some ⟨uz.heap.size, 0, none⟩) 1 1 [(qn : Int)] rfl (fun h => by cases h) rfl hbN (by rw [hn0]; omega) hBN ?_; intro v1 u0 ho1 hg1; have R0 := RN.grown hg1 (fun e => by have := (World.ownsRow.lt hoN k0 e.symm).1; omega); have R5 := RN5.grown hg1 (fun e => by have := HVL.out k5 e.symm; omega); have HB := HBN.grown hg1 hBN (fun j e => (World.ownsRow.lt hoN j e).1); rw [Pack.be_1 qn hq1] at ho1; obtain ⟨nv1, hn1⟩ : ∃ mm, ((Y3 ++ (bf.take j).flatMap wM) ++ be 1 qn).length = mm := ⟨_, rfl⟩; obtain ⟨av1, cv1, rfl, hby1, hnil1⟩ := own_form ho1 hn1; have q1 : u0.cell? ⟨k5, 1, none⟩ = some (.string ky) := R5.cell 1)
              clear hoN hbN HBN RN RN5 f0
              have hnb1 : nv1 ≤ 40001 := by rw [← hn1, List.length_append, hn0, Pack.be_length]; omega
              go_wp2_with fail
              refine (Pack.ref_putText ky hs1 av1 nv1 cv1 _ u0 hn1 hby1 hnil1 (by omega)).mono ?_
              rintro _ u1 ⟨v, rfl, ho2, hb⟩
              obtain ⟨nv2, hn2⟩ : ∃ mm, (((Y3 ++ (bf.take j).flatMap wM) ++ be 1 qn) ++ txt ky).length = mm := ⟨_, rfl⟩
              have hnb2 : nv2 ≤ 40300 := by rw [← hn2, List.length_append, hn1]; first | (rw [Pack.be_length]; omega) | omega
              obtain ⟨av2, cv2, rfl, hby2, hnil2⟩ := own_form ho2 hn2
              replace R0 := R0.later hb
              replace ho2 := ho2.mono (show B ≤ u0.heap.size by have := HB.size; omega)
              replace HB := HB.trans (hb.mono (by have := HB.size; omega))
              replace R5 := R5.later hb
              clear hb hby1 hnil1 ho1
              clear q1
              by_cases m1 : qn = 1
              · subst m1
                have hR : Row u1 k5 #[.int .u8 1, .string ky, .string vl, .int .u32 (bn : Int), .int .u16 (dn : Int), .string ad] 60 := R5
                replace R5 := hR
                clear hR
                have q1 : u1.cell? ⟨k5, 0, none⟩ = some (.int .u8 1) := R5.cell 0
                have q2 : u1.cell? ⟨k5, 2, none⟩ = some (.string vl) := R5.cell 2
                go_wp2_with fail
                refine (Pack.ref_putText vl hs2 av2 nv2 cv2 _ u1 hn2 hby2 hnil2 (by omega)).mono ?_
                rintro _ u2 ⟨v, rfl, ho3, hb⟩
                obtain ⟨nv3, hn3⟩ : ∃ mm, ((((Y3 ++ (bf.take j).flatMap wM) ++ be 1 1) ++ txt ky) ++ txt vl).length = mm := ⟨_, rfl⟩
                have hnb3 : nv3 ≤ 40600 := by rw [← hn3, List.length_append, hn2]; first | (rw [Pack.be_length]; omega) | omega
                obtain ⟨av3, cv3, rfl, hby3, hnil3⟩ := own_form ho3 hn3
                replace R0 := R0.later hb
                replace ho3 := ho3.mono (show B ≤ u1.heap.size by have := HB.size; omega)
                replace HB := HB.trans (hb.mono (by have := HB.size; omega))
                replace R5 := R5.later hb
                clear hb hby2 hnil2 ho2
                clear q1 q2
                have q1 : u2.cell? ⟨k5, 0, none⟩ = some (.int .u8 1) := R5.cell 0
                have HOW : Own u2 B (.slice av3 nv3 cv3) (Y3 ++ (bf.take (j + 1)).flatMap wM) := by
                  have := ho3
                  rw [show (((Y3 ++ (bf.take j).flatMap wM) ++ be 1 1) ++ txt ky) ++ txt vl = (Y3 ++ (bf.take j).flatMap wM) ++ wM ⟨((1 : Nat) : Int), ky, vl, (bn : Int), (dn : Int), ad⟩ by
                    show _ = (Y3 ++ (bf.take j).flatMap wM) ++ (be 1 1 ++ (txt ky ++ txt vl))
                    simp only [List.append_assoc], HF.out] at this
                  exact this
                go_wp2
                go_roundw
                case rel => exact ⟨j + 1, by omega, by go_num, HOW, R0, HB⟩
                case measure => simp [intOf]; omega
              · by_cases m3' : qn = 3
                · subst m3'
                  have hR : Row u1 k5 #[.int .u8 3, .string ky, .string vl, .int .u32 (bn : Int), .int .u16 (dn : Int), .string ad] 60 := R5
                  replace R5 := hR
                  clear hR m1
                  have q1 : u1.cell? ⟨k5, 0, none⟩ = some (.int .u8 3) := R5.cell 0
                  have q2 : u1.cell? ⟨k5, 3, none⟩ = some (.int .u32 (bn : Int)) := R5.cell 3
                  go_wp2_with fail
                  refine (Pack.ref_put_4 bn (by omega) av2 nv2 cv2 _ u1 hn2 hby2 hnil2 (by omega)).mono ?_
                  rintro _ u2 ⟨v, rfl, ho3, hb⟩
                  obtain ⟨nv3, hn3⟩ : ∃ mm, ((((Y3 ++ (bf.take j).flatMap wM) ++ be 1 3) ++ txt ky) ++ be 4 bn).length = mm := ⟨_, rfl⟩
                  have hnb3 : nv3 ≤ 40304 := by rw [← hn3, List.length_append, hn2]; first | (rw [Pack.be_length]; omega) | omega
                  obtain ⟨av3, cv3, rfl, hby3, hnil3⟩ := own_form ho3 hn3
                  replace R0 := R0.later hb
                  replace ho3 := ho3.mono (show B ≤ u1.heap.size by have := HB.size; omega)
                  replace HB := HB.trans (hb.mono (by have := HB.size; omega))
                  replace R5 := R5.later hb
                  clear hb hby2 hnil2 ho2
                  clear q1 q2
                  have q1 : u2.cell? ⟨k5, 4, none⟩ = some (.int .u16 (dn : Int)) := R5.cell 4
                  go_wp2_with fail
                  refine (Pack.ref_put_2 dn (by omega) av3 nv3 cv3 _ u2 hn3 hby3 hnil3 (by omega)).mono ?_
                  rintro _ u3 ⟨v, rfl, ho4, hb⟩
                  obtain ⟨nv4, hn4⟩ : ∃ mm, (((((Y3 ++ (bf.take j).flatMap wM) ++ be 1 3) ++ txt ky) ++ be 4 bn) ++ be 2 dn).length = mm := ⟨_, rfl⟩
                  have hnb4 : nv4 ≤ 40306 := by rw [← hn4, List.length_append, hn3]; first | (rw [Pack.be_length]; omega) | omega
                  obtain ⟨av4, cv4, rfl, hby4, hnil4⟩ := own_form ho4 hn4
                  replace R0 := R0.later hb
                  replace ho4 := ho4.mono (show B ≤ u2.heap.size by have := HB.size; omega)
                  replace HB := HB.trans (hb.mono (by have := HB.size; omega))
                  replace R5 := R5.later hb
                  clear hb hby3 hnil3 ho3
                  clear q1
                  have q1 : u3.cell? ⟨k5, 5, none⟩ = some (.string ad) := R5.cell 5
                  go_wp2_with fail
                  refine (Pack.ref_putText ad hs3 av4 nv4 cv4 _ u3 hn4 hby4 hnil4 (by omega)).mono ?_
                  rintro _ u4 ⟨v, rfl, ho5, hb⟩
                  obtain ⟨nv5, hn5⟩ : ∃ mm, ((((((Y3 ++ (bf.take j).flatMap wM) ++ be 1 3) ++ txt ky) ++ be 4 bn) ++ be 2 dn) ++ txt ad).length = mm := ⟨_, rfl⟩
                  have hnb5 : nv5 ≤ 40600 := by rw [← hn5, List.length_append, hn4]; first | (rw [Pack.be_length]; omega) | omega
                  obtain ⟨av5, cv5, rfl, hby5, hnil5⟩ := own_form ho5 hn5
                  replace R0 := R0.later hb
                  replace ho5 := ho5.mono (show B ≤ u3.heap.size by have := HB.size; omega)
                  replace HB := HB.trans (hb.mono (by have := HB.size; omega))
                  replace R5 := R5.later hb
                  clear hb hby4 hnil4 ho4
                  clear q1
                  have HOW : Own u4 B (.slice av5 nv5 cv5) (Y3 ++ (bf.take (j + 1)).flatMap wM) := by
                    have := ho5
                    rw [show (((((Y3 ++ (bf.take j).flatMap wM) ++ be 1 3) ++ txt ky) ++ be 4 bn) ++ be 2 dn) ++ txt ad = (Y3 ++ (bf.take j).flatMap wM) ++ wM ⟨((3 : Nat) : Int), ky, vl, (bn : Int), (dn : Int), ad⟩ by
                      show _ = (Y3 ++ (bf.take j).flatMap wM) ++ (be 1 3 ++ (txt ky ++ (be 4 bn ++ (be 2 dn ++ txt ad))))
                      simp only [List.append_assoc], HF.out] at this
                    exact this
                  go_wp2
                  go_roundw
                  case rel => exact ⟨j + 1, by omega, by go_num, HOW, R0, HB⟩
                  case measure => simp [intOf]; omega
                · have hne1 : ((qn : Int) == 1) = false := by simp; omega
                  have hne3 : ((qn : Int) == 3) = false := by simp; omega
                  have q1 : u1.cell? ⟨k5, 0, none⟩ = some (.int .u8 (qn : Int)) := R5.cell 0
                  have HOW : Own u1 B (.slice av2 nv2 cv2) (Y3 ++ (bf.take (j + 1)).flatMap wM) := by
                    have := ho2
                    rw [List.append_assoc (Y3 ++ (bf.take j).flatMap wM), ← wM_none qn (bn : Int) (dn : Int) ky vl ad m1 m3', HF.out] at this
                    exact this
                  clear m1 m3'
                  go_wp2
                  go_roundw
                  case rel => exact ⟨j + 1, by omega, by go_num, HOW, R0, HB⟩
                  case measure => simp [intOf]; omega
            · obtain rfl : m4 = j := by omega
              clear hlt hlen hj
              rw [flat_all wM hbf.out, HE3.out] at ho0
              simp only [List.append_assoc] at ho0
              rw [← HZ.out] at ho0
              have HWW := hid (HW.out wr _ _ (ho0.mono (show k0 ≤ B by omega)))
              go_wp2
              exact bodyPost_ret (v := .tuple #[.slice av0 nv0 cv0, .int .i64 0]) (by simp [results, Try.results9, go_sem]) rfl ⟨_, rfl, by first | exact HWW.out | (rw [hk0]; exact HWW.out), by rw [hk0]; exact HB0.trans (HB.mono (by omega))⟩
end Go.Proofs.Ytjegpcmejlffhaa.Cod
