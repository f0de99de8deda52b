/-
  Contract of the program's putFork.
-/
import Derived.Test.YtjegpcmejlffhaaPutC
namespace Go.Proofs.Ytjegpcmejlffhaa.Cod
set_option linter.unusedSimpArgs false
set_option linter.unusedVariables false
open Go.RowKit
open Pack (be txt Own Bytes)
open Key (M E Pr Nd Pl nv Lies mayI ev mv)

/-- what an edge, a message must have to be written -/
structure FitE (e : E) : Prop where
  b0 : 0 ≤ e.blk
  b1 : e.blk < 4294967296
  d0 : 0 ≤ e.deep
  d1 : e.deep < 65536
  h1 : e.strip.size ≤ maxLen
  h2 : e.add.size ≤ maxLen
structure FitM (m : M) : Prop where
  q0 : 0 ≤ m.kind
  q1 : m.kind < 256
  b0 : 0 ≤ m.blk
  b1 : m.blk < 4294967296
  d0 : 0 ≤ m.deep
  d1 : m.deep < 65536
  h1 : m.key.size ≤ maxLen
  h2 : m.val.size ≤ maxLen
  h3 : m.add.size ≤ maxLen

set_option maxRecDepth 100000 in
set_option maxHeartbeats 4000000 in
theorem putFork18 (n : Nd) (p : Pl) (w : World) (h : Lies w n p) (hl2 : n.pv.length ≤ 16) (hl3 : n.ks.length ≤ 16) (hl4 : n.bf.length ≤ 16) (hszT : ∀ x ∈ n.pv, x.size ≤ maxLen) (hszE : ∀ x ∈ n.ks, FitE x) (hszM : ∀ x ∈ n.bf, FitM x) :
    Calls Try.prog 18 #[nv n p] w fun x w' => ∃ v, x = .returned v ∧ Own w' w.heap.size v (wFork n) ∧ Below w.heap.size w w' := by
  obtain ⟨lf, ps, pv, ks, bf⟩ := n
  obtain ⟨a1, c1, a2, c2, a3, c3, a4, c4⟩ := p
  obtain ⟨_, h2, h3, h4⟩ := h
  have HZ : Hid (wFork ⟨lf, ps, pv, ks, bf⟩ = be 1 2 ++ (be 1 ks.length ++ (ks.flatMap wE ++ (pv.flatMap txt ++ (be 1 bf.length ++ bf.flatMap wM))))) := rfl
  generalize wFork ⟨lf, ps, pv, ks, bf⟩ = Z at *
  dsimp only [nv] at *
  generalize ps.length = m1 at *
  generalize hpv : pv.length = m2 at *
  generalize hks : ks.length = m3 at *
  generalize hbf : bf.length = m4 at *
  replace hpv := hid hpv
  replace hks := hid hks
  replace hbf := hid hbf
  have R0 := Row.new w #[.bool lf, .slice a1 m1 c1, .slice a2 m2 c2, .slice a3 m3 c3, .slice a4 m4 c4] 27
  have HB := one_box w (.cells #[.bool lf, .slice a1 m1 c1, .slice a2 m2 c2, .slice a3 m3 c3, .slice a4 m4 c4] 27)
  replace h2 := h2.later HB
  replace h3 := h3.later HB
  replace h4 := h4.later HB
  go_enter Try.func18, Try.ntmps18
  go_upto_region 1 with fail
  generalize hW : w.alloc (.cells #[.bool lf, .slice a1 m1 c1, .slice a2 m2 c2, .slice a3 m3 c3, .slice a4 m4 c4] 27) = w0 at *
  clear hW
  generalize hk0 : w.heap.size = k0 at *
  have hm0 := Nat.zero_le 0
  have hby0 : Bytes w0 none [] := .inl rfl
  have hnil0 : (none : Option Addr) = none → 0 = 0 ∧ 0 = 0 := fun _ => ⟨rfl, rfl⟩
  have hn0 : ([] : List Int).length = 0 := rfl
  go_wp2_with fail
  refine (Pack.Put_1 2 (by decide) none 0 0 [] w0 rfl (.inl rfl) (fun _ => ⟨rfl, rfl⟩) (by decide)).mono ?_
  rintro x w1 ⟨v, rfl, ho1, hb⟩
  obtain ⟨n1, hn1⟩ : ∃ mm, ([] ++ be 1 2).length = mm := ⟨_, rfl⟩
  have hm1 : n1 ≤ 1 := by rw [← hn1, List.length_append]; simp only [Pack.be_length, hn0]; omega
  obtain ⟨x1, y1, rfl, hby1, hnil1⟩ := own_form ho1 hn1
  replace R0 := R0.later hb
  replace h2 := h2.later hb
  replace h3 := h3.later hb
  replace h4 := h4.later hb
  have hle1 := HB.size
  replace HB := HB.trans (hb.mono (by omega))
  clear hb hby0 hnil0
  have q1 : w1.cell? ⟨k0, 3, none⟩ = some (.slice a3 m3 c3) := R0.cell 3
  go_wp2_with fail
  refine (Pack.Put_1 m3 (by omega) x1 n1 y1 ([] ++ be 1 2) w1 hn1 hby1 hnil1 (by omega)).mono ?_
  rintro x w2 ⟨v, rfl, ho2, hb⟩
  obtain ⟨n2, hn2⟩ : ∃ mm, (([] ++ be 1 2) ++ be 1 m3).length = mm := ⟨_, rfl⟩
  have hm2 : n2 ≤ 2 := by rw [← hn2, List.length_append]; simp only [Pack.be_length, hn1]; omega
  replace R0 := R0.later hb
  replace h2 := h2.later hb
  replace h3 := h3.later hb
  replace h4 := h4.later hb
  have hle2 := HB.size
  replace HB := HB.trans (hb.mono (by omega))
  clear hb hby1 hnil1 ho1 q1
  have hoY := ho2.mono (show k0 ≤ w1.heap.size by omega)
  have hlY : (([] ++ be 1 2) ++ be 1 m3).length ≤ 2 := by rw [hn2]; exact hm2
  have HE := hid (show ([] ++ be 1 2) ++ be 1 m3 = be 1 2 ++ be 1 m3 by rfl)
  generalize ([] ++ be 1 2) ++ be 1 m3 = Y at *
  clear hn2 ho2
  obtain ⟨x2, y2, rfl, _, _⟩ := own_form hoY rfl
  have q1 : w2.cell? ⟨k0, 3, none⟩ = some (.slice a3 m3 c3) := R0.cell 3
  go_wp2_with fail
  clear q1
  go_loopw [3, 20] (fun v i wr => ∃ j : Nat, j ≤ m3 ∧ i = .int .i64 j ∧ Own wr k0 v (Y ++ (ks.take j).flatMap wE) ∧ Below w2.heap.size w2 wr) (fun _ i _ => m3 - (intOf i).toNat)
  case atStart => exact ⟨0, Nat.zero_le _, rfl, by simpa using hoY, Below.refl _ _⟩
  case round =>
    obtain ⟨j, hj, rfl, ho, hb⟩ := hrel
    have hlen := flat_bound ks j Y wE_le hlY (by rw [hks.out]; exact hl3)
    obtain ⟨nj, hnj⟩ : ∃ m, (Y ++ (ks.take j).flatMap wE).length = m := ⟨_, rfl⟩
    have hnjb : nj ≤ 10000 := by omega
    obtain ⟨av, cv, rfl, hbv, hnilv⟩ := own_form ho hnj
    have hszr := hb.size
    have hbe := HB.size
    by_cases hlt : j < m3
    · have hlt' : j < ks.length := by rw [hks.out]; exact hlt
      obtain ⟨b, off, rfl, four⟩ := (h3.later hb).at hlt'
      have hs := hszE ks[j] (List.getElem_mem hlt')
      have HF := hid (flat_succ wE hlt' Y)
      obtain ⟨x, HX⟩ : ∃ s, Hid (ks[j] = s) := ⟨_, hid rfl⟩
      rw [HX.out] at four hs HF
      have HC := fun (u : World) (hu : Bytes u av (Y ++ (ks.take j).flatMap wE)) => putEdge39 x hs.b0 hs.b1 hs.d0 hs.d1 hs.h1 hs.h2 av nj cv _ u hnj hu hnilv (by omega)
      obtain ⟨bk, dp, st, ad⟩ := x
      obtain ⟨e0, e1, e2, e3⟩ := four
      dsimp only at e0 e1 e2 e3 HC
      replace HC := hid HC
      have R1 := Row.new wr #[.int .u32 bk, .int .u16 dp, .string st, .string ad] 51
      have hbw := one_box wr (.cells #[.int .u32 bk, .int .u16 dp, .string st, .string ad] 51)
      replace hbv := hbv.later hbw
      go_upto_region 6 with fail
      generalize hW : wr.alloc (.cells #[.int .u32 bk, .int .u16 dp, .string st, .string ad] 51) = u0 at *
      clear hW e0 e1 e2 e3
      generalize hk5 : wr.heap.size = k5 at *
      have f0 : u0.cell? ⟨k5, 0, none⟩ = some (.int .u32 bk) := R1.cell 0
      have f1 : u0.cell? ⟨k5, 1, none⟩ = some (.int .u16 dp) := R1.cell 1
      have f2 : u0.cell? ⟨k5, 2, none⟩ = some (.string st) := R1.cell 2
      have f3 : u0.cell? ⟨k5, 3, none⟩ = some (.string ad) := R1.cell 3
      go_wp2_with fail
      refine (HC.out u0 hbv).mono ?_
      rintro x u1 ⟨v, rfl, ho3, hb3⟩
      obtain ⟨n3, hn3⟩ : ∃ m, ((Y ++ (ks.take j).flatMap wE) ++ wE ⟨bk, dp, st, ad⟩).length = m := ⟨_, rfl⟩
      obtain ⟨a3', c3', rfl, _, _⟩ := own_form ho3 hn3
      have hu0 := hbw.size
      have HOW : Own u1 k0 (.slice a3' n3 c3') (Y ++ (ks.take (j + 1)).flatMap wE) := by
        have := ho3.mono (show k0 ≤ u0.heap.size by omega)
        rwa [HF.out] at this
      clear f0 f1 f2 f3
      go_wp2
      go_roundw
      case rel => exact ⟨j + 1, by omega, by go_num, HOW, hb.trans ((hbw.trans (hb3.mono (by omega))).mono (by omega))⟩
      case measure => simp [intOf]; omega
    · obtain rfl : m3 = j := by omega
      clear hlt hlen hj
      replace HB := HB.trans (hb.mono (by omega))
      rw [flat_all wE hks.out] at ho hbv hnj
      replace R0 := R0.later hb
      replace h2 := h2.later hb
      replace h4 := h4.later hb
      clear hb hlY
      generalize wr = w3 at *
      have hoY := ho
      have hlY : (Y ++ ks.flatMap wE).length ≤ 10000 := by rw [hnj]; omega
      have HE2 : Hid (Y ++ ks.flatMap wE = (be 1 2 ++ be 1 m3) ++ ks.flatMap wE) := hid (by rw [HE.out])
      clear HE hbv hnilv ho
      generalize Y ++ ks.flatMap wE = Y2 at *
      clear hnj
      have q1 : w3.cell? ⟨k0, 2, none⟩ = some (.slice a2 m2 c2) := R0.cell 2
      go_wp2_with fail
      clear q1
      go_loopw [3, 7, 31] (fun v _ i wr => ∃ j : Nat, j ≤ m2 ∧ i = .int .i64 j ∧ Own wr k0 v (Y2 ++ (pv.take j).flatMap txt) ∧ Below w3.heap.size w3 wr) (fun _ _ i _ => m2 - (intOf i).toNat)
      case atStart => exact ⟨0, Nat.zero_le _, rfl, by simpa using hoY, Below.refl _ _⟩
      case round =>
        obtain ⟨j, hj, rfl, ho, hb⟩ := hrel
        have hlen := flat_bound pv j Y2 txt_le hlY (by rw [hpv.out]; exact hl2)
        obtain ⟨nj, hnj⟩ : ∃ m, (Y2 ++ (pv.take j).flatMap txt).length = m := ⟨_, rfl⟩
        have hnjb : nj ≤ 20000 := by omega
        obtain ⟨av, cv, rfl, hbv, hnilv⟩ := own_form ho hnj
        have hszr := hb.size
        have hbe := HB.size
        by_cases hlt : j < m2
        · have hlt' : j < pv.length := by rw [hpv.out]; exact hlt
          obtain ⟨b, off, rfl, e0⟩ := (h2.later hb).at hlt'
          have hs := hszT pv[j] (List.getElem_mem hlt')
          have HF := hid (flat_succ txt hlt' Y2)
          obtain ⟨x, HX⟩ : ∃ s, Hid (pv[j] = s) := ⟨_, hid rfl⟩
          rw [HX.out] at e0 hs HF
          go_wp2_with fail
          refine (Pack.PutText_any x hs av nj cv _ wr hnj hbv hnilv (by omega)).mono ?_
          rintro _ u1 ⟨v, rfl, ho3, hb3⟩
          obtain ⟨n3, hn3⟩ : ∃ m, ((Y2 ++ (pv.take j).flatMap txt) ++ txt x).length = m := ⟨_, rfl⟩
          obtain ⟨a3', c3', rfl, _, _⟩ := own_form ho3 hn3
          have HOW : Own u1 k0 (.slice a3' n3 c3') (Y2 ++ (pv.take (j + 1)).flatMap txt) := by
            have := ho3.mono (show k0 ≤ wr.heap.size by omega)
            rwa [HF.out] at this
          clear e0
          go_wp2
          go_roundw
          case rel => exact ⟨j + 1, by omega, by go_num, HOW, hb.trans (hb3.mono (by omega))⟩
          case measure => simp [intOf]; omega
        · obtain rfl : m2 = j := by omega
          clear hlt hlen hj
          replace HB := HB.trans (hb.mono (by omega))
          rw [flat_all txt hpv.out] at ho hbv hnj
          replace R0 := R0.later hb
          replace h4 := h4.later hb
          clear hb hlY
          generalize wr = w4 at *
          have q1 : w4.cell? ⟨k0, 4, none⟩ = some (.slice a4 m4 c4) := R0.cell 4
          go_wp2_with fail
          refine (Pack.Put_1 m4 (by omega) av nj cv _ w4 hnj hbv hnilv (by omega)).mono ?_
          rintro x w5 ⟨v, rfl, ho5, hb⟩
          replace R0 := R0.later hb
          replace h4 := h4.later hb
          have hoY := ho5.mono (show k0 ≤ w4.heap.size by omega)
          have hlY : ((Y2 ++ pv.flatMap txt) ++ be 1 m4).length ≤ 20001 := by rw [List.length_append, hnj, Pack.be_length]; omega
          have HE3 : Hid ((Y2 ++ pv.flatMap txt) ++ be 1 m4 = (((be 1 2 ++ be 1 m3) ++ ks.flatMap wE) ++ pv.flatMap txt) ++ be 1 m4) := hid (by rw [HE2.out])
          clear HE2
          replace HB := HB.trans (hb.mono (by omega))
          generalize (Y2 ++ pv.flatMap txt) ++ be 1 m4 = Y3 at *
          clear hb hbv hnilv ho hnj q1 ho5
          obtain ⟨x2, y2, rfl, _, _⟩ := own_form hoY rfl
          have q1 : w5.cell? ⟨k0, 4, none⟩ = some (.slice a4 m4 c4) := R0.cell 4
          go_wp2_with fail
          clear q1
          go_loopw [3, 48] (fun v i wr => ∃ j : Nat, j ≤ m4 ∧ i = .int .i64 j ∧ Own wr k0 v (Y3 ++ (bf.take j).flatMap wM) ∧ Below w5.heap.size w5 wr) (fun _ i _ => m4 - (intOf i).toNat)
          case atStart => exact ⟨0, Nat.zero_le _, rfl, by simpa using hoY, Below.refl _ _⟩
          case round =>
            obtain ⟨j, hj, rfl, ho, hb⟩ := hrel
            have hlen := flat_bound bf j Y3 wM_le hlY (by rw [hbf.out]; exact hl4)
            obtain ⟨nj, hnj⟩ : ∃ m, (Y3 ++ (bf.take j).flatMap wM).length = m := ⟨_, rfl⟩
            have hnjb : nj ≤ 40000 := by omega
            obtain ⟨av, cv, rfl, hbv, hnilv⟩ := own_form ho hnj
            have hszr := hb.size
            have hbe := HB.size
            by_cases hlt : j < m4
            · have hlt' : j < bf.length := by rw [hbf.out]; exact hlt
              obtain ⟨b, off, rfl, four⟩ := (h4.later hb).at hlt'
              have hs := hszM bf[j] (List.getElem_mem hlt')
              have HF := hid (flat_succ wM hlt' Y3)
              obtain ⟨x, HX⟩ : ∃ s, Hid (bf[j] = s) := ⟨_, hid rfl⟩
              rw [HX.out] at four hs HF
              have HC := fun (u : World) (hu : Bytes u av (Y3 ++ (bf.take j).flatMap wM)) => putMsg40 x hs.q0 hs.q1 hs.b0 hs.b1 hs.d0 hs.d1 hs.h1 hs.h2 hs.h3 av nj cv _ u hnj hu hnilv (by omega)
              obtain ⟨kd, ky, vl, bk, dp, ad⟩ := x
              obtain ⟨e0, e1, e2, e3, e4, e5⟩ := four
              dsimp only at e0 e1 e2 e3 e4 e5 HC
              replace HC := hid HC
              have R1 := Row.new wr #[.int .u8 kd, .string ky, .string vl, .int .u32 bk, .int .u16 dp, .string ad] 60
              have hbw := one_box wr (.cells #[.int .u8 kd, .string ky, .string vl, .int .u32 bk, .int .u16 dp, .string ad] 60)
              replace hbv := hbv.later hbw
              go_upto_region 17 with fail
              generalize hW : wr.alloc (.cells #[.int .u8 kd, .string ky, .string vl, .int .u32 bk, .int .u16 dp, .string ad] 60) = u0 at *
              clear hW e0 e1 e2 e3 e4 e5
              generalize hk5 : wr.heap.size = k5 at *
              have f0 : u0.cell? ⟨k5, 0, none⟩ = some (.int .u8 kd) := R1.cell 0
              have f1 : u0.cell? ⟨k5, 1, none⟩ = some (.string ky) := R1.cell 1
              have f2 : u0.cell? ⟨k5, 2, none⟩ = some (.string vl) := R1.cell 2
              have f3 : u0.cell? ⟨k5, 3, none⟩ = some (.int .u32 bk) := R1.cell 3
              have f4 : u0.cell? ⟨k5, 4, none⟩ = some (.int .u16 dp) := R1.cell 4
              have f5 : u0.cell? ⟨k5, 5, none⟩ = some (.string ad) := R1.cell 5
              go_wp2_with fail
              refine (HC.out u0 hbv).mono ?_
              rintro x u1 ⟨v, rfl, ho3, hb3⟩
              obtain ⟨n3, hn3⟩ : ∃ m, ((Y3 ++ (bf.take j).flatMap wM) ++ wM ⟨kd, ky, vl, bk, dp, ad⟩).length = m := ⟨_, rfl⟩
              obtain ⟨a3', c3', rfl, _, _⟩ := own_form ho3 hn3
              have hu0 := hbw.size
              have HOW : Own u1 k0 (.slice a3' n3 c3') (Y3 ++ (bf.take (j + 1)).flatMap wM) := by
                have := ho3.mono (show k0 ≤ u0.heap.size by omega)
                rwa [HF.out] at this
              clear f0 f1 f2 f3 f4 f5
              go_wp2
              go_roundw
              case rel => exact ⟨j + 1, by omega, by go_num, HOW, hb.trans ((hbw.trans (hb3.mono (by omega))).mono (by omega))⟩
              case measure => simp [intOf]; omega
            · obtain rfl : m4 = j := by omega
              clear hlt hlen hj
              replace HB := HB.trans (hb.mono (by omega))
              rw [flat_all wM hbf.out, HE3.out] at ho
              simp only [List.append_assoc] at ho
              rw [← HZ.out] at ho
              go_wp2
              go_ret
              exact ⟨_, rfl, by rw [hk0]; exact ho, by rw [hk0]; exact HB⟩
end Go.Proofs.Ytjegpcmejlffhaa.Cod
