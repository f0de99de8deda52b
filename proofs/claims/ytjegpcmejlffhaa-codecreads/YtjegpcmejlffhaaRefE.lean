/-
  Contract of the document's Get: a leaf.
-/
import Derived.Test.YtjegpcmejlffhaaFr
import Derived.Test.YtjegpcmejlffhaaRefC
import Derived.Test.YtjegpcmejlffhaaPn
import Derived.Test.YtjegpcmejlffhaaGetH
import Derived.Test.YtjegpcmejlffhaaRefMay2
import Derived.Test.YtjegpcmejlffhaaRefD
namespace Go.Proofs.Ytjegpcmejlffhaa.Cod
set_option linter.unusedSimpArgs false
set_option linter.unusedVariables false
open Go.RowKit
open Key (M E Pr Nd Pl nv Lies mayI ev mv)

set_option maxRecDepth 100000 in
set_option maxHeartbeats 1500000 in
theorem rget12_leaf {a : Option Addr} {n c : Nat} {zs : List Int} (w : World) (h : Doc w a n c zs) (hq12 : (rNum 1 zs ⟨0, 0⟩).1 = 1) :
    Calls Try.prog 12 #[.slice a n c] w fun x w' => ∃ (nd : Nd) (e : Int), Hid (getN rM' zs = (nd, e)) ∧ ∃ p, x = .returned (.tuple #[nv nd p, .int .i64 e]) ∧ OwnN w' w.heap.size nd p ∧ Less nd ∧ Below w.heap.size w w' := by
  obtain ⟨R0, R1, R2, HB, hsz⟩ := three_boxes w #[.bool false, .slice none 0 0, .slice none 0 0, .slice none 0 0, .slice none 0 0] #[.bool false, .slice none 0 0, .slice none 0 0, .slice none 0 0, .slice none 0 0] #[.bool false, .slice none 0 0, .slice none 0 0, .slice none 0 0, .slice none 0 0] 27 27 27
  have hlen := hid h.len
  have hbyt := hid h.byt
  have hd0 := h.later HB
  go_enter Try.func12, Try.ntmps12
  go_upto_region 3 with fail
  generalize hW : ((w.alloc (.cells #[.bool false, .slice none 0 0, .slice none 0 0, .slice none 0 0, .slice none 0 0] 27)).alloc (.cells #[.bool false, .slice none 0 0, .slice none 0 0, .slice none 0 0, .slice none 0 0] 27)).alloc (.cells #[.bool false, .slice none 0 0, .slice none 0 0, .slice none 0 0, .slice none 0 0] 27) = W0 at *
  clear hW
  generalize hk0 : w.heap.size = k0 at *
  generalize hk1 : k0 + 1 = k1 at *
  generalize hk2 : k1 + 1 = k2 at *
  go_wp2_with fail
  refine (rget (s := ⟨0, 0⟩) hd0 (Nat.zero_le _) 1 (by decide) (by decide)).mono ?_
  rintro x w1 ⟨q, s1, hs1, hq, hp1, rfl, hb⟩
  have m1 : q = 1 := by have := hq12; rw [hs1.out] at this; exact this
  have hqi : (q : Int) = 1 := by omega
  rw [hqi]
  have M1 := hid m1
  have HE0 := hid (num_zero hs1.out (show q ≠ 0 by omega))
  clear hq12 m1 hqi
  replace R0 := (R0.later hb).alloc (.cells #[.slice a n c, .int .i64 (s1.p : Int), .int .i64 s1.e] 70)
  replace R1 := (R1.later hb).alloc (.cells #[.slice a n c, .int .i64 (s1.p : Int), .int .i64 s1.e] 70)
  replace R2 := (R2.later hb).alloc (.cells #[.slice a n c, .int .i64 (s1.p : Int), .int .i64 s1.e] 70)
  have R3 := Row.new w1 #[.slice a n c, .int .i64 (s1.p : Int), .int .i64 s1.e] 70
  have hb1 := hb.size
  replace HB := (HB.trans (hb.mono (by omega))).alloc (by omega) (.cells #[.slice a n c, .int .i64 (s1.p : Int), .int .i64 s1.e] 70)
  have hsz1 : (w1.alloc (.cells #[.slice a n c, .int .i64 (s1.p : Int), .int .i64 s1.e] 70)).heap.size = w1.heap.size + 1 := by simp
  clear hb hd0
  go_upto_region 4 with fail
  generalize hW : w1.alloc (.cells #[.slice a n c, .int .i64 (s1.p : Int), .int .i64 s1.e] 70) = W1 at *
  clear hW
  generalize hk3 : w1.heap.size = k3 at *
  have F : Fr w W1 (k3 + 1) k0 k1 k2 k3 zeros a n c s1 := ⟨R0, R1, R2, R3, by rw [hk0]; exact HB, by omega, by omega, by omega, by omega, by omega, by omega⟩
  have hkB : k2 < k3 + 1 := by omega
  have hkB3 : k3 < k3 + 1 := by omega
  clear R0 R1 R2 R3 HB hsz hsz1 hb1 hk0 hk1 hk2 hk3
  generalize hB : k3 + 1 = B at *
  clear hB
  have c2 : W1.cell? ⟨k3, 2, none⟩ = some (.int .i64 0) := by rw [← HE0.out]; exact F.r3.cell 2
  have g0 := F.r2.free 0
  have z0 : W1.cell? ⟨k2, 0, none⟩ = some (.bool false) := F.r2.cell 0
  replace F := F.set2 0 (.bool true)
  simp only [zeros, List.setIfInBounds_toArray, List.set_cons_zero, List.set_cons_succ] at F
  go_upto_region 8 with fail
  clear c2 g0 z0
  generalize hW : W1.setCell ⟨k2, 0, none⟩ (.bool true) = W2 at *
  clear hW
  obtain ⟨c0, c1, c2, _, _, _⟩ := F.rd
  have hd := F.doc h
  go_wp2_with fail
  refine (rcount27 hd hp1 16 (by decide)).mono ?_
  rintro x w3 ⟨cn, s2, hs2, hcn, hp2, rfl, hb⟩
  clear c0 c1 c2 hd
  replace F := (F.later hb).alloc (.cells #[.slice a n c, .int .i64 (s2.p : Int), .int .i64 s2.e] 70)
  have R4 := Row.new w3 #[.slice a n c, .int .i64 (s2.p : Int), .int .i64 s2.e] 70
  clear hb
  go_upto_region 9 with fail
  generalize hW : w3.alloc (.cells #[.slice a n c, .int .i64 (s2.p : Int), .int .i64 s2.e] 70) = W3 at *
  clear hW
  generalize hk4 : w3.heap.size = k4 at *
  obtain ⟨c0, c1, c2, f0, f1, f2⟩ := F.rd
  have e0 : W3.cell? ⟨k4, 0, none⟩ = some (.slice a n c) := R4.cell 0
  have e1 : W3.cell? ⟨k4, 1, none⟩ = some (.int .i64 (s2.p : Int)) := R4.cell 1
  have e2 : W3.cell? ⟨k4, 2, none⟩ = some (.int .i64 s2.e) := R4.cell 2
  replace F := F.setR s2
  go_upto_region 10 with fail
  clear c0 c1 c2 f0 f1 f2 e0 e1 e2
  generalize hW : ((W3.setCell ⟨k3, 0, none⟩ (.slice a n c)).setCell ⟨k3, 1, none⟩ (.int .i64 (s2.p : Int))).setCell ⟨k3, 2, none⟩ (.int .i64 s2.e) = W4 at *
  clear hW
  clear R4 hk4
  replace F := F.base (B' := W4.heap.size) (by have := F.o4; have := F.o5; omega) (Nat.le_refl _)
  replace hkB : k2 < W4.heap.size := by have := F.o3; have := F.o4; omega
  replace hkB3 : k3 < W4.heap.size := F.o4
  generalize hB' : W4.heap.size = B' at *
  clear hB'
  go_wp2_with fail
  go_loopw [10, 11, 13] (fun i _ _ wr => ∃ j : Nat, j ≤ cn ∧ i = .int .i64 j ∧ ∃ (l : List Pr) (s' : St), Hid (rMany rP j zs s2 = (l, s')) ∧ s'.p ≤ n ∧ ∃ (av : Option Addr) (cv : Nat), OwnL kP wr B' (.slice av l.length cv) l ∧ Fr w wr B' k0 k1 k2 k3 #[.bool true, .slice av l.length cv, .slice none 0 0, .slice none 0 0, .slice none 0 0] a n c s') (fun i _ _ _ => cn - (intOf i).toNat)
  case atStart => exact ⟨0, Nat.zero_le _, rfl, [], s2, rfl, hp2, none, 0, OwnL.nil _ _ _, F⟩
  case round =>
    clear F
    obtain ⟨j, hj, rfl, l, s3, hl, hp3, av, cv, ho, F⟩ := hrel
    have hlj : l.length = j := by
      have h := many_len rP zs s2 j
      rw [hl.out] at h
      exact h
    have hlj' : l.length ≤ 1000 := by omega
    have HLJ := hid hlj
    clear hlj
    by_cases hlt : j < cn
    · obtain ⟨c0, c1, c2, _, _, _⟩ := F.rd
      have hd := F.doc h
      go_wp2_with fail
      refine (rtext hd hp3 16).mono ?_
      rintro x u1 ⟨v1, s4, hs4, hp4, rfl, hb⟩
      clear c0 c1 c2 hd
      replace F := (F.later hb).alloc (.cells #[.slice a n c, .int .i64 (s4.p : Int), .int .i64 s4.e] 70)
      have R5 := Row.new u1 #[.slice a n c, .int .i64 (s4.p : Int), .int .i64 s4.e] 70
      replace ho := (ho.later hb).alloc (.cells #[.slice a n c, .int .i64 (s4.p : Int), .int .i64 s4.e] 70)
      clear hb
      go_upto_region 14 with fail
      generalize hW : u1.alloc (.cells #[.slice a n c, .int .i64 (s4.p : Int), .int .i64 s4.e] 70) = U1 at *
      clear hW
      generalize hk5 : u1.heap.size = k5 at *
      have c0 : U1.cell? ⟨k5, 0, none⟩ = some (.slice a n c) := R5.cell 0
      have c1 : U1.cell? ⟨k5, 1, none⟩ = some (.int .i64 (s4.p : Int)) := R5.cell 1
      have c2 : U1.cell? ⟨k5, 2, none⟩ = some (.int .i64 s4.e) := R5.cell 2
      have hd := F.doc h
      go_wp2_with fail
      refine (rtext hd hp4 32).mono ?_
      rintro x u2 ⟨v2, s5, hs5, hp5, rfl, hb⟩
      clear c0 c1 c2 hd
      replace F := (F.later hb).alloc (.cells #[.slice a n c, .int .i64 (s5.p : Int), .int .i64 s5.e] 70)
      have R6 := Row.new u2 #[.slice a n c, .int .i64 (s5.p : Int), .int .i64 s5.e] 70
      replace ho := (ho.later hb).alloc (.cells #[.slice a n c, .int .i64 (s5.p : Int), .int .i64 s5.e] 70)
      clear hb
      go_upto_region 15 with fail
      generalize hW : u2.alloc (.cells #[.slice a n c, .int .i64 (s5.p : Int), .int .i64 s5.e] 70) = U2 at *
      clear hW
      generalize hk6 : u2.heap.size = k6 at *
      clear R5
      obtain ⟨c0, c1, c2, f0, f1, f2⟩ := F.rd
      have e0 : U2.cell? ⟨k6, 0, none⟩ = some (.slice a n c) := R6.cell 0
      have e1 : U2.cell? ⟨k6, 1, none⟩ = some (.int .i64 (s5.p : Int)) := R6.cell 1
      have e2 : U2.cell? ⟨k6, 2, none⟩ = some (.int .i64 s5.e) := R6.cell 2
      replace F := F.setR s5
      replace ho := ho.setB hkB3 (.slice a n c) (.int .i64 (s5.p : Int)) (.int .i64 s5.e)
      go_upto_region 16 with fail
      clear c0 c1 c2 f0 f1 f2 e0 e1 e2
      generalize hW : ((U2.setCell ⟨k3, 0, none⟩ (.slice a n c)).setCell ⟨k3, 1, none⟩ (.int .i64 (s5.p : Int))).setCell ⟨k3, 2, none⟩ (.int .i64 s5.e) = U3 at *
      clear hW
      clear R6
      have hrow : rP zs s3 = (⟨v1, v2⟩, s5) := by simp [rP, bnd, rPure, hs4.out, hs5.out]
      have HROW := hid (many_succ hl.out hrow)
      clear hrow
      have d1 : U3.cell? ⟨k2, 1, none⟩ = some (.slice av l.length cv) := F.r2.cell 1
      have ho2 := ho.alloc (.cells #[.string v1, .string v2] 53)
      have RN := Row.new U3 #[.string v1, .string v2] 53
      have F2 := F.alloc (.cells #[.string v1, .string v2] 53)
      have hB5 := F2.o5
      clear F ho
      go_wp2_with (at_builtin; refine appP rfl (.tmp 73) (.tmp 77) rfl B' (.slice av l.length cv) l (by kernel_rfl) ho2 ⟨v1, v2⟩ U3.heap.size (by kernel_rfl) RN hlj' hB5 ?_; intro v' w' ho' hg' hB'; obtain ⟨l2, hl2⟩ : ∃ l2, l2 = l ++ [(⟨v1, v2⟩ : Pr)] := ⟨_, rfl⟩; rw [← hl2] at ho'; replace hl2 := hid hl2; obtain ⟨a9, c9, rfl, _, _, _⟩ := ho'.prs; have F3 := F2.grown hg' hB'; have fz := F3.r2.free 1; have cz : w'.cell? ⟨k2, 1, none⟩ = some (.slice av l.length cv) := F3.r2.cell 1; replace ho' := ho'.set hkB 1 (.slice a9 l2.length c9); replace F3 := F3.set2 1 (.slice a9 l2.length c9))
      simp only [List.setIfInBounds_toArray, List.set_cons_zero, List.set_cons_succ] at F3
      go_roundw
      case rel => exact ⟨j + 1, by omega, by go_num, l2, s5, by rw [hl2.out]; exact HROW, hp5, a9, c9, ho', F3⟩
      case measure => simp [intOf]; omega
    · obtain rfl : cn = j := by omega
      have HSP : Hid (rPairs zs s1 = (l, s3)) := by simp [Hid, rPairs, bnd, hs2.out, hl.out]
      have HS := hid (rN_leaf (f := rM') hs1.out M1.out HSP.out)
      have HLS : Hid (Less ⟨true, l, [], [], []⟩) := ⟨by show l.length ≤ 16; rw [HLJ.out]; omega, Nat.zero_le _, Nat.zero_le _, Nat.zero_le _⟩
      have HKD : Hid (Kinds ⟨true, l, [], [], []⟩) := ⟨fun _ h => (by cases h), fun _ h => (by cases h), fun _ h => (by cases h), fun _ h => (by cases h)⟩
      have ho0 := ho
      replace ho : OwnN wr B' ⟨true, l, [], [], []⟩ ⟨av, cv, none, 0, none, 0, none, 0⟩ := ⟨ho0, OwnL.nil _ _ _, OwnL.nil _ _ _, OwnL.nil _ _ _⟩
      clear ho0
      go_upto_region 42 with fail
      have HG := getN_of HS.out
      rw [hlen.out] at HG
      replace HG := hid HG
      have hk0B : k0 < B' := by have := F.o1; have := F.o2; have := F.o3; have := F.o4; omega
      have hwB : w.heap.size ≤ B' := by have := F.o0; omega
      obtain ⟨c0, c1, c2, _, _, _⟩ := F.rd
      go_wp2_with fail
      refine (Pack.ref_end (a := a) (n := n) (c := c) (p := s3.p) (e := s3.e)).mono ?_
      rintro x u1 ⟨rfl, hb⟩
      replace F := F.later hb
      replace ho := ho.later hb
      clear hb c0 c1 c2
      generalize hE : Pack.endE n s3.p s3.e = e at *
      clear hE
      by_cases he : e = 0
      · subst he
        have e0 : u1.cell? ⟨k2, 0, none⟩ = some (.bool true) := F.r2.cell 0
        have e1 : u1.cell? ⟨k2, 1, none⟩ = some (.slice av l.length cv) := F.r2.cell 1
        have e2 : u1.cell? ⟨k2, 2, none⟩ = some (.slice none 0 0) := F.r2.cell 2
        have e3 : u1.cell? ⟨k2, 3, none⟩ = some (.slice none 0 0) := F.r2.cell 3
        have e4 : u1.cell? ⟨k2, 4, none⟩ = some (.slice none 0 0) := F.r2.cell 4
        have HM := hid (Key.may13 ⟨true, l, [], [], []⟩ ⟨av, cv, none, 0, none, 0, none, 0⟩ u1 HLS.out.few ho.lies (fun m hm => (HKD.out.md m hm).1))
        go_wp2_with fail
        refine HM.out.mono ?_
        rintro x u2 ⟨rfl, hb⟩
        replace F := F.later hb
        replace ho := ho.later hb
        clear hb e0 e1 e2 e3 e4 HM
        generalize hM : mayI ⟨true, l, [], [], []⟩ = m at *
        replace hM := hid hM
        by_cases hm0 : m = 0
        · subst hm0
          have z0 : u2.cell? ⟨k0, 0, none⟩ = some (.bool false) := F.r0.cell 0
          have g0 := F.r0.free 0
          have e0 : u2.cell? ⟨k2, 0, none⟩ = some (.bool true) := F.r2.cell 0
          have z1 : u2.cell? ⟨k0, 1, none⟩ = some (.slice none 0 0) := F.r0.cell 1
          have g1 := F.r0.free 1
          have e1 : u2.cell? ⟨k2, 1, none⟩ = some (.slice av l.length cv) := F.r2.cell 1
          have z2 : u2.cell? ⟨k0, 2, none⟩ = some (.slice none 0 0) := F.r0.cell 2
          have g2 := F.r0.free 2
          have e2 : u2.cell? ⟨k2, 2, none⟩ = some (.slice none 0 0) := F.r2.cell 2
          have z3 : u2.cell? ⟨k0, 3, none⟩ = some (.slice none 0 0) := F.r0.cell 3
          have g3 := F.r0.free 3
          have e3 : u2.cell? ⟨k2, 3, none⟩ = some (.slice none 0 0) := F.r2.cell 3
          have z4 : u2.cell? ⟨k0, 4, none⟩ = some (.slice none 0 0) := F.r0.cell 4
          have g4 := F.r0.free 4
          have e4 : u2.cell? ⟨k2, 4, none⟩ = some (.slice none 0 0) := F.r2.cell 4
          have HY := (((((F.r0.set 0 (.bool true)).set 1 (.slice av l.length cv)).set 2 (.slice none 0 0)).set 3 (.slice none 0 0)).set 4 (.slice none 0 0))
          simp only [zeros, List.setIfInBounds_toArray, List.set_cons_zero, List.set_cons_succ] at HY
          replace HY := hid HY
          have HR := hid (Below.setCell (Below.setCell (Below.setCell (Below.setCell (Below.setCell F.hb (p := ⟨k0, 0, none⟩) (by exact F.o0) (.bool true)) (p := ⟨k0, 1, none⟩) (by exact F.o0) (.slice av l.length cv)) (p := ⟨k0, 2, none⟩) (by exact F.o0) (.slice none 0 0)) (p := ⟨k0, 3, none⟩) (by exact F.o0) (.slice none 0 0)) (p := ⟨k0, 4, none⟩) (by exact F.o0) (.slice none 0 0))
          have HO := hid (((((ho.set (k := k0) hk0B 0 (.bool true)).set (k := k0) hk0B 1 (.slice av l.length cv)).set (k := k0) hk0B 2 (.slice none 0 0)).set (k := k0) hk0B 3 (.slice none 0 0)).set (k := k0) hk0B 4 (.slice none 0 0))
          clear ho F
          go_wp2
          generalize (((((u2.setCell ⟨k0, 0, none⟩ (.bool true)).setCell ⟨k0, 1, none⟩ (.slice av l.length cv)).setCell ⟨k0, 2, none⟩ (.slice none 0 0)).setCell ⟨k0, 3, none⟩ (.slice none 0 0)).setCell ⟨k0, 4, none⟩ (.slice none 0 0)) = WW at *
          have p0 : WW.cell? ⟨k0, 0, none⟩ = some (.bool true) := HY.out.cell 0
          have p1 : WW.cell? ⟨k0, 1, none⟩ = some (.slice av l.length cv) := HY.out.cell 1
          have p2 : WW.cell? ⟨k0, 2, none⟩ = some (.slice none 0 0) := HY.out.cell 2
          have p3 : WW.cell? ⟨k0, 3, none⟩ = some (.slice none 0 0) := HY.out.cell 3
          have p4 : WW.cell? ⟨k0, 4, none⟩ = some (.slice none 0 0) := HY.out.cell 4
          exact bodyPost_ret (v := .tuple #[nv ⟨true, l, [], [], []⟩ ⟨av, cv, none, 0, none, 0, none, 0⟩, .int .i64 0]) (by simp [results, Try.results12, go_sem, p0, p1, p2, p3, p4]) rfl ⟨⟨true, l, [], [], []⟩, 0, HG.out.trans (says_yes hM.out), ⟨av, cv, none, 0, none, 0, none, 0⟩, rfl, HO.out.mono hwB, HLS.out, HR.out⟩
        · have hmd : (m == 0) = false := by simpa using hm0
          have hmd' : (m != 0) = true := by simpa using hm0
          replace hm0 := hid hm0
          have z0 : u2.cell? ⟨k0, 0, none⟩ = some (.bool false) := F.r0.cell 0
          have g0 := F.r0.free 0
          have e0 : u2.cell? ⟨k1, 0, none⟩ = some (.bool false) := F.r1.cell 0
          have z1 : u2.cell? ⟨k0, 1, none⟩ = some (.slice none 0 0) := F.r0.cell 1
          have g1 := F.r0.free 1
          have e1 : u2.cell? ⟨k1, 1, none⟩ = some (.slice none 0 0) := F.r1.cell 1
          have z2 : u2.cell? ⟨k0, 2, none⟩ = some (.slice none 0 0) := F.r0.cell 2
          have g2 := F.r0.free 2
          have e2 : u2.cell? ⟨k1, 2, none⟩ = some (.slice none 0 0) := F.r1.cell 2
          have z3 : u2.cell? ⟨k0, 3, none⟩ = some (.slice none 0 0) := F.r0.cell 3
          have g3 := F.r0.free 3
          have e3 : u2.cell? ⟨k1, 3, none⟩ = some (.slice none 0 0) := F.r1.cell 3
          have z4 : u2.cell? ⟨k0, 4, none⟩ = some (.slice none 0 0) := F.r0.cell 4
          have g4 := F.r0.free 4
          have e4 : u2.cell? ⟨k1, 4, none⟩ = some (.slice none 0 0) := F.r1.cell 4
          have HY := (((((F.r0.set 0 (.bool false)).set 1 (.slice none 0 0)).set 2 (.slice none 0 0)).set 3 (.slice none 0 0)).set 4 (.slice none 0 0))
          simp only [zeros, List.setIfInBounds_toArray, List.set_cons_zero, List.set_cons_succ] at HY
          replace HY := hid HY
          have HR := hid (Below.setCell (Below.setCell (Below.setCell (Below.setCell (Below.setCell F.hb (p := ⟨k0, 0, none⟩) (by exact F.o0) (.bool false)) (p := ⟨k0, 1, none⟩) (by exact F.o0) (.slice none 0 0)) (p := ⟨k0, 2, none⟩) (by exact F.o0) (.slice none 0 0)) (p := ⟨k0, 3, none⟩) (by exact F.o0) (.slice none 0 0)) (p := ⟨k0, 4, none⟩) (by exact F.o0) (.slice none 0 0))
          clear ho F
          go_wp2
          generalize (((((u2.setCell ⟨k0, 0, none⟩ (.bool false)).setCell ⟨k0, 1, none⟩ (.slice none 0 0)).setCell ⟨k0, 2, none⟩ (.slice none 0 0)).setCell ⟨k0, 3, none⟩ (.slice none 0 0)).setCell ⟨k0, 4, none⟩ (.slice none 0 0)) = WW at *
          have p0 : WW.cell? ⟨k0, 0, none⟩ = some (.bool false) := HY.out.cell 0
          have p1 : WW.cell? ⟨k0, 1, none⟩ = some (.slice none 0 0) := HY.out.cell 1
          have p2 : WW.cell? ⟨k0, 2, none⟩ = some (.slice none 0 0) := HY.out.cell 2
          have p3 : WW.cell? ⟨k0, 3, none⟩ = some (.slice none 0 0) := HY.out.cell 3
          have p4 : WW.cell? ⟨k0, 4, none⟩ = some (.slice none 0 0) := HY.out.cell 4
          exact bodyPost_ret (v := .tuple #[nv ⟨false, [], [], [], []⟩ ⟨none, 0, none, 0, none, 0, none, 0⟩, .int .i64 3]) (by simp [results, Try.results12, go_sem, p0, p1, p2, p3, p4]) rfl ⟨zeroN, 3, HG.out.trans (says_no (by rw [hM.out]; exact hm0.out)), ⟨none, 0, none, 0, none, 0, none, 0⟩, rfl, OwnN.zero _ _, ⟨Nat.zero_le _, Nat.zero_le _, Nat.zero_le _, Nat.zero_le _⟩, HR.out⟩
      · have hed : (e == 0) = false := by simpa using he
        have hed' : (e != 0) = true := by simpa using he
        replace he := hid he
        have z0 : u1.cell? ⟨k0, 0, none⟩ = some (.bool false) := F.r0.cell 0
        have g0 := F.r0.free 0
        have e0 : u1.cell? ⟨k1, 0, none⟩ = some (.bool false) := F.r1.cell 0
        have z1 : u1.cell? ⟨k0, 1, none⟩ = some (.slice none 0 0) := F.r0.cell 1
        have g1 := F.r0.free 1
        have e1 : u1.cell? ⟨k1, 1, none⟩ = some (.slice none 0 0) := F.r1.cell 1
        have z2 : u1.cell? ⟨k0, 2, none⟩ = some (.slice none 0 0) := F.r0.cell 2
        have g2 := F.r0.free 2
        have e2 : u1.cell? ⟨k1, 2, none⟩ = some (.slice none 0 0) := F.r1.cell 2
        have z3 : u1.cell? ⟨k0, 3, none⟩ = some (.slice none 0 0) := F.r0.cell 3
        have g3 := F.r0.free 3
        have e3 : u1.cell? ⟨k1, 3, none⟩ = some (.slice none 0 0) := F.r1.cell 3
        have z4 : u1.cell? ⟨k0, 4, none⟩ = some (.slice none 0 0) := F.r0.cell 4
        have g4 := F.r0.free 4
        have e4 : u1.cell? ⟨k1, 4, none⟩ = some (.slice none 0 0) := F.r1.cell 4
        have HY := (((((F.r0.set 0 (.bool false)).set 1 (.slice none 0 0)).set 2 (.slice none 0 0)).set 3 (.slice none 0 0)).set 4 (.slice none 0 0))
        simp only [zeros, List.setIfInBounds_toArray, List.set_cons_zero, List.set_cons_succ] at HY
        replace HY := hid HY
        have HR := hid (Below.setCell (Below.setCell (Below.setCell (Below.setCell (Below.setCell F.hb (p := ⟨k0, 0, none⟩) (by exact F.o0) (.bool false)) (p := ⟨k0, 1, none⟩) (by exact F.o0) (.slice none 0 0)) (p := ⟨k0, 2, none⟩) (by exact F.o0) (.slice none 0 0)) (p := ⟨k0, 3, none⟩) (by exact F.o0) (.slice none 0 0)) (p := ⟨k0, 4, none⟩) (by exact F.o0) (.slice none 0 0))
        clear ho F
        go_wp2
        generalize (((((u1.setCell ⟨k0, 0, none⟩ (.bool false)).setCell ⟨k0, 1, none⟩ (.slice none 0 0)).setCell ⟨k0, 2, none⟩ (.slice none 0 0)).setCell ⟨k0, 3, none⟩ (.slice none 0 0)).setCell ⟨k0, 4, none⟩ (.slice none 0 0)) = WW at *
        have p0 : WW.cell? ⟨k0, 0, none⟩ = some (.bool false) := HY.out.cell 0
        have p1 : WW.cell? ⟨k0, 1, none⟩ = some (.slice none 0 0) := HY.out.cell 1
        have p2 : WW.cell? ⟨k0, 2, none⟩ = some (.slice none 0 0) := HY.out.cell 2
        have p3 : WW.cell? ⟨k0, 3, none⟩ = some (.slice none 0 0) := HY.out.cell 3
        have p4 : WW.cell? ⟨k0, 4, none⟩ = some (.slice none 0 0) := HY.out.cell 4
        exact bodyPost_ret (v := .tuple #[nv ⟨false, [], [], [], []⟩ ⟨none, 0, none, 0, none, 0, none, 0⟩, .int .i64 e]) (by simp [results, Try.results12, go_sem, p0, p1, p2, p3, p4]) rfl ⟨zeroN, e, HG.out.trans (says_err he.out), ⟨none, 0, none, 0, none, 0, none, 0⟩, rfl, OwnN.zero _ _, ⟨Nat.zero_le _, Nat.zero_le _, Nat.zero_le _, Nat.zero_le _⟩, HR.out⟩
end Go.Proofs.Ytjegpcmejlffhaa.Cod
