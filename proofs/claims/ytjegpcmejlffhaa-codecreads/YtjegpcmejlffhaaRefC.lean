/-
  Contract of the document's reader of nodes: msg.
-/
import Derived.Test.YtjegpcmejlffhaaRefB
import Derived.Test.YtjegpcmejlffhaaPn
namespace Go.Proofs.Ytjegpcmejlffhaa.Cod
set_option linter.unusedSimpArgs false
set_option linter.unusedVariables false
open Go.RowKit
open Key (M E Pr Nd Pl nv Lies mayI ev mv)

set_option maxRecDepth 100000 in
set_option maxHeartbeats 3000000 in
theorem rmsg31 {w : World} {a : Option Addr} {n c : Nat} {zs : List Int} {s : St} (h : Doc w a n c zs) (hp : s.p ≤ n) :
    Calls Try.prog 31 #[rrv a n c s] w fun x w' => ∃ (m : M) (s' : St), Hid (rM' zs s = (m, s')) ∧ s'.p ≤ n ∧ x = .returned (.tuple #[mv m, rrv a n c s']) ∧ Below w.heap.size w w' := by
  obtain ⟨R0, R1, R2, HB, hsz⟩ := three_boxes w #[.slice a n c, .int .i64 (s.p : Int), .int .i64 s.e] #[.int .u8 0, .string ⟨#[]⟩, .string ⟨#[]⟩, .int .u32 0, .int .u16 0, .string ⟨#[]⟩] #[.slice none 0 0, .int .i64 0, .int .i64 0] 70 60 70
  have hd := h.later HB
  have HLT := hid h.lt
  clear h
  go_enter Try.func31, Try.ntmps31
  go_upto_region 1 with fail
  generalize hW : ((w.alloc (.cells #[.slice a n c, .int .i64 (s.p : Int), .int .i64 s.e] 70)).alloc (.cells #[.int .u8 0, .string ⟨#[]⟩, .string ⟨#[]⟩, .int .u32 0, .int .u16 0, .string ⟨#[]⟩] 60)).alloc (.cells #[.slice none 0 0, .int .i64 0, .int .i64 0] 70) = W0 at *
  clear hW
  generalize hk0 : w.heap.size = k0 at *
  generalize hk1 : k0 + 1 = k1 at *
  generalize hk2 : k1 + 1 = k2 at *
  have l0 : k0 ≤ k0 := Nat.le_refl _
  have l1 : k0 ≤ k1 := by omega
  have l2 : k0 ≤ k2 := by omega
  have n12 : k1 ≠ k2 := by omega
  have n02 : k0 ≠ k2 := by omega
  have n01 : k0 ≠ k1 := by omega
  have c0 : W0.cell? ⟨k0, 0, none⟩ = some (.slice a n c) := R0.cell 0
  have c1 : W0.cell? ⟨k0, 1, none⟩ = some (.int .i64 (s.p : Int)) := R0.cell 1
  have c2 : W0.cell? ⟨k0, 2, none⟩ = some (.int .i64 s.e) := R0.cell 2
  go_wp2_with fail
  refine (rget hd hp 1 (by decide) (by decide)).mono ?_
  rintro x w1 ⟨q, s1, hs1, hq, hp1, rfl, hb⟩
  clear c0 c1 c2
  replace R0 := R0.later hb
  replace R1 := R1.later hb
  replace R2 := R2.later hb
  replace hd := hd.later hb
  replace HB := HB.trans (hb.mono (by have := HB.size; omega))
  clear hb
  have c0 : w1.cell? ⟨k0, 0, none⟩ = some (.slice a n c) := R0.cell 0
  have c1 : w1.cell? ⟨k0, 1, none⟩ = some (.int .i64 (s.p : Int)) := R0.cell 1
  have c2 : w1.cell? ⟨k0, 2, none⟩ = some (.int .i64 s.e) := R0.cell 2
  have f0 := R0.free 0
  have f1 := R0.free 1
  have f2 := R0.free 2
  replace R0 := R0.put3 (.slice a n c) (.int .i64 (s1.p : Int)) (.int .i64 s1.e)
  replace R1 := R1.beside3 (.slice a n c) (.int .i64 (s1.p : Int)) (.int .i64 s1.e) n01.symm
  replace R2 := R2.beside3 (.slice a n c) (.int .i64 (s1.p : Int)) (.int .i64 s1.e) n02.symm
  replace hd := hd.put3 (k := k0) (fun ad h1 h2 => by have := HLT.out ad h1 h2; omega) (.slice a n c) (.int .i64 (s1.p : Int)) (.int .i64 s1.e)
  replace HB := below3 HB l0 (.slice a n c) (.int .i64 (s1.p : Int)) (.int .i64 s1.e)
  go_upto_region 2 with fail
  clear c0 c1 c2 f0 f1 f2
  generalize hW : ((w1.setCell ⟨k0, 0, none⟩ (.slice a n c)).setCell ⟨k0, 1, none⟩ (.int .i64 (s1.p : Int))).setCell ⟨k0, 2, none⟩ (.int .i64 s1.e) = W1 at *
  clear hW
  replace hq : q < 256 := hq
  by_cases hb : q < 1 ∨ 3 < q
  · have HC := hid (rM'_bad hs1.out hb)
    have hpf : (failS 7 s1).p ≤ n := hp1
    by_cases hq1 : q < 1
    · have hd1 : decide ((q : Int) < 1) = true := by simp; omega
      clear hb
      have c0 : W1.cell? ⟨k0, 0, none⟩ = some (.slice a n c) := R0.cell 0
      have c1 : W1.cell? ⟨k0, 1, none⟩ = some (.int .i64 (s1.p : Int)) := R0.cell 1
      have c2 : W1.cell? ⟨k0, 2, none⟩ = some (.int .i64 s1.e) := R0.cell 2
      go_wp2_with fail
      refine (rfail29 s1 7).mono ?_
      rintro x w2 ⟨rfl, hb2⟩
      replace R1 := R1.later hb2
      replace R2 := R2.later hb2
      replace HB := HB.trans (hb2.mono (by have := HB.size; omega))
      clear c0 c1 c2 hb2 R0
      generalize failS 7 s1 = s2 at *
      have z0 : w2.cell? ⟨k1, 0, none⟩ = some (.int .u8 0) := R1.cell 0
      have g0 := R1.free 0
      have z1 : w2.cell? ⟨k1, 1, none⟩ = some (.string ⟨#[]⟩) := R1.cell 1
      have g1 := R1.free 1
      have z2 : w2.cell? ⟨k1, 2, none⟩ = some (.string ⟨#[]⟩) := R1.cell 2
      have g2 := R1.free 2
      have z3 : w2.cell? ⟨k1, 3, none⟩ = some (.int .u32 0) := R1.cell 3
      have g3 := R1.free 3
      have z4 : w2.cell? ⟨k1, 4, none⟩ = some (.int .u16 0) := R1.cell 4
      have g4 := R1.free 4
      have z5 : w2.cell? ⟨k1, 5, none⟩ = some (.string ⟨#[]⟩) := R1.cell 5
      have g5 := R1.free 5
      have y0 : w2.cell? ⟨k2, 0, none⟩ = some (.slice none 0 0) := R2.cell 0
      have j0 := R2.free 0
      have y1 : w2.cell? ⟨k2, 1, none⟩ = some (.int .i64 0) := R2.cell 1
      have j1 := R2.free 1
      have y2 : w2.cell? ⟨k2, 2, none⟩ = some (.int .i64 0) := R2.cell 2
      have j2 := R2.free 2
      have HY1 := (((((((((R1.set 0 (.int .u8 0)).set 1 (.string ⟨#[]⟩)).set 2 (.string ⟨#[]⟩)).set 3 (.int .u32 0)).set 4 (.int .u16 0)).set 5 (.string ⟨#[]⟩)).beside (k' := k2) 0 (.slice a n c) n12).beside (k' := k2) 1 (.int .i64 (s2.p : Int)) n12).beside (k' := k2) 2 (.int .i64 s2.e) n12)
      have HY2 := (((((((((R2.beside (k' := k1) 0 (.int .u8 0) n12.symm).beside (k' := k1) 1 (.string ⟨#[]⟩) n12.symm).beside (k' := k1) 2 (.string ⟨#[]⟩) n12.symm).beside (k' := k1) 3 (.int .u32 0) n12.symm).beside (k' := k1) 4 (.int .u16 0) n12.symm).beside (k' := k1) 5 (.string ⟨#[]⟩) n12.symm).set 0 (.slice a n c)).set 1 (.int .i64 (s2.p : Int))).set 2 (.int .i64 s2.e))
      simp only [List.setIfInBounds_toArray, List.set_cons_zero, List.set_cons_succ] at HY1 HY2
      replace HY1 := hid HY1
      replace HY2 := hid HY2
      have HR := hid (Below.setCell (Below.setCell (Below.setCell (Below.setCell (Below.setCell (Below.setCell (Below.setCell (Below.setCell (Below.setCell HB (p := ⟨k1, 0, none⟩) (by exact l1) (.int .u8 0)) (p := ⟨k1, 1, none⟩) (by exact l1) (.string ⟨#[]⟩)) (p := ⟨k1, 2, none⟩) (by exact l1) (.string ⟨#[]⟩)) (p := ⟨k1, 3, none⟩) (by exact l1) (.int .u32 0)) (p := ⟨k1, 4, none⟩) (by exact l1) (.int .u16 0)) (p := ⟨k1, 5, none⟩) (by exact l1) (.string ⟨#[]⟩)) (p := ⟨k2, 0, none⟩) (by exact l2) (.slice a n c)) (p := ⟨k2, 1, none⟩) (by exact l2) (.int .i64 (s2.p : Int))) (p := ⟨k2, 2, none⟩) (by exact l2) (.int .i64 s2.e))
      clear HB
      go_wp2
      generalize (((((((((w2.setCell ⟨k1, 0, none⟩ (.int .u8 0)).setCell ⟨k1, 1, none⟩ (.string ⟨#[]⟩)).setCell ⟨k1, 2, none⟩ (.string ⟨#[]⟩)).setCell ⟨k1, 3, none⟩ (.int .u32 0)).setCell ⟨k1, 4, none⟩ (.int .u16 0)).setCell ⟨k1, 5, none⟩ (.string ⟨#[]⟩)).setCell ⟨k2, 0, none⟩ (.slice a n c)).setCell ⟨k2, 1, none⟩ (.int .i64 (s2.p : Int))).setCell ⟨k2, 2, none⟩ (.int .i64 s2.e)) = WW at *
      have p0 : WW.cell? ⟨k1, 0, none⟩ = some (.int .u8 0) := HY1.out.cell 0
      have p1 : WW.cell? ⟨k1, 1, none⟩ = some (.string ⟨#[]⟩) := HY1.out.cell 1
      have p2 : WW.cell? ⟨k1, 2, none⟩ = some (.string ⟨#[]⟩) := HY1.out.cell 2
      have p3 : WW.cell? ⟨k1, 3, none⟩ = some (.int .u32 0) := HY1.out.cell 3
      have p4 : WW.cell? ⟨k1, 4, none⟩ = some (.int .u16 0) := HY1.out.cell 4
      have p5 : WW.cell? ⟨k1, 5, none⟩ = some (.string ⟨#[]⟩) := HY1.out.cell 5
      have q0 : WW.cell? ⟨k2, 0, none⟩ = some (.slice a n c) := HY2.out.cell 0
      have q1 : WW.cell? ⟨k2, 1, none⟩ = some (.int .i64 (s2.p : Int)) := HY2.out.cell 1
      have q2 : WW.cell? ⟨k2, 2, none⟩ = some (.int .i64 s2.e) := HY2.out.cell 2
      exact bodyPost_ret (v := .tuple #[mv ⟨0, ⟨#[]⟩, ⟨#[]⟩, 0, 0, ⟨#[]⟩⟩, rrv a n c s2]) (by simp [results, Try.results31, go_sem, p0, p1, p2, p3, p4, p5, q0, q1, q2]) rfl ⟨zeroM, s2, HC, hpf, rfl, by first | exact HR.out | (rw [hk0]; exact HR.out)⟩
    · have hd1 : decide ((q : Int) < 1) = false := by simp; omega
      have hd3 : decide ((3 : Int) < (q : Int)) = true := by simp; omega
      have hq3 : 3 < q := by omega
      clear hb
      have c0 : W1.cell? ⟨k0, 0, none⟩ = some (.slice a n c) := R0.cell 0
      have c1 : W1.cell? ⟨k0, 1, none⟩ = some (.int .i64 (s1.p : Int)) := R0.cell 1
      have c2 : W1.cell? ⟨k0, 2, none⟩ = some (.int .i64 s1.e) := R0.cell 2
      go_wp2_with fail
      refine (rfail29 s1 7).mono ?_
      rintro x w2 ⟨rfl, hb2⟩
      replace R1 := R1.later hb2
      replace R2 := R2.later hb2
      replace HB := HB.trans (hb2.mono (by have := HB.size; omega))
      clear c0 c1 c2 hb2 R0
      generalize failS 7 s1 = s2 at *
      have z0 : w2.cell? ⟨k1, 0, none⟩ = some (.int .u8 0) := R1.cell 0
      have g0 := R1.free 0
      have z1 : w2.cell? ⟨k1, 1, none⟩ = some (.string ⟨#[]⟩) := R1.cell 1
      have g1 := R1.free 1
      have z2 : w2.cell? ⟨k1, 2, none⟩ = some (.string ⟨#[]⟩) := R1.cell 2
      have g2 := R1.free 2
      have z3 : w2.cell? ⟨k1, 3, none⟩ = some (.int .u32 0) := R1.cell 3
      have g3 := R1.free 3
      have z4 : w2.cell? ⟨k1, 4, none⟩ = some (.int .u16 0) := R1.cell 4
      have g4 := R1.free 4
      have z5 : w2.cell? ⟨k1, 5, none⟩ = some (.string ⟨#[]⟩) := R1.cell 5
      have g5 := R1.free 5
      have y0 : w2.cell? ⟨k2, 0, none⟩ = some (.slice none 0 0) := R2.cell 0
      have j0 := R2.free 0
      have y1 : w2.cell? ⟨k2, 1, none⟩ = some (.int .i64 0) := R2.cell 1
      have j1 := R2.free 1
      have y2 : w2.cell? ⟨k2, 2, none⟩ = some (.int .i64 0) := R2.cell 2
      have j2 := R2.free 2
      have HY1 := (((((((((R1.set 0 (.int .u8 0)).set 1 (.string ⟨#[]⟩)).set 2 (.string ⟨#[]⟩)).set 3 (.int .u32 0)).set 4 (.int .u16 0)).set 5 (.string ⟨#[]⟩)).beside (k' := k2) 0 (.slice a n c) n12).beside (k' := k2) 1 (.int .i64 (s2.p : Int)) n12).beside (k' := k2) 2 (.int .i64 s2.e) n12)
      have HY2 := (((((((((R2.beside (k' := k1) 0 (.int .u8 0) n12.symm).beside (k' := k1) 1 (.string ⟨#[]⟩) n12.symm).beside (k' := k1) 2 (.string ⟨#[]⟩) n12.symm).beside (k' := k1) 3 (.int .u32 0) n12.symm).beside (k' := k1) 4 (.int .u16 0) n12.symm).beside (k' := k1) 5 (.string ⟨#[]⟩) n12.symm).set 0 (.slice a n c)).set 1 (.int .i64 (s2.p : Int))).set 2 (.int .i64 s2.e))
      simp only [List.setIfInBounds_toArray, List.set_cons_zero, List.set_cons_succ] at HY1 HY2
      replace HY1 := hid HY1
      replace HY2 := hid HY2
      have HR := hid (Below.setCell (Below.setCell (Below.setCell (Below.setCell (Below.setCell (Below.setCell (Below.setCell (Below.setCell (Below.setCell HB (p := ⟨k1, 0, none⟩) (by exact l1) (.int .u8 0)) (p := ⟨k1, 1, none⟩) (by exact l1) (.string ⟨#[]⟩)) (p := ⟨k1, 2, none⟩) (by exact l1) (.string ⟨#[]⟩)) (p := ⟨k1, 3, none⟩) (by exact l1) (.int .u32 0)) (p := ⟨k1, 4, none⟩) (by exact l1) (.int .u16 0)) (p := ⟨k1, 5, none⟩) (by exact l1) (.string ⟨#[]⟩)) (p := ⟨k2, 0, none⟩) (by exact l2) (.slice a n c)) (p := ⟨k2, 1, none⟩) (by exact l2) (.int .i64 (s2.p : Int))) (p := ⟨k2, 2, none⟩) (by exact l2) (.int .i64 s2.e))
      clear HB
      go_wp2
      generalize (((((((((w2.setCell ⟨k1, 0, none⟩ (.int .u8 0)).setCell ⟨k1, 1, none⟩ (.string ⟨#[]⟩)).setCell ⟨k1, 2, none⟩ (.string ⟨#[]⟩)).setCell ⟨k1, 3, none⟩ (.int .u32 0)).setCell ⟨k1, 4, none⟩ (.int .u16 0)).setCell ⟨k1, 5, none⟩ (.string ⟨#[]⟩)).setCell ⟨k2, 0, none⟩ (.slice a n c)).setCell ⟨k2, 1, none⟩ (.int .i64 (s2.p : Int))).setCell ⟨k2, 2, none⟩ (.int .i64 s2.e)) = WW at *
      have p0 : WW.cell? ⟨k1, 0, none⟩ = some (.int .u8 0) := HY1.out.cell 0
      have p1 : WW.cell? ⟨k1, 1, none⟩ = some (.string ⟨#[]⟩) := HY1.out.cell 1
      have p2 : WW.cell? ⟨k1, 2, none⟩ = some (.string ⟨#[]⟩) := HY1.out.cell 2
      have p3 : WW.cell? ⟨k1, 3, none⟩ = some (.int .u32 0) := HY1.out.cell 3
      have p4 : WW.cell? ⟨k1, 4, none⟩ = some (.int .u16 0) := HY1.out.cell 4
      have p5 : WW.cell? ⟨k1, 5, none⟩ = some (.string ⟨#[]⟩) := HY1.out.cell 5
      have q0 : WW.cell? ⟨k2, 0, none⟩ = some (.slice a n c) := HY2.out.cell 0
      have q1 : WW.cell? ⟨k2, 1, none⟩ = some (.int .i64 (s2.p : Int)) := HY2.out.cell 1
      have q2 : WW.cell? ⟨k2, 2, none⟩ = some (.int .i64 s2.e) := HY2.out.cell 2
      exact bodyPost_ret (v := .tuple #[mv ⟨0, ⟨#[]⟩, ⟨#[]⟩, 0, 0, ⟨#[]⟩⟩, rrv a n c s2]) (by simp [results, Try.results31, go_sem, p0, p1, p2, p3, p4, p5, q0, q1, q2]) rfl ⟨zeroM, s2, HC, hpf, rfl, by first | exact HR.out | (rw [hk0]; exact HR.out)⟩
  · have hd1 : decide ((q : Int) < 1) = false := by simp; omega
    have hd3 : decide ((3 : Int) < (q : Int)) = false := by simp; omega
    have hq1 : ¬ q < 1 := by omega
    have hq3 : ¬ 3 < q := by omega
    have HC := hid (rM'_rest hs1.out hb)
    have HN := hid hb
    clear hb
    have c0 : W1.cell? ⟨k0, 0, none⟩ = some (.slice a n c) := R0.cell 0
    have c1 : W1.cell? ⟨k0, 1, none⟩ = some (.int .i64 (s1.p : Int)) := R0.cell 1
    have c2 : W1.cell? ⟨k0, 2, none⟩ = some (.int .i64 s1.e) := R0.cell 2
    go_wp2_with fail
    refine (rtext hd hp1 16).mono ?_
    rintro x w2 ⟨ky, s2, hs2, hp2, rfl, hb⟩
    clear c0 c1 c2
    replace R0 := R0.later hb
    replace R1 := R1.later hb
    replace R2 := R2.later hb
    replace hd := hd.later hb
    replace HB := HB.trans (hb.mono (by have := HB.size; omega))
    clear hb
    have c0 : w2.cell? ⟨k0, 0, none⟩ = some (.slice a n c) := R0.cell 0
    have c1 : w2.cell? ⟨k0, 1, none⟩ = some (.int .i64 (s1.p : Int)) := R0.cell 1
    have c2 : w2.cell? ⟨k0, 2, none⟩ = some (.int .i64 s1.e) := R0.cell 2
    have f0 := R0.free 0
    have f1 := R0.free 1
    have f2 := R0.free 2
    replace R0 := R0.put3 (.slice a n c) (.int .i64 (s2.p : Int)) (.int .i64 s2.e)
    replace R1 := R1.beside3 (.slice a n c) (.int .i64 (s2.p : Int)) (.int .i64 s2.e) n01.symm
    replace R2 := R2.beside3 (.slice a n c) (.int .i64 (s2.p : Int)) (.int .i64 s2.e) n02.symm
    replace hd := hd.put3 (k := k0) (fun ad h1 h2 => by have := HLT.out ad h1 h2; omega) (.slice a n c) (.int .i64 (s2.p : Int)) (.int .i64 s2.e)
    replace HB := below3 HB l0 (.slice a n c) (.int .i64 (s2.p : Int)) (.int .i64 s2.e)
    go_upto_region 5 with fail
    clear c0 c1 c2 f0 f1 f2
    generalize hW : ((w2.setCell ⟨k0, 0, none⟩ (.slice a n c)).setCell ⟨k0, 1, none⟩ (.int .i64 (s2.p : Int))).setCell ⟨k0, 2, none⟩ (.int .i64 s2.e) = W2 at *
    clear hW
    have t1 := R1.lt
    have t2 := R2.lt
    replace R0 := R0.alloc (.cells #[.int .u8 (q : Int), .string ky, .string ⟨#[]⟩, .int .u32 0, .int .u16 0, .string ⟨#[]⟩] 60)
    replace R1 := R1.alloc (.cells #[.int .u8 (q : Int), .string ky, .string ⟨#[]⟩, .int .u32 0, .int .u16 0, .string ⟨#[]⟩] 60)
    replace R2 := R2.alloc (.cells #[.int .u8 (q : Int), .string ky, .string ⟨#[]⟩, .int .u32 0, .int .u16 0, .string ⟨#[]⟩] 60)
    have R3 := Row.new W2 #[.int .u8 (q : Int), .string ky, .string ⟨#[]⟩, .int .u32 0, .int .u16 0, .string ⟨#[]⟩] 60
    replace hd := hd.alloc (.cells #[.int .u8 (q : Int), .string ky, .string ⟨#[]⟩, .int .u32 0, .int .u16 0, .string ⟨#[]⟩] 60)
    replace HB := HB.alloc (by have := HB.size; omega) (.cells #[.int .u8 (q : Int), .string ky, .string ⟨#[]⟩, .int .u32 0, .int .u16 0, .string ⟨#[]⟩] 60)
    go_upto_region 6 with fail
    generalize hW : W2.alloc (.cells #[.int .u8 (q : Int), .string ky, .string ⟨#[]⟩, .int .u32 0, .int .u16 0, .string ⟨#[]⟩] 60) = W3 at *
    clear hW
    generalize hk3 : W2.heap.size = k3 at *
    have l3 : k0 ≤ k3 := by omega
    have n03 : k0 ≠ k3 := by omega
    have n13 : k1 ≠ k3 := by omega
    have n23 : k2 ≠ k3 := by omega
    clear hd1 hd3 hq1 hq3
    by_cases m1 : q = 1
    · have hqi : (q : Int) = 1 := by omega
      rw [hqi] at R3 ⊢
      have M1 := hid m1
      clear m1 hqi
      have c0 : W3.cell? ⟨k0, 0, none⟩ = some (.slice a n c) := R0.cell 0
      have c1 : W3.cell? ⟨k0, 1, none⟩ = some (.int .i64 (s2.p : Int)) := R0.cell 1
      have c2 : W3.cell? ⟨k0, 2, none⟩ = some (.int .i64 s2.e) := R0.cell 2
      go_wp2_with fail
      refine (rtext hd hp2 32).mono ?_
      rintro x w4 ⟨vl, s3, hs3, hp3, rfl, hb⟩
      clear c0 c1 c2
      replace R0 := R0.later hb
      replace R1 := R1.later hb
      replace R2 := R2.later hb
      replace R3 := R3.later hb
      replace hd := hd.later hb
      replace HB := HB.trans (hb.mono (by have := HB.size; omega))
      clear hb
      have t3 := R3.lt
      have t1 := R1.lt
      have t2 := R2.lt
      replace R0 := R0.alloc (.cells #[.slice a n c, .int .i64 (s3.p : Int), .int .i64 s3.e] 70)
      replace R1 := R1.alloc (.cells #[.slice a n c, .int .i64 (s3.p : Int), .int .i64 s3.e] 70)
      replace R2 := R2.alloc (.cells #[.slice a n c, .int .i64 (s3.p : Int), .int .i64 s3.e] 70)
      replace R3 := R3.alloc (.cells #[.slice a n c, .int .i64 (s3.p : Int), .int .i64 s3.e] 70)
      have R4 := Row.new w4 #[.slice a n c, .int .i64 (s3.p : Int), .int .i64 s3.e] 70
      replace hd := hd.alloc (.cells #[.slice a n c, .int .i64 (s3.p : Int), .int .i64 s3.e] 70)
      replace HB := HB.alloc (by have := HB.size; omega) (.cells #[.slice a n c, .int .i64 (s3.p : Int), .int .i64 s3.e] 70)
      go_upto_region 8 with fail
      generalize hW : w4.alloc (.cells #[.slice a n c, .int .i64 (s3.p : Int), .int .i64 s3.e] 70) = W4 at *
      clear hW
      generalize hk4 : w4.heap.size = k4 at *
      have l4 : k0 ≤ k4 := by omega
      have n14 : k1 ≠ k4 := by omega
      have n24 : k2 ≠ k4 := by omega
      have n34 : k3 ≠ k4 := by omega
      clear hd
      have fz := R3.free 2
      have cz := R3.cell 2
      simp only [List.getElem?_toArray, List.getElem?_cons_zero, List.getElem?_cons_succ] at cz
      replace R3 := R3.set 2 (.string vl)
      simp only [List.setIfInBounds_toArray, List.set_cons_zero, List.set_cons_succ] at R3
      replace R1 := R1.beside (k' := k3) 2 (.string vl) n13
      replace R2 := R2.beside (k' := k3) 2 (.string vl) n23
      replace R4 := R4.beside (k' := k3) 2 (.string vl) n34.symm
      replace HB := Below.setCell HB (p := ⟨k3, 2, none⟩) (by exact l3) (.string vl)
      go_upto_region 9 with fail
      clear fz cz
      generalize hW : W4.setCell ⟨k3, 2, none⟩ (.string vl) = W5 at *
      clear hW
      have HCC := hid (HC.out.trans (rM_put hs1.out HN.out hs2.out M1.out hs3.out))
      have z0 : W5.cell? ⟨k1, 0, none⟩ = some (.int .u8 0) := R1.cell 0
      have g0 := R1.free 0
      have z1 : W5.cell? ⟨k1, 1, none⟩ = some (.string ⟨#[]⟩) := R1.cell 1
      have g1 := R1.free 1
      have z2 : W5.cell? ⟨k1, 2, none⟩ = some (.string ⟨#[]⟩) := R1.cell 2
      have g2 := R1.free 2
      have z3 : W5.cell? ⟨k1, 3, none⟩ = some (.int .u32 0) := R1.cell 3
      have g3 := R1.free 3
      have z4 : W5.cell? ⟨k1, 4, none⟩ = some (.int .u16 0) := R1.cell 4
      have g4 := R1.free 4
      have z5 : W5.cell? ⟨k1, 5, none⟩ = some (.string ⟨#[]⟩) := R1.cell 5
      have g5 := R1.free 5
      have y0 : W5.cell? ⟨k2, 0, none⟩ = some (.slice none 0 0) := R2.cell 0
      have j0 := R2.free 0
      have y1 : W5.cell? ⟨k2, 1, none⟩ = some (.int .i64 0) := R2.cell 1
      have j1 := R2.free 1
      have y2 : W5.cell? ⟨k2, 2, none⟩ = some (.int .i64 0) := R2.cell 2
      have j2 := R2.free 2
      have HY1 := (((((((((R1.set 0 (.int .u8 1)).set 1 (.string ky)).set 2 (.string vl)).set 3 (.int .u32 0)).set 4 (.int .u16 0)).set 5 (.string ⟨#[]⟩)).beside (k' := k2) 0 (.slice a n c) n12).beside (k' := k2) 1 (.int .i64 (s3.p : Int)) n12).beside (k' := k2) 2 (.int .i64 s3.e) n12)
      have HY2 := (((((((((R2.beside (k' := k1) 0 (.int .u8 1) n12.symm).beside (k' := k1) 1 (.string ky) n12.symm).beside (k' := k1) 2 (.string vl) n12.symm).beside (k' := k1) 3 (.int .u32 0) n12.symm).beside (k' := k1) 4 (.int .u16 0) n12.symm).beside (k' := k1) 5 (.string ⟨#[]⟩) n12.symm).set 0 (.slice a n c)).set 1 (.int .i64 (s3.p : Int))).set 2 (.int .i64 s3.e))
      simp only [List.setIfInBounds_toArray, List.set_cons_zero, List.set_cons_succ] at HY1 HY2
      replace HY1 := hid HY1
      replace HY2 := hid HY2
      have HR := hid (Below.setCell (Below.setCell (Below.setCell (Below.setCell (Below.setCell (Below.setCell (Below.setCell (Below.setCell (Below.setCell HB (p := ⟨k1, 0, none⟩) (by exact l1) (.int .u8 1)) (p := ⟨k1, 1, none⟩) (by exact l1) (.string ky)) (p := ⟨k1, 2, none⟩) (by exact l1) (.string vl)) (p := ⟨k1, 3, none⟩) (by exact l1) (.int .u32 0)) (p := ⟨k1, 4, none⟩) (by exact l1) (.int .u16 0)) (p := ⟨k1, 5, none⟩) (by exact l1) (.string ⟨#[]⟩)) (p := ⟨k2, 0, none⟩) (by exact l2) (.slice a n c)) (p := ⟨k2, 1, none⟩) (by exact l2) (.int .i64 (s3.p : Int))) (p := ⟨k2, 2, none⟩) (by exact l2) (.int .i64 s3.e))
      clear HB
      have e0 : W5.cell? ⟨k3, 0, none⟩ = some (.int .u8 1) := R3.cell 0
      have e1 : W5.cell? ⟨k3, 1, none⟩ = some (.string ky) := R3.cell 1
      have e2 : W5.cell? ⟨k3, 2, none⟩ = some (.string vl) := R3.cell 2
      have e3 : W5.cell? ⟨k3, 3, none⟩ = some (.int .u32 0) := R3.cell 3
      have e4 : W5.cell? ⟨k3, 4, none⟩ = some (.int .u16 0) := R3.cell 4
      have e5 : W5.cell? ⟨k3, 5, none⟩ = some (.string ⟨#[]⟩) := R3.cell 5
      have r0 : W5.cell? ⟨k4, 0, none⟩ = some (.slice a n c) := R4.cell 0
      have r1 : W5.cell? ⟨k4, 1, none⟩ = some (.int .i64 (s3.p : Int)) := R4.cell 1
      have r2 : W5.cell? ⟨k4, 2, none⟩ = some (.int .i64 s3.e) := R4.cell 2
      go_region
      all_goals go_wp2
      generalize (((((((((W5.setCell ⟨k1, 0, none⟩ (.int .u8 1)).setCell ⟨k1, 1, none⟩ (.string ky)).setCell ⟨k1, 2, none⟩ (.string vl)).setCell ⟨k1, 3, none⟩ (.int .u32 0)).setCell ⟨k1, 4, none⟩ (.int .u16 0)).setCell ⟨k1, 5, none⟩ (.string ⟨#[]⟩)).setCell ⟨k2, 0, none⟩ (.slice a n c)).setCell ⟨k2, 1, none⟩ (.int .i64 (s3.p : Int))).setCell ⟨k2, 2, none⟩ (.int .i64 s3.e)) = WW at *
      have p0 : WW.cell? ⟨k1, 0, none⟩ = some (.int .u8 1) := HY1.out.cell 0
      have p1 : WW.cell? ⟨k1, 1, none⟩ = some (.string ky) := HY1.out.cell 1
      have p2 : WW.cell? ⟨k1, 2, none⟩ = some (.string vl) := HY1.out.cell 2
      have p3 : WW.cell? ⟨k1, 3, none⟩ = some (.int .u32 0) := HY1.out.cell 3
      have p4 : WW.cell? ⟨k1, 4, none⟩ = some (.int .u16 0) := HY1.out.cell 4
      have p5 : WW.cell? ⟨k1, 5, none⟩ = some (.string ⟨#[]⟩) := HY1.out.cell 5
      have q0 : WW.cell? ⟨k2, 0, none⟩ = some (.slice a n c) := HY2.out.cell 0
      have q1 : WW.cell? ⟨k2, 1, none⟩ = some (.int .i64 (s3.p : Int)) := HY2.out.cell 1
      have q2 : WW.cell? ⟨k2, 2, none⟩ = some (.int .i64 s3.e) := HY2.out.cell 2
      exact bodyPost_ret (v := .tuple #[mv ⟨1, ky, vl, 0, 0, ⟨#[]⟩⟩, rrv a n c s3]) (by simp [results, Try.results31, go_sem, p0, p1, p2, p3, p4, p5, q0, q1, q2]) rfl ⟨⟨1, ky, vl, 0, 0, ⟨#[]⟩⟩, s3, HCC, hp3, rfl, by first | exact HR.out.drew | (rw [hk0]; exact HR.out.drew)⟩
    · by_cases m3 : q = 3
      · have hqi : (q : Int) = 3 := by omega
        rw [hqi] at R3 ⊢
        have M3 := hid m3
        clear m3 hqi m1
        have c0 : W3.cell? ⟨k0, 0, none⟩ = some (.slice a n c) := R0.cell 0
        have c1 : W3.cell? ⟨k0, 1, none⟩ = some (.int .i64 (s2.p : Int)) := R0.cell 1
        have c2 : W3.cell? ⟨k0, 2, none⟩ = some (.int .i64 s2.e) := R0.cell 2
        go_wp2_with fail
        refine (rget hd hp2 4 (by decide) (by decide)).mono ?_
        rintro x w4 ⟨bk, s3, hs3, hv1, hp3, rfl, hb⟩
        clear c0 c1 c2
        replace R0 := R0.later hb
        replace R1 := R1.later hb
        replace R2 := R2.later hb
        replace R3 := R3.later hb
        replace hd := hd.later hb
        replace HB := HB.trans (hb.mono (by have := HB.size; omega))
        clear hb
        have t3 := R3.lt
        have t1 := R1.lt
        have t2 := R2.lt
        replace R0 := R0.alloc (.cells #[.slice a n c, .int .i64 (s3.p : Int), .int .i64 s3.e] 70)
        replace R1 := R1.alloc (.cells #[.slice a n c, .int .i64 (s3.p : Int), .int .i64 s3.e] 70)
        replace R2 := R2.alloc (.cells #[.slice a n c, .int .i64 (s3.p : Int), .int .i64 s3.e] 70)
        replace R3 := R3.alloc (.cells #[.slice a n c, .int .i64 (s3.p : Int), .int .i64 s3.e] 70)
        have R4 := Row.new w4 #[.slice a n c, .int .i64 (s3.p : Int), .int .i64 s3.e] 70
        replace hd := hd.alloc (.cells #[.slice a n c, .int .i64 (s3.p : Int), .int .i64 s3.e] 70)
        replace HB := HB.alloc (by have := HB.size; omega) (.cells #[.slice a n c, .int .i64 (s3.p : Int), .int .i64 s3.e] 70)
        go_upto_region 12 with fail
        generalize hW : w4.alloc (.cells #[.slice a n c, .int .i64 (s3.p : Int), .int .i64 s3.e] 70) = W4 at *
        clear hW
        generalize hk4 : w4.heap.size = k4 at *
        have l4 : k0 ≤ k4 := by omega
        have n14 : k1 ≠ k4 := by omega
        have n24 : k2 ≠ k4 := by omega
        have n34 : k3 ≠ k4 := by omega
        have c0 : W4.cell? ⟨k4, 0, none⟩ = some (.slice a n c) := R4.cell 0
        have c1 : W4.cell? ⟨k4, 1, none⟩ = some (.int .i64 (s3.p : Int)) := R4.cell 1
        have c2 : W4.cell? ⟨k4, 2, none⟩ = some (.int .i64 s3.e) := R4.cell 2
        go_wp2_with fail
        refine (rget hd hp3 2 (by decide) (by decide)).mono ?_
        rintro x w5 ⟨dp, s4, hs4, hv2, hp4, rfl, hb⟩
        clear c0 c1 c2
        replace R1 := R1.later hb
        replace R2 := R2.later hb
        replace R3 := R3.later hb
        replace R4 := R4.later hb
        replace hd := hd.later hb
        replace HB := HB.trans (hb.mono (by have := HB.size; omega))
        clear hb
        have c0 : w5.cell? ⟨k4, 0, none⟩ = some (.slice a n c) := R4.cell 0
        have c1 : w5.cell? ⟨k4, 1, none⟩ = some (.int .i64 (s3.p : Int)) := R4.cell 1
        have c2 : w5.cell? ⟨k4, 2, none⟩ = some (.int .i64 s3.e) := R4.cell 2
        have f0 := R4.free 0
        have f1 := R4.free 1
        have f2 := R4.free 2
        replace R1 := R1.beside3 (.slice a n c) (.int .i64 (s4.p : Int)) (.int .i64 s4.e) n14
        replace R2 := R2.beside3 (.slice a n c) (.int .i64 (s4.p : Int)) (.int .i64 s4.e) n24
        replace R3 := R3.beside3 (.slice a n c) (.int .i64 (s4.p : Int)) (.int .i64 s4.e) n34
        replace R4 := R4.put3 (.slice a n c) (.int .i64 (s4.p : Int)) (.int .i64 s4.e)
        replace hd := hd.put3 (k := k4) (fun ad h1 h2 => by have := HLT.out ad h1 h2; omega) (.slice a n c) (.int .i64 (s4.p : Int)) (.int .i64 s4.e)
        replace HB := below3 HB l4 (.slice a n c) (.int .i64 (s4.p : Int)) (.int .i64 s4.e)
        go_upto_region 13 with fail
        clear c0 c1 c2 f0 f1 f2
        generalize hW : ((w5.setCell ⟨k4, 0, none⟩ (.slice a n c)).setCell ⟨k4, 1, none⟩ (.int .i64 (s4.p : Int))).setCell ⟨k4, 2, none⟩ (.int .i64 s4.e) = W5 at *
        clear hW
        have c0 : W5.cell? ⟨k4, 0, none⟩ = some (.slice a n c) := R4.cell 0
        have c1 : W5.cell? ⟨k4, 1, none⟩ = some (.int .i64 (s4.p : Int)) := R4.cell 1
        have c2 : W5.cell? ⟨k4, 2, none⟩ = some (.int .i64 s4.e) := R4.cell 2
        go_wp2_with fail
        refine (rtext hd hp4 16).mono ?_
        rintro x w6 ⟨ad, s5, hs5, hp5, rfl, hb⟩
        clear c0 c1 c2
        replace R1 := R1.later hb
        replace R2 := R2.later hb
        replace R3 := R3.later hb
        replace R4 := R4.later hb
        replace hd := hd.later hb
        replace HB := HB.trans (hb.mono (by have := HB.size; omega))
        clear hb
        have c0 : w6.cell? ⟨k4, 0, none⟩ = some (.slice a n c) := R4.cell 0
        have c1 : w6.cell? ⟨k4, 1, none⟩ = some (.int .i64 (s4.p : Int)) := R4.cell 1
        have c2 : w6.cell? ⟨k4, 2, none⟩ = some (.int .i64 s4.e) := R4.cell 2
        have f0 := R4.free 0
        have f1 := R4.free 1
        have f2 := R4.free 2
        replace R1 := R1.beside3 (.slice a n c) (.int .i64 (s5.p : Int)) (.int .i64 s5.e) n14
        replace R2 := R2.beside3 (.slice a n c) (.int .i64 (s5.p : Int)) (.int .i64 s5.e) n24
        replace R3 := R3.beside3 (.slice a n c) (.int .i64 (s5.p : Int)) (.int .i64 s5.e) n34
        replace R4 := R4.put3 (.slice a n c) (.int .i64 (s5.p : Int)) (.int .i64 s5.e)
        replace hd := hd.put3 (k := k4) (fun ad h1 h2 => by have := HLT.out ad h1 h2; omega) (.slice a n c) (.int .i64 (s5.p : Int)) (.int .i64 s5.e)
        replace HB := below3 HB l4 (.slice a n c) (.int .i64 (s5.p : Int)) (.int .i64 s5.e)
        go_upto_region 14 with fail
        clear c0 c1 c2 f0 f1 f2
        generalize hW : ((w6.setCell ⟨k4, 0, none⟩ (.slice a n c)).setCell ⟨k4, 1, none⟩ (.int .i64 (s5.p : Int))).setCell ⟨k4, 2, none⟩ (.int .i64 s5.e) = W6 at *
        clear hW
        clear hd
        replace hv1 : bk < 4294967296 := hv1
        replace hv2 : dp < 65536 := hv2
        have fz := R3.free 3
        have cz := R3.cell 3
        simp only [List.getElem?_toArray, List.getElem?_cons_zero, List.getElem?_cons_succ] at cz
        replace R3 := R3.set 3 (.int .u32 (bk : Int))
        simp only [List.setIfInBounds_toArray, List.set_cons_zero, List.set_cons_succ] at R3
        replace R1 := R1.beside (k' := k3) 3 (.int .u32 (bk : Int)) n13
        replace R2 := R2.beside (k' := k3) 3 (.int .u32 (bk : Int)) n23
        replace R4 := R4.beside (k' := k3) 3 (.int .u32 (bk : Int)) n34.symm
        replace HB := Below.setCell HB (p := ⟨k3, 3, none⟩) (by exact l3) (.int .u32 (bk : Int))
        go_upto_region 15 with fail
        clear fz cz
        generalize hW : W6.setCell ⟨k3, 3, none⟩ (.int .u32 (bk : Int)) = W7 at *
        clear hW
        have fz := R3.free 4
        have cz := R3.cell 4
        simp only [List.getElem?_toArray, List.getElem?_cons_zero, List.getElem?_cons_succ] at cz
        replace R3 := R3.set 4 (.int .u16 (dp : Int))
        simp only [List.setIfInBounds_toArray, List.set_cons_zero, List.set_cons_succ] at R3
        replace R1 := R1.beside (k' := k3) 4 (.int .u16 (dp : Int)) n13
        replace R2 := R2.beside (k' := k3) 4 (.int .u16 (dp : Int)) n23
        replace R4 := R4.beside (k' := k3) 4 (.int .u16 (dp : Int)) n34.symm
        replace HB := Below.setCell HB (p := ⟨k3, 4, none⟩) (by exact l3) (.int .u16 (dp : Int))
        go_upto_region 16 with fail
        clear fz cz
        generalize hW : W7.setCell ⟨k3, 4, none⟩ (.int .u16 (dp : Int)) = W8 at *
        clear hW
        have fz := R3.free 5
        have cz := R3.cell 5
        simp only [List.getElem?_toArray, List.getElem?_cons_zero, List.getElem?_cons_succ] at cz
        replace R3 := R3.set 5 (.string ad)
        simp only [List.setIfInBounds_toArray, List.set_cons_zero, List.set_cons_succ] at R3
        replace R1 := R1.beside (k' := k3) 5 (.string ad) n13
        replace R2 := R2.beside (k' := k3) 5 (.string ad) n23
        replace R4 := R4.beside (k' := k3) 5 (.string ad) n34.symm
        replace HB := Below.setCell HB (p := ⟨k3, 5, none⟩) (by exact l3) (.string ad)
        go_upto_region 17 with fail
        clear fz cz
        generalize hW : W8.setCell ⟨k3, 5, none⟩ (.string ad) = W9 at *
        clear hW
        have HCC := hid (HC.out.trans (rM_goto hs1.out HN.out hs2.out M3.out hs3.out hs4.out hs5.out))
        have z0 : W9.cell? ⟨k1, 0, none⟩ = some (.int .u8 0) := R1.cell 0
        have g0 := R1.free 0
        have z1 : W9.cell? ⟨k1, 1, none⟩ = some (.string ⟨#[]⟩) := R1.cell 1
        have g1 := R1.free 1
        have z2 : W9.cell? ⟨k1, 2, none⟩ = some (.string ⟨#[]⟩) := R1.cell 2
        have g2 := R1.free 2
        have z3 : W9.cell? ⟨k1, 3, none⟩ = some (.int .u32 0) := R1.cell 3
        have g3 := R1.free 3
        have z4 : W9.cell? ⟨k1, 4, none⟩ = some (.int .u16 0) := R1.cell 4
        have g4 := R1.free 4
        have z5 : W9.cell? ⟨k1, 5, none⟩ = some (.string ⟨#[]⟩) := R1.cell 5
        have g5 := R1.free 5
        have y0 : W9.cell? ⟨k2, 0, none⟩ = some (.slice none 0 0) := R2.cell 0
        have j0 := R2.free 0
        have y1 : W9.cell? ⟨k2, 1, none⟩ = some (.int .i64 0) := R2.cell 1
        have j1 := R2.free 1
        have y2 : W9.cell? ⟨k2, 2, none⟩ = some (.int .i64 0) := R2.cell 2
        have j2 := R2.free 2
        have HY1 := (((((((((R1.set 0 (.int .u8 3)).set 1 (.string ky)).set 2 (.string ⟨#[]⟩)).set 3 (.int .u32 (bk : Int))).set 4 (.int .u16 (dp : Int))).set 5 (.string ad)).beside (k' := k2) 0 (.slice a n c) n12).beside (k' := k2) 1 (.int .i64 (s5.p : Int)) n12).beside (k' := k2) 2 (.int .i64 s5.e) n12)
        have HY2 := (((((((((R2.beside (k' := k1) 0 (.int .u8 3) n12.symm).beside (k' := k1) 1 (.string ky) n12.symm).beside (k' := k1) 2 (.string ⟨#[]⟩) n12.symm).beside (k' := k1) 3 (.int .u32 (bk : Int)) n12.symm).beside (k' := k1) 4 (.int .u16 (dp : Int)) n12.symm).beside (k' := k1) 5 (.string ad) n12.symm).set 0 (.slice a n c)).set 1 (.int .i64 (s5.p : Int))).set 2 (.int .i64 s5.e))
        simp only [List.setIfInBounds_toArray, List.set_cons_zero, List.set_cons_succ] at HY1 HY2
        replace HY1 := hid HY1
        replace HY2 := hid HY2
        have HR := hid (Below.setCell (Below.setCell (Below.setCell (Below.setCell (Below.setCell (Below.setCell (Below.setCell (Below.setCell (Below.setCell HB (p := ⟨k1, 0, none⟩) (by exact l1) (.int .u8 3)) (p := ⟨k1, 1, none⟩) (by exact l1) (.string ky)) (p := ⟨k1, 2, none⟩) (by exact l1) (.string ⟨#[]⟩)) (p := ⟨k1, 3, none⟩) (by exact l1) (.int .u32 (bk : Int))) (p := ⟨k1, 4, none⟩) (by exact l1) (.int .u16 (dp : Int))) (p := ⟨k1, 5, none⟩) (by exact l1) (.string ad)) (p := ⟨k2, 0, none⟩) (by exact l2) (.slice a n c)) (p := ⟨k2, 1, none⟩) (by exact l2) (.int .i64 (s5.p : Int))) (p := ⟨k2, 2, none⟩) (by exact l2) (.int .i64 s5.e))
        clear HB
        have e0 : W9.cell? ⟨k3, 0, none⟩ = some (.int .u8 3) := R3.cell 0
        have e1 : W9.cell? ⟨k3, 1, none⟩ = some (.string ky) := R3.cell 1
        have e2 : W9.cell? ⟨k3, 2, none⟩ = some (.string ⟨#[]⟩) := R3.cell 2
        have e3 : W9.cell? ⟨k3, 3, none⟩ = some (.int .u32 (bk : Int)) := R3.cell 3
        have e4 : W9.cell? ⟨k3, 4, none⟩ = some (.int .u16 (dp : Int)) := R3.cell 4
        have e5 : W9.cell? ⟨k3, 5, none⟩ = some (.string ad) := R3.cell 5
        have r0 : W9.cell? ⟨k4, 0, none⟩ = some (.slice a n c) := R4.cell 0
        have r1 : W9.cell? ⟨k4, 1, none⟩ = some (.int .i64 (s5.p : Int)) := R4.cell 1
        have r2 : W9.cell? ⟨k4, 2, none⟩ = some (.int .i64 s5.e) := R4.cell 2
        go_region
        all_goals go_wp2
        generalize (((((((((W9.setCell ⟨k1, 0, none⟩ (.int .u8 3)).setCell ⟨k1, 1, none⟩ (.string ky)).setCell ⟨k1, 2, none⟩ (.string ⟨#[]⟩)).setCell ⟨k1, 3, none⟩ (.int .u32 (bk : Int))).setCell ⟨k1, 4, none⟩ (.int .u16 (dp : Int))).setCell ⟨k1, 5, none⟩ (.string ad)).setCell ⟨k2, 0, none⟩ (.slice a n c)).setCell ⟨k2, 1, none⟩ (.int .i64 (s5.p : Int))).setCell ⟨k2, 2, none⟩ (.int .i64 s5.e)) = WW at *
        have p0 : WW.cell? ⟨k1, 0, none⟩ = some (.int .u8 3) := HY1.out.cell 0
        have p1 : WW.cell? ⟨k1, 1, none⟩ = some (.string ky) := HY1.out.cell 1
        have p2 : WW.cell? ⟨k1, 2, none⟩ = some (.string ⟨#[]⟩) := HY1.out.cell 2
        have p3 : WW.cell? ⟨k1, 3, none⟩ = some (.int .u32 (bk : Int)) := HY1.out.cell 3
        have p4 : WW.cell? ⟨k1, 4, none⟩ = some (.int .u16 (dp : Int)) := HY1.out.cell 4
        have p5 : WW.cell? ⟨k1, 5, none⟩ = some (.string ad) := HY1.out.cell 5
        have q0 : WW.cell? ⟨k2, 0, none⟩ = some (.slice a n c) := HY2.out.cell 0
        have q1 : WW.cell? ⟨k2, 1, none⟩ = some (.int .i64 (s5.p : Int)) := HY2.out.cell 1
        have q2 : WW.cell? ⟨k2, 2, none⟩ = some (.int .i64 s5.e) := HY2.out.cell 2
        exact bodyPost_ret (v := .tuple #[mv ⟨3, ky, ⟨#[]⟩, bk, dp, ad⟩, rrv a n c s5]) (by simp [results, Try.results31, go_sem, p0, p1, p2, p3, p4, p5, q0, q1, q2]) rfl ⟨⟨3, ky, ⟨#[]⟩, bk, dp, ad⟩, s5, HCC, hp5, rfl, by first | exact HR.out.drew | (rw [hk0]; exact HR.out.drew)⟩
      · have hne1 : ((q : Int) == 1) = false := by simp; omega
        have hne3 : ((q : Int) == 3) = false := by simp; omega
        have HCC := hid (HC.out.trans (rM_del hs1.out HN.out hs2.out m1 m3))
        clear m1 m3 hd
        go_upto_region 18 with fail
        have z0 : W3.cell? ⟨k1, 0, none⟩ = some (.int .u8 0) := R1.cell 0
        have g0 := R1.free 0
        have z1 : W3.cell? ⟨k1, 1, none⟩ = some (.string ⟨#[]⟩) := R1.cell 1
        have g1 := R1.free 1
        have z2 : W3.cell? ⟨k1, 2, none⟩ = some (.string ⟨#[]⟩) := R1.cell 2
        have g2 := R1.free 2
        have z3 : W3.cell? ⟨k1, 3, none⟩ = some (.int .u32 0) := R1.cell 3
        have g3 := R1.free 3
        have z4 : W3.cell? ⟨k1, 4, none⟩ = some (.int .u16 0) := R1.cell 4
        have g4 := R1.free 4
        have z5 : W3.cell? ⟨k1, 5, none⟩ = some (.string ⟨#[]⟩) := R1.cell 5
        have g5 := R1.free 5
        have y0 : W3.cell? ⟨k2, 0, none⟩ = some (.slice none 0 0) := R2.cell 0
        have j0 := R2.free 0
        have y1 : W3.cell? ⟨k2, 1, none⟩ = some (.int .i64 0) := R2.cell 1
        have j1 := R2.free 1
        have y2 : W3.cell? ⟨k2, 2, none⟩ = some (.int .i64 0) := R2.cell 2
        have j2 := R2.free 2
        have HY1 := (((((((((R1.set 0 (.int .u8 (q : Int))).set 1 (.string ky)).set 2 (.string ⟨#[]⟩)).set 3 (.int .u32 0)).set 4 (.int .u16 0)).set 5 (.string ⟨#[]⟩)).beside (k' := k2) 0 (.slice a n c) n12).beside (k' := k2) 1 (.int .i64 (s2.p : Int)) n12).beside (k' := k2) 2 (.int .i64 s2.e) n12)
        have HY2 := (((((((((R2.beside (k' := k1) 0 (.int .u8 (q : Int)) n12.symm).beside (k' := k1) 1 (.string ky) n12.symm).beside (k' := k1) 2 (.string ⟨#[]⟩) n12.symm).beside (k' := k1) 3 (.int .u32 0) n12.symm).beside (k' := k1) 4 (.int .u16 0) n12.symm).beside (k' := k1) 5 (.string ⟨#[]⟩) n12.symm).set 0 (.slice a n c)).set 1 (.int .i64 (s2.p : Int))).set 2 (.int .i64 s2.e))
        simp only [List.setIfInBounds_toArray, List.set_cons_zero, List.set_cons_succ] at HY1 HY2
        replace HY1 := hid HY1
        replace HY2 := hid HY2
        have HR := hid (Below.setCell (Below.setCell (Below.setCell (Below.setCell (Below.setCell (Below.setCell (Below.setCell (Below.setCell (Below.setCell HB (p := ⟨k1, 0, none⟩) (by exact l1) (.int .u8 (q : Int))) (p := ⟨k1, 1, none⟩) (by exact l1) (.string ky)) (p := ⟨k1, 2, none⟩) (by exact l1) (.string ⟨#[]⟩)) (p := ⟨k1, 3, none⟩) (by exact l1) (.int .u32 0)) (p := ⟨k1, 4, none⟩) (by exact l1) (.int .u16 0)) (p := ⟨k1, 5, none⟩) (by exact l1) (.string ⟨#[]⟩)) (p := ⟨k2, 0, none⟩) (by exact l2) (.slice a n c)) (p := ⟨k2, 1, none⟩) (by exact l2) (.int .i64 (s2.p : Int))) (p := ⟨k2, 2, none⟩) (by exact l2) (.int .i64 s2.e))
        clear HB
        have e0 : W3.cell? ⟨k3, 0, none⟩ = some (.int .u8 (q : Int)) := R3.cell 0
        have e1 : W3.cell? ⟨k3, 1, none⟩ = some (.string ky) := R3.cell 1
        have e2 : W3.cell? ⟨k3, 2, none⟩ = some (.string ⟨#[]⟩) := R3.cell 2
        have e3 : W3.cell? ⟨k3, 3, none⟩ = some (.int .u32 0) := R3.cell 3
        have e4 : W3.cell? ⟨k3, 4, none⟩ = some (.int .u16 0) := R3.cell 4
        have e5 : W3.cell? ⟨k3, 5, none⟩ = some (.string ⟨#[]⟩) := R3.cell 5
        have r0 : W3.cell? ⟨k0, 0, none⟩ = some (.slice a n c) := R0.cell 0
        have r1 : W3.cell? ⟨k0, 1, none⟩ = some (.int .i64 (s2.p : Int)) := R0.cell 1
        have r2 : W3.cell? ⟨k0, 2, none⟩ = some (.int .i64 s2.e) := R0.cell 2
        go_region
        all_goals go_wp2
        generalize (((((((((W3.setCell ⟨k1, 0, none⟩ (.int .u8 (q : Int))).setCell ⟨k1, 1, none⟩ (.string ky)).setCell ⟨k1, 2, none⟩ (.string ⟨#[]⟩)).setCell ⟨k1, 3, none⟩ (.int .u32 0)).setCell ⟨k1, 4, none⟩ (.int .u16 0)).setCell ⟨k1, 5, none⟩ (.string ⟨#[]⟩)).setCell ⟨k2, 0, none⟩ (.slice a n c)).setCell ⟨k2, 1, none⟩ (.int .i64 (s2.p : Int))).setCell ⟨k2, 2, none⟩ (.int .i64 s2.e)) = WW at *
        have p0 : WW.cell? ⟨k1, 0, none⟩ = some (.int .u8 (q : Int)) := HY1.out.cell 0
        have p1 : WW.cell? ⟨k1, 1, none⟩ = some (.string ky) := HY1.out.cell 1
        have p2 : WW.cell? ⟨k1, 2, none⟩ = some (.string ⟨#[]⟩) := HY1.out.cell 2
        have p3 : WW.cell? ⟨k1, 3, none⟩ = some (.int .u32 0) := HY1.out.cell 3
        have p4 : WW.cell? ⟨k1, 4, none⟩ = some (.int .u16 0) := HY1.out.cell 4
        have p5 : WW.cell? ⟨k1, 5, none⟩ = some (.string ⟨#[]⟩) := HY1.out.cell 5
        have q0 : WW.cell? ⟨k2, 0, none⟩ = some (.slice a n c) := HY2.out.cell 0
        have q1 : WW.cell? ⟨k2, 1, none⟩ = some (.int .i64 (s2.p : Int)) := HY2.out.cell 1
        have q2 : WW.cell? ⟨k2, 2, none⟩ = some (.int .i64 s2.e) := HY2.out.cell 2
        exact bodyPost_ret (v := .tuple #[mv ⟨q, ky, ⟨#[]⟩, 0, 0, ⟨#[]⟩⟩, rrv a n c s2]) (by simp [results, Try.results31, go_sem, p0, p1, p2, p3, p4, p5, q0, q1, q2]) rfl ⟨⟨q, ky, ⟨#[]⟩, 0, 0, ⟨#[]⟩⟩, s2, HCC, hp2, rfl, by first | exact HR.out.drew | (rw [hk0]; exact HR.out.drew)⟩
end Go.Proofs.Ytjegpcmejlffhaa.Cod
