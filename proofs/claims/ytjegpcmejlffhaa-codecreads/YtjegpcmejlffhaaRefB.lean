/-
  Contract of the document's reader of nodes: edge.
-/
import Derived.Test.YtjegpcmejlffhaaRefA
namespace Go.Proofs.Ytjegpcmejlffhaa.Cod
set_option linter.unusedSimpArgs false
set_option linter.unusedVariables false
open Go.RowKit
open Key (M E Pr Nd Pl nv Lies mayI ev mv)

set_option maxRecDepth 100000 in
set_option maxHeartbeats 2000000 in
theorem redge30 {w : World} {a : Option Addr} {n c : Nat} {zs : List Int} {s : St} (h : Doc w a n c zs) (hp : s.p ≤ n) :
    Calls Try.prog 30 #[rrv a n c s] w fun x w' => ∃ (e : E) (s' : St), Hid (rE zs s = (e, s')) ∧ s'.p ≤ n ∧ x = .returned (.tuple #[ev e, rrv a n c s']) ∧ Below w.heap.size w w' := by
  obtain ⟨R0, R1, R2, HB, hsz⟩ := three_boxes w #[.slice a n c, .int .i64 (s.p : Int), .int .i64 s.e] #[.int .u32 0, .int .u16 0, .string ⟨#[]⟩, .string ⟨#[]⟩] #[.slice none 0 0, .int .i64 0, .int .i64 0] 70 51 70
  have hd := h.later HB
  have HLT := hid h.lt
  clear h
  go_enter Try.func30, Try.ntmps30
  go_upto_region 1 with fail
  generalize hW : ((w.alloc (.cells #[.slice a n c, .int .i64 (s.p : Int), .int .i64 s.e] 70)).alloc (.cells #[.int .u32 0, .int .u16 0, .string ⟨#[]⟩, .string ⟨#[]⟩] 51)).alloc (.cells #[.slice none 0 0, .int .i64 0, .int .i64 0] 70) = W0 at *
  clear hW
  generalize hk0 : w.heap.size = k0 at *
  generalize hk1 : k0 + 1 = k1 at *
  generalize hk2 : k1 + 1 = k2 at *
  have l0 : k0 ≤ k0 := Nat.le_refl _
  have l1 : k0 ≤ k1 := by omega
  have l2 : k0 ≤ k2 := by omega
  have n12 : k1 ≠ k2 := by omega
  have n02 : k0 ≠ k2 := by omega
  have n01 : k0 ≠ k1 := by omega
  have c0 : W0.cell? ⟨k0, 0, none⟩ = some (.slice a n c) := R0.cell 0
  have c1 : W0.cell? ⟨k0, 1, none⟩ = some (.int .i64 (s.p : Int)) := R0.cell 1
  have c2 : W0.cell? ⟨k0, 2, none⟩ = some (.int .i64 s.e) := R0.cell 2
  go_wp2_with fail
  refine (rget hd hp 4 (by decide) (by decide)).mono ?_
  rintro x w1 ⟨v1, s1, hs1, hv1, hp1, rfl, hb⟩
  clear c0 c1 c2
  replace R0 := R0.later hb
  replace R1 := R1.later hb
  replace R2 := R2.later hb
  replace hd := hd.later hb
  replace HB := HB.trans (hb.mono (by have := HB.size; omega))
  clear hb
  have c0 : w1.cell? ⟨k0, 0, none⟩ = some (.slice a n c) := R0.cell 0
  have c1 : w1.cell? ⟨k0, 1, none⟩ = some (.int .i64 (s.p : Int)) := R0.cell 1
  have c2 : w1.cell? ⟨k0, 2, none⟩ = some (.int .i64 s.e) := R0.cell 2
  have f0 := R0.free 0
  have f1 := R0.free 1
  have f2 := R0.free 2
  replace R0 := R0.put3 (.slice a n c) (.int .i64 (s1.p : Int)) (.int .i64 s1.e)
  replace R1 := R1.beside3 (.slice a n c) (.int .i64 (s1.p : Int)) (.int .i64 s1.e) n01.symm
  replace R2 := R2.beside3 (.slice a n c) (.int .i64 (s1.p : Int)) (.int .i64 s1.e) n02.symm
  replace hd := hd.put3 (k := k0) (fun ad h1 h2 => by have := HLT.out ad h1 h2; omega) (.slice a n c) (.int .i64 (s1.p : Int)) (.int .i64 s1.e)
  replace HB := below3 HB l0 (.slice a n c) (.int .i64 (s1.p : Int)) (.int .i64 s1.e)
  go_upto_region 2 with fail
  clear c0 c1 c2 f0 f1 f2
  generalize hW : ((w1.setCell ⟨k0, 0, none⟩ (.slice a n c)).setCell ⟨k0, 1, none⟩ (.int .i64 (s1.p : Int))).setCell ⟨k0, 2, none⟩ (.int .i64 s1.e) = W1 at *
  clear hW
  have c0 : W1.cell? ⟨k0, 0, none⟩ = some (.slice a n c) := R0.cell 0
  have c1 : W1.cell? ⟨k0, 1, none⟩ = some (.int .i64 (s1.p : Int)) := R0.cell 1
  have c2 : W1.cell? ⟨k0, 2, none⟩ = some (.int .i64 s1.e) := R0.cell 2
  go_wp2_with fail
  refine (rget hd hp1 2 (by decide) (by decide)).mono ?_
  rintro x w2 ⟨v2, s2, hs2, hv2, hp2, rfl, hb⟩
  clear c0 c1 c2
  replace R0 := R0.later hb
  replace R1 := R1.later hb
  replace R2 := R2.later hb
  replace hd := hd.later hb
  replace HB := HB.trans (hb.mono (by have := HB.size; omega))
  clear hb
  have c0 : w2.cell? ⟨k0, 0, none⟩ = some (.slice a n c) := R0.cell 0
  have c1 : w2.cell? ⟨k0, 1, none⟩ = some (.int .i64 (s1.p : Int)) := R0.cell 1
  have c2 : w2.cell? ⟨k0, 2, none⟩ = some (.int .i64 s1.e) := R0.cell 2
  have f0 := R0.free 0
  have f1 := R0.free 1
  have f2 := R0.free 2
  replace R0 := R0.put3 (.slice a n c) (.int .i64 (s2.p : Int)) (.int .i64 s2.e)
  replace R1 := R1.beside3 (.slice a n c) (.int .i64 (s2.p : Int)) (.int .i64 s2.e) n01.symm
  replace R2 := R2.beside3 (.slice a n c) (.int .i64 (s2.p : Int)) (.int .i64 s2.e) n02.symm
  replace hd := hd.put3 (k := k0) (fun ad h1 h2 => by have := HLT.out ad h1 h2; omega) (.slice a n c) (.int .i64 (s2.p : Int)) (.int .i64 s2.e)
  replace HB := below3 HB l0 (.slice a n c) (.int .i64 (s2.p : Int)) (.int .i64 s2.e)
  go_upto_region 3 with fail
  clear c0 c1 c2 f0 f1 f2
  generalize hW : ((w2.setCell ⟨k0, 0, none⟩ (.slice a n c)).setCell ⟨k0, 1, none⟩ (.int .i64 (s2.p : Int))).setCell ⟨k0, 2, none⟩ (.int .i64 s2.e) = W2 at *
  clear hW
  have c0 : W2.cell? ⟨k0, 0, none⟩ = some (.slice a n c) := R0.cell 0
  have c1 : W2.cell? ⟨k0, 1, none⟩ = some (.int .i64 (s2.p : Int)) := R0.cell 1
  have c2 : W2.cell? ⟨k0, 2, none⟩ = some (.int .i64 s2.e) := R0.cell 2
  go_wp2_with fail
  refine (rtext hd hp2 16).mono ?_
  rintro x w3 ⟨v3, s3, hs3, hp3, rfl, hb⟩
  clear c0 c1 c2
  replace R0 := R0.later hb
  replace R1 := R1.later hb
  replace R2 := R2.later hb
  replace hd := hd.later hb
  replace HB := HB.trans (hb.mono (by have := HB.size; omega))
  clear hb
  have c0 : w3.cell? ⟨k0, 0, none⟩ = some (.slice a n c) := R0.cell 0
  have c1 : w3.cell? ⟨k0, 1, none⟩ = some (.int .i64 (s2.p : Int)) := R0.cell 1
  have c2 : w3.cell? ⟨k0, 2, none⟩ = some (.int .i64 s2.e) := R0.cell 2
  have f0 := R0.free 0
  have f1 := R0.free 1
  have f2 := R0.free 2
  replace R0 := R0.put3 (.slice a n c) (.int .i64 (s3.p : Int)) (.int .i64 s3.e)
  replace R1 := R1.beside3 (.slice a n c) (.int .i64 (s3.p : Int)) (.int .i64 s3.e) n01.symm
  replace R2 := R2.beside3 (.slice a n c) (.int .i64 (s3.p : Int)) (.int .i64 s3.e) n02.symm
  replace hd := hd.put3 (k := k0) (fun ad h1 h2 => by have := HLT.out ad h1 h2; omega) (.slice a n c) (.int .i64 (s3.p : Int)) (.int .i64 s3.e)
  replace HB := below3 HB l0 (.slice a n c) (.int .i64 (s3.p : Int)) (.int .i64 s3.e)
  go_upto_region 4 with fail
  clear c0 c1 c2 f0 f1 f2
  generalize hW : ((w3.setCell ⟨k0, 0, none⟩ (.slice a n c)).setCell ⟨k0, 1, none⟩ (.int .i64 (s3.p : Int))).setCell ⟨k0, 2, none⟩ (.int .i64 s3.e) = W3 at *
  clear hW
  have c0 : W3.cell? ⟨k0, 0, none⟩ = some (.slice a n c) := R0.cell 0
  have c1 : W3.cell? ⟨k0, 1, none⟩ = some (.int .i64 (s3.p : Int)) := R0.cell 1
  have c2 : W3.cell? ⟨k0, 2, none⟩ = some (.int .i64 s3.e) := R0.cell 2
  go_wp2_with fail
  refine (rtext hd hp3 16).mono ?_
  rintro x w4 ⟨v4, s4, hs4, hp4, rfl, hb⟩
  clear c0 c1 c2
  replace R0 := R0.later hb
  replace R1 := R1.later hb
  replace R2 := R2.later hb
  replace hd := hd.later hb
  replace HB := HB.trans (hb.mono (by have := HB.size; omega))
  clear hb
  have c0 : w4.cell? ⟨k0, 0, none⟩ = some (.slice a n c) := R0.cell 0
  have c1 : w4.cell? ⟨k0, 1, none⟩ = some (.int .i64 (s3.p : Int)) := R0.cell 1
  have c2 : w4.cell? ⟨k0, 2, none⟩ = some (.int .i64 s3.e) := R0.cell 2
  have f0 := R0.free 0
  have f1 := R0.free 1
  have f2 := R0.free 2
  replace R0 := R0.put3 (.slice a n c) (.int .i64 (s4.p : Int)) (.int .i64 s4.e)
  replace R1 := R1.beside3 (.slice a n c) (.int .i64 (s4.p : Int)) (.int .i64 s4.e) n01.symm
  replace R2 := R2.beside3 (.slice a n c) (.int .i64 (s4.p : Int)) (.int .i64 s4.e) n02.symm
  replace hd := hd.put3 (k := k0) (fun ad h1 h2 => by have := HLT.out ad h1 h2; omega) (.slice a n c) (.int .i64 (s4.p : Int)) (.int .i64 s4.e)
  replace HB := below3 HB l0 (.slice a n c) (.int .i64 (s4.p : Int)) (.int .i64 s4.e)
  go_upto_region 5 with fail
  clear c0 c1 c2 f0 f1 f2
  generalize hW : ((w4.setCell ⟨k0, 0, none⟩ (.slice a n c)).setCell ⟨k0, 1, none⟩ (.int .i64 (s4.p : Int))).setCell ⟨k0, 2, none⟩ (.int .i64 s4.e) = W4 at *
  clear hW
  replace hv1 : v1 < 4294967296 := hv1
  replace hv2 : v2 < 65536 := hv2
  have c0 : W4.cell? ⟨k0, 0, none⟩ = some (.slice a n c) := R0.cell 0
  have c1 : W4.cell? ⟨k0, 1, none⟩ = some (.int .i64 (s4.p : Int)) := R0.cell 1
  have c2 : W4.cell? ⟨k0, 2, none⟩ = some (.int .i64 s4.e) := R0.cell 2
  have HC : Hid (rE zs s = (⟨v1, v2, v3, v4⟩, s4)) := by simp [Hid, rE, bnd, rPure, hs1.out, hs2.out, hs3.out, hs4.out]
  have z0 : W4.cell? ⟨k1, 0, none⟩ = some (.int .u32 0) := R1.cell 0
  have g0 := R1.free 0
  have z1 : W4.cell? ⟨k1, 1, none⟩ = some (.int .u16 0) := R1.cell 1
  have g1 := R1.free 1
  have z2 : W4.cell? ⟨k1, 2, none⟩ = some (.string ⟨#[]⟩) := R1.cell 2
  have g2 := R1.free 2
  have z3 : W4.cell? ⟨k1, 3, none⟩ = some (.string ⟨#[]⟩) := R1.cell 3
  have g3 := R1.free 3
  have y0 : W4.cell? ⟨k2, 0, none⟩ = some (.slice none 0 0) := R2.cell 0
  have j0 := R2.free 0
  have y1 : W4.cell? ⟨k2, 1, none⟩ = some (.int .i64 0) := R2.cell 1
  have j1 := R2.free 1
  have y2 : W4.cell? ⟨k2, 2, none⟩ = some (.int .i64 0) := R2.cell 2
  have j2 := R2.free 2
  have HY1 := (((((((R1.set 0 (.int .u32 (v1 : Int))).set 1 (.int .u16 (v2 : Int))).set 2 (.string v3)).set 3 (.string v4)).beside (k' := k2) 0 (.slice a n c) n12).beside (k' := k2) 1 (.int .i64 (s4.p : Int)) n12).beside (k' := k2) 2 (.int .i64 s4.e) n12)
  have HY2 := (((((((R2.beside (k' := k1) 0 (.int .u32 (v1 : Int)) n12.symm).beside (k' := k1) 1 (.int .u16 (v2 : Int)) n12.symm).beside (k' := k1) 2 (.string v3) n12.symm).beside (k' := k1) 3 (.string v4) n12.symm).set 0 (.slice a n c)).set 1 (.int .i64 (s4.p : Int))).set 2 (.int .i64 s4.e))
  simp only [List.setIfInBounds_toArray, List.set_cons_zero, List.set_cons_succ] at HY1 HY2
  replace HY1 := hid HY1
  replace HY2 := hid HY2
  have HR := hid (Below.setCell (Below.setCell (Below.setCell (Below.setCell (Below.setCell (Below.setCell (Below.setCell HB (p := ⟨k1, 0, none⟩) (by exact l1) (.int .u32 (v1 : Int))) (p := ⟨k1, 1, none⟩) (by exact l1) (.int .u16 (v2 : Int))) (p := ⟨k1, 2, none⟩) (by exact l1) (.string v3)) (p := ⟨k1, 3, none⟩) (by exact l1) (.string v4)) (p := ⟨k2, 0, none⟩) (by exact l2) (.slice a n c)) (p := ⟨k2, 1, none⟩) (by exact l2) (.int .i64 (s4.p : Int))) (p := ⟨k2, 2, none⟩) (by exact l2) (.int .i64 s4.e))
  clear HB
  go_region
  all_goals go_wp2
  generalize (((((((W4.setCell ⟨k1, 0, none⟩ (.int .u32 (v1 : Int))).setCell ⟨k1, 1, none⟩ (.int .u16 (v2 : Int))).setCell ⟨k1, 2, none⟩ (.string v3)).setCell ⟨k1, 3, none⟩ (.string v4)).setCell ⟨k2, 0, none⟩ (.slice a n c)).setCell ⟨k2, 1, none⟩ (.int .i64 (s4.p : Int))).setCell ⟨k2, 2, none⟩ (.int .i64 s4.e)) = WW at *
  have p0 : WW.cell? ⟨k1, 0, none⟩ = some (.int .u32 (v1 : Int)) := HY1.out.cell 0
  have p1 : WW.cell? ⟨k1, 1, none⟩ = some (.int .u16 (v2 : Int)) := HY1.out.cell 1
  have p2 : WW.cell? ⟨k1, 2, none⟩ = some (.string v3) := HY1.out.cell 2
  have p3 : WW.cell? ⟨k1, 3, none⟩ = some (.string v4) := HY1.out.cell 3
  have q0 : WW.cell? ⟨k2, 0, none⟩ = some (.slice a n c) := HY2.out.cell 0
  have q1 : WW.cell? ⟨k2, 1, none⟩ = some (.int .i64 (s4.p : Int)) := HY2.out.cell 1
  have q2 : WW.cell? ⟨k2, 2, none⟩ = some (.int .i64 s4.e) := HY2.out.cell 2
  exact bodyPost_ret (v := .tuple #[ev ⟨v1, v2, v3, v4⟩, rrv a n c s4]) (by simp [results, Try.results30, go_sem, p0, p1, p2, p3, q0, q1, q2]) rfl ⟨⟨v1, v2, v3, v4⟩, s4, HC, hp4, rfl, by first | exact HR.out.drew | (rw [hk0]; exact HR.out.drew)⟩
end Go.Proofs.Ytjegpcmejlffhaa.Cod
