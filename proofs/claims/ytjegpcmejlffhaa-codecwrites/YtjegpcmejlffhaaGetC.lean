/-
  Contract of the program's reader of nodes: msg.
-/
import Derived.Test.YtjegpcmejlffhaaGetB
import Derived.Test.YtjegpcmejlffhaaPn
namespace Go.Proofs.Ytjegpcmejlffhaa.Cod
set_option linter.unusedSimpArgs false
set_option linter.unusedVariables false
open Go.RowKit
open Key (M E Pr Nd Pl nv Lies mayI ev mv)

set_option maxRecDepth 100000 in
set_option maxHeartbeats 2000000 in
theorem msg65 {w : World} {B k : Nat} {zs : List Int} {s : St} (h : Rdr w B k zs s) :
    Calls Try.prog 65 #[rdv k] w fun x w' => ∃ (m : M) (s' : St), Hid (rM zs s = (m, s')) ∧ x = .returned (mv m) ∧ Rdr w' B k zs s' ∧ w.grownBy w' (some k) := by
  obtain ⟨R0, R1, hbW, hsz⟩ := two_boxes w #[.pointer (some ⟨k, 0, none⟩)] #[.int .u8 0, .string ⟨#[]⟩, .string ⟨#[]⟩, .int .u32 0, .int .u16 0, .string ⟨#[]⟩] 64 60
  have hr := h.later hbW
  have hk := h.lt.1
  have HG := G.of (k := k) hbW
  clear hbW h
  go_enter Try.func65, Try.ntmps65
  go_upto_region 1 with fail
  generalize hW : (w.alloc (.cells #[.pointer (some ⟨k, 0, none⟩)] 64)).alloc (.cells #[.int .u8 0, .string ⟨#[]⟩, .string ⟨#[]⟩, .int .u32 0, .int .u16 0, .string ⟨#[]⟩] 60) = W at *
  clear hW
  generalize hk0 : w.heap.size = k0 at *
  generalize hk1 : k0 + 1 = k1 at *
  have d0 : W.cell? ⟨k0, 0, none⟩ = some (.pointer (some ⟨k, 0, none⟩)) := R0.cell 0
  go_wp2_with fail
  refine (get8 hr).mono ?_
  rintro x w1 ⟨q, s1, hs1, hq, rfl, hr1, hg⟩
  have hsz1 := hg.size
  replace R0 := (R0.grown hg (by simp; omega)).alloc (.cells #[.int .u8 (q : Int), .string ⟨#[]⟩, .string ⟨#[]⟩, .int .u32 0, .int .u16 0, .string ⟨#[]⟩] 60)
  replace R1 := (R1.grown hg (by simp; omega)).alloc (.cells #[.int .u8 (q : Int), .string ⟨#[]⟩, .string ⟨#[]⟩, .int .u32 0, .int .u16 0, .string ⟨#[]⟩] 60)
  have R2 := Row.new w1 #[.int .u8 (q : Int), .string ⟨#[]⟩, .string ⟨#[]⟩, .int .u32 0, .int .u16 0, .string ⟨#[]⟩] 60
  replace hr1 := hr1.alloc (.cells #[.int .u8 (q : Int), .string ⟨#[]⟩, .string ⟨#[]⟩, .int .u32 0, .int .u16 0, .string ⟨#[]⟩] 60)
  replace HG := G.alloc (G.trans HG hg) (.cells #[.int .u8 (q : Int), .string ⟨#[]⟩, .string ⟨#[]⟩, .int .u32 0, .int .u16 0, .string ⟨#[]⟩] 60)
  clear hg d0
  go_upto_region 2 with fail
  generalize hW : w1.alloc (.cells #[.int .u8 (q : Int), .string ⟨#[]⟩, .string ⟨#[]⟩, .int .u32 0, .int .u16 0, .string ⟨#[]⟩] 60) = W1 at *
  clear hW
  generalize hk2 : w1.heap.size = k2 at *
  have l1 : w.heap.size ≤ k1 := by omega
  have l2 : w.heap.size ≤ k2 := by omega
  have n12 : k1 ≠ k2 := by omega
  have n02 : k0 ≠ k2 := by omega
  have n01 : k0 ≠ k1 := by omega
  have n1 : k < k1 := by omega
  have n2 : k < k2 := by omega
  clear hk1 hk2 hsz hsz1 hr
  have d0 : W1.cell? ⟨k0, 0, none⟩ = some (.pointer (some ⟨k, 0, none⟩)) := R0.cell 0
  have dq : W1.cell? ⟨k2, 0, none⟩ = some (.int .u8 (q : Int)) := R2.cell 0
  by_cases hb : q < 1 ∨ 3 < q
  · have hne1 : ((q : Int) == 1) = false := by simp; omega
    have hne3 : ((q : Int) == 3) = false := by simp; omega
    by_cases hq1 : q < 1
    · have hd1 : decide ((q : Int) < 1) = true := by simp; omega
      have HB := hid hb
      clear hb
      go_wp2_with fail
      refine (fail hr1 7).mono ?_
      rintro x w2 ⟨rfl, hr2, hg⟩
      replace R0 := R0.grown hg (by simp; omega)
      replace R1 := R1.grown hg (by simp; omega)
      replace R2 := R2.grown hg (by simp; omega)
      replace HG := G.trans HG hg
      clear hg d0 dq
      go_upto_region 4 with fail
      have d0 : w2.cell? ⟨k0, 0, none⟩ = some (.pointer (some ⟨k, 0, none⟩)) := R0.cell 0
      go_wp2_with fail
      refine (key55 hr2).mono ?_
      rintro x w3 ⟨ky, s3, hs3, rfl, hr3, hg⟩
      clear d0
      replace R0 := R0.grown hg (by simp; omega)
      replace R1 := R1.grown hg (by simp; omega)
      replace R2 := R2.grown hg (by simp; omega)
      have f2 := R2.free 1
      have c2 := R2.cell 1
      simp only [List.getElem?_toArray, List.getElem?_cons_zero, List.getElem?_cons_succ] at c2
      replace R0 := R0.beside (k' := k2) 1 (.string ky) n02
      replace R1 := R1.beside (k' := k2) 1 (.string ky) n12
      replace R2 := R2.set 1 (.string ky)
      simp only [List.setIfInBounds_toArray, List.set_cons_zero, List.set_cons_succ] at R2
      replace hr3 := hr3.set n2 1 (.string ky)
      replace HG := G.set (G.trans HG hg) l2 1 (.string ky)
      clear hg
      go_upto_region 5 with fail
      clear f2 c2
      generalize hW : w3.setCell ⟨k2, 1, none⟩ (.string ky) = W3 at *
      clear hW
      have dq : W3.cell? ⟨k2, 0, none⟩ = some (.int .u8 (q : Int)) := R2.cell 0
      have e0 : W3.cell? ⟨k2, 0, none⟩ = some (.int .u8 (q : Int)) := R2.cell 0
      have g0 := R1.free 0
      have z0 : W3.cell? ⟨k1, 0, none⟩ = some (.int .u8 0) := R1.cell 0
      have e1 : W3.cell? ⟨k2, 1, none⟩ = some (.string ky) := R2.cell 1
      have g1 := R1.free 1
      have z1 : W3.cell? ⟨k1, 1, none⟩ = some (.string ⟨#[]⟩) := R1.cell 1
      have e2 : W3.cell? ⟨k2, 2, none⟩ = some (.string ⟨#[]⟩) := R2.cell 2
      have g2 := R1.free 2
      have z2 : W3.cell? ⟨k1, 2, none⟩ = some (.string ⟨#[]⟩) := R1.cell 2
      have e3 : W3.cell? ⟨k2, 3, none⟩ = some (.int .u32 0) := R2.cell 3
      have g3 := R1.free 3
      have z3 : W3.cell? ⟨k1, 3, none⟩ = some (.int .u32 0) := R1.cell 3
      have e4 : W3.cell? ⟨k2, 4, none⟩ = some (.int .u16 0) := R2.cell 4
      have g4 := R1.free 4
      have z4 : W3.cell? ⟨k1, 4, none⟩ = some (.int .u16 0) := R1.cell 4
      have e5 : W3.cell? ⟨k2, 5, none⟩ = some (.string ⟨#[]⟩) := R2.cell 5
      have g5 := R1.free 5
      have z5 : W3.cell? ⟨k1, 5, none⟩ = some (.string ⟨#[]⟩) := R1.cell 5
      have HR := hid (And.intro ((((((hr3.set n1 0 (.int .u8 (q : Int))).set n1 1 (.string ky)).set n1 2 (.string ⟨#[]⟩)).set n1 3 (.int .u32 0)).set n1 4 (.int .u16 0)).set n1 5 (.string ⟨#[]⟩)) (G.set (G.set (G.set (G.set (G.set (G.set HG l1 0 (.int .u8 (q : Int))) l1 1 (.string ky)) l1 2 (.string ⟨#[]⟩)) l1 3 (.int .u32 0)) l1 4 (.int .u16 0)) l1 5 (.string ⟨#[]⟩)))
      have HY := ((((((R1.set 0 (.int .u8 (q : Int))).set 1 (.string ky)).set 2 (.string ⟨#[]⟩)).set 3 (.int .u32 0)).set 4 (.int .u16 0)).set 5 (.string ⟨#[]⟩))
      simp only [List.setIfInBounds_toArray, List.set_cons_zero, List.set_cons_succ] at HY
      replace HY := hid HY
      clear HG R0 R1 R2 hr3
      go_wp2
      generalize ((((((W3.setCell ⟨k1, 0, none⟩ (.int .u8 (q : Int))).setCell ⟨k1, 1, none⟩ (.string ky)).setCell ⟨k1, 2, none⟩ (.string ⟨#[]⟩)).setCell ⟨k1, 3, none⟩ (.int .u32 0)).setCell ⟨k1, 4, none⟩ (.int .u16 0)).setCell ⟨k1, 5, none⟩ (.string ⟨#[]⟩)) = WW at *
      have y0 : WW.cell? ⟨k1, 0, none⟩ = some (.int .u8 (q : Int)) := HY.out.cell 0
      have y1 : WW.cell? ⟨k1, 1, none⟩ = some (.string ky) := HY.out.cell 1
      have y2 : WW.cell? ⟨k1, 2, none⟩ = some (.string ⟨#[]⟩) := HY.out.cell 2
      have y3 : WW.cell? ⟨k1, 3, none⟩ = some (.int .u32 0) := HY.out.cell 3
      have y4 : WW.cell? ⟨k1, 4, none⟩ = some (.int .u16 0) := HY.out.cell 4
      have y5 : WW.cell? ⟨k1, 5, none⟩ = some (.string ⟨#[]⟩) := HY.out.cell 5
      exact bodyPost_ret (v := mv ⟨(q : Int), ky, ⟨#[]⟩, 0, 0, ⟨#[]⟩⟩) (by simp [results, Try.results65, go_sem, y0, y1, y2, y3, y4, y5]) rfl ⟨⟨q, ky, ⟨#[]⟩, 0, 0, ⟨#[]⟩⟩, s3, rM_bad hs1.out HB.out hs3.out, rfl, HR.out⟩
    · have hd1 : decide ((q : Int) < 1) = false := by simp; omega
      have hd3 : decide ((3 : Int) < (q : Int)) = true := by simp; omega
      have hq3 : 3 < q := by omega
      have HB := hid hb
      clear hb
      go_wp2_with fail
      refine (fail hr1 7).mono ?_
      rintro x w2 ⟨rfl, hr2, hg⟩
      replace R0 := R0.grown hg (by simp; omega)
      replace R1 := R1.grown hg (by simp; omega)
      replace R2 := R2.grown hg (by simp; omega)
      replace HG := G.trans HG hg
      clear hg d0 dq
      go_upto_region 4 with fail
      have d0 : w2.cell? ⟨k0, 0, none⟩ = some (.pointer (some ⟨k, 0, none⟩)) := R0.cell 0
      go_wp2_with fail
      refine (key55 hr2).mono ?_
      rintro x w3 ⟨ky, s3, hs3, rfl, hr3, hg⟩
      clear d0
      replace R0 := R0.grown hg (by simp; omega)
      replace R1 := R1.grown hg (by simp; omega)
      replace R2 := R2.grown hg (by simp; omega)
      have f2 := R2.free 1
      have c2 := R2.cell 1
      simp only [List.getElem?_toArray, List.getElem?_cons_zero, List.getElem?_cons_succ] at c2
      replace R0 := R0.beside (k' := k2) 1 (.string ky) n02
      replace R1 := R1.beside (k' := k2) 1 (.string ky) n12
      replace R2 := R2.set 1 (.string ky)
      simp only [List.setIfInBounds_toArray, List.set_cons_zero, List.set_cons_succ] at R2
      replace hr3 := hr3.set n2 1 (.string ky)
      replace HG := G.set (G.trans HG hg) l2 1 (.string ky)
      clear hg
      go_upto_region 5 with fail
      clear f2 c2
      generalize hW : w3.setCell ⟨k2, 1, none⟩ (.string ky) = W3 at *
      clear hW
      have dq : W3.cell? ⟨k2, 0, none⟩ = some (.int .u8 (q : Int)) := R2.cell 0
      have e0 : W3.cell? ⟨k2, 0, none⟩ = some (.int .u8 (q : Int)) := R2.cell 0
      have g0 := R1.free 0
      have z0 : W3.cell? ⟨k1, 0, none⟩ = some (.int .u8 0) := R1.cell 0
      have e1 : W3.cell? ⟨k2, 1, none⟩ = some (.string ky) := R2.cell 1
      have g1 := R1.free 1
      have z1 : W3.cell? ⟨k1, 1, none⟩ = some (.string ⟨#[]⟩) := R1.cell 1
      have e2 : W3.cell? ⟨k2, 2, none⟩ = some (.string ⟨#[]⟩) := R2.cell 2
      have g2 := R1.free 2
      have z2 : W3.cell? ⟨k1, 2, none⟩ = some (.string ⟨#[]⟩) := R1.cell 2
      have e3 : W3.cell? ⟨k2, 3, none⟩ = some (.int .u32 0) := R2.cell 3
      have g3 := R1.free 3
      have z3 : W3.cell? ⟨k1, 3, none⟩ = some (.int .u32 0) := R1.cell 3
      have e4 : W3.cell? ⟨k2, 4, none⟩ = some (.int .u16 0) := R2.cell 4
      have g4 := R1.free 4
      have z4 : W3.cell? ⟨k1, 4, none⟩ = some (.int .u16 0) := R1.cell 4
      have e5 : W3.cell? ⟨k2, 5, none⟩ = some (.string ⟨#[]⟩) := R2.cell 5
      have g5 := R1.free 5
      have z5 : W3.cell? ⟨k1, 5, none⟩ = some (.string ⟨#[]⟩) := R1.cell 5
      have HR := hid (And.intro ((((((hr3.set n1 0 (.int .u8 (q : Int))).set n1 1 (.string ky)).set n1 2 (.string ⟨#[]⟩)).set n1 3 (.int .u32 0)).set n1 4 (.int .u16 0)).set n1 5 (.string ⟨#[]⟩)) (G.set (G.set (G.set (G.set (G.set (G.set HG l1 0 (.int .u8 (q : Int))) l1 1 (.string ky)) l1 2 (.string ⟨#[]⟩)) l1 3 (.int .u32 0)) l1 4 (.int .u16 0)) l1 5 (.string ⟨#[]⟩)))
      have HY := ((((((R1.set 0 (.int .u8 (q : Int))).set 1 (.string ky)).set 2 (.string ⟨#[]⟩)).set 3 (.int .u32 0)).set 4 (.int .u16 0)).set 5 (.string ⟨#[]⟩))
      simp only [List.setIfInBounds_toArray, List.set_cons_zero, List.set_cons_succ] at HY
      replace HY := hid HY
      clear HG R0 R1 R2 hr3
      go_wp2
      generalize ((((((W3.setCell ⟨k1, 0, none⟩ (.int .u8 (q : Int))).setCell ⟨k1, 1, none⟩ (.string ky)).setCell ⟨k1, 2, none⟩ (.string ⟨#[]⟩)).setCell ⟨k1, 3, none⟩ (.int .u32 0)).setCell ⟨k1, 4, none⟩ (.int .u16 0)).setCell ⟨k1, 5, none⟩ (.string ⟨#[]⟩)) = WW at *
      have y0 : WW.cell? ⟨k1, 0, none⟩ = some (.int .u8 (q : Int)) := HY.out.cell 0
      have y1 : WW.cell? ⟨k1, 1, none⟩ = some (.string ky) := HY.out.cell 1
      have y2 : WW.cell? ⟨k1, 2, none⟩ = some (.string ⟨#[]⟩) := HY.out.cell 2
      have y3 : WW.cell? ⟨k1, 3, none⟩ = some (.int .u32 0) := HY.out.cell 3
      have y4 : WW.cell? ⟨k1, 4, none⟩ = some (.int .u16 0) := HY.out.cell 4
      have y5 : WW.cell? ⟨k1, 5, none⟩ = some (.string ⟨#[]⟩) := HY.out.cell 5
      exact bodyPost_ret (v := mv ⟨(q : Int), ky, ⟨#[]⟩, 0, 0, ⟨#[]⟩⟩) (by simp [results, Try.results65, go_sem, y0, y1, y2, y3, y4, y5]) rfl ⟨⟨q, ky, ⟨#[]⟩, 0, 0, ⟨#[]⟩⟩, s3, rM_bad hs1.out HB.out hs3.out, rfl, HR.out⟩
  · have hd1 : decide ((q : Int) < 1) = false := by simp; omega
    have hd3 : decide ((3 : Int) < (q : Int)) = false := by simp; omega
    have hq1 : ¬ q < 1 := by omega
    have hq3 : ¬ 3 < q := by omega
    go_upto_region 4 with fail
    clear d0 dq
    have d0 : W1.cell? ⟨k0, 0, none⟩ = some (.pointer (some ⟨k, 0, none⟩)) := R0.cell 0
    go_wp2_with fail
    refine (key55 hr1).mono ?_
    rintro x w2 ⟨ky, s2, hs2, rfl, hr2, hg⟩
    clear d0
    replace R0 := R0.grown hg (by simp; omega)
    replace R1 := R1.grown hg (by simp; omega)
    replace R2 := R2.grown hg (by simp; omega)
    have f2 := R2.free 1
    have c2 := R2.cell 1
    simp only [List.getElem?_toArray, List.getElem?_cons_zero, List.getElem?_cons_succ] at c2
    replace R0 := R0.beside (k' := k2) 1 (.string ky) n02
    replace R1 := R1.beside (k' := k2) 1 (.string ky) n12
    replace R2 := R2.set 1 (.string ky)
    simp only [List.setIfInBounds_toArray, List.set_cons_zero, List.set_cons_succ] at R2
    replace hr2 := hr2.set n2 1 (.string ky)
    replace HG := G.set (G.trans HG hg) l2 1 (.string ky)
    clear hg
    go_upto_region 5 with fail
    clear f2 c2
    generalize hW : w2.setCell ⟨k2, 1, none⟩ (.string ky) = W2 at *
    clear hW
    have dq : W2.cell? ⟨k2, 0, none⟩ = some (.int .u8 (q : Int)) := R2.cell 0
    have HB := hid hb
    clear hb hd1 hd3 hq1 hq3
    by_cases m1 : q = 1
    · have hqi : (q : Int) = 1 := by omega
      rw [hqi] at R2 dq ⊢
      have M1 := hid m1
      clear m1 hqi
      have d0 : W2.cell? ⟨k0, 0, none⟩ = some (.pointer (some ⟨k, 0, none⟩)) := R0.cell 0
      go_wp2_with fail
      refine (getText hr2 32).mono ?_
      rintro x w3 ⟨vl, s3, hs3, rfl, hr3, hg⟩
      clear d0
      replace R0 := R0.grown hg (by simp; omega)
      replace R1 := R1.grown hg (by simp; omega)
      replace R2 := R2.grown hg (by simp; omega)
      have f2 := R2.free 2
      have c2 := R2.cell 2
      simp only [List.getElem?_toArray, List.getElem?_cons_zero, List.getElem?_cons_succ] at c2
      replace R0 := R0.beside (k' := k2) 2 (.string vl) n02
      replace R1 := R1.beside (k' := k2) 2 (.string vl) n12
      replace R2 := R2.set 2 (.string vl)
      simp only [List.setIfInBounds_toArray, List.set_cons_zero, List.set_cons_succ] at R2
      replace hr3 := hr3.set n2 2 (.string vl)
      replace HG := G.set (G.trans HG hg) l2 2 (.string vl)
      clear hg
      go_upto_region 12 with fail
      clear f2 c2
      generalize hW : w3.setCell ⟨k2, 2, none⟩ (.string vl) = W3 at *
      clear hW
      have e0 : W3.cell? ⟨k2, 0, none⟩ = some (.int .u8 1) := R2.cell 0
      have g0 := R1.free 0
      have z0 : W3.cell? ⟨k1, 0, none⟩ = some (.int .u8 0) := R1.cell 0
      have e1 : W3.cell? ⟨k2, 1, none⟩ = some (.string ky) := R2.cell 1
      have g1 := R1.free 1
      have z1 : W3.cell? ⟨k1, 1, none⟩ = some (.string ⟨#[]⟩) := R1.cell 1
      have e2 : W3.cell? ⟨k2, 2, none⟩ = some (.string vl) := R2.cell 2
      have g2 := R1.free 2
      have z2 : W3.cell? ⟨k1, 2, none⟩ = some (.string ⟨#[]⟩) := R1.cell 2
      have e3 : W3.cell? ⟨k2, 3, none⟩ = some (.int .u32 0) := R2.cell 3
      have g3 := R1.free 3
      have z3 : W3.cell? ⟨k1, 3, none⟩ = some (.int .u32 0) := R1.cell 3
      have e4 : W3.cell? ⟨k2, 4, none⟩ = some (.int .u16 0) := R2.cell 4
      have g4 := R1.free 4
      have z4 : W3.cell? ⟨k1, 4, none⟩ = some (.int .u16 0) := R1.cell 4
      have e5 : W3.cell? ⟨k2, 5, none⟩ = some (.string ⟨#[]⟩) := R2.cell 5
      have g5 := R1.free 5
      have z5 : W3.cell? ⟨k1, 5, none⟩ = some (.string ⟨#[]⟩) := R1.cell 5
      have HR := hid (And.intro ((((((hr3.set n1 0 (.int .u8 1)).set n1 1 (.string ky)).set n1 2 (.string vl)).set n1 3 (.int .u32 0)).set n1 4 (.int .u16 0)).set n1 5 (.string ⟨#[]⟩)) (G.set (G.set (G.set (G.set (G.set (G.set HG l1 0 (.int .u8 1)) l1 1 (.string ky)) l1 2 (.string vl)) l1 3 (.int .u32 0)) l1 4 (.int .u16 0)) l1 5 (.string ⟨#[]⟩)))
      have HY := ((((((R1.set 0 (.int .u8 1)).set 1 (.string ky)).set 2 (.string vl)).set 3 (.int .u32 0)).set 4 (.int .u16 0)).set 5 (.string ⟨#[]⟩))
      simp only [List.setIfInBounds_toArray, List.set_cons_zero, List.set_cons_succ] at HY
      replace HY := hid HY
      clear HG R0 R1 R2 hr3
      go_wp2
      generalize ((((((W3.setCell ⟨k1, 0, none⟩ (.int .u8 1)).setCell ⟨k1, 1, none⟩ (.string ky)).setCell ⟨k1, 2, none⟩ (.string vl)).setCell ⟨k1, 3, none⟩ (.int .u32 0)).setCell ⟨k1, 4, none⟩ (.int .u16 0)).setCell ⟨k1, 5, none⟩ (.string ⟨#[]⟩)) = WW at *
      have y0 : WW.cell? ⟨k1, 0, none⟩ = some (.int .u8 1) := HY.out.cell 0
      have y1 : WW.cell? ⟨k1, 1, none⟩ = some (.string ky) := HY.out.cell 1
      have y2 : WW.cell? ⟨k1, 2, none⟩ = some (.string vl) := HY.out.cell 2
      have y3 : WW.cell? ⟨k1, 3, none⟩ = some (.int .u32 0) := HY.out.cell 3
      have y4 : WW.cell? ⟨k1, 4, none⟩ = some (.int .u16 0) := HY.out.cell 4
      have y5 : WW.cell? ⟨k1, 5, none⟩ = some (.string ⟨#[]⟩) := HY.out.cell 5
      exact bodyPost_ret (v := mv ⟨1, ky, vl, 0, 0, ⟨#[]⟩⟩) (by simp [results, Try.results65, go_sem, y0, y1, y2, y3, y4, y5]) rfl ⟨⟨1, ky, vl, 0, 0, ⟨#[]⟩⟩, s3, rM_put hs1.out HB.out hs2.out M1.out hs3.out, rfl, HR.out⟩
    · by_cases m3 : q = 3
      · have hqi : (q : Int) = 3 := by omega
        rw [hqi] at R2 dq ⊢
        have M3 := hid m3
        clear m3 hqi m1
        have d0 : W2.cell? ⟨k0, 0, none⟩ = some (.pointer (some ⟨k, 0, none⟩)) := R0.cell 0
        go_wp2_with fail
        refine (get32 hr2).mono ?_
        rintro x w3 ⟨bk, s3, hs3, _, rfl, hr3, hg⟩
        clear d0
        replace R0 := R0.grown hg (by simp; omega)
        replace R1 := R1.grown hg (by simp; omega)
        replace R2 := R2.grown hg (by simp; omega)
        have f2 := R2.free 3
        have c2 := R2.cell 3
        simp only [List.getElem?_toArray, List.getElem?_cons_zero, List.getElem?_cons_succ] at c2
        replace R0 := R0.beside (k' := k2) 3 (.int .u32 (bk : Int)) n02
        replace R1 := R1.beside (k' := k2) 3 (.int .u32 (bk : Int)) n12
        replace R2 := R2.set 3 (.int .u32 (bk : Int))
        simp only [List.setIfInBounds_toArray, List.set_cons_zero, List.set_cons_succ] at R2
        replace hr3 := hr3.set n2 3 (.int .u32 (bk : Int))
        replace HG := G.set (G.trans HG hg) l2 3 (.int .u32 (bk : Int))
        clear hg
        go_upto_region 10 with fail
        clear f2 c2
        generalize hW : w3.setCell ⟨k2, 3, none⟩ (.int .u32 (bk : Int)) = W3 at *
        clear hW
        have d0 : W3.cell? ⟨k0, 0, none⟩ = some (.pointer (some ⟨k, 0, none⟩)) := R0.cell 0
        go_wp2_with fail
        refine (get16 hr3).mono ?_
        rintro x w4 ⟨dp, s4, hs4, _, rfl, hr4, hg⟩
        clear d0
        replace R0 := R0.grown hg (by simp; omega)
        replace R1 := R1.grown hg (by simp; omega)
        replace R2 := R2.grown hg (by simp; omega)
        have f2 := R2.free 4
        have c2 := R2.cell 4
        simp only [List.getElem?_toArray, List.getElem?_cons_zero, List.getElem?_cons_succ] at c2
        replace R0 := R0.beside (k' := k2) 4 (.int .u16 (dp : Int)) n02
        replace R1 := R1.beside (k' := k2) 4 (.int .u16 (dp : Int)) n12
        replace R2 := R2.set 4 (.int .u16 (dp : Int))
        simp only [List.setIfInBounds_toArray, List.set_cons_zero, List.set_cons_succ] at R2
        replace hr4 := hr4.set n2 4 (.int .u16 (dp : Int))
        replace HG := G.set (G.trans HG hg) l2 4 (.int .u16 (dp : Int))
        clear hg
        go_upto_region 11 with fail
        clear f2 c2
        generalize hW : w4.setCell ⟨k2, 4, none⟩ (.int .u16 (dp : Int)) = W4 at *
        clear hW
        have d0 : W4.cell? ⟨k0, 0, none⟩ = some (.pointer (some ⟨k, 0, none⟩)) := R0.cell 0
        go_wp2_with fail
        refine (key55 hr4).mono ?_
        rintro x w5 ⟨ad, s5, hs5, rfl, hr5, hg⟩
        clear d0
        replace R0 := R0.grown hg (by simp; omega)
        replace R1 := R1.grown hg (by simp; omega)
        replace R2 := R2.grown hg (by simp; omega)
        have f2 := R2.free 5
        have c2 := R2.cell 5
        simp only [List.getElem?_toArray, List.getElem?_cons_zero, List.getElem?_cons_succ] at c2
        replace R0 := R0.beside (k' := k2) 5 (.string ad) n02
        replace R1 := R1.beside (k' := k2) 5 (.string ad) n12
        replace R2 := R2.set 5 (.string ad)
        simp only [List.setIfInBounds_toArray, List.set_cons_zero, List.set_cons_succ] at R2
        replace hr5 := hr5.set n2 5 (.string ad)
        replace HG := G.set (G.trans HG hg) l2 5 (.string ad)
        clear hg
        go_upto_region 12 with fail
        clear f2 c2
        generalize hW : w5.setCell ⟨k2, 5, none⟩ (.string ad) = W5 at *
        clear hW
        have e0 : W5.cell? ⟨k2, 0, none⟩ = some (.int .u8 3) := R2.cell 0
        have g0 := R1.free 0
        have z0 : W5.cell? ⟨k1, 0, none⟩ = some (.int .u8 0) := R1.cell 0
        have e1 : W5.cell? ⟨k2, 1, none⟩ = some (.string ky) := R2.cell 1
        have g1 := R1.free 1
        have z1 : W5.cell? ⟨k1, 1, none⟩ = some (.string ⟨#[]⟩) := R1.cell 1
        have e2 : W5.cell? ⟨k2, 2, none⟩ = some (.string ⟨#[]⟩) := R2.cell 2
        have g2 := R1.free 2
        have z2 : W5.cell? ⟨k1, 2, none⟩ = some (.string ⟨#[]⟩) := R1.cell 2
        have e3 : W5.cell? ⟨k2, 3, none⟩ = some (.int .u32 (bk : Int)) := R2.cell 3
        have g3 := R1.free 3
        have z3 : W5.cell? ⟨k1, 3, none⟩ = some (.int .u32 0) := R1.cell 3
        have e4 : W5.cell? ⟨k2, 4, none⟩ = some (.int .u16 (dp : Int)) := R2.cell 4
        have g4 := R1.free 4
        have z4 : W5.cell? ⟨k1, 4, none⟩ = some (.int .u16 0) := R1.cell 4
        have e5 : W5.cell? ⟨k2, 5, none⟩ = some (.string ad) := R2.cell 5
        have g5 := R1.free 5
        have z5 : W5.cell? ⟨k1, 5, none⟩ = some (.string ⟨#[]⟩) := R1.cell 5
        have HR := hid (And.intro ((((((hr5.set n1 0 (.int .u8 3)).set n1 1 (.string ky)).set n1 2 (.string ⟨#[]⟩)).set n1 3 (.int .u32 (bk : Int))).set n1 4 (.int .u16 (dp : Int))).set n1 5 (.string ad)) (G.set (G.set (G.set (G.set (G.set (G.set HG l1 0 (.int .u8 3)) l1 1 (.string ky)) l1 2 (.string ⟨#[]⟩)) l1 3 (.int .u32 (bk : Int))) l1 4 (.int .u16 (dp : Int))) l1 5 (.string ad)))
        have HY := ((((((R1.set 0 (.int .u8 3)).set 1 (.string ky)).set 2 (.string ⟨#[]⟩)).set 3 (.int .u32 (bk : Int))).set 4 (.int .u16 (dp : Int))).set 5 (.string ad))
        simp only [List.setIfInBounds_toArray, List.set_cons_zero, List.set_cons_succ] at HY
        replace HY := hid HY
        clear HG R0 R1 R2 hr5
        go_wp2
        generalize ((((((W5.setCell ⟨k1, 0, none⟩ (.int .u8 3)).setCell ⟨k1, 1, none⟩ (.string ky)).setCell ⟨k1, 2, none⟩ (.string ⟨#[]⟩)).setCell ⟨k1, 3, none⟩ (.int .u32 (bk : Int))).setCell ⟨k1, 4, none⟩ (.int .u16 (dp : Int))).setCell ⟨k1, 5, none⟩ (.string ad)) = WW at *
        have y0 : WW.cell? ⟨k1, 0, none⟩ = some (.int .u8 3) := HY.out.cell 0
        have y1 : WW.cell? ⟨k1, 1, none⟩ = some (.string ky) := HY.out.cell 1
        have y2 : WW.cell? ⟨k1, 2, none⟩ = some (.string ⟨#[]⟩) := HY.out.cell 2
        have y3 : WW.cell? ⟨k1, 3, none⟩ = some (.int .u32 (bk : Int)) := HY.out.cell 3
        have y4 : WW.cell? ⟨k1, 4, none⟩ = some (.int .u16 (dp : Int)) := HY.out.cell 4
        have y5 : WW.cell? ⟨k1, 5, none⟩ = some (.string ad) := HY.out.cell 5
        exact bodyPost_ret (v := mv ⟨3, ky, ⟨#[]⟩, (bk : Int), (dp : Int), ad⟩) (by simp [results, Try.results65, go_sem, y0, y1, y2, y3, y4, y5]) rfl ⟨⟨3, ky, ⟨#[]⟩, bk, dp, ad⟩, s5, rM_goto hs1.out HB.out hs2.out M3.out hs3.out hs4.out hs5.out, rfl, HR.out⟩
      · have hne1 : ((q : Int) == 1) = false := by simp; omega
        have hne3 : ((q : Int) == 3) = false := by simp; omega
        have M13 := hid (And.intro m1 m3)
        clear m1 m3
        have e0 : W2.cell? ⟨k2, 0, none⟩ = some (.int .u8 (q : Int)) := R2.cell 0
        have g0 := R1.free 0
        have z0 : W2.cell? ⟨k1, 0, none⟩ = some (.int .u8 0) := R1.cell 0
        have e1 : W2.cell? ⟨k2, 1, none⟩ = some (.string ky) := R2.cell 1
        have g1 := R1.free 1
        have z1 : W2.cell? ⟨k1, 1, none⟩ = some (.string ⟨#[]⟩) := R1.cell 1
        have e2 : W2.cell? ⟨k2, 2, none⟩ = some (.string ⟨#[]⟩) := R2.cell 2
        have g2 := R1.free 2
        have z2 : W2.cell? ⟨k1, 2, none⟩ = some (.string ⟨#[]⟩) := R1.cell 2
        have e3 : W2.cell? ⟨k2, 3, none⟩ = some (.int .u32 0) := R2.cell 3
        have g3 := R1.free 3
        have z3 : W2.cell? ⟨k1, 3, none⟩ = some (.int .u32 0) := R1.cell 3
        have e4 : W2.cell? ⟨k2, 4, none⟩ = some (.int .u16 0) := R2.cell 4
        have g4 := R1.free 4
        have z4 : W2.cell? ⟨k1, 4, none⟩ = some (.int .u16 0) := R1.cell 4
        have e5 : W2.cell? ⟨k2, 5, none⟩ = some (.string ⟨#[]⟩) := R2.cell 5
        have g5 := R1.free 5
        have z5 : W2.cell? ⟨k1, 5, none⟩ = some (.string ⟨#[]⟩) := R1.cell 5
        have HR := hid (And.intro ((((((hr2.set n1 0 (.int .u8 (q : Int))).set n1 1 (.string ky)).set n1 2 (.string ⟨#[]⟩)).set n1 3 (.int .u32 0)).set n1 4 (.int .u16 0)).set n1 5 (.string ⟨#[]⟩)) (G.set (G.set (G.set (G.set (G.set (G.set HG l1 0 (.int .u8 (q : Int))) l1 1 (.string ky)) l1 2 (.string ⟨#[]⟩)) l1 3 (.int .u32 0)) l1 4 (.int .u16 0)) l1 5 (.string ⟨#[]⟩)))
        have HY := ((((((R1.set 0 (.int .u8 (q : Int))).set 1 (.string ky)).set 2 (.string ⟨#[]⟩)).set 3 (.int .u32 0)).set 4 (.int .u16 0)).set 5 (.string ⟨#[]⟩))
        simp only [List.setIfInBounds_toArray, List.set_cons_zero, List.set_cons_succ] at HY
        replace HY := hid HY
        clear HG R0 R1 R2 hr2
        go_wp2
        generalize ((((((W2.setCell ⟨k1, 0, none⟩ (.int .u8 (q : Int))).setCell ⟨k1, 1, none⟩ (.string ky)).setCell ⟨k1, 2, none⟩ (.string ⟨#[]⟩)).setCell ⟨k1, 3, none⟩ (.int .u32 0)).setCell ⟨k1, 4, none⟩ (.int .u16 0)).setCell ⟨k1, 5, none⟩ (.string ⟨#[]⟩)) = WW at *
        have y0 : WW.cell? ⟨k1, 0, none⟩ = some (.int .u8 (q : Int)) := HY.out.cell 0
        have y1 : WW.cell? ⟨k1, 1, none⟩ = some (.string ky) := HY.out.cell 1
        have y2 : WW.cell? ⟨k1, 2, none⟩ = some (.string ⟨#[]⟩) := HY.out.cell 2
        have y3 : WW.cell? ⟨k1, 3, none⟩ = some (.int .u32 0) := HY.out.cell 3
        have y4 : WW.cell? ⟨k1, 4, none⟩ = some (.int .u16 0) := HY.out.cell 4
        have y5 : WW.cell? ⟨k1, 5, none⟩ = some (.string ⟨#[]⟩) := HY.out.cell 5
        exact bodyPost_ret (v := mv ⟨(q : Int), ky, ⟨#[]⟩, 0, 0, ⟨#[]⟩⟩) (by simp [results, Try.results65, go_sem, y0, y1, y2, y3, y4, y5]) rfl ⟨⟨q, ky, ⟨#[]⟩, 0, 0, ⟨#[]⟩⟩, s2, rM_del hs1.out HB.out hs2.out M13.out.1 M13.out.2, rfl, HR.out⟩
end Go.Proofs.Ytjegpcmejlffhaa.Cod
