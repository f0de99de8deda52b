/-
  Contract of the program's Get.
-/
import Derived.Test.YtjegpcmejlffhaaGetG
import Derived.Test.YtjegpcmejlffhaaMayN
namespace Go.Proofs.Ytjegpcmejlffhaa.Cod
set_option linter.unusedSimpArgs false
set_option linter.unusedVariables false
open Go.RowKit
open Key (M E Pr Nd Pl nv Lies mayI ev mv)

theorem says_err {n : Nd} {e : Int} (h : e ≠ 0) : says n e = (zeroN, e) := if_pos h
theorem says_no {n : Nd} (h : mayI n ≠ 0) : says n 0 = (zeroN, 3) := (if_neg (fun h => h rfl)).trans (if_pos h)
theorem says_yes {n : Nd} (h : mayI n = 0) : says n 0 = (n, 0) := (if_neg (fun h => h rfl)).trans (if_neg (not_not_intro h))
theorem getN_of {f : List Int → St → M × St} {zs : List Int} {n : Nd} {s : St} (h : rN f zs ⟨0, 0⟩ = (n, s)) : getN f zs = says n (Pack.endE zs.length s.p s.e) := by
  unfold getN
  rw [h]

set_option maxRecDepth 100000 in
set_option maxHeartbeats 2000000 in
theorem get10 (a : Option Addr) (l cap : Nat) (zs : List Int) (w : World) (hn : zs.length = l) (hb : Pack.Bytes w a zs) (hz : Pack.Byt zs) (hnil : a = none → l = 0 ∧ cap = 0) (hm : l ≤ 100000) :
    Calls Try.prog 10 #[.slice a l cap] w fun x w' => ∃ (n : Nd) (e : Int), Hid (getN rM zs = (n, e)) ∧ ∃ p, x = .returned (.tuple #[nv n p, .int .i64 e]) ∧ OwnN w' w.heap.size n p ∧ Less n ∧ Below w.heap.size w w' := by
  have R0 := Row.new w #[.bool false, .slice none 0 0, .slice none 0 0, .slice none 0 0, .slice none 0 0] 27
  have HB := one_box w (.cells #[.bool false, .slice none 0 0, .slice none 0 0, .slice none 0 0, .slice none 0 0] 27)
  replace hb := hb.later HB
  have hsz : (w.alloc (.cells #[.bool false, .slice none 0 0, .slice none 0 0, .slice none 0 0, .slice none 0 0] 27)).heap.size = w.heap.size + 1 := by simp
  go_enter Try.func10, Try.ntmps10
  go_upto_region 1 with fail
  generalize hW : w.alloc (.cells #[.bool false, .slice none 0 0, .slice none 0 0, .slice none 0 0, .slice none 0 0] 27) = W0 at *
  clear hW
  generalize hk0 : w.heap.size = k0 at *
  go_wp2_with fail
  refine (Pack.New_any a l cap zs W0 hn hb hz hnil hm).mono ?_
  rintro x w1 ⟨k, rfl, hr, hb1⟩
  clear hb hnil
  have hk : W0.heap.size ≤ k ∧ k < w1.heap.size := ⟨hr.lt.2, hr.lt.1⟩
  have hr1 : Rdr (w1.alloc (.cells #[.pointer (some ⟨k, 0, none⟩)] 64)) W0.heap.size k zs ⟨0, 0⟩ := Rdr.alloc (s := ⟨0, 0⟩) hr _
  replace R0 := (R0.later hb1).alloc (.cells #[.pointer (some ⟨k, 0, none⟩)] 64)
  have R1 := Row.new w1 #[.pointer (some ⟨k, 0, none⟩)] 64
  replace HB := (HB.trans (hb1.mono (by omega))).alloc (by have := hb1.size; omega) (.cells #[.pointer (some ⟨k, 0, none⟩)] 64)
  have hs1 : (w1.alloc (.cells #[.pointer (some ⟨k, 0, none⟩)] 64)).heap.size = w1.heap.size + 1 := by simp
  have b1 := hb1.size
  clear hr hb1
  go_upto_region 2 with fail
  generalize hW : w1.alloc (.cells #[.pointer (some ⟨k, 0, none⟩)] 64) = W1 at *
  clear hW
  generalize hk1 : w1.heap.size = k1 at *
  have d0 : W1.cell? ⟨k1, 0, none⟩ = some (.pointer (some ⟨k, 0, none⟩)) := R1.cell 0
  go_wp2_with fail
  refine (node22 hr1).mono ?_
  rintro x w2 ⟨n, s2, hs2, p, rfl, ho, hl, hr2, hg⟩
  have HS := hid (getN_of hs2.out)
  obtain ⟨lf, ps, pv, ks, bf⟩ := n
  obtain ⟨a1, c1, a2, c2, a3, c3, a4, c4⟩ := p
  replace R0 := (R0.grown hg (by simp; omega)).alloc (.cells #[.bool lf, .slice a1 ps.length c1, .slice a2 pv.length c2, .slice a3 ks.length c3, .slice a4 bf.length c4] 27)
  replace R1 := (R1.grown hg (by simp; omega)).alloc (.cells #[.bool lf, .slice a1 ps.length c1, .slice a2 pv.length c2, .slice a3 ks.length c3, .slice a4 bf.length c4] 27)
  have R2 := Row.new w2 #[.bool lf, .slice a1 ps.length c1, .slice a2 pv.length c2, .slice a3 ks.length c3, .slice a4 bf.length c4] 27
  replace ho := ho.later (one_box w2 (.cells #[.bool lf, .slice a1 ps.length c1, .slice a2 pv.length c2, .slice a3 ks.length c3, .slice a4 bf.length c4] 27))
  replace hr2 := hr2.alloc (.cells #[.bool lf, .slice a1 ps.length c1, .slice a2 pv.length c2, .slice a3 ks.length c3, .slice a4 bf.length c4] 27)
  have b2 := hg.size
  replace HB := (HB.grown hg (by omega) (fun j hj => by cases hj; omega)).alloc (by omega) (.cells #[.bool lf, .slice a1 ps.length c1, .slice a2 pv.length c2, .slice a3 ks.length c3, .slice a4 bf.length c4] 27)
  clear hg d0 hr1
  go_upto_region 3 with fail
  generalize hW : w2.alloc (.cells #[.bool lf, .slice a1 ps.length c1, .slice a2 pv.length c2, .slice a3 ks.length c3, .slice a4 bf.length c4] 27) = W2 at *
  clear hW
  generalize hk2 : w2.heap.size = k2 at *
  have d0 : W2.cell? ⟨k1, 0, none⟩ = some (.pointer (some ⟨k, 0, none⟩)) := R1.cell 0
  have l0 : k0 ≤ k0 := Nat.le_refl _
  go_wp2_with fail
  refine (Pack.End_any hr2).mono ?_
  rintro x w3 ⟨rfl, hb3⟩
  have b3 := hb3.size
  replace R0 := R0.later hb3
  replace R2 := R2.later hb3
  replace ho := ho.later hb3
  replace HB := HB.trans (hb3.mono (by have := HB.size; omega))
  clear hb3 hr2 R1 d0
  generalize hE : Pack.endE zs.length s2.p s2.e = e at *
  replace hE := hid hE
  by_cases he : e = 0
  · subst he
    have e0 : w3.cell? ⟨k2, 0, none⟩ = some (.bool lf) := R2.cell 0
    have e1 : w3.cell? ⟨k2, 1, none⟩ = some (.slice a1 ps.length c1) := R2.cell 1
    have e2 : w3.cell? ⟨k2, 2, none⟩ = some (.slice a2 pv.length c2) := R2.cell 2
    have e3 : w3.cell? ⟨k2, 3, none⟩ = some (.slice a3 ks.length c3) := R2.cell 3
    have e4 : w3.cell? ⟨k2, 4, none⟩ = some (.slice a4 bf.length c4) := R2.cell 4
    have HM := hid (Key.may12 ⟨lf, ps, pv, ks, bf⟩ ⟨a1, c1, a2, c2, a3, c3, a4, c4⟩ w3 hl.few ho.lies)
    go_wp2_with fail
    refine HM.out.mono ?_
    rintro x w4 ⟨rfl, hb4⟩
    have b4 := hb4.size
    replace R0 := R0.later hb4
    replace R2 := R2.later hb4
    replace ho := ho.later hb4
    replace HB := HB.trans (hb4.mono (by have := HB.size; omega))
    clear hb4 e0 e1 e2 e3 e4 HM
    generalize hM : mayI ⟨lf, ps, pv, ks, bf⟩ = m at *
    replace hM := hid hM
    by_cases hm0 : m = 0
    · subst hm0
      have g0 := R0.free 0
      have z0 : w4.cell? ⟨k0, 0, none⟩ = some (.bool false) := R0.cell 0
      have e0 : w4.cell? ⟨k2, 0, none⟩ = some (.bool lf) := R2.cell 0
      have g1 := R0.free 1
      have z1 : w4.cell? ⟨k0, 1, none⟩ = some (.slice none 0 0) := R0.cell 1
      have e1 : w4.cell? ⟨k2, 1, none⟩ = some (.slice a1 ps.length c1) := R2.cell 1
      have g2 := R0.free 2
      have z2 : w4.cell? ⟨k0, 2, none⟩ = some (.slice none 0 0) := R0.cell 2
      have e2 : w4.cell? ⟨k2, 2, none⟩ = some (.slice a2 pv.length c2) := R2.cell 2
      have g3 := R0.free 3
      have z3 : w4.cell? ⟨k0, 3, none⟩ = some (.slice none 0 0) := R0.cell 3
      have e3 : w4.cell? ⟨k2, 3, none⟩ = some (.slice a3 ks.length c3) := R2.cell 3
      have g4 := R0.free 4
      have z4 : w4.cell? ⟨k0, 4, none⟩ = some (.slice none 0 0) := R0.cell 4
      have e4 : w4.cell? ⟨k2, 4, none⟩ = some (.slice a4 bf.length c4) := R2.cell 4
      have HR := hid (Below.setCell (Below.setCell (Below.setCell (Below.setCell (Below.setCell HB (p := ⟨k0, 0, none⟩) (by exact l0) (.bool lf)) (p := ⟨k0, 1, none⟩) (by exact l0) (.slice a1 ps.length c1)) (p := ⟨k0, 2, none⟩) (by exact l0) (.slice a2 pv.length c2)) (p := ⟨k0, 3, none⟩) (by exact l0) (.slice a3 ks.length c3)) (p := ⟨k0, 4, none⟩) (by exact l0) (.slice a4 bf.length c4))
      have Hho := hid (((((ho.set (k := k0) (by omega) 0 (.bool lf)).set (k := k0) (by omega) 1 (.slice a1 ps.length c1)).set (k := k0) (by omega) 2 (.slice a2 pv.length c2)).set (k := k0) (by omega) 3 (.slice a3 ks.length c3)).set (k := k0) (by omega) 4 (.slice a4 bf.length c4))
      clear ho
      have HY := (((((R0.set 0 (.bool lf)).set 1 (.slice a1 ps.length c1)).set 2 (.slice a2 pv.length c2)).set 3 (.slice a3 ks.length c3)).set 4 (.slice a4 bf.length c4))
      simp only [List.setIfInBounds_toArray, List.set_cons_zero, List.set_cons_succ] at HY
      replace HY := hid HY
      clear HB R0 R2
      go_wp2
      generalize (((((w4.setCell ⟨k0, 0, none⟩ (.bool lf)).setCell ⟨k0, 1, none⟩ (.slice a1 ps.length c1)).setCell ⟨k0, 2, none⟩ (.slice a2 pv.length c2)).setCell ⟨k0, 3, none⟩ (.slice a3 ks.length c3)).setCell ⟨k0, 4, none⟩ (.slice a4 bf.length c4)) = WW at *
      have y0 : WW.cell? ⟨k0, 0, none⟩ = some (.bool lf) := HY.out.cell 0
      have y1 : WW.cell? ⟨k0, 1, none⟩ = some (.slice a1 ps.length c1) := HY.out.cell 1
      have y2 : WW.cell? ⟨k0, 2, none⟩ = some (.slice a2 pv.length c2) := HY.out.cell 2
      have y3 : WW.cell? ⟨k0, 3, none⟩ = some (.slice a3 ks.length c3) := HY.out.cell 3
      have y4 : WW.cell? ⟨k0, 4, none⟩ = some (.slice a4 bf.length c4) := HY.out.cell 4
      exact bodyPost_ret (v := .tuple #[nv ⟨lf, ps, pv, ks, bf⟩ ⟨a1, c1, a2, c2, a3, c3, a4, c4⟩, .int .i64 0]) (by simp [results, Try.results10, go_sem, y0, y1, y2, y3, y4]) rfl ⟨⟨lf, ps, pv, ks, bf⟩, 0, HS.out.trans (says_yes hM.out), ⟨a1, c1, a2, c2, a3, c3, a4, c4⟩, rfl, Hho.out.mono (by omega), hl, by rw [hk0]; exact HR.out⟩
    · have hmd : (m == 0) = false := by simpa using hm0
      have hmd' : (m != 0) = true := by simpa using hm0
      replace hm0 := hid hm0
      have g0 := R0.free 0
      have z0 : w4.cell? ⟨k0, 0, none⟩ = some (.bool false) := R0.cell 0
      have g1 := R0.free 1
      have z1 : w4.cell? ⟨k0, 1, none⟩ = some (.slice none 0 0) := R0.cell 1
      have g2 := R0.free 2
      have z2 : w4.cell? ⟨k0, 2, none⟩ = some (.slice none 0 0) := R0.cell 2
      have g3 := R0.free 3
      have z3 : w4.cell? ⟨k0, 3, none⟩ = some (.slice none 0 0) := R0.cell 3
      have g4 := R0.free 4
      have z4 : w4.cell? ⟨k0, 4, none⟩ = some (.slice none 0 0) := R0.cell 4
      have HR := hid (Below.setCell (Below.setCell (Below.setCell (Below.setCell (Below.setCell HB (p := ⟨k0, 0, none⟩) (by exact l0) (.bool false)) (p := ⟨k0, 1, none⟩) (by exact l0) (.slice none 0 0)) (p := ⟨k0, 2, none⟩) (by exact l0) (.slice none 0 0)) (p := ⟨k0, 3, none⟩) (by exact l0) (.slice none 0 0)) (p := ⟨k0, 4, none⟩) (by exact l0) (.slice none 0 0))
      have HY := (((((R0.set 0 (.bool false)).set 1 (.slice none 0 0)).set 2 (.slice none 0 0)).set 3 (.slice none 0 0)).set 4 (.slice none 0 0))
      simp only [List.setIfInBounds_toArray, List.set_cons_zero, List.set_cons_succ] at HY
      replace HY := hid HY
      clear HB R0 R2
      go_wp2
      generalize (((((w4.setCell ⟨k0, 0, none⟩ (.bool false)).setCell ⟨k0, 1, none⟩ (.slice none 0 0)).setCell ⟨k0, 2, none⟩ (.slice none 0 0)).setCell ⟨k0, 3, none⟩ (.slice none 0 0)).setCell ⟨k0, 4, none⟩ (.slice none 0 0)) = WW at *
      have y0 : WW.cell? ⟨k0, 0, none⟩ = some (.bool false) := HY.out.cell 0
      have y1 : WW.cell? ⟨k0, 1, none⟩ = some (.slice none 0 0) := HY.out.cell 1
      have y2 : WW.cell? ⟨k0, 2, none⟩ = some (.slice none 0 0) := HY.out.cell 2
      have y3 : WW.cell? ⟨k0, 3, none⟩ = some (.slice none 0 0) := HY.out.cell 3
      have y4 : WW.cell? ⟨k0, 4, none⟩ = some (.slice none 0 0) := HY.out.cell 4
      exact bodyPost_ret (v := .tuple #[nv ⟨false, [], [], [], []⟩ ⟨none, 0, none, 0, none, 0, none, 0⟩, .int .i64 3]) (by simp [results, Try.results10, go_sem, y0, y1, y2, y3, y4]) rfl ⟨zeroN, 3, HS.out.trans (says_no (by rw [hM.out]; exact hm0.out)), ⟨none, 0, none, 0, none, 0, none, 0⟩, rfl, OwnN.zero _ _, ⟨Nat.zero_le _, Nat.zero_le _, Nat.zero_le _, Nat.zero_le _⟩, by rw [hk0]; exact HR.out⟩
  · have hed : (e == 0) = false := by simpa using he
    have hed' : (e != 0) = true := by simpa using he
    replace he := hid he
    have g0 := R0.free 0
    have z0 : w3.cell? ⟨k0, 0, none⟩ = some (.bool false) := R0.cell 0
    have g1 := R0.free 1
    have z1 : w3.cell? ⟨k0, 1, none⟩ = some (.slice none 0 0) := R0.cell 1
    have g2 := R0.free 2
    have z2 : w3.cell? ⟨k0, 2, none⟩ = some (.slice none 0 0) := R0.cell 2
    have g3 := R0.free 3
    have z3 : w3.cell? ⟨k0, 3, none⟩ = some (.slice none 0 0) := R0.cell 3
    have g4 := R0.free 4
    have z4 : w3.cell? ⟨k0, 4, none⟩ = some (.slice none 0 0) := R0.cell 4
    have HR := hid (Below.setCell (Below.setCell (Below.setCell (Below.setCell (Below.setCell HB (p := ⟨k0, 0, none⟩) (by exact l0) (.bool false)) (p := ⟨k0, 1, none⟩) (by exact l0) (.slice none 0 0)) (p := ⟨k0, 2, none⟩) (by exact l0) (.slice none 0 0)) (p := ⟨k0, 3, none⟩) (by exact l0) (.slice none 0 0)) (p := ⟨k0, 4, none⟩) (by exact l0) (.slice none 0 0))
    have HY := (((((R0.set 0 (.bool false)).set 1 (.slice none 0 0)).set 2 (.slice none 0 0)).set 3 (.slice none 0 0)).set 4 (.slice none 0 0))
    simp only [List.setIfInBounds_toArray, List.set_cons_zero, List.set_cons_succ] at HY
    replace HY := hid HY
    clear HB R0 R2
    go_wp2
    generalize (((((w3.setCell ⟨k0, 0, none⟩ (.bool false)).setCell ⟨k0, 1, none⟩ (.slice none 0 0)).setCell ⟨k0, 2, none⟩ (.slice none 0 0)).setCell ⟨k0, 3, none⟩ (.slice none 0 0)).setCell ⟨k0, 4, none⟩ (.slice none 0 0)) = WW at *
    have y0 : WW.cell? ⟨k0, 0, none⟩ = some (.bool false) := HY.out.cell 0
    have y1 : WW.cell? ⟨k0, 1, none⟩ = some (.slice none 0 0) := HY.out.cell 1
    have y2 : WW.cell? ⟨k0, 2, none⟩ = some (.slice none 0 0) := HY.out.cell 2
    have y3 : WW.cell? ⟨k0, 3, none⟩ = some (.slice none 0 0) := HY.out.cell 3
    have y4 : WW.cell? ⟨k0, 4, none⟩ = some (.slice none 0 0) := HY.out.cell 4
    exact bodyPost_ret (v := .tuple #[nv ⟨false, [], [], [], []⟩ ⟨none, 0, none, 0, none, 0, none, 0⟩, .int .i64 e]) (by simp [results, Try.results10, go_sem, y0, y1, y2, y3, y4]) rfl ⟨zeroN, e, HS.out.trans (says_err he.out), ⟨none, 0, none, 0, none, 0, none, 0⟩, rfl, OwnN.zero _ _, ⟨Nat.zero_le _, Nat.zero_le _, Nat.zero_le _, Nat.zero_le _⟩, by rw [hk0]; exact HR.out⟩
end Go.Proofs.Ytjegpcmejlffhaa.Cod
