/-
  Contract of the program's reader of nodes: fork.
-/
import Derived.Test.YtjegpcmejlffhaaGetE
namespace Go.Proofs.Ytjegpcmejlffhaa.Cod
set_option linter.unusedSimpArgs false
set_option linter.unusedVariables false
open Go.RowKit
open Key (M E Pr Nd Pl nv Lies mayI ev mv)

/-- a node whose lists are the call's own -/
structure OwnN (w : World) (base : Nat) (n : Nd) (p : Pl) : Prop where
  o1 : OwnL kP w base (.slice p.a1 n.ps.length p.c1) n.ps
  o2 : OwnL kT w base (.slice p.a2 n.pv.length p.c2) n.pv
  o3 : OwnL kE w base (.slice p.a3 n.ks.length p.c3) n.ks
  o4 : OwnL kM w base (.slice p.a4 n.bf.length p.c4) n.bf
theorem OwnN.later {w w' : World} {base : Nat} {n : Nd} {p : Pl} (h : OwnN w base n p) (hb : Below w.heap.size w w') : OwnN w' base n p := ⟨h.o1.later hb, h.o2.later hb, h.o3.later hb, h.o4.later hb⟩
theorem OwnN.kept {w w' : World} {base k : Nat} {n : Nd} {p : Pl} (h : OwnN w base n p) (hg : w.grownBy w' (some k)) (hk : k < base) : OwnN w' base n p := ⟨h.o1.kept hg hk, h.o2.kept hg hk, h.o3.kept hg hk, h.o4.kept hg hk⟩
theorem OwnN.set {w : World} {base k : Nat} {n : Nd} {p : Pl} (h : OwnN w base n p) (hk : k < base) (i : Nat) (x : Value) : OwnN (w.setCell ⟨k, i, none⟩ x) base n p := ⟨h.o1.set hk i x, h.o2.set hk i x, h.o3.set hk i x, h.o4.set hk i x⟩
theorem OwnN.mono {w : World} {base base' : Nat} {n : Nd} {p : Pl} (h : OwnN w base n p) (hb : base' ≤ base) : OwnN w base' n p := ⟨h.o1.mono hb, h.o2.mono hb, h.o3.mono hb, h.o4.mono hb⟩
theorem OwnN.lies {w : World} {base : Nat} {n : Nd} {p : Pl} (h : OwnN w base n p) : Lies w n p := by
  obtain ⟨a1, c1, e1, _, _, h1⟩ := h.o1.prs
  obtain ⟨a2, c2, e2, _, _, h2⟩ := h.o2.txts
  obtain ⟨a3, c3, e3, _, _, h3⟩ := h.o3.eds
  obtain ⟨a4, c4, e4, _, _, h4⟩ := h.o4.msgs
  simp only [Value.slice.injEq, true_and] at e1 e2 e3 e4
  rw [← e1.1] at h1
  rw [← e2.1] at h2
  rw [← e3.1] at h3
  rw [← e4.1] at h4
  exact ⟨h1, h2, h3, h4⟩
theorem OwnN.zero (w : World) (base : Nat) : OwnN w base zeroN ⟨none, 0, none, 0, none, 0, none, 0⟩ := ⟨OwnL.nil _ _ _, OwnL.nil _ _ _, OwnL.nil _ _ _, OwnL.nil _ _ _⟩
/-- few of everything -/
def Less (n : Nd) : Prop := n.ps.length ≤ 16 ∧ n.pv.length ≤ 8 ∧ n.ks.length ≤ 8 ∧ n.bf.length ≤ 16
theorem Less.few {n : Nd} (h : Less n) : Key.Few n := ⟨by have := h.1; omega, by have := h.2.1; omega, by have := h.2.2.1; omega, by have := h.2.2.2; omega⟩

set_option maxRecDepth 100000 in
set_option maxHeartbeats 2000000 in
theorem fork44 {w : World} {B k : Nat} {zs : List Int} {s : St} (h : Rdr w B k zs s) :
    Calls Try.prog 44 #[rdv k] w fun x w' => ∃ (n : Nd) (s' : St), Hid (rFork rM zs s = (n, s')) ∧ ∃ p, x = .returned (nv n p) ∧ OwnN w' w.heap.size n p ∧ Less n ∧ Rdr w' B k zs s' ∧ w.grownBy w' (some k) := by
  obtain ⟨R0, R1, R2, hbW, hsz⟩ := three_boxes w #[.pointer (some ⟨k, 0, none⟩)] #[.bool false, .slice none 0 0, .slice none 0 0, .slice none 0 0, .slice none 0 0] #[.bool false, .slice none 0 0, .slice none 0 0, .slice none 0 0, .slice none 0 0] 64 27 27
  have hr := h.later hbW
  have hk := h.lt.1
  have HG := G.of (k := k) hbW
  clear hbW h
  go_enter Try.func44, Try.ntmps44
  go_upto_region 2 with fail
  generalize hW : ((w.alloc (.cells #[.pointer (some ⟨k, 0, none⟩)] 64)).alloc (.cells #[.bool false, .slice none 0 0, .slice none 0 0, .slice none 0 0, .slice none 0 0] 27)).alloc (.cells #[.bool false, .slice none 0 0, .slice none 0 0, .slice none 0 0, .slice none 0 0] 27) = W0 at *
  clear hW
  generalize hk0 : w.heap.size = k0 at *
  generalize hk1 : k0 + 1 = k1 at *
  generalize hk2 : k1 + 1 = k2 at *
  have l1 : w.heap.size ≤ k1 := by omega
  have l2 : w.heap.size ≤ k2 := by omega
  have n12 : k1 ≠ k2 := by omega
  have n02 : k0 ≠ k2 := by omega
  have n01 : k0 ≠ k1 := by omega
  have n1 : k < k1 := by omega
  have n2 : k < k2 := by omega
  have b0 : k2 < W0.heap.size := by omega
  rename Rdr W0 B k zs s => hr0
  have d0 : W0.cell? ⟨k0, 0, none⟩ = some (.pointer (some ⟨k, 0, none⟩)) := R0.cell 0
  go_wp2_with fail
  refine (kids57 hr0).mono ?_
  rintro x w1 ⟨l3, s1, hs1, v, rfl, hl3, ho3, hr1, hg⟩
  clear d0
  obtain ⟨a3, c3, rfl, _, _, _⟩ := ho3.eds
  have b1 := hg.size
  replace R0 := R0.grown hg (by simp; omega)
  replace R1 := R1.grown hg (by simp; omega)
  replace R2 := R2.grown hg (by simp; omega)
  have fz := R2.free 3
  have cz := R2.cell 3
  simp only [List.getElem?_toArray, List.getElem?_cons_zero, List.getElem?_cons_succ] at cz
  replace R0 := R0.beside (k' := k2) 3 (.slice a3 l3.length c3) n02
  replace R1 := R1.beside (k' := k2) 3 (.slice a3 l3.length c3) n12
  replace R2 := R2.set 3 (.slice a3 l3.length c3)
  simp only [List.setIfInBounds_toArray, List.set_cons_zero, List.set_cons_succ] at R2
  replace ho3 := ho3.set b0 3 (.slice a3 l3.length c3)
  have b1' : k2 < (w1.setCell ⟨k2, 3, none⟩ (.slice a3 l3.length c3)).heap.size := by simp; omega
  replace hr1 := hr1.set n2 3 (.slice a3 l3.length c3)
  replace HG := G.set (G.trans HG hg) l2 3 (.slice a3 l3.length c3)
  clear hg
  go_upto_region 3 with fail
  clear fz cz
  generalize hW : w1.setCell ⟨k2, 3, none⟩ (.slice a3 l3.length c3) = W1 at *
  clear hW
  have hc : ((l3.length : Int) - 1).toNat = l3.length - 1 := by omega
  have hc' : (l3.length : Int) - 1 ≤ 100 := by omega
  have dl : W1.cell? ⟨k2, 3, none⟩ = some (.slice a3 l3.length c3) := R2.cell 3
  have d0 : W1.cell? ⟨k0, 0, none⟩ = some (.pointer (some ⟨k, 0, none⟩)) := R0.cell 0
  go_wp2_with fail
  refine (pivots58 hr1 ((l3.length : Int) - 1) hc').mono ?_
  rintro x w2 ⟨lv, s2, hs2, v, rfl, ho2, hr2, hg⟩
  clear d0
  have hl2 := many_len (rTxt 16) zs s1 (l3.length - 1)
  obtain ⟨a2, c2, rfl, _, _, _⟩ := ho2.txts
  have b2 := hg.size
  rw [hc] at hs2
  rw [hs2.out] at hl2
  replace hl2 := hid hl2
  clear dl
  replace ho3 := ho3.kept hg (by omega)
  replace R0 := R0.grown hg (by simp; omega)
  replace R1 := R1.grown hg (by simp; omega)
  replace R2 := R2.grown hg (by simp; omega)
  have fz := R2.free 2
  have cz := R2.cell 2
  simp only [List.getElem?_toArray, List.getElem?_cons_zero, List.getElem?_cons_succ] at cz
  replace R0 := R0.beside (k' := k2) 2 (.slice a2 lv.length c2) n02
  replace R1 := R1.beside (k' := k2) 2 (.slice a2 lv.length c2) n12
  replace R2 := R2.set 2 (.slice a2 lv.length c2)
  simp only [List.setIfInBounds_toArray, List.set_cons_zero, List.set_cons_succ] at R2
  replace ho3 := ho3.set b0 2 (.slice a2 lv.length c2)
  replace ho2 := ho2.set b1' 2 (.slice a2 lv.length c2)
  have b2' : k2 < (w2.setCell ⟨k2, 2, none⟩ (.slice a2 lv.length c2)).heap.size := by simp; omega
  replace hr2 := hr2.set n2 2 (.slice a2 lv.length c2)
  replace HG := G.set (G.trans HG hg) l2 2 (.slice a2 lv.length c2)
  clear hg
  go_upto_region 4 with fail
  clear fz cz
  generalize hW : w2.setCell ⟨k2, 2, none⟩ (.slice a2 lv.length c2) = W2 at *
  clear hW
  have d0 : W2.cell? ⟨k0, 0, none⟩ = some (.pointer (some ⟨k, 0, none⟩)) := R0.cell 0
  go_wp2_with fail
  refine (buffer59 hr2).mono ?_
  rintro x w3 ⟨l4, s3, hs3, v, rfl, hl4, ho4, hr3, hg⟩
  clear d0
  obtain ⟨a4, c4, rfl, _, _, _⟩ := ho4.msgs
  have b3 := hg.size
  replace ho3 := ho3.kept hg (by omega)
  replace ho2 := ho2.kept hg (by omega)
  replace R0 := R0.grown hg (by simp; omega)
  replace R1 := R1.grown hg (by simp; omega)
  replace R2 := R2.grown hg (by simp; omega)
  have fz := R2.free 4
  have cz := R2.cell 4
  simp only [List.getElem?_toArray, List.getElem?_cons_zero, List.getElem?_cons_succ] at cz
  replace R0 := R0.beside (k' := k2) 4 (.slice a4 l4.length c4) n02
  replace R1 := R1.beside (k' := k2) 4 (.slice a4 l4.length c4) n12
  replace R2 := R2.set 4 (.slice a4 l4.length c4)
  simp only [List.setIfInBounds_toArray, List.set_cons_zero, List.set_cons_succ] at R2
  replace ho3 := ho3.set b0 4 (.slice a4 l4.length c4)
  replace ho2 := ho2.set b1' 4 (.slice a4 l4.length c4)
  replace ho4 := ho4.set b2' 4 (.slice a4 l4.length c4)
  replace hr3 := hr3.set n2 4 (.slice a4 l4.length c4)
  replace HG := G.set (G.trans HG hg) l2 4 (.slice a4 l4.length c4)
  clear hg
  go_upto_region 5 with fail
  clear fz cz
  generalize hW : w3.setCell ⟨k2, 4, none⟩ (.slice a4 l4.length c4) = W3 at *
  clear hW
  have Hho3 := hid (((((ho3.set (k := k1) (by omega) 0 (.bool false)).set (k := k1) (by omega) 1 (.slice none 0 0)).set (k := k1) (by omega) 2 (.slice a2 lv.length c2)).set (k := k1) (by omega) 3 (.slice a3 l3.length c3)).set (k := k1) (by omega) 4 (.slice a4 l4.length c4))
  clear ho3
  have Hho2 := hid (((((ho2.set (k := k1) (by omega) 0 (.bool false)).set (k := k1) (by omega) 1 (.slice none 0 0)).set (k := k1) (by omega) 2 (.slice a2 lv.length c2)).set (k := k1) (by omega) 3 (.slice a3 l3.length c3)).set (k := k1) (by omega) 4 (.slice a4 l4.length c4))
  clear ho2
  have Hho4 := hid (((((ho4.set (k := k1) (by omega) 0 (.bool false)).set (k := k1) (by omega) 1 (.slice none 0 0)).set (k := k1) (by omega) 2 (.slice a2 lv.length c2)).set (k := k1) (by omega) 3 (.slice a3 l3.length c3)).set (k := k1) (by omega) 4 (.slice a4 l4.length c4))
  clear ho4
  have e0 : W3.cell? ⟨k2, 0, none⟩ = some (.bool false) := R2.cell 0
  have g0 := R1.free 0
  have z0 : W3.cell? ⟨k1, 0, none⟩ = some (.bool false) := R1.cell 0
  have e1 : W3.cell? ⟨k2, 1, none⟩ = some (.slice none 0 0) := R2.cell 1
  have g1 := R1.free 1
  have z1 : W3.cell? ⟨k1, 1, none⟩ = some (.slice none 0 0) := R1.cell 1
  have e2 : W3.cell? ⟨k2, 2, none⟩ = some (.slice a2 lv.length c2) := R2.cell 2
  have g2 := R1.free 2
  have z2 : W3.cell? ⟨k1, 2, none⟩ = some (.slice none 0 0) := R1.cell 2
  have e3 : W3.cell? ⟨k2, 3, none⟩ = some (.slice a3 l3.length c3) := R2.cell 3
  have g3 := R1.free 3
  have z3 : W3.cell? ⟨k1, 3, none⟩ = some (.slice none 0 0) := R1.cell 3
  have e4 : W3.cell? ⟨k2, 4, none⟩ = some (.slice a4 l4.length c4) := R2.cell 4
  have g4 := R1.free 4
  have z4 : W3.cell? ⟨k1, 4, none⟩ = some (.slice none 0 0) := R1.cell 4
  have HR := hid (And.intro (((((hr3.set n1 0 (.bool false)).set n1 1 (.slice none 0 0)).set n1 2 (.slice a2 lv.length c2)).set n1 3 (.slice a3 l3.length c3)).set n1 4 (.slice a4 l4.length c4)) (G.set (G.set (G.set (G.set (G.set HG l1 0 (.bool false)) l1 1 (.slice none 0 0)) l1 2 (.slice a2 lv.length c2)) l1 3 (.slice a3 l3.length c3)) l1 4 (.slice a4 l4.length c4)))
  have HY := (((((R1.set 0 (.bool false)).set 1 (.slice none 0 0)).set 2 (.slice a2 lv.length c2)).set 3 (.slice a3 l3.length c3)).set 4 (.slice a4 l4.length c4))
  simp only [List.setIfInBounds_toArray, List.set_cons_zero, List.set_cons_succ] at HY
  replace HY := hid HY
  clear HG R0 R1 R2 hr3
  go_wp2
  generalize (((((W3.setCell ⟨k1, 0, none⟩ (.bool false)).setCell ⟨k1, 1, none⟩ (.slice none 0 0)).setCell ⟨k1, 2, none⟩ (.slice a2 lv.length c2)).setCell ⟨k1, 3, none⟩ (.slice a3 l3.length c3)).setCell ⟨k1, 4, none⟩ (.slice a4 l4.length c4)) = WW at *
  have y0 : WW.cell? ⟨k1, 0, none⟩ = some (.bool false) := HY.out.cell 0
  have y1 : WW.cell? ⟨k1, 1, none⟩ = some (.slice none 0 0) := HY.out.cell 1
  have y2 : WW.cell? ⟨k1, 2, none⟩ = some (.slice a2 lv.length c2) := HY.out.cell 2
  have y3 : WW.cell? ⟨k1, 3, none⟩ = some (.slice a3 l3.length c3) := HY.out.cell 3
  have y4 : WW.cell? ⟨k1, 4, none⟩ = some (.slice a4 l4.length c4) := HY.out.cell 4
  exact bodyPost_ret (v := nv ⟨false, [], lv, l3, l4⟩ ⟨none, 0, a2, c2, a3, c3, a4, c4⟩) (by simp [results, Try.results44, go_sem, y0, y1, y2, y3, y4]) rfl ⟨⟨false, [], lv, l3, l4⟩, s3, by simp [Hid, rFork, bnd, rPure, hs1.out, hs2.out, hs3.out], ⟨none, 0, a2, c2, a3, c3, a4, c4⟩, rfl, ⟨OwnL.nil _ _ _, Hho2.out.mono (by omega), Hho3.out.mono (by omega), Hho4.out.mono (by omega)⟩, ⟨Nat.zero_le _, by have h : lv.length = l3.length - 1 := hl2.out; show lv.length ≤ 8; omega, hl3, hl4⟩, HR.out⟩
end Go.Proofs.Ytjegpcmejlffhaa.Cod
