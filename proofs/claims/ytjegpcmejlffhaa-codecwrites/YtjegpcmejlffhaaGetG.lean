/-
  Contract of the program's reader of nodes: node.
-/
import Derived.Test.YtjegpcmejlffhaaGetF
namespace Go.Proofs.Ytjegpcmejlffhaa.Cod
set_option linter.unusedSimpArgs false
set_option linter.unusedVariables false
open Go.RowKit
open Key (M E Pr Nd Pl nv Lies mayI ev mv)

theorem rN_leaf {f : List Int → St → M × St} {zs : List Int} {s s1 s2 : St} {q : Nat} {l : List Pr} (h1 : rNum 1 zs s = (q, s1)) (hq : q = 1) (h2 : rPairs zs s1 = (l, s2)) : rN f zs s = (⟨true, l, [], [], []⟩, s2) := by
  subst hq
  have e : rSort f 1 = bnd rPairs fun l => rPure (⟨true, l, [], [], []⟩ : Nd) := if_pos rfl
  show rSort f (rNum 1 zs s).1 zs (rNum 1 zs s).2 = _
  rw [h1, e]
  simp only [bnd, h2, rPure]
theorem rN_fork {f : List Int → St → M × St} {zs : List Int} {s s1 s2 : St} {q : Nat} {n : Nd} (h1 : rNum 1 zs s = (q, s1)) (hq : q = 2) (h2 : rFork f zs s1 = (n, s2)) : rN f zs s = (n, s2) := by
  subst hq
  have e : rSort f 2 = rFork f := (if_neg (by decide)).trans (if_pos rfl)
  show rSort f (rNum 1 zs s).1 zs (rNum 1 zs s).2 = _
  rw [h1, e, h2]
theorem rN_none {f : List Int → St → M × St} {zs : List Int} {s s1 : St} {q : Nat} (h1 : rNum 1 zs s = (q, s1)) (m1 : ¬ q = 1) (m2 : ¬ q = 2) : rN f zs s = (zeroN, failS 7 s1) := by
  show rSort f (rNum 1 zs s).1 zs (rNum 1 zs s).2 = _
  rw [h1]
  simp only [rSort, if_neg m1, if_neg m2, rFail]

set_option maxRecDepth 100000 in
set_option maxHeartbeats 2000000 in
theorem node22 {w : World} {B k : Nat} {zs : List Int} {s : St} (h : Rdr w B k zs s) :
    Calls Try.prog 22 #[rdv k] w fun x w' => ∃ (n : Nd) (s' : St), Hid (rN rM zs s = (n, s')) ∧ ∃ p, x = .returned (nv n p) ∧ OwnN w' w.heap.size n p ∧ Less n ∧ Rdr w' B k zs s' ∧ w.grownBy w' (some k) := by
  obtain ⟨R0, R1, hbW, hsz⟩ := two_boxes w #[.pointer (some ⟨k, 0, none⟩)] #[.bool false, .slice none 0 0, .slice none 0 0, .slice none 0 0, .slice none 0 0] 64 27
  have hr0 := h.later hbW
  have hk := h.lt.1
  have HG := G.of (k := k) hbW
  clear hbW h
  go_enter Try.func22, Try.ntmps22
  go_upto_region 1 with fail
  generalize hW : (w.alloc (.cells #[.pointer (some ⟨k, 0, none⟩)] 64)).alloc (.cells #[.bool false, .slice none 0 0, .slice none 0 0, .slice none 0 0, .slice none 0 0] 27) = W0 at *
  clear hW
  generalize hk0 : w.heap.size = k0 at *
  generalize hk1 : k0 + 1 = k1 at *
  have l1 : w.heap.size ≤ k1 := by omega
  have n1 : k < k1 := by omega
  have d0 : W0.cell? ⟨k0, 0, none⟩ = some (.pointer (some ⟨k, 0, none⟩)) := R0.cell 0
  go_wp2_with fail
  refine (get8 hr0).mono ?_
  rintro x w1 ⟨q, s1, hs1, hq, rfl, hr1, hg⟩
  replace R0 := R0.grown hg (by simp; omega)
  replace R1 := R1.grown hg (by simp; omega)
  replace HG := G.trans HG hg
  have b1 := hg.size
  clear hg d0 hr0
  have d0 : w1.cell? ⟨k0, 0, none⟩ = some (.pointer (some ⟨k, 0, none⟩)) := R0.cell 0
  by_cases m1 : q = 1
  · have hqi : (q : Int) = 1 := by omega
    rw [hqi]
    have M1 := hid m1
    clear m1 hqi
    go_wp2_with fail
    refine (pairs43 hr1).mono ?_
    rintro x w2 ⟨l, s2, hs2, v, rfl, hl, ho, hr2, hg⟩
    obtain ⟨a1, c1, rfl, _, _, _⟩ := ho.prs
    replace R1 := R1.grown hg (by simp; omega)
    replace HG := G.trans HG hg
    clear hg d0 hr1 R0
    have g0 := R1.free 0
    have z0 : w2.cell? ⟨k1, 0, none⟩ = some (.bool false) := R1.cell 0
    have g1 := R1.free 1
    have z1 : w2.cell? ⟨k1, 1, none⟩ = some (.slice none 0 0) := R1.cell 1
    have g2 := R1.free 2
    have z2 : w2.cell? ⟨k1, 2, none⟩ = some (.slice none 0 0) := R1.cell 2
    have g3 := R1.free 3
    have z3 : w2.cell? ⟨k1, 3, none⟩ = some (.slice none 0 0) := R1.cell 3
    have g4 := R1.free 4
    have z4 : w2.cell? ⟨k1, 4, none⟩ = some (.slice none 0 0) := R1.cell 4
    have HR := hid (And.intro (((((hr2.set n1 0 (.bool true)).set n1 1 (.slice a1 l.length c1)).set n1 2 (.slice none 0 0)).set n1 3 (.slice none 0 0)).set n1 4 (.slice none 0 0)) (G.set (G.set (G.set (G.set (G.set HG l1 0 (.bool true)) l1 1 (.slice a1 l.length c1)) l1 2 (.slice none 0 0)) l1 3 (.slice none 0 0)) l1 4 (.slice none 0 0)))
    have Hho := hid (((((ho.set (k := k1) (by omega) 0 (.bool true)).set (k := k1) (by omega) 1 (.slice a1 l.length c1)).set (k := k1) (by omega) 2 (.slice none 0 0)).set (k := k1) (by omega) 3 (.slice none 0 0)).set (k := k1) (by omega) 4 (.slice none 0 0))
    clear ho
    have HY := (((((R1.set 0 (.bool true)).set 1 (.slice a1 l.length c1)).set 2 (.slice none 0 0)).set 3 (.slice none 0 0)).set 4 (.slice none 0 0))
    simp only [List.setIfInBounds_toArray, List.set_cons_zero, List.set_cons_succ] at HY
    replace HY := hid HY
    clear HG R1 hr2
    go_wp2
    generalize (((((w2.setCell ⟨k1, 0, none⟩ (.bool true)).setCell ⟨k1, 1, none⟩ (.slice a1 l.length c1)).setCell ⟨k1, 2, none⟩ (.slice none 0 0)).setCell ⟨k1, 3, none⟩ (.slice none 0 0)).setCell ⟨k1, 4, none⟩ (.slice none 0 0)) = WW at *
    have y0 : WW.cell? ⟨k1, 0, none⟩ = some (.bool true) := HY.out.cell 0
    have y1 : WW.cell? ⟨k1, 1, none⟩ = some (.slice a1 l.length c1) := HY.out.cell 1
    have y2 : WW.cell? ⟨k1, 2, none⟩ = some (.slice none 0 0) := HY.out.cell 2
    have y3 : WW.cell? ⟨k1, 3, none⟩ = some (.slice none 0 0) := HY.out.cell 3
    have y4 : WW.cell? ⟨k1, 4, none⟩ = some (.slice none 0 0) := HY.out.cell 4
    exact bodyPost_ret (v := nv ⟨true, l, [], [], []⟩ ⟨a1, c1, none, 0, none, 0, none, 0⟩) (by simp [results, Try.results22, go_sem, y0, y1, y2, y3, y4]) rfl ⟨⟨true, l, [], [], []⟩, s2, rN_leaf hs1.out M1.out hs2.out, ⟨a1, c1, none, 0, none, 0, none, 0⟩, rfl, ⟨Hho.out.mono (by omega), OwnL.nil _ _ _, OwnL.nil _ _ _, OwnL.nil _ _ _⟩, ⟨hl, Nat.zero_le _, Nat.zero_le _, Nat.zero_le _⟩, HR.out⟩
  · by_cases m2 : q = 2
    · have hqi : (q : Int) = 2 := by omega
      rw [hqi]
      have M2 := hid m2
      clear m1 m2 hqi
      go_wp2_with fail
      refine (fork44 hr1).mono ?_
      rintro x w2 ⟨n, s2, hs2, p, rfl, ho, hl, hr2, hg⟩
      obtain ⟨lf, ps, pv, ks, bf⟩ := n
      obtain ⟨a1, c1, a2, c2, a3, c3, a4, c4⟩ := p
      replace R1 := R1.grown hg (by simp; omega)
      replace HG := G.trans HG hg
      clear hg d0 hr1 R0
      have g0 := R1.free 0
      have z0 : w2.cell? ⟨k1, 0, none⟩ = some (.bool false) := R1.cell 0
      have g1 := R1.free 1
      have z1 : w2.cell? ⟨k1, 1, none⟩ = some (.slice none 0 0) := R1.cell 1
      have g2 := R1.free 2
      have z2 : w2.cell? ⟨k1, 2, none⟩ = some (.slice none 0 0) := R1.cell 2
      have g3 := R1.free 3
      have z3 : w2.cell? ⟨k1, 3, none⟩ = some (.slice none 0 0) := R1.cell 3
      have g4 := R1.free 4
      have z4 : w2.cell? ⟨k1, 4, none⟩ = some (.slice none 0 0) := R1.cell 4
      have HR := hid (And.intro (((((hr2.set n1 0 (.bool lf)).set n1 1 (.slice a1 ps.length c1)).set n1 2 (.slice a2 pv.length c2)).set n1 3 (.slice a3 ks.length c3)).set n1 4 (.slice a4 bf.length c4)) (G.set (G.set (G.set (G.set (G.set HG l1 0 (.bool lf)) l1 1 (.slice a1 ps.length c1)) l1 2 (.slice a2 pv.length c2)) l1 3 (.slice a3 ks.length c3)) l1 4 (.slice a4 bf.length c4)))
      have Hho := hid (((((ho.set (k := k1) (by omega) 0 (.bool lf)).set (k := k1) (by omega) 1 (.slice a1 ps.length c1)).set (k := k1) (by omega) 2 (.slice a2 pv.length c2)).set (k := k1) (by omega) 3 (.slice a3 ks.length c3)).set (k := k1) (by omega) 4 (.slice a4 bf.length c4))
      clear ho
      have HY := (((((R1.set 0 (.bool lf)).set 1 (.slice a1 ps.length c1)).set 2 (.slice a2 pv.length c2)).set 3 (.slice a3 ks.length c3)).set 4 (.slice a4 bf.length c4))
      simp only [List.setIfInBounds_toArray, List.set_cons_zero, List.set_cons_succ] at HY
      replace HY := hid HY
      clear HG R1 hr2
      go_wp2
      generalize (((((w2.setCell ⟨k1, 0, none⟩ (.bool lf)).setCell ⟨k1, 1, none⟩ (.slice a1 ps.length c1)).setCell ⟨k1, 2, none⟩ (.slice a2 pv.length c2)).setCell ⟨k1, 3, none⟩ (.slice a3 ks.length c3)).setCell ⟨k1, 4, none⟩ (.slice a4 bf.length c4)) = WW at *
      have y0 : WW.cell? ⟨k1, 0, none⟩ = some (.bool lf) := HY.out.cell 0
      have y1 : WW.cell? ⟨k1, 1, none⟩ = some (.slice a1 ps.length c1) := HY.out.cell 1
      have y2 : WW.cell? ⟨k1, 2, none⟩ = some (.slice a2 pv.length c2) := HY.out.cell 2
      have y3 : WW.cell? ⟨k1, 3, none⟩ = some (.slice a3 ks.length c3) := HY.out.cell 3
      have y4 : WW.cell? ⟨k1, 4, none⟩ = some (.slice a4 bf.length c4) := HY.out.cell 4
      exact bodyPost_ret (v := nv ⟨lf, ps, pv, ks, bf⟩ ⟨a1, c1, a2, c2, a3, c3, a4, c4⟩) (by simp [results, Try.results22, go_sem, y0, y1, y2, y3, y4]) rfl ⟨⟨lf, ps, pv, ks, bf⟩, s2, rN_fork hs1.out M2.out hs2.out, ⟨a1, c1, a2, c2, a3, c3, a4, c4⟩, rfl, Hho.out.mono (by omega), hl, HR.out⟩
    · have hne1 : ((q : Int) == 1) = false := by simp; omega
      have hne2 : ((q : Int) == 2) = false := by simp; omega
      have M12 := hid (And.intro m1 m2)
      clear m1 m2
      go_wp2_with fail
      refine (fail hr1 7).mono ?_
      rintro x w2 ⟨rfl, hr2, hg⟩
      replace R1 := R1.grown hg (by simp; omega)
      replace HG := G.trans HG hg
      clear hg d0 hr1 R0
      have g0 := R1.free 0
      have z0 : w2.cell? ⟨k1, 0, none⟩ = some (.bool false) := R1.cell 0
      have g1 := R1.free 1
      have z1 : w2.cell? ⟨k1, 1, none⟩ = some (.slice none 0 0) := R1.cell 1
      have g2 := R1.free 2
      have z2 : w2.cell? ⟨k1, 2, none⟩ = some (.slice none 0 0) := R1.cell 2
      have g3 := R1.free 3
      have z3 : w2.cell? ⟨k1, 3, none⟩ = some (.slice none 0 0) := R1.cell 3
      have g4 := R1.free 4
      have z4 : w2.cell? ⟨k1, 4, none⟩ = some (.slice none 0 0) := R1.cell 4
      have HR := hid (And.intro (((((hr2.set n1 0 (.bool false)).set n1 1 (.slice none 0 0)).set n1 2 (.slice none 0 0)).set n1 3 (.slice none 0 0)).set n1 4 (.slice none 0 0)) (G.set (G.set (G.set (G.set (G.set HG l1 0 (.bool false)) l1 1 (.slice none 0 0)) l1 2 (.slice none 0 0)) l1 3 (.slice none 0 0)) l1 4 (.slice none 0 0)))
      have HY := (((((R1.set 0 (.bool false)).set 1 (.slice none 0 0)).set 2 (.slice none 0 0)).set 3 (.slice none 0 0)).set 4 (.slice none 0 0))
      simp only [List.setIfInBounds_toArray, List.set_cons_zero, List.set_cons_succ] at HY
      replace HY := hid HY
      clear HG R1 hr2
      go_wp2
      generalize (((((w2.setCell ⟨k1, 0, none⟩ (.bool false)).setCell ⟨k1, 1, none⟩ (.slice none 0 0)).setCell ⟨k1, 2, none⟩ (.slice none 0 0)).setCell ⟨k1, 3, none⟩ (.slice none 0 0)).setCell ⟨k1, 4, none⟩ (.slice none 0 0)) = WW at *
      have y0 : WW.cell? ⟨k1, 0, none⟩ = some (.bool false) := HY.out.cell 0
      have y1 : WW.cell? ⟨k1, 1, none⟩ = some (.slice none 0 0) := HY.out.cell 1
      have y2 : WW.cell? ⟨k1, 2, none⟩ = some (.slice none 0 0) := HY.out.cell 2
      have y3 : WW.cell? ⟨k1, 3, none⟩ = some (.slice none 0 0) := HY.out.cell 3
      have y4 : WW.cell? ⟨k1, 4, none⟩ = some (.slice none 0 0) := HY.out.cell 4
      exact bodyPost_ret (v := nv ⟨false, [], [], [], []⟩ ⟨none, 0, none, 0, none, 0, none, 0⟩) (by simp [results, Try.results22, go_sem, y0, y1, y2, y3, y4]) rfl ⟨zeroN, failS 7 s1, rN_none hs1.out M12.out.1 M12.out.2, ⟨none, 0, none, 0, none, 0, none, 0⟩, rfl, OwnN.zero _ _, ⟨Nat.zero_le _, Nat.zero_le _, Nat.zero_le _, Nat.zero_le _⟩, HR.out⟩
end Go.Proofs.Ytjegpcmejlffhaa.Cod
