/-
  Contract of the document's Get: a first byte that is neither 1 nor 2.
-/
import Derived.Test.YtjegpcmejlffhaaFr
import Derived.Test.YtjegpcmejlffhaaRefC
import Derived.Test.YtjegpcmejlffhaaPn
import Derived.Test.YtjegpcmejlffhaaGetH
import Derived.Test.YtjegpcmejlffhaaRefMay2
namespace Go.Proofs.Ytjegpcmejlffhaa.Cod
set_option linter.unusedSimpArgs false
set_option linter.unusedVariables false
open Go.RowKit
open Key (M E Pr Nd Pl nv Lies mayI ev mv)

theorem end_seven {n p : Nat} : Pack.endE n p 7 = 7 := if_neg (fun h => absurd h.1 (by decide))
theorem none_seven {zs : List Int} {s1 : St} {q : Nat} (h1 : rNum 1 zs ⟨0, 0⟩ = (q, s1)) (m1 : ¬ q = 1) (m2 : ¬ q = 2) (he : s1.e = 0) : getN rM' zs = (zeroN, 7) := by
  rw [getN_of (rN_none h1 m1 m2)]
  have e : (failS 7 s1).e = 7 := by unfold failS Pack.failE; rw [if_pos he]
  rw [e, end_seven]
  exact says_err (by decide)
theorem none_bad {zs : List Int} {s1 : St} {q : Nat} (h1 : rNum 1 zs ⟨0, 0⟩ = (q, s1)) (m1 : ¬ q = 1) (m2 : ¬ q = 2) (he : s1.e ≠ 0) : rN rM' zs ⟨0, 0⟩ = (zeroN, s1) := by
  rw [rN_none h1 m1 m2]
  have e : failS 7 s1 = s1 := by unfold failS Pack.failE; rw [if_neg he]
  rw [e]

set_option maxRecDepth 100000 in
set_option maxHeartbeats 4000000 in
theorem rget12_none {a : Option Addr} {n c : Nat} {zs : List Int} (w : World) (h : Doc w a n c zs) (hq12 : ¬ (rNum 1 zs ⟨0, 0⟩).1 = 1 ∧ ¬ (rNum 1 zs ⟨0, 0⟩).1 = 2) :
    Calls Try.prog 12 #[.slice a n c] w fun x w' => ∃ (nd : Nd) (e : Int), Hid (getN rM' zs = (nd, e)) ∧ ∃ p, x = .returned (.tuple #[nv nd p, .int .i64 e]) ∧ OwnN w' w.heap.size nd p ∧ Less nd ∧ Below w.heap.size w w' := by
  obtain ⟨R0, R1, R2, HB, hsz⟩ := three_boxes w #[.bool false, .slice none 0 0, .slice none 0 0, .slice none 0 0, .slice none 0 0] #[.bool false, .slice none 0 0, .slice none 0 0, .slice none 0 0, .slice none 0 0] #[.bool false, .slice none 0 0, .slice none 0 0, .slice none 0 0, .slice none 0 0] 27 27 27
  have hlen := hid h.len
  have hbyt := hid h.byt
  have hd0 := h.later HB
  go_enter Try.func12, Try.ntmps12
  go_upto_region 3 with fail
  generalize hW : ((w.alloc (.cells #[.bool false, .slice none 0 0, .slice none 0 0, .slice none 0 0, .slice none 0 0] 27)).alloc (.cells #[.bool false, .slice none 0 0, .slice none 0 0, .slice none 0 0, .slice none 0 0] 27)).alloc (.cells #[.bool false, .slice none 0 0, .slice none 0 0, .slice none 0 0, .slice none 0 0] 27) = W0 at *
  clear hW
  generalize hk0 : w.heap.size = k0 at *
  generalize hk1 : k0 + 1 = k1 at *
  generalize hk2 : k1 + 1 = k2 at *
  go_wp2_with fail
  refine (rget (s := ⟨0, 0⟩) hd0 (Nat.zero_le _) 1 (by decide) (by decide)).mono ?_
  rintro x w1 ⟨q, s1, hs1, hq, hp1, rfl, hb⟩
  have m1 : ¬ q = 1 := by have := hq12.1; rw [hs1.out] at this; exact this
  have m2 : ¬ q = 2 := by have := hq12.2; rw [hs1.out] at this; exact this
  clear hq12
  replace R0 := (R0.later hb).alloc (.cells #[.slice a n c, .int .i64 (s1.p : Int), .int .i64 s1.e] 70)
  replace R1 := (R1.later hb).alloc (.cells #[.slice a n c, .int .i64 (s1.p : Int), .int .i64 s1.e] 70)
  replace R2 := (R2.later hb).alloc (.cells #[.slice a n c, .int .i64 (s1.p : Int), .int .i64 s1.e] 70)
  have R3 := Row.new w1 #[.slice a n c, .int .i64 (s1.p : Int), .int .i64 s1.e] 70
  have hb1 := hb.size
  replace HB := (HB.trans (hb.mono (by omega))).alloc (by omega) (.cells #[.slice a n c, .int .i64 (s1.p : Int), .int .i64 s1.e] 70)
  have hsz1 : (w1.alloc (.cells #[.slice a n c, .int .i64 (s1.p : Int), .int .i64 s1.e] 70)).heap.size = w1.heap.size + 1 := by simp
  clear hb hd0
  go_upto_region 4 with fail
  generalize hW : w1.alloc (.cells #[.slice a n c, .int .i64 (s1.p : Int), .int .i64 s1.e] 70) = W1 at *
  clear hW
  generalize hk3 : w1.heap.size = k3 at *
  have F : Fr w W1 (k3 + 1) k0 k1 k2 k3 zeros a n c s1 := ⟨R0, R1, R2, R3, by rw [hk0]; exact HB, by omega, by omega, by omega, by omega, by omega, by omega⟩
  have hkB : k2 < k3 + 1 := by omega
  have hkB3 : k3 < k3 + 1 := by omega
  clear R0 R1 R2 R3 HB hsz hsz1 hb1 hk0 hk1 hk2 hk3
  generalize hB : k3 + 1 = B at *
  clear hB
  have hne1 : ((q : Int) == 1) = false := by simp; omega
  have hne2 : ((q : Int) == 2) = false := by simp; omega
  have hne1' : ((q : Int) != 1) = true := by simp; omega
  have hne2' : ((q : Int) != 2) = true := by simp; omega
  by_cases he : s1.e = 0
  · have HC := hid (none_seven hs1.out m1 m2 he)
    have c2 : W1.cell? ⟨k3, 2, none⟩ = some (.int .i64 0) := by rw [← he]; exact F.r3.cell 2
    have ho := OwnN.zero W1 B
    have hwB : w.heap.size ≤ B := by have := F.o0; have := F.o1; have := F.o2; omega
    have hk0B : k0 < B := by have := F.o1; have := F.o2; omega
    clear m1 m2 he
    have z0 : W1.cell? ⟨k0, 0, none⟩ = some (.bool false) := F.r0.cell 0
    have g0 := F.r0.free 0
    have e0 : W1.cell? ⟨k1, 0, none⟩ = some (.bool false) := F.r1.cell 0
    have z1 : W1.cell? ⟨k0, 1, none⟩ = some (.slice none 0 0) := F.r0.cell 1
    have g1 := F.r0.free 1
    have e1 : W1.cell? ⟨k1, 1, none⟩ = some (.slice none 0 0) := F.r1.cell 1
    have z2 : W1.cell? ⟨k0, 2, none⟩ = some (.slice none 0 0) := F.r0.cell 2
    have g2 := F.r0.free 2
    have e2 : W1.cell? ⟨k1, 2, none⟩ = some (.slice none 0 0) := F.r1.cell 2
    have z3 : W1.cell? ⟨k0, 3, none⟩ = some (.slice none 0 0) := F.r0.cell 3
    have g3 := F.r0.free 3
    have e3 : W1.cell? ⟨k1, 3, none⟩ = some (.slice none 0 0) := F.r1.cell 3
    have z4 : W1.cell? ⟨k0, 4, none⟩ = some (.slice none 0 0) := F.r0.cell 4
    have g4 := F.r0.free 4
    have e4 : W1.cell? ⟨k1, 4, none⟩ = some (.slice none 0 0) := F.r1.cell 4
    have HY := (((((F.r0.set 0 (.bool false)).set 1 (.slice none 0 0)).set 2 (.slice none 0 0)).set 3 (.slice none 0 0)).set 4 (.slice none 0 0))
    simp only [zeros, List.setIfInBounds_toArray, List.set_cons_zero, List.set_cons_succ] at HY
    replace HY := hid HY
    have HR := hid (Below.setCell (Below.setCell (Below.setCell (Below.setCell (Below.setCell F.hb (p := ⟨k0, 0, none⟩) (by exact F.o0) (.bool false)) (p := ⟨k0, 1, none⟩) (by exact F.o0) (.slice none 0 0)) (p := ⟨k0, 2, none⟩) (by exact F.o0) (.slice none 0 0)) (p := ⟨k0, 3, none⟩) (by exact F.o0) (.slice none 0 0)) (p := ⟨k0, 4, none⟩) (by exact F.o0) (.slice none 0 0))
    clear ho F
    go_wp2
    generalize (((((W1.setCell ⟨k0, 0, none⟩ (.bool false)).setCell ⟨k0, 1, none⟩ (.slice none 0 0)).setCell ⟨k0, 2, none⟩ (.slice none 0 0)).setCell ⟨k0, 3, none⟩ (.slice none 0 0)).setCell ⟨k0, 4, none⟩ (.slice none 0 0)) = WW at *
    have p0 : WW.cell? ⟨k0, 0, none⟩ = some (.bool false) := HY.out.cell 0
    have p1 : WW.cell? ⟨k0, 1, none⟩ = some (.slice none 0 0) := HY.out.cell 1
    have p2 : WW.cell? ⟨k0, 2, none⟩ = some (.slice none 0 0) := HY.out.cell 2
    have p3 : WW.cell? ⟨k0, 3, none⟩ = some (.slice none 0 0) := HY.out.cell 3
    have p4 : WW.cell? ⟨k0, 4, none⟩ = some (.slice none 0 0) := HY.out.cell 4
    exact bodyPost_ret (v := .tuple #[nv ⟨false, [], [], [], []⟩ ⟨none, 0, none, 0, none, 0, none, 0⟩, .int .i64 7]) (by simp [results, Try.results12, go_sem, p0, p1, p2, p3, p4]) rfl ⟨zeroN, 7, HC, ⟨none, 0, none, 0, none, 0, none, 0⟩, rfl, OwnN.zero _ _, ⟨Nat.zero_le _, Nat.zero_le _, Nat.zero_le _, Nat.zero_le _⟩, HR.out⟩
  · have HS := hid (none_bad hs1.out m1 m2 he)
    have hed : (s1.e == 0) = false := by simpa using he
    have ho := OwnN.zero W1 B
    have HLS : Hid (Less zeroN) := ⟨Nat.zero_le _, Nat.zero_le _, Nat.zero_le _, Nat.zero_le _⟩
    have HKD : Hid (Kinds zeroN) := by
      have := kinds_N (f := rM') hbyt.out (fun s => ok_M' hbyt.out s) ⟨0, 0⟩
      rwa [HS.out] at this
    have c2 : W1.cell? ⟨k3, 2, none⟩ = some (.int .i64 s1.e) := F.r3.cell 2
    clear m1 m2 he
    go_upto_region 42 with fail
    clear c2
    have HG := getN_of HS.out
    rw [hlen.out] at HG
    replace HG := hid HG
    have hk0B : k0 < B := by have := F.o1; have := F.o2; have := F.o3; have := F.o4; omega
    have hwB : w.heap.size ≤ B := by have := F.o0; omega
    obtain ⟨c0, c1, c2, _, _, _⟩ := F.rd
    go_wp2_with fail
    refine (Pack.ref_end (a := a) (n := n) (c := c) (p := s1.p) (e := s1.e)).mono ?_
    rintro x u1 ⟨rfl, hb⟩
    replace F := F.later hb
    replace ho := ho.later hb
    clear hb c0 c1 c2
    generalize hE : Pack.endE n s1.p s1.e = e at *
    clear hE
    by_cases he : e = 0
    · subst he
      have e0 : u1.cell? ⟨k2, 0, none⟩ = some (.bool false) := F.r2.cell 0
      have e1 : u1.cell? ⟨k2, 1, none⟩ = some (.slice none 0 0) := F.r2.cell 1
      have e2 : u1.cell? ⟨k2, 2, none⟩ = some (.slice none 0 0) := F.r2.cell 2
      have e3 : u1.cell? ⟨k2, 3, none⟩ = some (.slice none 0 0) := F.r2.cell 3
      have e4 : u1.cell? ⟨k2, 4, none⟩ = some (.slice none 0 0) := F.r2.cell 4
      have HM := hid (Key.may13 zeroN ⟨none, 0, none, 0, none, 0, none, 0⟩ u1 HLS.out.few ho.lies (fun m hm => (HKD.out.md m hm).1))
      go_wp2_with fail
      refine HM.out.mono ?_
      rintro x u2 ⟨rfl, hb⟩
      replace F := F.later hb
      replace ho := ho.later hb
      clear hb e0 e1 e2 e3 e4 HM
      generalize hM : mayI zeroN = m at *
      replace hM := hid hM
      by_cases hm0 : m = 0
      · subst hm0
        have z0 : u2.cell? ⟨k0, 0, none⟩ = some (.bool false) := F.r0.cell 0
        have g0 := F.r0.free 0
        have e0 : u2.cell? ⟨k2, 0, none⟩ = some (.bool false) := F.r2.cell 0
        have z1 : u2.cell? ⟨k0, 1, none⟩ = some (.slice none 0 0) := F.r0.cell 1
        have g1 := F.r0.free 1
        have e1 : u2.cell? ⟨k2, 1, none⟩ = some (.slice none 0 0) := F.r2.cell 1
        have z2 : u2.cell? ⟨k0, 2, none⟩ = some (.slice none 0 0) := F.r0.cell 2
        have g2 := F.r0.free 2
        have e2 : u2.cell? ⟨k2, 2, none⟩ = some (.slice none 0 0) := F.r2.cell 2
        have z3 : u2.cell? ⟨k0, 3, none⟩ = some (.slice none 0 0) := F.r0.cell 3
        have g3 := F.r0.free 3
        have e3 : u2.cell? ⟨k2, 3, none⟩ = some (.slice none 0 0) := F.r2.cell 3
        have z4 : u2.cell? ⟨k0, 4, none⟩ = some (.slice none 0 0) := F.r0.cell 4
        have g4 := F.r0.free 4
        have e4 : u2.cell? ⟨k2, 4, none⟩ = some (.slice none 0 0) := F.r2.cell 4
        have HY := (((((F.r0.set 0 (.bool false)).set 1 (.slice none 0 0)).set 2 (.slice none 0 0)).set 3 (.slice none 0 0)).set 4 (.slice none 0 0))
        simp only [zeros, List.setIfInBounds_toArray, List.set_cons_zero, List.set_cons_succ] at HY
        replace HY := hid HY
        have HR := hid (Below.setCell (Below.setCell (Below.setCell (Below.setCell (Below.setCell F.hb (p := ⟨k0, 0, none⟩) (by exact F.o0) (.bool false)) (p := ⟨k0, 1, none⟩) (by exact F.o0) (.slice none 0 0)) (p := ⟨k0, 2, none⟩) (by exact F.o0) (.slice none 0 0)) (p := ⟨k0, 3, none⟩) (by exact F.o0) (.slice none 0 0)) (p := ⟨k0, 4, none⟩) (by exact F.o0) (.slice none 0 0))
        have HO := hid (((((ho.set (k := k0) hk0B 0 (.bool false)).set (k := k0) hk0B 1 (.slice none 0 0)).set (k := k0) hk0B 2 (.slice none 0 0)).set (k := k0) hk0B 3 (.slice none 0 0)).set (k := k0) hk0B 4 (.slice none 0 0))
        clear ho F
        go_wp2
        generalize (((((u2.setCell ⟨k0, 0, none⟩ (.bool false)).setCell ⟨k0, 1, none⟩ (.slice none 0 0)).setCell ⟨k0, 2, none⟩ (.slice none 0 0)).setCell ⟨k0, 3, none⟩ (.slice none 0 0)).setCell ⟨k0, 4, none⟩ (.slice none 0 0)) = WW at *
        have p0 : WW.cell? ⟨k0, 0, none⟩ = some (.bool false) := HY.out.cell 0
        have p1 : WW.cell? ⟨k0, 1, none⟩ = some (.slice none 0 0) := HY.out.cell 1
        have p2 : WW.cell? ⟨k0, 2, none⟩ = some (.slice none 0 0) := HY.out.cell 2
        have p3 : WW.cell? ⟨k0, 3, none⟩ = some (.slice none 0 0) := HY.out.cell 3
        have p4 : WW.cell? ⟨k0, 4, none⟩ = some (.slice none 0 0) := HY.out.cell 4
        exact bodyPost_ret (v := .tuple #[nv ⟨false, [], [], [], []⟩ ⟨none, 0, none, 0, none, 0, none, 0⟩, .int .i64 0]) (by simp [results, Try.results12, go_sem, p0, p1, p2, p3, p4]) rfl ⟨zeroN, 0, HG.out.trans (says_yes hM.out), ⟨none, 0, none, 0, none, 0, none, 0⟩, rfl, HO.out.mono hwB, HLS.out, HR.out⟩
      · have hmd : (m == 0) = false := by simpa using hm0
        have hmd' : (m != 0) = true := by simpa using hm0
        replace hm0 := hid hm0
        have z0 : u2.cell? ⟨k0, 0, none⟩ = some (.bool false) := F.r0.cell 0
        have g0 := F.r0.free 0
        have e0 : u2.cell? ⟨k1, 0, none⟩ = some (.bool false) := F.r1.cell 0
        have z1 : u2.cell? ⟨k0, 1, none⟩ = some (.slice none 0 0) := F.r0.cell 1
        have g1 := F.r0.free 1
        have e1 : u2.cell? ⟨k1, 1, none⟩ = some (.slice none 0 0) := F.r1.cell 1
        have z2 : u2.cell? ⟨k0, 2, none⟩ = some (.slice none 0 0) := F.r0.cell 2
        have g2 := F.r0.free 2
        have e2 : u2.cell? ⟨k1, 2, none⟩ = some (.slice none 0 0) := F.r1.cell 2
        have z3 : u2.cell? ⟨k0, 3, none⟩ = some (.slice none 0 0) := F.r0.cell 3
        have g3 := F.r0.free 3
        have e3 : u2.cell? ⟨k1, 3, none⟩ = some (.slice none 0 0) := F.r1.cell 3
        have z4 : u2.cell? ⟨k0, 4, none⟩ = some (.slice none 0 0) := F.r0.cell 4
        have g4 := F.r0.free 4
        have e4 : u2.cell? ⟨k1, 4, none⟩ = some (.slice none 0 0) := F.r1.cell 4
        have HY := (((((F.r0.set 0 (.bool false)).set 1 (.slice none 0 0)).set 2 (.slice none 0 0)).set 3 (.slice none 0 0)).set 4 (.slice none 0 0))
        simp only [zeros, List.setIfInBounds_toArray, List.set_cons_zero, List.set_cons_succ] at HY
        replace HY := hid HY
        have HR := hid (Below.setCell (Below.setCell (Below.setCell (Below.setCell (Below.setCell F.hb (p := ⟨k0, 0, none⟩) (by exact F.o0) (.bool false)) (p := ⟨k0, 1, none⟩) (by exact F.o0) (.slice none 0 0)) (p := ⟨k0, 2, none⟩) (by exact F.o0) (.slice none 0 0)) (p := ⟨k0, 3, none⟩) (by exact F.o0) (.slice none 0 0)) (p := ⟨k0, 4, none⟩) (by exact F.o0) (.slice none 0 0))
        clear ho F
        go_wp2
        generalize (((((u2.setCell ⟨k0, 0, none⟩ (.bool false)).setCell ⟨k0, 1, none⟩ (.slice none 0 0)).setCell ⟨k0, 2, none⟩ (.slice none 0 0)).setCell ⟨k0, 3, none⟩ (.slice none 0 0)).setCell ⟨k0, 4, none⟩ (.slice none 0 0)) = WW at *
        have p0 : WW.cell? ⟨k0, 0, none⟩ = some (.bool false) := HY.out.cell 0
        have p1 : WW.cell? ⟨k0, 1, none⟩ = some (.slice none 0 0) := HY.out.cell 1
        have p2 : WW.cell? ⟨k0, 2, none⟩ = some (.slice none 0 0) := HY.out.cell 2
        have p3 : WW.cell? ⟨k0, 3, none⟩ = some (.slice none 0 0) := HY.out.cell 3
        have p4 : WW.cell? ⟨k0, 4, none⟩ = some (.slice none 0 0) := HY.out.cell 4
        exact bodyPost_ret (v := .tuple #[nv ⟨false, [], [], [], []⟩ ⟨none, 0, none, 0, none, 0, none, 0⟩, .int .i64 3]) (by simp [results, Try.results12, go_sem, p0, p1, p2, p3, p4]) rfl ⟨zeroN, 3, HG.out.trans (says_no (by rw [hM.out]; exact hm0.out)), ⟨none, 0, none, 0, none, 0, none, 0⟩, rfl, OwnN.zero _ _, ⟨Nat.zero_le _, Nat.zero_le _, Nat.zero_le _, Nat.zero_le _⟩, HR.out⟩
    · have hed : (e == 0) = false := by simpa using he
      have hed' : (e != 0) = true := by simpa using he
      replace he := hid he
      have z0 : u1.cell? ⟨k0, 0, none⟩ = some (.bool false) := F.r0.cell 0
      have g0 := F.r0.free 0
      have e0 : u1.cell? ⟨k1, 0, none⟩ = some (.bool false) := F.r1.cell 0
      have z1 : u1.cell? ⟨k0, 1, none⟩ = some (.slice none 0 0) := F.r0.cell 1
      have g1 := F.r0.free 1
      have e1 : u1.cell? ⟨k1, 1, none⟩ = some (.slice none 0 0) := F.r1.cell 1
      have z2 : u1.cell? ⟨k0, 2, none⟩ = some (.slice none 0 0) := F.r0.cell 2
      have g2 := F.r0.free 2
      have e2 : u1.cell? ⟨k1, 2, none⟩ = some (.slice none 0 0) := F.r1.cell 2
      have z3 : u1.cell? ⟨k0, 3, none⟩ = some (.slice none 0 0) := F.r0.cell 3
      have g3 := F.r0.free 3
      have e3 : u1.cell? ⟨k1, 3, none⟩ = some (.slice none 0 0) := F.r1.cell 3
      have z4 : u1.cell? ⟨k0, 4, none⟩ = some (.slice none 0 0) := F.r0.cell 4
      have g4 := F.r0.free 4
      have e4 : u1.cell? ⟨k1, 4, none⟩ = some (.slice none 0 0) := F.r1.cell 4
      have HY := (((((F.r0.set 0 (.bool false)).set 1 (.slice none 0 0)).set 2 (.slice none 0 0)).set 3 (.slice none 0 0)).set 4 (.slice none 0 0))
      simp only [zeros, List.setIfInBounds_toArray, List.set_cons_zero, List.set_cons_succ] at HY
      replace HY := hid HY
      have HR := hid (Below.setCell (Below.setCell (Below.setCell (Below.setCell (Below.setCell F.hb (p := ⟨k0, 0, none⟩) (by exact F.o0) (.bool false)) (p := ⟨k0, 1, none⟩) (by exact F.o0) (.slice none 0 0)) (p := ⟨k0, 2, none⟩) (by exact F.o0) (.slice none 0 0)) (p := ⟨k0, 3, none⟩) (by exact F.o0) (.slice none 0 0)) (p := ⟨k0, 4, none⟩) (by exact F.o0) (.slice none 0 0))
      clear ho F
      go_wp2
      generalize (((((u1.setCell ⟨k0, 0, none⟩ (.bool false)).setCell ⟨k0, 1, none⟩ (.slice none 0 0)).setCell ⟨k0, 2, none⟩ (.slice none 0 0)).setCell ⟨k0, 3, none⟩ (.slice none 0 0)).setCell ⟨k0, 4, none⟩ (.slice none 0 0)) = WW at *
      have p0 : WW.cell? ⟨k0, 0, none⟩ = some (.bool false) := HY.out.cell 0
      have p1 : WW.cell? ⟨k0, 1, none⟩ = some (.slice none 0 0) := HY.out.cell 1
      have p2 : WW.cell? ⟨k0, 2, none⟩ = some (.slice none 0 0) := HY.out.cell 2
      have p3 : WW.cell? ⟨k0, 3, none⟩ = some (.slice none 0 0) := HY.out.cell 3
      have p4 : WW.cell? ⟨k0, 4, none⟩ = some (.slice none 0 0) := HY.out.cell 4
      exact bodyPost_ret (v := .tuple #[nv ⟨false, [], [], [], []⟩ ⟨none, 0, none, 0, none, 0, none, 0⟩, .int .i64 e]) (by simp [results, Try.results12, go_sem, p0, p1, p2, p3, p4]) rfl ⟨zeroN, e, HG.out.trans (says_err he.out), ⟨none, 0, none, 0, none, 0, none, 0⟩, rfl, OwnN.zero _ _, ⟨Nat.zero_le _, Nat.zero_le _, Nat.zero_le _, Nat.zero_le _⟩, HR.out⟩
end Go.Proofs.Ytjegpcmejlffhaa.Cod
