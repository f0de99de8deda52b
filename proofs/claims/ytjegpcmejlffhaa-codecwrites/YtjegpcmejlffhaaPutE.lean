/-
  Contract of the program's Put.
-/
import Derived.Test.YtjegpcmejlffhaaPutD
import Derived.Test.YtjegpcmejlffhaaMayN
namespace Go.Proofs.Ytjegpcmejlffhaa.Cod
set_option linter.unusedSimpArgs false
set_option linter.unusedVariables false
open Go.RowKit
open Pack (be txt Own Bytes)
open Key (M E Pr Nd Pl nv Lies mayI ev mv)

theorem max_of {s : ByteArray} {k : Nat} (h : s.size ≤ k) (hk : k ≤ 100) : s.size ≤ maxLen := by unfold maxLen; omega
theorem fit_leaf {n : Nd} (h : mayI n = 0) (hl : n.leaf = true) : ∀ x ∈ n.ps, x.key.size ≤ maxLen ∧ x.val.size ≤ maxLen := by
  obtain ⟨l1, l2, l3, hf⟩ := may_parts h
  unfold Key.fineB at hf
  rw [if_pos hl] at hf
  unfold Key.leafB at hf
  simp only [Bool.and_eq_true, List.isEmpty_iff] at hf
  obtain ⟨hpv, hks, hbf, hps⟩ := hf
  rw [Key.upTo_and, Bool.and_eq_true] at hps
  intro p hp
  have := upTo_mem (p := Key.okP) hps.1 p hp
  simp only [Key.okP, Bool.and_eq_true, decide_eq_true_eq] at this
  exact ⟨max_of this.1 (by decide), max_of this.2 (by decide)⟩
theorem fit_fork {n : Nd} (hk : Kinds n) (h : mayI n = 0) (hl : n.leaf = false) : n.pv.length ≤ 16 ∧ (∀ x ∈ n.pv, x.size ≤ maxLen) ∧ (∀ x ∈ n.ks, FitE x) ∧ (∀ x ∈ n.bf, FitM x) := by
  obtain ⟨l1, l2, l3, hf⟩ := may_parts h
  unfold Key.fineB at hf
  rw [if_neg (by rw [hl]; intro h; cases h)] at hf
  unfold Key.forkB at hf
  simp only [Bool.and_eq_true, beq_iff_eq, List.isEmpty_iff] at hf
  obtain ⟨hps, hlen, hpv, hks, hbf⟩ := hf
  refine ⟨by omega, fun s hs => ?_, fun e he => ?_, fun m hm => ?_⟩
  · obtain ⟨i, hi, rfl⟩ := List.getElem_of_mem hs
    have := Key.upTo_at hpv hi
    rw [Key.pivAt_at hi] at this
    simp only [Bool.and_eq_true, decide_eq_true_eq] at this
    exact max_of this.2 (by decide)
  · have := upTo_mem (p := Key.okE) hks e he
    simp only [Key.okE, Bool.and_eq_true, decide_eq_true_eq] at this
    exact ⟨(hk.eb e he).1, (hk.eb e he).2, (hk.ed e he).1, (hk.ed e he).2, max_of this.2.1 (by decide), max_of this.2.2 (by decide)⟩
  · have hb := upTo_mem (p := Key.mayB) hbf m hm
    obtain ⟨_, k1, k2, _⟩ := comp_T hb (hk.mb m hm).1 (hk.mb m hm).2 (hk.md m hm).1 (hk.md m hm).2
    simp only [Key.mayB, Bool.and_eq_true, decide_eq_true_eq] at hb
    exact ⟨by omega, by omega, (hk.mb m hm).1, (hk.mb m hm).2, (hk.md m hm).1, (hk.md m hm).2, max_of hb.1 (by decide), max_of hb.2.1 (by decide), max_of hb.2.2.1 (by decide)⟩
/-- what Put hands back: the writing, or nothing -/
structure Written (w : World) (base : Nat) (v : Value) (n : Nd) : Prop where
  no : mayI n ≠ 0 → Own w base v []
  yes : mayI n = 0 → Own w base v (wN n)

set_option maxRecDepth 100000 in
set_option maxHeartbeats 2000000 in
theorem put8 (n : Nd) (p : Pl) (w : World) (h : Lies w n p) (hf : Key.Few n) (hk : Kinds n) :
    Calls Try.prog 8 #[nv n p] w fun x w' => ∃ v, x = .returned (.tuple #[v, .int .i64 (mayI n)]) ∧ Written w' w.heap.size v n ∧ Below w.heap.size w w' := by
  have R0 := Row.new w #[.bool n.leaf, .slice p.a1 n.ps.length p.c1, .slice p.a2 n.pv.length p.c2, .slice p.a3 n.ks.length p.c3, .slice p.a4 n.bf.length p.c4] 27
  have HB := one_box w (.cells #[.bool n.leaf, .slice p.a1 n.ps.length p.c1, .slice p.a2 n.pv.length p.c2, .slice p.a3 n.ks.length p.c3, .slice p.a4 n.bf.length p.c4] 27)
  replace h := h.later HB
  have HM := hid (Key.may12 n p _ hf h)
  have HP := hid (fun (hm : mayI n = 0) (hl : n.leaf = true) (u : World) (hu : Lies u n p) => putLeaf17 n p u hu (may_parts hm).1 (fit_leaf hm hl))
  have HQ := hid (fun (hm : mayI n = 0) (hl : n.leaf = false) (u : World) (hu : Lies u n p) => putFork18 n p u hu (fit_fork hk hm hl).1 (by have := (may_parts hm).2.1; omega) (may_parts hm).2.2.1 (fit_fork hk hm hl).2.1 (fit_fork hk hm hl).2.2.1 (fit_fork hk hm hl).2.2.2)
  have HW : Hid (∀ (u : World) (v : Value), mayI n = 0 → Own u w.heap.size v (wN n) → Written u w.heap.size v n) := fun u v h0 h1 => ⟨fun h => absurd h0 h, fun _ => h1⟩
  have HW0 : Hid (∀ (u : World), mayI n ≠ 0 → Written u w.heap.size (.slice none 0 0) n) := fun u h0 => ⟨fun _ => World.ownsRow_nil _ _ _ _, fun h1 => absurd h1 h0⟩
  have HL : Hid (n.leaf = true → wN n = wLeaf n) := fun h => if_pos h
  have HK : Hid (n.leaf = false → wN n = wFork n) := fun h => if_neg (by rw [h]; intro h; cases h)
  generalize hM : mayI n = m at *
  replace hM := hid hM
  go_enter Try.func8, Try.ntmps8
  go_upto_region 1 with fail
  generalize hW : w.alloc (.cells #[.bool n.leaf, .slice p.a1 n.ps.length p.c1, .slice p.a2 n.pv.length p.c2, .slice p.a3 n.ks.length p.c3, .slice p.a4 n.bf.length p.c4] 27) = w0 at *
  clear hW
  generalize hk0 : w.heap.size = k0 at *
  have d0 : w0.cell? ⟨k0, 0, none⟩ = some (.bool n.leaf) := R0.cell 0
  have d1 : w0.cell? ⟨k0, 1, none⟩ = some (.slice p.a1 n.ps.length p.c1) := R0.cell 1
  have d2 : w0.cell? ⟨k0, 2, none⟩ = some (.slice p.a2 n.pv.length p.c2) := R0.cell 2
  have d3 : w0.cell? ⟨k0, 3, none⟩ = some (.slice p.a3 n.ks.length p.c3) := R0.cell 3
  have d4 : w0.cell? ⟨k0, 4, none⟩ = some (.slice p.a4 n.bf.length p.c4) := R0.cell 4
  go_wp2_with fail
  refine HM.out.mono ?_
  rintro x w1 ⟨rfl, hb1⟩
  replace R0 := R0.later hb1
  replace h := h.later hb1
  have hs1 := HB.size
  replace HB := HB.trans (hb1.mono (by omega))
  clear d0 d1 d2 d3 d4 hb1 HM
  have d0 : w1.cell? ⟨k0, 0, none⟩ = some (.bool n.leaf) := R0.cell 0
  have d1 : w1.cell? ⟨k0, 1, none⟩ = some (.slice p.a1 n.ps.length p.c1) := R0.cell 1
  have d2 : w1.cell? ⟨k0, 2, none⟩ = some (.slice p.a2 n.pv.length p.c2) := R0.cell 2
  have d3 : w1.cell? ⟨k0, 3, none⟩ = some (.slice p.a3 n.ks.length p.c3) := R0.cell 3
  have d4 : w1.cell? ⟨k0, 4, none⟩ = some (.slice p.a4 n.bf.length p.c4) := R0.cell 4
  by_cases hm0 : m = 0
  · subst hm0
    cases hlf : n.leaf
    · replace HQ := hid (HQ.out rfl hlf w1 h)
      replace HK := hid (HK.out hlf)
      rw [hlf] at d0
      have HE : Hid (nv n p = .agg #[.bool false, .slice p.a1 n.ps.length p.c1, .slice p.a2 n.pv.length p.c2, .slice p.a3 n.ks.length p.c3, .slice p.a4 n.bf.length p.c4]) := hid (by rw [← hlf])
      rw [HE.out] at HQ
      go_wp2_with fail
      refine HQ.out.mono ?_
      rintro x w2 ⟨v, rfl, ho, hb2⟩
      rw [← HK.out] at ho
      have hs2 := HB.size
      have HWW := hid (HW.out w2 v (by trivial) (ho.mono (by omega)))
      obtain ⟨a6, c6, rfl, _⟩ := ho.form
      go_wp2
      exact bodyPost_ret (v := .tuple #[.slice a6 (wN n).length c6, .int .i64 0]) (by simp [results, Try.results8, go_sem]) rfl ⟨_, rfl, by rw [hk0]; exact HWW.out, by rw [hk0]; exact HB.trans (hb2.mono (by omega))⟩
    · replace HP := hid (HP.out rfl hlf w1 h)
      replace HL := hid (HL.out hlf)
      rw [hlf] at d0
      have HE : Hid (nv n p = .agg #[.bool true, .slice p.a1 n.ps.length p.c1, .slice p.a2 n.pv.length p.c2, .slice p.a3 n.ks.length p.c3, .slice p.a4 n.bf.length p.c4]) := hid (by rw [← hlf])
      rw [HE.out] at HP
      go_wp2_with fail
      refine HP.out.mono ?_
      rintro x w2 ⟨v, rfl, ho, hb2⟩
      rw [← HL.out] at ho
      have hs2 := HB.size
      have HWW := hid (HW.out w2 v (by trivial) (ho.mono (by omega)))
      obtain ⟨a6, c6, rfl, _⟩ := ho.form
      go_wp2
      exact bodyPost_ret (v := .tuple #[.slice a6 (wN n).length c6, .int .i64 0]) (by simp [results, Try.results8, go_sem]) rfl ⟨_, rfl, by rw [hk0]; exact HWW.out, by rw [hk0]; exact HB.trans (hb2.mono (by omega))⟩
  · have hmd : (m == 0) = false := by simpa using hm0
    have hmd' : (m != 0) = true := by simpa using hm0
    have HWW := hid (HW0.out w1 hm0)
    clear hm0
    go_wp2
    exact bodyPost_ret (v := .tuple #[.slice none 0 0, .int .i64 m]) (by simp [results, Try.results8, go_sem]) rfl ⟨_, rfl, by rw [hk0]; exact HWW.out, by rw [hk0]; exact HB⟩
end Go.Proofs.Ytjegpcmejlffhaa.Cod
