/-
  The call of the statement CodecBegins.
-/
import Derived.Test.YtjegpcmejlffhaaLawA
import Derived.Test.YtjegpcmejlffhaaOpen3
namespace Go.Proofs.Ytjegpcmejlffhaa.Cod
set_option linter.unusedSimpArgs false
set_option linter.unusedVariables false
open Go.RowKit
open Pack (be txt Own Bytes)
open Key (M E Pr Nd Pl nv Lies mayI ev mv)

theorem wf16 {z : Int} (h : (Lit.int .u16 z).wf = true) : 0 ≤ z ∧ z < 65536 := by
  simp only [Lit.wf, Bool.and_eq_true, decide_eq_true_eq] at h
  have h2 : z ≤ IntKind.u16.max := h.2
  have h1 : IntKind.u16.min ≤ z := h.1
  have e1 : IntKind.u16.min = 0 := rfl
  have e2 : IntKind.u16.max = 65535 := by decide
  omega
theorem wf32 {z : Int} (h : (Lit.int .u32 z).wf = true) : 0 ≤ z ∧ z < 4294967296 := by
  simp only [Lit.wf, Bool.and_eq_true, decide_eq_true_eq] at h
  have h2 : z ≤ IntKind.u32.max := h.2
  have h1 : IntKind.u32.min ≤ z := h.1
  have e1 : IntKind.u32.min = 0 := rfl
  have e2 : IntKind.u32.max = 4294967295 := by decide
  omega
theorem kinds_in {n : Nd} (h : n.In) : Kinds n := ⟨fun e he => wf32 (h.ks e he).blk, fun e he => wf16 (h.ks e he).deep, fun m hm => wf32 (h.bf m hm).blk, fun m hm => wf16 (h.bf m hm).deep⟩
theorem few_of {n : Nd} (h : Key.greatN n = false) : Key.Few n := by
  unfold Key.greatN Key.greatPL Key.greatL at h
  simp only [Bool.or_eq_false_iff, decide_eq_false_iff_not] at h
  obtain ⟨h2, h3, ⟨h1, _⟩, ⟨h4, _⟩, _, _⟩ := h
  exact ⟨by omega, by omega, by omega, by omega⟩
theorem long_in {n : Nd} (h : n.In) : Key.Long n := ⟨h.l1, h.l2, h.l3, h.l4⟩
theorem begins_two {n : Nd} (hk : Kinds n) (h : mayI n = 0) {j : Nat} (hj : j < (wN n).length) : (getN rM ((wN n).take j)).2 = 2 := getN_begins (by rw [getN_comp hk h]) hj

set_option maxRecDepth 100000 in
set_option maxHeartbeats 2000000 in
theorem begins5 (n : Nd) (p : Pl) (k : Int) (w : World) (h : Lies w n p) (hi : n.In) (_ho : p.Ok) (hk : (Lit.int .i64 k).wf = true) :
    Calls Try.prog 5 #[nv n p, .int .i64 k] w fun x w' => x = .returned (.bool true) ∧ Below w.heap.size w w' := by
  have R0 := Row.new w #[.bool n.leaf, .slice p.a1 n.ps.length p.c1, .slice p.a2 n.pv.length p.c2, .slice p.a3 n.ks.length p.c3, .slice p.a4 n.bf.length p.c4] 27
  have HB := one_box w (.cells #[.bool n.leaf, .slice p.a1 n.ps.length p.c1, .slice p.a2 n.pv.length p.c2, .slice p.a3 n.ks.length p.c3, .slice p.a4 n.bf.length p.c4] 27)
  replace h := h.later HB
  have HG := hid (Key.great7 n p _ (long_in hi) h)
  have HF := hid (@few_of n)
  have HK := hid (kinds_in hi)
  have HA := hid awake7
  clear hi
  generalize hgr : Key.greatN n = gr at *
  replace hgr := hid hgr
  go_enter Try.func5, Try.ntmps5
  go_upto_region 1 with fail
  generalize hW : w.alloc (.cells #[.bool n.leaf, .slice p.a1 n.ps.length p.c1, .slice p.a2 n.pv.length p.c2, .slice p.a3 n.ks.length p.c3, .slice p.a4 n.bf.length p.c4] 27) = w0 at *
  clear hW
  generalize hk0 : w.heap.size = k0 at *
  have d0 : w0.cell? ⟨k0, 0, none⟩ = some (.bool n.leaf) := R0.cell 0
  have d1 : w0.cell? ⟨k0, 1, none⟩ = some (.slice p.a1 n.ps.length p.c1) := R0.cell 1
  have d2 : w0.cell? ⟨k0, 2, none⟩ = some (.slice p.a2 n.pv.length p.c2) := R0.cell 2
  have d3 : w0.cell? ⟨k0, 3, none⟩ = some (.slice p.a3 n.ks.length p.c3) := R0.cell 3
  have d4 : w0.cell? ⟨k0, 4, none⟩ = some (.slice p.a4 n.bf.length p.c4) := R0.cell 4
  go_wp2_with fail
  refine HG.out.mono ?_
  rintro x w1 ⟨rfl, hb1⟩
  replace R0 := R0.later hb1
  replace h := h.later hb1
  replace HB := HB.trans (hb1.mono (by have := HB.size; omega))
  clear d0 d1 d2 d3 d4 hb1 HG
  cases gr
  case true =>
    go_wp2_with fail
    refine (HA.out _).mono ?_
    rintro x w2 ⟨rfl, hb2⟩
    go_wp2
    go_ret
    exact ⟨rfl, by rw [hk0]; exact HB.trans (hb2.mono (by have := HB.size; omega))⟩
  case false =>
  have HP := hid (put8 n p w1 h (HF.out rfl) HK.out)
  have d0 : w1.cell? ⟨k0, 0, none⟩ = some (.bool n.leaf) := R0.cell 0
  have d1 : w1.cell? ⟨k0, 1, none⟩ = some (.slice p.a1 n.ps.length p.c1) := R0.cell 1
  have d2 : w1.cell? ⟨k0, 2, none⟩ = some (.slice p.a2 n.pv.length p.c2) := R0.cell 2
  have d3 : w1.cell? ⟨k0, 3, none⟩ = some (.slice p.a3 n.ks.length p.c3) := R0.cell 3
  have d4 : w1.cell? ⟨k0, 4, none⟩ = some (.slice p.a4 n.bf.length p.c4) := R0.cell 4
  go_wp2_with fail
  refine HP.out.mono ?_
  rintro x w2 ⟨v, rfl, hW, hb2⟩
  replace HB := HB.trans (hb2.mono (by have := HB.size; omega))
  clear d0 d1 d2 d3 d4 hb2 HP R0 h
  by_cases hm : mayI n = 0
  case neg =>
    have hno := hW.no hm
    obtain ⟨av, cv, rfl, _, _⟩ := own_form hno rfl
    generalize mayI n = m at *
    have hmd : (m == 0) = false := by simpa using hm
    have hmd' : (m != 0) = true := by simpa using hm
    clear hm hW hno
    go_wp2_with fail
    refine (HA.out _).mono ?_
    rintro x w3 ⟨rfl, hb3⟩
    go_wp2
    go_ret
    exact ⟨rfl, by rw [hk0]; exact HB.trans (hb3.mono (by have := HB.size; omega))⟩
  have hyes := hW.yes hm
  have hpos : 0 < (wN n).length := by
    unfold wN
    split
    · simp [wLeaf, Pack.be_length]; omega
    · simp [wFork, Pack.be_length]; omega
  have hle := wN_len hm
  have H2 := hid (fun j (hj : j < (wN n).length) => begins_two HK.out hm hj)
  have HBT := hid (byt_wN n)
  rw [hm]
  generalize wN n = Z at *
  obtain ⟨g, cv, rfl, _, _, hcv, hcm, hby⟩ := hyes.row hpos
  unfold maxLen at hcm
  generalize hL : Z.length = L at *
  clear hW hm hyes
  by_cases hk1 : k < 0
  · have hkd : decide (k < 0) = true := by simpa using hk1
    clear hk
    go_wp2_with fail
    refine (HA.out _).mono ?_
    rintro x w3 ⟨rfl, hb3⟩
    go_wp2
    go_ret
    exact ⟨rfl, by rw [hk0]; exact HB.trans (hb3.mono (by have := HB.size; omega))⟩
  obtain ⟨j, rfl⟩ := Int.eq_ofNat_of_zero_le (show 0 ≤ k by omega)
  have hkd : decide ((j : Int) < 0) = false := by simp
  by_cases hk2 : L ≤ j
  · have hkd2 : decide ((L : Int) ≤ (j : Int)) = true := by simpa using hk2
    clear hk hk1
    go_wp2_with fail
    refine (HA.out _).mono ?_
    rintro x w3 ⟨rfl, hb3⟩
    go_wp2
    go_ret
    exact ⟨rfl, by rw [hk0]; exact HB.trans (hb3.mono (by have := HB.size; omega))⟩
  have hkd2 : decide ((L : Int) ≤ (j : Int)) = false := by simp; omega
  have hjL : j < L := by omega
  have hlen : (Z.take j).length = j := by simp; omega
  have HGT := hid (get10 (some ⟨g, 0, none⟩) j cv (Z.take j) w2 hlen (hby.take j) (HBT.out.take j) (fun h => by cases h) (by omega))
  have HE := hid (H2.out j hjL)
  have hjc : j ≤ cv := by omega
  clear hk hk1 hk2 hlen hL
  go_wp2_with fail
  refine HGT.out.mono ?_
  rintro x w3 ⟨nd, e, he, p', rfl, ho, _, hb3⟩
  have he2 := HE.out
  rw [he.out] at he2
  obtain rfl : e = 2 := he2
  replace HB := HB.trans (hb3.mono (by have := HB.size; omega))
  clear he ho hb3 HE HGT
  have HB2 := HB.alloc (by have := HB.size; omega) (.cells #[.bool nd.leaf, .slice p'.a1 nd.ps.length p'.c1, .slice p'.a2 nd.pv.length p'.c2, .slice p'.a3 nd.ks.length p'.c3, .slice p'.a4 nd.bf.length p'.c4] 27)
  go_wp2_with fail
  refine (HA.out _).mono ?_
  rintro x w4 ⟨rfl, hb4⟩
  go_wp2
  go_ret
  exact ⟨rfl, by rw [hk0]; exact HB2.trans (hb4.mono (by have := HB2.size; omega))⟩
end Go.Proofs.Ytjegpcmejlffhaa.Cod
