/-
  Contract of the document's Put; the call of the statement CodecWrites.
-/
import Derived.Test.YtjegpcmejlffhaaPutT
import Derived.Test.YtjegpcmejlffhaaLawC
import Derived.Test.YtjegpcmejlffhaaSameRef
namespace Go.Proofs.Ytjegpcmejlffhaa.Cod
set_option linter.unusedSimpArgs false
set_option linter.unusedVariables false
open Go.RowKit
open Pack (be txt Own Bytes)
open Key (M E Pr Nd Pl nv Lies mayI ev mv)

theorem rput9 (n : Nd) (p : Pl) (w : World) (h : Lies w n p) (hf : Key.Few n) (hk : Kinds n) :
    Calls Try.prog 9 #[nv n p] w fun x w' => ∃ v, x = .returned (.tuple #[v, .int .i64 (mayI n)]) ∧ Written w' w.heap.size v n ∧ Below w.heap.size w w' := by
  by_cases hm : mayI n = 0
  · cases hl : n.leaf
    · exact rput9_fork n p w h hf hk hm hl
    · exact rput9_leaf n p w h hf hk hm hl
  · exact rput9_no n p w h hf hk hm
theorem Written.later {w w' : World} {base : Nat} {v : Value} {n : Nd} (h : Written w base v n) (hb : Below w.heap.size w w') : Written w' base v n :=
  ⟨fun h1 => World.ownsRow.kept (row := none) (h.no h1) ⟨hb.os, hb.tape, hb.output, hb.size, fun k hk _ => hb.block k hk⟩ (by cases hv : v.ownBlock <;> simp),
   fun h1 => World.ownsRow.kept (row := none) (h.yes h1) ⟨hb.os, hb.tape, hb.output, hb.size, fun k hk _ => hb.block k hk⟩ (by cases hv : v.ownBlock <;> simp)⟩

set_option maxRecDepth 100000 in
set_option maxHeartbeats 2000000 in
theorem writes3 (n : Nd) (p : Pl) (w : World) (h : Lies w n p) (hi : n.In) (_ho : p.Ok) :
    Calls Try.prog 3 #[nv n p] w fun x w' => x = .returned (.bool true) ∧ Below w.heap.size w w' := by
  have R0 := Row.new w #[.bool n.leaf, .slice p.a1 n.ps.length p.c1, .slice p.a2 n.pv.length p.c2, .slice p.a3 n.ks.length p.c3, .slice p.a4 n.bf.length p.c4] 27
  have HB := one_box w (.cells #[.bool n.leaf, .slice p.a1 n.ps.length p.c1, .slice p.a2 n.pv.length p.c2, .slice p.a3 n.ks.length p.c3, .slice p.a4 n.bf.length p.c4] 27)
  replace h := h.later HB
  have HG := hid (Key.great7 n p _ (long_in hi) h)
  have HF := hid (@few_of n)
  have HK := hid (kinds_in hi)
  have HA := hid awake7
  clear hi
  generalize hgr : Key.greatN n = gr at *
  replace hgr := hid hgr
  go_enter Try.func3, Try.ntmps3
  go_upto_region 1 with fail
  generalize hW : w.alloc (.cells #[.bool n.leaf, .slice p.a1 n.ps.length p.c1, .slice p.a2 n.pv.length p.c2, .slice p.a3 n.ks.length p.c3, .slice p.a4 n.bf.length p.c4] 27) = w0 at *
  clear hW
  generalize hk0 : w.heap.size = k0 at *
  have d0 : w0.cell? ⟨k0, 0, none⟩ = some (.bool n.leaf) := R0.cell 0
  have d1 : w0.cell? ⟨k0, 1, none⟩ = some (.slice p.a1 n.ps.length p.c1) := R0.cell 1
  have d2 : w0.cell? ⟨k0, 2, none⟩ = some (.slice p.a2 n.pv.length p.c2) := R0.cell 2
  have d3 : w0.cell? ⟨k0, 3, none⟩ = some (.slice p.a3 n.ks.length p.c3) := R0.cell 3
  have d4 : w0.cell? ⟨k0, 4, none⟩ = some (.slice p.a4 n.bf.length p.c4) := R0.cell 4
  go_wp2_with fail
  refine HG.out.mono ?_
  rintro x w1 ⟨rfl, hb1⟩
  replace R0 := R0.later hb1
  replace h := h.later hb1
  replace HB := HB.trans (hb1.mono (by have := HB.size; omega))
  clear d0 d1 d2 d3 d4 hb1 HG
  cases gr
  case true =>
    go_wp2_with fail
    refine (HA.out _).mono ?_
    rintro x w2 ⟨rfl, hb2⟩
    go_wp2
    go_ret
    exact ⟨rfl, by rw [hk0]; exact HB.trans (hb2.mono (by have := HB.size; omega))⟩
  case false =>
  have HFW := hid (HF.out rfl)
  have HP := hid (put8 n p w1 h HFW.out HK.out)
  have d0 : w1.cell? ⟨k0, 0, none⟩ = some (.bool n.leaf) := R0.cell 0
  have d1 : w1.cell? ⟨k0, 1, none⟩ = some (.slice p.a1 n.ps.length p.c1) := R0.cell 1
  have d2 : w1.cell? ⟨k0, 2, none⟩ = some (.slice p.a2 n.pv.length p.c2) := R0.cell 2
  have d3 : w1.cell? ⟨k0, 3, none⟩ = some (.slice p.a3 n.ks.length p.c3) := R0.cell 3
  have d4 : w1.cell? ⟨k0, 4, none⟩ = some (.slice p.a4 n.bf.length p.c4) := R0.cell 4
  go_wp2_with fail
  refine HP.out.mono ?_
  rintro x w2 ⟨v, rfl, hW, hb2⟩
  replace R0 := R0.later hb2
  replace h := h.later hb2
  replace HB := HB.trans (hb2.mono (by have := HB.size; omega))
  clear d0 d1 d2 d3 d4 hb2 HP
  obtain ⟨av, lv, cv, rfl⟩ : ∃ av lv cv, v = .slice av lv cv := by
    by_cases hm : mayI n = 0
    · obtain ⟨av, cv, rfl, _⟩ := own_form (hW.yes hm) rfl
      exact ⟨_, _, _, rfl⟩
    · obtain ⟨av, cv, rfl, _⟩ := own_form (hW.no hm) rfl
      exact ⟨_, _, _, rfl⟩
  have HQ := hid (rput9 n p w2 h HFW.out HK.out)
  have d0 : w2.cell? ⟨k0, 0, none⟩ = some (.bool n.leaf) := R0.cell 0
  have d1 : w2.cell? ⟨k0, 1, none⟩ = some (.slice p.a1 n.ps.length p.c1) := R0.cell 1
  have d2 : w2.cell? ⟨k0, 2, none⟩ = some (.slice p.a2 n.pv.length p.c2) := R0.cell 2
  have d3 : w2.cell? ⟨k0, 3, none⟩ = some (.slice p.a3 n.ks.length p.c3) := R0.cell 3
  have d4 : w2.cell? ⟨k0, 4, none⟩ = some (.slice p.a4 n.bf.length p.c4) := R0.cell 4
  go_wp2_with fail
  refine HQ.out.mono ?_
  rintro x w3 ⟨v, rfl, hW', hb3⟩
  replace R0 := R0.later hb3
  replace h := h.later hb3
  replace hW := hW.later hb3
  replace HB := HB.trans (hb3.mono (by have := HB.size; omega))
  clear d0 d1 d2 d3 d4 hb3 HQ
  by_cases hm : mayI n = 0
  case neg =>
    obtain ⟨a1, c1, e1, hby1, hnil1⟩ := own_form (hW.no hm) rfl
    obtain ⟨a2, c2, rfl, hby2, hnil2⟩ := own_form (hW'.no hm) rfl
    obtain ⟨rfl, rfl, rfl⟩ : av = a1 ∧ lv = 0 ∧ cv = c1 := by simpa using e1
    have s1 := Pack.conv_str hby1 0 cv rfl hnil1
    have s2 := Pack.conv_str hby2 0 c2 rfl hnil2
    generalize strOfNums [] = S at *
    generalize mayI n = m at *
    have hmd : (m == 0) = false := by simpa using hm
    have hmd' : (m != 0) = true := by simpa using hm
    have hmm : (m == m) = true := by simp
    have hmm' : (m != m) = false := by simp
    clear hm hW hW' hby1 hby2 hnil1 hnil2 e1
    go_wp2_with fail
    refine (HA.out _).mono ?_
    rintro x w4 ⟨rfl, hb4⟩
    go_wp2
    go_ret
    exact ⟨rfl, by rw [hk0]; exact HB.trans (hb4.mono (by have := HB.size; omega))⟩
  have hle := wN_len hm
  obtain ⟨L, hL⟩ : ∃ L, (wN n).length = L := ⟨_, rfl⟩
  rw [hL] at hle
  obtain ⟨a1, c1, e1, hby1, hnil1⟩ := own_form (hW.yes hm) hL
  obtain ⟨a2, c2, rfl, hby2, hnil2⟩ := own_form (hW'.yes hm) hL
  obtain ⟨rfl, rfl, rfl⟩ : av = a1 ∧ lv = L ∧ cv = c1 := by simpa using e1
  have s1 := Pack.conv_str hby1 lv cv hL hnil1
  have s2 := Pack.conv_str hby2 lv c2 hL hnil2
  have HGT := hid (get10 av lv cv (wN n) w3 hL hby1 (byt_wN n) hnil1 (by omega))
  have HC := hid (getN_comp HK.out hm)
  rw [hm]
  generalize strOfNums (wN n) = S at *
  clear hm hW hW' hby1 hby2 hnil1 hnil2 e1 hL
  go_wp2_with fail
  refine HGT.out.mono ?_
  rintro x w4 ⟨nd, e, he, p', rfl, ho, _, hb4⟩
  obtain ⟨rfl, rfl⟩ : n = nd ∧ 0 = e := by
    have hh := he.out
    rw [HC.out] at hh
    exact ⟨congrArg Prod.fst hh, congrArg Prod.snd hh⟩
  replace R0 := (R0.later hb4).alloc (.cells #[.bool n.leaf, .slice p'.a1 n.ps.length p'.c1, .slice p'.a2 n.pv.length p'.c2, .slice p'.a3 n.ks.length p'.c3, .slice p'.a4 n.bf.length p'.c4] 27)
  have R1 := Row.new w4 #[.bool n.leaf, .slice p'.a1 n.ps.length p'.c1, .slice p'.a2 n.pv.length p'.c2, .slice p'.a3 n.ks.length p'.c3, .slice p'.a4 n.bf.length p'.c4] 27
  replace h := (h.later hb4).alloc (.cells #[.bool n.leaf, .slice p'.a1 n.ps.length p'.c1, .slice p'.a2 n.pv.length p'.c2, .slice p'.a3 n.ks.length p'.c3, .slice p'.a4 n.bf.length p'.c4] 27)
  have ho' := ho.later (one_box w4 (.cells #[.bool n.leaf, .slice p'.a1 n.ps.length p'.c1, .slice p'.a2 n.pv.length p'.c2, .slice p'.a3 n.ks.length p'.c3, .slice p'.a4 n.bf.length p'.c4] 27))
  replace HB := (HB.trans (hb4.mono (by have := HB.size; omega))).alloc (by have := HB.size; have := hb4.size; omega) (.cells #[.bool n.leaf, .slice p'.a1 n.ps.length p'.c1, .slice p'.a2 n.pv.length p'.c2, .slice p'.a3 n.ks.length p'.c3, .slice p'.a4 n.bf.length p'.c4] 27)
  clear hb4 ho he HGT
  go_upto_region 10 with fail
  generalize hWW : w4.alloc (.cells #[.bool n.leaf, .slice p'.a1 n.ps.length p'.c1, .slice p'.a2 n.pv.length p'.c2, .slice p'.a3 n.ks.length p'.c3, .slice p'.a4 n.bf.length p'.c4] 27) = W4 at *
  clear hWW s1 s2
  generalize hk1 : w4.heap.size = k1 at *
  have HM := hid (Key.same10 n n p' p W4 HFW.out HFW.out ho'.lies h)
  have b0 : W4.cell? ⟨k0, 0, none⟩ = some (.bool n.leaf) := R0.cell 0
  have b1 : W4.cell? ⟨k0, 1, none⟩ = some (.slice p.a1 n.ps.length p.c1) := R0.cell 1
  have b2 : W4.cell? ⟨k0, 2, none⟩ = some (.slice p.a2 n.pv.length p.c2) := R0.cell 2
  have b3 : W4.cell? ⟨k0, 3, none⟩ = some (.slice p.a3 n.ks.length p.c3) := R0.cell 3
  have b4 : W4.cell? ⟨k0, 4, none⟩ = some (.slice p.a4 n.bf.length p.c4) := R0.cell 4
  have d0 : W4.cell? ⟨k1, 0, none⟩ = some (.bool n.leaf) := R1.cell 0
  have d1 : W4.cell? ⟨k1, 1, none⟩ = some (.slice p'.a1 n.ps.length p'.c1) := R1.cell 1
  have d2 : W4.cell? ⟨k1, 2, none⟩ = some (.slice p'.a2 n.pv.length p'.c2) := R1.cell 2
  have d3 : W4.cell? ⟨k1, 3, none⟩ = some (.slice p'.a3 n.ks.length p'.c3) := R1.cell 3
  have d4 : W4.cell? ⟨k1, 4, none⟩ = some (.slice p'.a4 n.bf.length p'.c4) := R1.cell 4
  have hld : decide ((lv : Int) ≤ 2024) = true := by simp; omega
  go_wp2_with fail
  refine HM.out.mono ?_
  rintro x w5 ⟨ht, hb5⟩
  obtain ⟨b, rfl, hiff⟩ := ht
  obtain rfl : b = true := hiff.2 (by trivial)
  replace HB := HB.trans (hb5.mono (by have := HB.size; omega))
  clear HM hiff b0 b1 b2 b3 b4 d0 d1 d2 d3 d4 hb5
  go_wp2_with fail
  refine (HA.out _).mono ?_
  rintro x w6 ⟨rfl, hb6⟩
  go_wp2
  go_ret
  exact ⟨rfl, by rw [hk0]; exact HB.trans (hb6.mono (by have := HB.size; omega))⟩
end Go.Proofs.Ytjegpcmejlffhaa.Cod
