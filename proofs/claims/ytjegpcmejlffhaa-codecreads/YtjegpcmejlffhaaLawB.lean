/-
  The call of the statement CodecReads.
-/
import Derived.Test.YtjegpcmejlffhaaRefG
import Derived.Test.YtjegpcmejlffhaaLawA
import Derived.Test.YtjegpcmejlffhaaSameRef
namespace Go.Proofs.Ytjegpcmejlffhaa.Cod
set_option linter.unusedSimpArgs false
set_option linter.unusedVariables false
open Go.RowKit
open Pack (be txt Own Bytes)
open Key (M E Pr Nd Pl nv Lies mayI ev mv)

set_option maxRecDepth 100000 in
set_option maxHeartbeats 2000000 in
theorem reads4 (a : Option Addr) (n c : Nat) (zs : List Int) (w : World) (hl : zs.length = n) (hb : Bytes w a zs) (hz : Pack.Byt zs) (hnil : a = none → n = 0 ∧ c = 0) (hnc : n ≤ c) (hc : c ≤ maxLen) :
    Calls Try.prog 4 #[.slice a n c] w fun x w' => x = .returned (.bool true) ∧ Below w.heap.size w w' := by
  unfold maxLen at hc
  by_cases hn : 3000 < n
  · have hd : decide ((3000 : Int) < (n : Int)) = true := by simp; omega
    have HA := hid awake7
    clear hb hz hl hnil
    go_enter Try.func4, Try.ntmps4
    go_wp2_with fail
    refine (HA.out _).mono ?_
    rintro x w1 ⟨rfl, hb1⟩
    go_wp2
    go_ret
    exact ⟨rfl, hb1⟩
  have hd : decide ((3000 : Int) < (n : Int)) = false := by simp; omega
  have HG := hid (get10 a n c zs w hl hb hz hnil (by omega))
  have HD : Hid (Doc w a n c zs) := ⟨hb, hl, by omega, hnc, by omega, hz⟩
  have HCV := hid (fun u (hu : Below w.heap.size w u) => Pack.conv_str (hb.later hu) n c hl hnil)
  have HS := hid (fun h0 => getN_sound hz h0)
  have HKD := hid (kinds_get (f := rM) hz (fun s => ok_M hz s))
  have HNL := hid hl
  clear hb hz hl hnil hc hnc
  go_enter Try.func4, Try.ntmps4
  go_wp2_with fail
  refine HG.out.mono ?_
  rintro x w1 ⟨nd, e, h1, p, rfl, ho, hls, hb1⟩
  rw [h1.out] at HS HKD
  clear HG
  have HF := hid hls.few
  have HO := ho.later (one_box w1 (.cells #[.bool nd.leaf, .slice p.a1 nd.ps.length p.c1, .slice p.a2 nd.pv.length p.c2, .slice p.a3 nd.ks.length p.c3, .slice p.a4 nd.bf.length p.c4] 27))
  have R1 := Row.new w1 #[.bool nd.leaf, .slice p.a1 nd.ps.length p.c1, .slice p.a2 nd.pv.length p.c2, .slice p.a3 nd.ks.length p.c3, .slice p.a4 nd.bf.length p.c4] 27
  have HB := hb1.alloc hb1.size (.cells #[.bool nd.leaf, .slice p.a1 nd.ps.length p.c1, .slice p.a2 nd.pv.length p.c2, .slice p.a3 nd.ks.length p.c3, .slice p.a4 nd.bf.length p.c4] 27)
  clear hb1 ho hls
  go_upto_region 4 with fail
  generalize hW : w1.alloc (.cells #[.bool nd.leaf, .slice p.a1 nd.ps.length p.c1, .slice p.a2 nd.pv.length p.c2, .slice p.a3 nd.ks.length p.c3, .slice p.a4 nd.bf.length p.c4] 27) = W1 at *
  clear hW
  generalize hk1 : w1.heap.size = k1 at *
  have HR := hid (rget12 W1 (HD.out.later HB))
  go_wp2_with fail
  refine HR.out.mono ?_
  rintro x w2 ⟨nd', e', h2, p', rfl, ho', hls', hb2⟩
  obtain ⟨rfl, rfl⟩ : nd = nd' ∧ e = e' := by
    have hh := h2.out
    rw [h1.out] at hh
    exact ⟨congrArg Prod.fst hh, congrArg Prod.snd hh⟩
  clear HR h2 hls'
  replace HO := (HO.later hb2).later (one_box w2 (.cells #[.bool nd.leaf, .slice p'.a1 nd.ps.length p'.c1, .slice p'.a2 nd.pv.length p'.c2, .slice p'.a3 nd.ks.length p'.c3, .slice p'.a4 nd.bf.length p'.c4] 27))
  have HO' := ho'.later (one_box w2 (.cells #[.bool nd.leaf, .slice p'.a1 nd.ps.length p'.c1, .slice p'.a2 nd.pv.length p'.c2, .slice p'.a3 nd.ks.length p'.c3, .slice p'.a4 nd.bf.length p'.c4] 27))
  replace R1 := (R1.later hb2).alloc (.cells #[.bool nd.leaf, .slice p'.a1 nd.ps.length p'.c1, .slice p'.a2 nd.pv.length p'.c2, .slice p'.a3 nd.ks.length p'.c3, .slice p'.a4 nd.bf.length p'.c4] 27)
  have R2 := Row.new w2 #[.bool nd.leaf, .slice p'.a1 nd.ps.length p'.c1, .slice p'.a2 nd.pv.length p'.c2, .slice p'.a3 nd.ks.length p'.c3, .slice p'.a4 nd.bf.length p'.c4] 27
  have hw1 := HB.size
  replace HB := (HB.trans (hb2.mono hw1)).alloc (by have := hb2.size; omega) (.cells #[.bool nd.leaf, .slice p'.a1 nd.ps.length p'.c1, .slice p'.a2 nd.pv.length p'.c2, .slice p'.a3 nd.ks.length p'.c3, .slice p'.a4 nd.bf.length p'.c4] 27)
  clear hb2 ho' hw1
  go_upto_region 5 with fail
  generalize hW : w2.alloc (.cells #[.bool nd.leaf, .slice p'.a1 nd.ps.length p'.c1, .slice p'.a2 nd.pv.length p'.c2, .slice p'.a3 nd.ks.length p'.c3, .slice p'.a4 nd.bf.length p'.c4] 27) = W2 at *
  clear hW
  generalize hk2 : w2.heap.size = k2 at *
  have HM := hid (Key.same10 nd nd p p' W2 HF.out HF.out HO.lies HO'.lies)
  have b0 : W2.cell? ⟨k2, 0, none⟩ = some (.bool nd.leaf) := R2.cell 0
  have b1 : W2.cell? ⟨k2, 1, none⟩ = some (.slice p'.a1 nd.ps.length p'.c1) := R2.cell 1
  have b2 : W2.cell? ⟨k2, 2, none⟩ = some (.slice p'.a2 nd.pv.length p'.c2) := R2.cell 2
  have b3 : W2.cell? ⟨k2, 3, none⟩ = some (.slice p'.a3 nd.ks.length p'.c3) := R2.cell 3
  have b4 : W2.cell? ⟨k2, 4, none⟩ = some (.slice p'.a4 nd.bf.length p'.c4) := R2.cell 4
  have d0 : W2.cell? ⟨k1, 0, none⟩ = some (.bool nd.leaf) := R1.cell 0
  have d1 : W2.cell? ⟨k1, 1, none⟩ = some (.slice p.a1 nd.ps.length p.c1) := R1.cell 1
  have d2 : W2.cell? ⟨k1, 2, none⟩ = some (.slice p.a2 nd.pv.length p.c2) := R1.cell 2
  have d3 : W2.cell? ⟨k1, 3, none⟩ = some (.slice p.a3 nd.ks.length p.c3) := R1.cell 3
  have d4 : W2.cell? ⟨k1, 4, none⟩ = some (.slice p.a4 nd.bf.length p.c4) := R1.cell 4
  go_wp2_with fail
  refine HM.out.mono ?_
  rintro x w3 ⟨ht, hb3⟩
  obtain ⟨b, rfl, hiff⟩ := ht
  obtain rfl : b = true := hiff.2 (by trivial)
  replace R1 := R1.later hb3
  replace HO := HO.later hb3
  have hw2 := HB.size
  replace HB := HB.trans (hb3.mono hw2)
  clear HM hiff b0 b1 b2 b3 b4 d0 d1 d2 d3 d4 R2 HO' hb3 hw2
  by_cases he : e = 0
  case neg =>
    have hed : (e == 0) = false := by simpa using he
    have hed' : (e != 0) = true := by simpa using he
    have hee : (e == e) = true := by simp
    have hee' : (e != e) = false := by simp
    have HA := hid awake7
    clear he
    go_wp2_with fail
    refine (HA.out _).mono ?_
    rintro x w4 ⟨rfl, hb4⟩
    go_wp2
    go_ret
    exact ⟨rfl, HB.trans (hb4.mono HB.size)⟩
  subst he
  obtain ⟨hm, hwn⟩ := HS.out rfl
  have HP := hid (put8 nd p w3 HO.lies HF.out HKD.out)
  rw [hm] at HP
  have d0 : w3.cell? ⟨k1, 0, none⟩ = some (.bool nd.leaf) := R1.cell 0
  have d1 : w3.cell? ⟨k1, 1, none⟩ = some (.slice p.a1 nd.ps.length p.c1) := R1.cell 1
  have d2 : w3.cell? ⟨k1, 2, none⟩ = some (.slice p.a2 nd.pv.length p.c2) := R1.cell 2
  have d3 : w3.cell? ⟨k1, 3, none⟩ = some (.slice p.a3 nd.ks.length p.c3) := R1.cell 3
  have d4 : w3.cell? ⟨k1, 4, none⟩ = some (.slice p.a4 nd.bf.length p.c4) := R1.cell 4
  have HMAY := hid hm
  have HWN := hid hwn
  clear hm hwn
  go_wp2_with fail
  refine HP.out.mono ?_
  rintro x w4 ⟨v, rfl, hW, hb4⟩
  have hov := hW.yes HMAY.out
  rw [HWN.out] at hov
  obtain ⟨av, cv, rfl, hbv, hnv⟩ := own_form hov HNL.out
  have hc1 := Pack.conv_str hbv n cv HNL.out hnv
  replace R1 := R1.later hb4
  replace HO := HO.later hb4
  have hw3 := HB.size
  replace HB := HB.trans (hb4.mono hw3)
  have hc2 := HCV.out w4 HB
  generalize strOfNums zs = S at *
  clear d0 d1 d2 d3 d4 hW hov hbv hnv hb4 HP
  have d0 : w4.cell? ⟨k1, 0, none⟩ = some (.bool nd.leaf) := R1.cell 0
  have d1 : w4.cell? ⟨k1, 1, none⟩ = some (.slice p.a1 nd.ps.length p.c1) := R1.cell 1
  have d2 : w4.cell? ⟨k1, 2, none⟩ = some (.slice p.a2 nd.pv.length p.c2) := R1.cell 2
  have d3 : w4.cell? ⟨k1, 3, none⟩ = some (.slice p.a3 nd.ks.length p.c3) := R1.cell 3
  have d4 : w4.cell? ⟨k1, 4, none⟩ = some (.slice p.a4 nd.bf.length p.c4) := R1.cell 4
  have HM := hid (Key.may13 nd p w4 HF.out HO.lies (fun m hm => (HKD.out.md m hm).1))
  rw [HMAY.out] at HM
  go_wp2_with fail
  refine HM.out.mono ?_
  rintro x w5 ⟨rfl, hb5⟩
  have hw4 := HB.size
  replace HB := HB.trans (hb5.mono hw4)
  have HA := hid awake7
  go_wp2_with fail
  refine (HA.out _).mono ?_
  rintro x w6 ⟨rfl, hb6⟩
  have hw5 := HB.size
  replace HB := HB.trans (hb6.mono hw5)
  go_wp2
  go_ret
  exact ⟨rfl, HB⟩
end Go.Proofs.Ytjegpcmejlffhaa.Cod
