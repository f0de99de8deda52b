/-
  The walk of the statement GraphRight.
-/
import Derived.Test.YtfladpnphkoeiaaRightRef
import Derived.Test.YtfladpnphkoeiaaSameRef
import Derived.Test.YtfladpnphkoeiaaDeepWalk
namespace Go.Proofs.Ytfladpnphkoeiaa.Key
open Go.RowKit
set_option linter.unusedVariables false
set_option linter.unusedSimpArgs false

set_option maxRecDepth 100000 in
set_option maxHeartbeats 800000 in
theorem graphRight3 (a : Option Addr) (c : Nat) (l : List It) (b : Int) (w : World) (wl : Items w a l) (wn : l.length ≤ c) (wc : c ≤ maxLen) (wm : ∀ m ∈ l, m.In) :
    Calls Try.prog 3 #[.slice a l.length c, .int .u32 b] w fun x w' => x = .returned (.bool true) ∧ Below w.heap.size w w' := by
  have HG := great9 a c l w (by omega) wl wm
  cases hg : greatI l
  case true =>
    rw [hg] at HG
    generalize l.length = n at *
    go_enter Try.func3, Try.ntmps3
    go_wp2_with fail
    refine HG.mono ?_
    rintro e w1 ⟨rfl, hb1⟩
    go_wp2_with fail
    refine (awake8 w1).mono ?_
    rintro e w2 ⟨rfl, hb2⟩
    go_wp2_with fail
    go_ret
    exact ⟨rfl, hb1.trans (hb2.mono hb1.size)⟩
  case false =>
  rw [hg] at HG
  obtain ⟨hfine, h30⟩ := fine_of hg wm
  have HR1 := hid (fun w1 (hb1 : Below w.heap.size w w1) => right11 a c l w1 hfine (wl.later hb1))
  have HR2 := hid (fun w1 (hb1 : Below w.heap.size w w1) => right12 a c l w1 hfine (wl.later hb1))
  have HF1 := hid (fun w1 (hb1 : Below w.heap.size w w1) => find9 a c l b w1 hfine (wl.later hb1))
  have HF2 := hid (fun w1 (hb1 : Below w.heap.size w w1) => find10 a c l b w1 hfine.len (wl.later hb1))
  have hfs := found_small hfine.sml b
  generalize rightB l = R at *
  generalize (findI l b).isSome = S at *
  generalize foundN l b = FN at *
  clear hg wl hfine h30
  generalize l.length = n at *
  go_enter Try.func3, Try.ntmps3
  go_wp2_with fail
  refine HG.mono ?_
  rintro e w1 ⟨rfl, hb1⟩
  go_wp2_with fail
  refine (HF1.out w1 hb1).mono ?_
  rintro e w2 ⟨⟨N, P, rfl, rfl, hL⟩, hb2⟩
  have hb12 := hb1.trans (hb2.mono hb1.size)
  have hbx := below_box w2 (.cells #[.bool N.leaf, .slice P.a1 N.ps.length P.c1, .slice P.a2 N.pv.length P.c2, .slice P.a3 N.ks.length P.c3, .slice P.a4 N.bf.length P.c4] 31)
  have hb13 := hb12.trans (hbx.mono hb12.size)
  have N3 := NBox.new w2 (.bool N.leaf) (.slice P.a1 N.ps.length P.c1) (.slice P.a2 N.pv.length P.c2) (.slice P.a3 N.ks.length P.c3) (.slice P.a4 N.bf.length P.c4)
  have hL3 := hL.later hbx
  have HF3 := hid (HF2.out _ hb13)
  clear HG HF1 HF2 hb1 hb2 hbx hL hb12
  go_wp2_with fail
  refine HF3.out.mono ?_
  rintro e w4 ⟨⟨N', P', rfl, rfl, hL'⟩, hb4⟩
  have hb14 := hb13.trans (hb4.mono hb13.size)
  have N4 := N3.later hb4
  have hL4 := hL3.later hb4
  have hbx := below_box w4 (.cells #[.bool N'.leaf, .slice P'.a1 N'.ps.length P'.c1, .slice P'.a2 N'.pv.length P'.c2, .slice P'.a3 N'.ks.length P'.c3, .slice P'.a4 N'.bf.length P'.c4] 31)
  have hb15 := hb14.trans (hbx.mono hb14.size)
  have N5 := N4.later hbx
  have M5 := NBox.new w4 (.bool N'.leaf) (.slice P'.a1 N'.ps.length P'.c1) (.slice P'.a2 N'.pv.length P'.c2) (.slice P'.a3 N'.ks.length P'.c3) (.slice P'.a4 N'.bf.length P'.c4)
  have hL5 := hL4.later hbx
  have hM5 := hL'.later hbx
  clear HF3 N3 N4 hL3 hL4 hL' hbx hb4 hb13 hb14
  have HR3 := hid (HR1.out _ hb15)
  go_wp2_with fail
  refine HR3.out.mono ?_
  rintro e w6 ⟨rfl, hb6⟩
  have hb16 := hb15.trans (hb6.mono hb15.size)
  have HR4 := hid (HR2.out _ hb16)
  have N6 := N5.later hb6
  have M6 := M5.later hb6
  have hL6 := hL5.later hb6
  have hM6 := hM5.later hb6
  clear HR1 HR2 HR3 N5 M5 hL5 hM5 hb15 hb6
  go_wp2_with fail
  refine HR4.out.mono ?_
  rintro e w7 ⟨rfl, hb7⟩
  have hb17 := hb16.trans (hb7.mono hb16.size)
  have hL7 := hL6.later hb7
  have hM7 := hM6.later hb7
  obtain ⟨m0, m1, m2, m3, m4⟩ := (N6.later hb7).cells
  obtain ⟨q0, q1, q2, q3, q4⟩ := (M6.later hb7).cells
  have HS := hid (same10 N' N' P P' w7 hfs.few hfs.few hL7 hM7)
  have hRR : (R == R) = true := by simp
  have hSS : (S == S) = true := by simp
  clear HR4 N6 M6 hL6 hM6 hL7 hM7 hb16 hb7
  go_wp2_with fail
  refine HS.out.mono ?_
  rintro e w8 ⟨⟨t, rfl, htt⟩, hb8⟩
  obtain rfl : t = true := htt.2 (by first | rfl | trivial)
  have hb18 := hb17.trans (hb8.mono hb17.size)
  go_wp2_with fail
  refine (awake8 w8).mono ?_
  rintro e w9 ⟨rfl, hb9⟩
  have hb19 := hb18.trans (hb9.mono hb18.size)
  go_wp2_with fail
  go_ret
  exact ⟨rfl, hb19⟩
end Go.Proofs.Ytfladpnphkoeiaa.Key
