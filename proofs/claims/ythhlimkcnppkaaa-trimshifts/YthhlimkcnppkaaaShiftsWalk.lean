/-
  The walk of the statement TrimShifts.
-/
import Derived.Test.YthhlimkcnppkaaaTAwake
namespace Go.Proofs.Ythhlimkcnppkaaa.Key
open Go.RowKit Draw
open Go.Op (bytesLess)
set_option linter.unusedVariables false
set_option linter.unusedSimpArgs false

set_option maxRecDepth 100000 in
set_option maxHeartbeats 4000000 in
theorem trimShifts6 (s0 d0 a k : ByteArray) (w : World) (ha : a.size ≤ maxLen) (hk : k.size ≤ maxLen) :
    Calls Try.prog 6 #[lv s0 d0, .string a, .string k] w fun e w' => e = .returned (.bool true) ∧ Below w.heap.size w w' := by
  have A0 := Pair.new w (.string s0) (.string d0)
  have hb0 : Below w.heap.size w (w.alloc (.cells #[.string s0, .string d0] 50)) := below_one w _
  have G := great8 s0 d0
  cases hg : (decide (300 < s0.size) || decide (300 < d0.size))
  case true =>
    rw [hg] at G
    go_enter Try.func6, Try.ntmps6
    obtain ⟨cA0, cA1⟩ := A0.cells
    have cAl := A0.lt
    go_wp2_with fail
    refine (G _).mono ?_
    rintro x w1 ⟨rfl, hb1⟩
    clear cA0 cA1 cAl
    have Ah1 := A0.later hb1
    replace hb1 := hb0.trans (hb1.mono hb0.size)
    obtain ⟨cA0, cA1⟩ := Ah1.cells
    have cAl := Ah1.lt
    go_wp2_with fail
    refine (awake9 _).mono ?_
    rintro x w2 ⟨rfl, hb2⟩
    clear cA0 cA1 cAl
    have Ah2 := Ah1.later hb2
    replace hb2 := hb1.trans (hb2.mono hb1.size)
    go_wp2_with fail
    go_ret
    exact ⟨rfl, hb2⟩
  case false =>
  rw [hg] at G
  have hl : s0.size ≤ 300 ∧ d0.size ≤ 300 := by simp at hg; omega
  clear hg
  cases h1 : decide ((100 : Int) < (a.size : Int))
  case true =>
    go_enter Try.func6, Try.ntmps6
    obtain ⟨cA0, cA1⟩ := A0.cells
    have cAl := A0.lt
    go_wp2_with fail
    refine (G _).mono ?_
    rintro x w1 ⟨rfl, hb1⟩
    clear cA0 cA1 cAl
    have Ah1 := A0.later hb1
    replace hb1 := hb0.trans (hb1.mono hb0.size)
    obtain ⟨cA0, cA1⟩ := Ah1.cells
    have cAl := Ah1.lt
    go_wp2_with fail
    refine (awake9 _).mono ?_
    rintro x w2 ⟨rfl, hb2⟩
    clear cA0 cA1 cAl
    have Ah2 := Ah1.later hb2
    replace hb2 := hb1.trans (hb2.mono hb1.size)
    go_wp2_with fail
    go_ret
    exact ⟨rfl, hb2⟩
  case false =>
  cases h2 : decide ((100 : Int) < (k.size : Int))
  case true =>
    go_enter Try.func6, Try.ntmps6
    obtain ⟨cA0, cA1⟩ := A0.cells
    have cAl := A0.lt
    go_wp2_with fail
    refine (G _).mono ?_
    rintro x w1 ⟨rfl, hb1⟩
    clear cA0 cA1 cAl
    have Ah1 := A0.later hb1
    replace hb1 := hb0.trans (hb1.mono hb0.size)
    obtain ⟨cA0, cA1⟩ := Ah1.cells
    have cAl := Ah1.lt
    go_wp2_with fail
    refine (awake9 _).mono ?_
    rintro x w2 ⟨rfl, hb2⟩
    clear cA0 cA1 cAl
    have Ah2 := Ah1.later hb2
    replace hb2 := hb1.trans (hb2.mono hb1.size)
    go_wp2_with fail
    go_ret
    exact ⟨rfl, hb2⟩
  case false =>
  have hla : a.size ≤ 100 := by simp at h1; omega
  have hlk : k.size ≤ 100 := by simp at h2; omega
  have J1 := hid (fun w => shift19 s0 d0 a w (by omega) (by omega) (by omega))
  have J2 := hid (fun w => join19 ⟨#[]⟩ a s0 d0 w (by decide) (by omega) (by omega) (by omega))
  have C2 := hid (fun w => up12 s0 d0 (a ++ k) w (by omega) (by rw [ByteArray.size_append]; omega))
  rw [app_data] at C2
  have hsum : ¬ 9223372036854775807 < a.size + k.size := by omega
  cases hj : joinO (lf ⟨#[]⟩ a) (lf s0 d0) with
  | none =>
    rw [hj, Option.isSome_none, joS_none, joA_none] at J1 J2
    have C1 := hid (fun w => up12 ⟨#[]⟩ ⟨#[]⟩ k w (by decide) (by omega))
    generalize upS (lf s0 d0) (a.data.toList ++ k.data.toList) = T2 at *
    generalize upB (lf s0 d0) (a.data.toList ++ k.data.toList) = B2 at *
    generalize upS (lf ⟨#[]⟩ ⟨#[]⟩) k.data.toList = T1 at *
    generalize upB (lf ⟨#[]⟩ ⟨#[]⟩) k.data.toList = B1 at *
    clear hj ha hk hl
    go_enter Try.func6, Try.ntmps6
    obtain ⟨cA0, cA1⟩ := A0.cells
    have cAl := A0.lt
    go_wp2_with fail
    refine (G _).mono ?_
    rintro x w1 ⟨rfl, hb1⟩
    clear cA0 cA1 cAl
    have Ah1 := A0.later hb1
    replace hb1 := hb0.trans (hb1.mono hb0.size)
    obtain ⟨cA0, cA1⟩ := Ah1.cells
    have cAl := Ah1.lt
    go_wp2_with fail
    refine (J1.out _).mono ?_
    rintro x w2 ⟨rfl, hb2⟩
    clear cA0 cA1 cAl
    have Ah2 := Ah1.later hb2
    replace hb2 := hb1.trans (hb2.mono hb1.size)
    have Xh := Pair.new w2 (.string ⟨#[]⟩) (.string ⟨#[]⟩)
    have Ah := Ah2.alloc (.cells #[.string ⟨#[]⟩, .string ⟨#[]⟩] 50)
    have hbx := hb2.alloc hb2.size (.cells #[.string ⟨#[]⟩, .string ⟨#[]⟩] 50)
    go_upto_region 4 with fail
    generalize hkx : w2.heap.size = kx at *
    clear hkx
    generalize w2.alloc (.cells #[.string ⟨#[]⟩, .string ⟨#[]⟩] 50) = w2' at *
    obtain ⟨cA0, cA1⟩ := Ah.cells
    have cAl := Ah.lt
    obtain ⟨cX0, cX1⟩ := Xh.cells
    have cXl := Xh.lt
    go_wp2_with fail
    refine (J2.out _).mono ?_
    rintro x w3 ⟨rfl, hb3⟩
    clear cA0 cA1 cAl cX0 cX1 cXl
    have Ah3 := Ah.later hb3
    have Xh3 := Xh.later hb3
    replace hb3 := hbx.trans (hb3.mono hbx.size)
    have Yh := Pair.new w3 (.string ⟨#[]⟩) (.string ⟨#[]⟩)
    have Ah' := Ah3.alloc (.cells #[.string ⟨#[]⟩, .string ⟨#[]⟩] 50)
    have Xh' := Xh3.alloc (.cells #[.string ⟨#[]⟩, .string ⟨#[]⟩] 50)
    have hby := hb3.alloc hb3.size (.cells #[.string ⟨#[]⟩, .string ⟨#[]⟩] 50)
    go_upto_region 5 with fail
    generalize hky : w3.heap.size = ky at *
    clear hky
    generalize w3.alloc (.cells #[.string ⟨#[]⟩, .string ⟨#[]⟩] 50) = w3' at *
    obtain ⟨cA0, cA1⟩ := Ah'.cells
    have cAl := Ah'.lt
    obtain ⟨cX0, cX1⟩ := Xh'.cells
    have cXl := Xh'.lt
    obtain ⟨cY0, cY1⟩ := Yh.cells
    have cYl := Yh.lt
    go_wp2_with fail
    refine (C1.out _).mono ?_
    rintro x w4 ⟨rfl, hb4⟩
    clear cA0 cA1 cAl cX0 cX1 cXl cY0 cY1 cYl
    have Ah4 := Ah'.later hb4
    have Xh4 := Xh'.later hb4
    have Yh4 := Yh.later hb4
    replace hb4 := hby.trans (hb4.mono hby.size)
    obtain ⟨cA0, cA1⟩ := Ah4.cells
    have cAl := Ah4.lt
    obtain ⟨cX0, cX1⟩ := Xh4.cells
    have cXl := Xh4.lt
    obtain ⟨cY0, cY1⟩ := Yh4.cells
    have cYl := Yh4.lt
    go_wp2_with fail
    refine (C2.out _).mono ?_
    rintro x w5 ⟨rfl, hb5⟩
    clear cA0 cA1 cAl cX0 cX1 cXl cY0 cY1 cYl
    have Ah5 := Ah4.later hb5
    have Xh5 := Xh4.later hb5
    have Yh5 := Yh4.later hb5
    replace hb5 := hb4.trans (hb5.mono hb4.size)
    obtain ⟨cA0, cA1⟩ := Ah5.cells
    have cAl := Ah5.lt
    obtain ⟨cX0, cX1⟩ := Xh5.cells
    have cXl := Xh5.lt
    obtain ⟨cY0, cY1⟩ := Yh5.cells
    have cYl := Yh5.lt
    go_wp2_with fail
    refine (awake9 _).mono ?_
    rintro x w6 ⟨rfl, hb6⟩
    clear cA0 cA1 cAl cX0 cX1 cXl cY0 cY1 cYl
    have Ah6 := Ah5.later hb6
    have Xh6 := Xh5.later hb6
    have Yh6 := Yh5.later hb6
    replace hb6 := hb5.trans (hb6.mono hb5.size)
    go_wp2_with fail
    go_ret
    exact ⟨rfl, hb6⟩
  | some j =>
    rw [hj, Option.isSome_some, joS_some, joA_some] at J1 J2
    have hsz := join_sizes hj
    have h00 : (ByteArray.size ⟨#[]⟩) = 0 := rfl
    have C1 := hid (fun w => up12 (str j.strip) (str j.add) k w (by omega) (by omega))
    rw [lf_str] at C1
    have hx : up (lf ⟨#[]⟩ a) k.data.toList = some (a.data.toList ++ k.data.toList) := up_app (lf ⟨#[]⟩ a) k.data.toList
    have hu := goes_some hj hx
    have e1 : upS j k.data.toList = upS (lf s0 d0) (a.data.toList ++ k.data.toList) := by unfold upS; rw [hu]
    have e2 : upB j k.data.toList = upB (lf s0 d0) (a.data.toList ++ k.data.toList) := by unfold upB; rw [hu]
    rw [e1, e2] at C1
    generalize upS (lf s0 d0) (a.data.toList ++ k.data.toList) = T at *
    generalize upB (lf s0 d0) (a.data.toList ++ k.data.toList) = B at *
    generalize str j.strip = S at *
    generalize str j.add = A at *
    clear hj ha hk hl hx hu e1 e2 hsz h00
    go_enter Try.func6, Try.ntmps6
    obtain ⟨cA0, cA1⟩ := A0.cells
    have cAl := A0.lt
    go_wp2_with fail
    refine (G _).mono ?_
    rintro x w1 ⟨rfl, hb1⟩
    clear cA0 cA1 cAl
    have Ah1 := A0.later hb1
    replace hb1 := hb0.trans (hb1.mono hb0.size)
    obtain ⟨cA0, cA1⟩ := Ah1.cells
    have cAl := Ah1.lt
    go_wp2_with fail
    refine (J1.out _).mono ?_
    rintro x w2 ⟨rfl, hb2⟩
    clear cA0 cA1 cAl
    have Ah2 := Ah1.later hb2
    replace hb2 := hb1.trans (hb2.mono hb1.size)
    have Xh := Pair.new w2 (.string S) (.string A)
    have Ah := Ah2.alloc (.cells #[.string S, .string A] 50)
    have hbx := hb2.alloc hb2.size (.cells #[.string S, .string A] 50)
    go_upto_region 4 with fail
    generalize hkx : w2.heap.size = kx at *
    clear hkx
    generalize w2.alloc (.cells #[.string S, .string A] 50) = w2' at *
    obtain ⟨cA0, cA1⟩ := Ah.cells
    have cAl := Ah.lt
    obtain ⟨cX0, cX1⟩ := Xh.cells
    have cXl := Xh.lt
    go_wp2_with fail
    refine (J2.out _).mono ?_
    rintro x w3 ⟨rfl, hb3⟩
    clear cA0 cA1 cAl cX0 cX1 cXl
    have Ah3 := Ah.later hb3
    have Xh3 := Xh.later hb3
    replace hb3 := hbx.trans (hb3.mono hbx.size)
    have Yh := Pair.new w3 (.string S) (.string A)
    have Ah' := Ah3.alloc (.cells #[.string S, .string A] 50)
    have Xh' := Xh3.alloc (.cells #[.string S, .string A] 50)
    have hby := hb3.alloc hb3.size (.cells #[.string S, .string A] 50)
    go_upto_region 5 with fail
    generalize hky : w3.heap.size = ky at *
    clear hky
    generalize w3.alloc (.cells #[.string S, .string A] 50) = w3' at *
    obtain ⟨cA0, cA1⟩ := Ah'.cells
    have cAl := Ah'.lt
    obtain ⟨cX0, cX1⟩ := Xh'.cells
    have cXl := Xh'.lt
    obtain ⟨cY0, cY1⟩ := Yh.cells
    have cYl := Yh.lt
    go_wp2_with fail
    refine (C1.out _).mono ?_
    rintro x w4 ⟨rfl, hb4⟩
    clear cA0 cA1 cAl cX0 cX1 cXl cY0 cY1 cYl
    have Ah4 := Ah'.later hb4
    have Xh4 := Xh'.later hb4
    have Yh4 := Yh.later hb4
    replace hb4 := hby.trans (hb4.mono hby.size)
    obtain ⟨cA0, cA1⟩ := Ah4.cells
    have cAl := Ah4.lt
    obtain ⟨cX0, cX1⟩ := Xh4.cells
    have cXl := Xh4.lt
    obtain ⟨cY0, cY1⟩ := Yh4.cells
    have cYl := Yh4.lt
    go_wp2_with fail
    refine (C2.out _).mono ?_
    rintro x w5 ⟨rfl, hb5⟩
    clear cA0 cA1 cAl cX0 cX1 cXl cY0 cY1 cYl
    have Ah5 := Ah4.later hb5
    have Xh5 := Xh4.later hb5
    have Yh5 := Yh4.later hb5
    replace hb5 := hb4.trans (hb5.mono hb4.size)
    obtain ⟨cA0, cA1⟩ := Ah5.cells
    have cAl := Ah5.lt
    obtain ⟨cX0, cX1⟩ := Xh5.cells
    have cXl := Xh5.lt
    obtain ⟨cY0, cY1⟩ := Yh5.cells
    have cYl := Yh5.lt
    go_wp2_with fail
    refine (awake9 _).mono ?_
    rintro x w6 ⟨rfl, hb6⟩
    clear cA0 cA1 cAl cX0 cX1 cXl cY0 cY1 cYl
    have Ah6 := Ah5.later hb6
    have Xh6 := Xh5.later hb6
    have Yh6 := Yh5.later hb6
    replace hb6 := hb5.trans (hb6.mono hb5.size)
    go_wp2_with fail
    go_ret
    exact ⟨rfl, hb6⟩
end Go.Proofs.Ythhlimkcnppkaaa.Key
