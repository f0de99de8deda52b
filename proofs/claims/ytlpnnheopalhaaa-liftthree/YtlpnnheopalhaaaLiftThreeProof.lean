/-
  Proved: the call of the statement LiftThree returns true for every three lifts (three lifts go the same, in whichever order they are joined), and they read afterwards as they read before. No condition.
  The frame of the row's step was written by the guide's proof-skeleton.mjs; the walk is this text's own.
-/
import Derived.Test.YtlpnnheopalhaaaPairs
import Derived.WalkKit
import Derived.ProofKit
import Derived.OpenShut
import Derived.ShutString
import Derived.ChangeOld
import Derived.Below
import Derived.Lib.SmallJoins
namespace Go.Proofs.Ytlpnnheopalhaaa.liftThree
open Go.ChangeShapes Go.WideShapes Go.ChangeAt Go.RowKit Go.Joins
open Go.Op (bytesLess)
set_option linter.unusedVariables false

theorem own : ownKnob Try.prog.godebug = none := by kernel_rfl
theorem cells23 : Try.prog.cellsOf 23 = 2 := by kernel_rfl

set_option maxHeartbeats 4000000 in
theorem walk (s0 p0 : ByteArray) (s1 p1 : ByteArray) (s2 p2 : ByteArray) (w : World) (ws0 : s0.size ≤ maxLen) (wp0 : p0.size ≤ maxLen) (ws1 : s1.size ≤ maxLen) (wp1 : p1.size ≤ maxLen) (ws2 : s2.size ≤ maxLen) (wp2 : p2.size ≤ maxLen) :
    Calls Try.prog 6 #[Key.lv s0 p0, Key.lv s1 p1, Key.lv s2 p2] w fun e w' => e = .returned (.bool true) ∧ Below w.heap.size w w' := by
  unfold maxLen at ws0 wp0 ws1 wp1 ws2 wp2
  obtain ⟨A0, B0, C0⟩ := Key.three_pairs w (.string s0) (.string p0) (.string s1) (.string p1) (.string s2) (.string p2)
  have hb0 := Key.below_3 w (.cells #[.string s0, .string p0] 23) (.cells #[.string s1, .string p1] 23) (.cells #[.string s2, .string p2] 23)
  have G := Key.great8 s0 p0
  have G1 := Key.great8 s1 p1
  have G2 := Key.great8 s2 p2
  cases hg : (decide (300 < s0.size) || decide (300 < p0.size))
  · rw [hg] at G
    have hl : s0.size ≤ 300 ∧ p0.size ≤ 300 := by simp at hg; omega
    cases hg1 : (decide (300 < s1.size) || decide (300 < p1.size))
    · rw [hg1] at G1
      have hl1 : s1.size ≤ 300 ∧ p1.size ≤ 300 := by simp at hg1; omega
      cases hg2 : (decide (300 < s2.size) || decide (300 < p2.size))
      · rw [hg2] at G2
        have hl2 : s2.size ≤ 300 ∧ p2.size ≤ 300 := by simp at hg2; omega
        have J1 := fun w => Key.join18 s0 p0 s1 p1 w (by omega) (by omega) (by omega) (by omega)
        have J2 := fun w => Key.join18 s1 p1 s2 p2 w (by omega) (by omega) (by omega) (by omega)
        have hthree := Key.join_three (Key.lf s0 p0) (Key.lf s1 p1) (Key.lf s2 p2)
        clear hg hg1 hg2
        cases h1 : Key.joinO (Key.lf s0 p0) (Key.lf s1 p1) with
        | none =>
          rw [h1, Option.isSome_none] at J1
          cases h2 : Key.joinO (Key.lf s1 p1) (Key.lf s2 p2) with
          | none =>
            rw [h2, Option.isSome_none] at J2
            clear h1 h2 hthree
            generalize Key.joS none = DS at *
            generalize Key.joA none = DA at *
            go_enter Try.func6, Try.ntmps6
            go_wp2_with fail
            refine (G _).mono ?_
            rintro e w1 ⟨rfl, hb1⟩
            have A1 := A0.later hb1
            have B1 := B0.later hb1
            have C1 := C0.later hb1
            replace hb1 := hb0.trans (hb1.mono hb0.size)
            clear A0 B0 C0 hb0
            obtain ⟨Ac0, Ac1⟩ := A1.cells
            have Al := A1.lt
            obtain ⟨Bc0, Bc1⟩ := B1.cells
            have Bl := B1.lt
            obtain ⟨Cc0, Cc1⟩ := C1.cells
            have Cl := C1.lt
            go_wp2_with fail
            refine (G1 _).mono ?_
            rintro e w2 ⟨rfl, hb2⟩
            have A2 := A1.later hb2
            have B2 := B1.later hb2
            have C2 := C1.later hb2
            replace hb2 := hb1.trans (hb2.mono hb1.size)
            clear A1 B1 C1 hb1 Ac0 Ac1 Bc0 Bc1 Cc0 Cc1 Al Bl Cl
            obtain ⟨Ac0, Ac1⟩ := A2.cells
            have Al := A2.lt
            obtain ⟨Bc0, Bc1⟩ := B2.cells
            have Bl := B2.lt
            obtain ⟨Cc0, Cc1⟩ := C2.cells
            have Cl := C2.lt
            go_wp2_with fail
            refine (G2 _).mono ?_
            rintro e w3 ⟨rfl, hb3⟩
            have A3 := A2.later hb3
            have B3 := B2.later hb3
            have C3 := C2.later hb3
            replace hb3 := hb2.trans (hb3.mono hb2.size)
            clear A2 B2 C2 hb2 Ac0 Ac1 Bc0 Bc1 Cc0 Cc1 Al Bl Cl
            obtain ⟨Ac0, Ac1⟩ := A3.cells
            have Al := A3.lt
            obtain ⟨Bc0, Bc1⟩ := B3.cells
            have Bl := B3.lt
            obtain ⟨Cc0, Cc1⟩ := C3.cells
            have Cl := C3.lt
            go_wp2_with fail
            refine (J1 _).mono ?_
            rintro e w4 ⟨rfl, hb4⟩
            have A4 := A3.later hb4
            have B4 := B3.later hb4
            have C4 := C3.later hb4
            replace hb4 := hb3.trans (hb4.mono hb3.size)
            clear A3 B3 C3 hb3 Ac0 Ac1 Bc0 Bc1 Cc0 Cc1 Al Bl Cl
            obtain ⟨Ac0, Ac1⟩ := A4.cells
            have Al := A4.lt
            obtain ⟨Bc0, Bc1⟩ := B4.cells
            have Bl := B4.lt
            obtain ⟨Cc0, Cc1⟩ := C4.cells
            have Cl := C4.lt
            go_wp2_with fail
            refine (J2 _).mono ?_
            rintro e w5 ⟨rfl, hb5⟩
            have hp := hb4.alloc hb4.size (.cells #[.string DS, .string DA] 23)
            have Dp := Key.Pair.new w4 (.string DS) (.string DA)
            have A5 := (A4.alloc (.cells #[.string DS, .string DA] 23)).later hb5
            have B5 := (B4.alloc (.cells #[.string DS, .string DA] 23)).later hb5
            have C5 := (C4.alloc (.cells #[.string DS, .string DA] 23)).later hb5
            have D5 := Dp.later hb5
            replace hb5 := hp.trans (hb5.mono hp.size)
            clear A4 B4 C4 hb4 hp Dp Ac0 Ac1 Bc0 Bc1 Cc0 Cc1 Al Bl Cl
            generalize w4.heap.size = kd at *
            obtain ⟨Ac0, Ac1⟩ := A5.cells
            have Al := A5.lt
            obtain ⟨Bc0, Bc1⟩ := B5.cells
            have Bl := B5.lt
            obtain ⟨Cc0, Cc1⟩ := C5.cells
            have Cl := C5.lt
            obtain ⟨Dc0, Dc1⟩ := D5.cells
            have Dl := D5.lt
            have Al1 : w.heap.size < w5.heap.size + 1 := by omega
            have Al2 : w.heap.size < w5.heap.size + 1 + 1 := by omega
            have Cl1 : w.heap.size + 1 + 1 < w5.heap.size + 1 := by omega
            have Cl2 : w.heap.size + 1 + 1 < w5.heap.size + 1 + 1 := by omega
            have Dl1 : kd < w5.heap.size + 1 := by omega
            have Dl2 : kd < w5.heap.size + 1 + 1 := by omega
            go_wp2_with fail
            refine (Key.awake10 _).mono ?_
            rintro e w6 ⟨rfl, hb6⟩
            have hp := hb5.alloc hb5.size (.cells #[.string DS, .string DA] 23)
            replace hp := hp.alloc hp.size (.cells #[.string ⟨#[]⟩, .string ⟨#[]⟩] 23)
            replace hp := hp.alloc hp.size (.cells #[.string ⟨#[]⟩, .string ⟨#[]⟩] 23)
            replace hb6 := hp.trans (hb6.mono hp.size)
            go_wp2_with fail
            go_ret
            exact ⟨rfl, hb6⟩
          | some e =>
            rw [h2, Option.isSome_some, Key.joS_some, Key.joA_some] at J2
            obtain ⟨z1, z2⟩ := Key.join_sizes h2
            have J4 := fun w => Key.join18 s0 p0 (Key.str e.strip) (Key.str e.add) w (by omega) (by omega) (by omega) (by omega)
            rw [h1, h2, Option.bind_none, Option.bind_some] at hthree
            rw [Key.lf_str, ← hthree, Option.isSome_none, Key.joS_none, Key.joA_none] at J4
            clear h1 h2 hthree z1 z2
            generalize Key.joS none = DS at *
            generalize Key.joA none = DA at *
            generalize Key.str e.strip = ES at *
            generalize Key.str e.add = EA at *
            go_enter Try.func6, Try.ntmps6
            go_wp2_with fail
            refine (G _).mono ?_
            rintro e w1 ⟨rfl, hb1⟩
            have A1 := A0.later hb1
            have B1 := B0.later hb1
            have C1 := C0.later hb1
            replace hb1 := hb0.trans (hb1.mono hb0.size)
            clear A0 B0 C0 hb0
            obtain ⟨Ac0, Ac1⟩ := A1.cells
            have Al := A1.lt
            obtain ⟨Bc0, Bc1⟩ := B1.cells
            have Bl := B1.lt
            obtain ⟨Cc0, Cc1⟩ := C1.cells
            have Cl := C1.lt
            go_wp2_with fail
            refine (G1 _).mono ?_
            rintro e w2 ⟨rfl, hb2⟩
            have A2 := A1.later hb2
            have B2 := B1.later hb2
            have C2 := C1.later hb2
            replace hb2 := hb1.trans (hb2.mono hb1.size)
            clear A1 B1 C1 hb1 Ac0 Ac1 Bc0 Bc1 Cc0 Cc1 Al Bl Cl
            obtain ⟨Ac0, Ac1⟩ := A2.cells
            have Al := A2.lt
            obtain ⟨Bc0, Bc1⟩ := B2.cells
            have Bl := B2.lt
            obtain ⟨Cc0, Cc1⟩ := C2.cells
            have Cl := C2.lt
            go_wp2_with fail
            refine (G2 _).mono ?_
            rintro e w3 ⟨rfl, hb3⟩
            have A3 := A2.later hb3
            have B3 := B2.later hb3
            have C3 := C2.later hb3
            replace hb3 := hb2.trans (hb3.mono hb2.size)
            clear A2 B2 C2 hb2 Ac0 Ac1 Bc0 Bc1 Cc0 Cc1 Al Bl Cl
            obtain ⟨Ac0, Ac1⟩ := A3.cells
            have Al := A3.lt
            obtain ⟨Bc0, Bc1⟩ := B3.cells
            have Bl := B3.lt
            obtain ⟨Cc0, Cc1⟩ := C3.cells
            have Cl := C3.lt
            go_wp2_with fail
            refine (J1 _).mono ?_
            rintro e w4 ⟨rfl, hb4⟩
            have A4 := A3.later hb4
            have B4 := B3.later hb4
            have C4 := C3.later hb4
            replace hb4 := hb3.trans (hb4.mono hb3.size)
            clear A3 B3 C3 hb3 Ac0 Ac1 Bc0 Bc1 Cc0 Cc1 Al Bl Cl
            obtain ⟨Ac0, Ac1⟩ := A4.cells
            have Al := A4.lt
            obtain ⟨Bc0, Bc1⟩ := B4.cells
            have Bl := B4.lt
            obtain ⟨Cc0, Cc1⟩ := C4.cells
            have Cl := C4.lt
            go_wp2_with fail
            refine (J2 _).mono ?_
            rintro e w5 ⟨rfl, hb5⟩
            have hp := hb4.alloc hb4.size (.cells #[.string DS, .string DA] 23)
            have Dp := Key.Pair.new w4 (.string DS) (.string DA)
            have A5 := (A4.alloc (.cells #[.string DS, .string DA] 23)).later hb5
            have B5 := (B4.alloc (.cells #[.string DS, .string DA] 23)).later hb5
            have C5 := (C4.alloc (.cells #[.string DS, .string DA] 23)).later hb5
            have D5 := Dp.later hb5
            replace hb5 := hp.trans (hb5.mono hp.size)
            clear A4 B4 C4 hb4 hp Dp Ac0 Ac1 Bc0 Bc1 Cc0 Cc1 Al Bl Cl
            generalize w4.heap.size = kd at *
            obtain ⟨Ac0, Ac1⟩ := A5.cells
            have Al := A5.lt
            obtain ⟨Bc0, Bc1⟩ := B5.cells
            have Bl := B5.lt
            obtain ⟨Cc0, Cc1⟩ := C5.cells
            have Cl := C5.lt
            obtain ⟨Dc0, Dc1⟩ := D5.cells
            have Dl := D5.lt
            have Al1 : w.heap.size < w5.heap.size + 1 := by omega
            have Al2 : w.heap.size < w5.heap.size + 1 + 1 := by omega
            have Cl1 : w.heap.size + 1 + 1 < w5.heap.size + 1 := by omega
            have Cl2 : w.heap.size + 1 + 1 < w5.heap.size + 1 + 1 := by omega
            have Dl1 : kd < w5.heap.size + 1 := by omega
            have Dl2 : kd < w5.heap.size + 1 + 1 := by omega
            go_wp2_with fail
            refine (J4 _).mono ?_
            rintro e w6 ⟨rfl, hb6⟩
            have nA : w.heap.size ≠ w5.heap.size + 1 := by omega
            have nE : w5.heap.size ≠ w5.heap.size + 1 := by omega
            have nXY : w5.heap.size + 1 ≠ w5.heap.size + 1 + 1 := by omega
            have nYX : w5.heap.size + 1 + 1 ≠ w5.heap.size + 1 := by omega
            have lX : w.heap.size ≤ w5.heap.size + 1 := by omega
            have lY : w.heap.size ≤ w5.heap.size + 1 + 1 := by omega
            have hp := hb5.alloc hb5.size (.cells #[.string ES, .string EA] 23)
            replace hp := hp.alloc hp.size (.cells #[.string ⟨#[]⟩, .string ⟨#[]⟩] 23)
            replace hp := hp.alloc hp.size (.cells #[.string ⟨#[]⟩, .string ⟨#[]⟩] 23)
            obtain ⟨Ep, Xp, Yp⟩ := Key.three_pairs w5 (.string ES) (.string EA) (.string ⟨#[]⟩) (.string ⟨#[]⟩) (.string ⟨#[]⟩) (.string ⟨#[]⟩)
            have X6 := Xp.later hb6
            have Y6 := Yp.later hb6
            replace hb6 := hp.trans (hb6.mono hp.size)
            clear A5 B5 C5 D5 hb5 hp Ep Xp Yp Ac0 Ac1 Bc0 Bc1 Cc0 Cc1 Dc0 Dc1 Al Bl Cl Dl
            generalize w5.heap.size + 1 + 1 = ky at *
            generalize w5.heap.size + 1 = kx at *
            generalize w5.heap.size = ke at *
            obtain ⟨fy0, fy1⟩ := Y6.free
            obtain ⟨Xc0, Xc1⟩ := X6.cells
            have Xl := X6.lt
            obtain ⟨Yc0, Yc1⟩ := Y6.cells
            have Yl := Y6.lt
            go_wp2_with fail
            refine (Key.awake10 _).mono ?_
            rintro e w7 ⟨rfl, hb7⟩
            have hp := (hb6.setCell (p := ⟨ky, 0, none⟩) lY (.string ⟨#[]⟩)).setCell (p := ⟨ky, 1, none⟩) lY (.string ⟨#[]⟩)
            replace hb7 := hp.trans (hb7.mono hp.size)
            go_wp2_with fail
            go_ret
            exact ⟨rfl, hb7⟩
        | some d =>
          rw [h1, Option.isSome_some, Key.joS_some, Key.joA_some] at J1
          obtain ⟨z1, z2⟩ := Key.join_sizes h1
          have J3 := fun w => Key.join18 (Key.str d.strip) (Key.str d.add) s2 p2 w (by omega) (by omega) (by omega) (by omega)
          rw [Key.lf_str] at J3
          cases h2 : Key.joinO (Key.lf s1 p1) (Key.lf s2 p2) with
          | none =>
            rw [h2, Option.isSome_none] at J2
            rw [h1, h2, Option.bind_none, Option.bind_some] at hthree
            rw [hthree, Option.isSome_none, Key.joS_none, Key.joA_none] at J3
            clear h1 h2 hthree z1 z2
            generalize Key.joS none = ES at *
            generalize Key.joA none = EA at *
            generalize Key.str d.strip = DS at *
            generalize Key.str d.add = DA at *
            go_enter Try.func6, Try.ntmps6
            go_wp2_with fail
            refine (G _).mono ?_
            rintro e w1 ⟨rfl, hb1⟩
            have A1 := A0.later hb1
            have B1 := B0.later hb1
            have C1 := C0.later hb1
            replace hb1 := hb0.trans (hb1.mono hb0.size)
            clear A0 B0 C0 hb0
            obtain ⟨Ac0, Ac1⟩ := A1.cells
            have Al := A1.lt
            obtain ⟨Bc0, Bc1⟩ := B1.cells
            have Bl := B1.lt
            obtain ⟨Cc0, Cc1⟩ := C1.cells
            have Cl := C1.lt
            go_wp2_with fail
            refine (G1 _).mono ?_
            rintro e w2 ⟨rfl, hb2⟩
            have A2 := A1.later hb2
            have B2 := B1.later hb2
            have C2 := C1.later hb2
            replace hb2 := hb1.trans (hb2.mono hb1.size)
            clear A1 B1 C1 hb1 Ac0 Ac1 Bc0 Bc1 Cc0 Cc1 Al Bl Cl
            obtain ⟨Ac0, Ac1⟩ := A2.cells
            have Al := A2.lt
            obtain ⟨Bc0, Bc1⟩ := B2.cells
            have Bl := B2.lt
            obtain ⟨Cc0, Cc1⟩ := C2.cells
            have Cl := C2.lt
            go_wp2_with fail
            refine (G2 _).mono ?_
            rintro e w3 ⟨rfl, hb3⟩
            have A3 := A2.later hb3
            have B3 := B2.later hb3
            have C3 := C2.later hb3
            replace hb3 := hb2.trans (hb3.mono hb2.size)
            clear A2 B2 C2 hb2 Ac0 Ac1 Bc0 Bc1 Cc0 Cc1 Al Bl Cl
            obtain ⟨Ac0, Ac1⟩ := A3.cells
            have Al := A3.lt
            obtain ⟨Bc0, Bc1⟩ := B3.cells
            have Bl := B3.lt
            obtain ⟨Cc0, Cc1⟩ := C3.cells
            have Cl := C3.lt
            go_wp2_with fail
            refine (J1 _).mono ?_
            rintro e w4 ⟨rfl, hb4⟩
            have A4 := A3.later hb4
            have B4 := B3.later hb4
            have C4 := C3.later hb4
            replace hb4 := hb3.trans (hb4.mono hb3.size)
            clear A3 B3 C3 hb3 Ac0 Ac1 Bc0 Bc1 Cc0 Cc1 Al Bl Cl
            obtain ⟨Ac0, Ac1⟩ := A4.cells
            have Al := A4.lt
            obtain ⟨Bc0, Bc1⟩ := B4.cells
            have Bl := B4.lt
            obtain ⟨Cc0, Cc1⟩ := C4.cells
            have Cl := C4.lt
            go_wp2_with fail
            refine (J2 _).mono ?_
            rintro e w5 ⟨rfl, hb5⟩
            have hp := hb4.alloc hb4.size (.cells #[.string DS, .string DA] 23)
            have Dp := Key.Pair.new w4 (.string DS) (.string DA)
            have A5 := (A4.alloc (.cells #[.string DS, .string DA] 23)).later hb5
            have B5 := (B4.alloc (.cells #[.string DS, .string DA] 23)).later hb5
            have C5 := (C4.alloc (.cells #[.string DS, .string DA] 23)).later hb5
            have D5 := Dp.later hb5
            replace hb5 := hp.trans (hb5.mono hp.size)
            clear A4 B4 C4 hb4 hp Dp Ac0 Ac1 Bc0 Bc1 Cc0 Cc1 Al Bl Cl
            generalize w4.heap.size = kd at *
            obtain ⟨Ac0, Ac1⟩ := A5.cells
            have Al := A5.lt
            obtain ⟨Bc0, Bc1⟩ := B5.cells
            have Bl := B5.lt
            obtain ⟨Cc0, Cc1⟩ := C5.cells
            have Cl := C5.lt
            obtain ⟨Dc0, Dc1⟩ := D5.cells
            have Dl := D5.lt
            have Al1 : w.heap.size < w5.heap.size + 1 := by omega
            have Al2 : w.heap.size < w5.heap.size + 1 + 1 := by omega
            have Cl1 : w.heap.size + 1 + 1 < w5.heap.size + 1 := by omega
            have Cl2 : w.heap.size + 1 + 1 < w5.heap.size + 1 + 1 := by omega
            have Dl1 : kd < w5.heap.size + 1 := by omega
            have Dl2 : kd < w5.heap.size + 1 + 1 := by omega
            go_wp2_with fail
            refine (J3 _).mono ?_
            rintro e w6 ⟨rfl, hb6⟩
            have nA : w.heap.size ≠ w5.heap.size + 1 := by omega
            have nE : w5.heap.size ≠ w5.heap.size + 1 := by omega
            have nXY : w5.heap.size + 1 ≠ w5.heap.size + 1 + 1 := by omega
            have nYX : w5.heap.size + 1 + 1 ≠ w5.heap.size + 1 := by omega
            have lX : w.heap.size ≤ w5.heap.size + 1 := by omega
            have lY : w.heap.size ≤ w5.heap.size + 1 + 1 := by omega
            have hp := hb5.alloc hb5.size (.cells #[.string ES, .string EA] 23)
            replace hp := hp.alloc hp.size (.cells #[.string ⟨#[]⟩, .string ⟨#[]⟩] 23)
            replace hp := hp.alloc hp.size (.cells #[.string ⟨#[]⟩, .string ⟨#[]⟩] 23)
            obtain ⟨Ep, Xp, Yp⟩ := Key.three_pairs w5 (.string ES) (.string EA) (.string ⟨#[]⟩) (.string ⟨#[]⟩) (.string ⟨#[]⟩) (.string ⟨#[]⟩)
            have X6 := Xp.later hb6
            have Y6 := Yp.later hb6
            replace hb6 := hp.trans (hb6.mono hp.size)
            clear A5 B5 C5 D5 hb5 hp Ep Xp Yp Ac0 Ac1 Bc0 Bc1 Cc0 Cc1 Dc0 Dc1 Al Bl Cl Dl
            generalize w5.heap.size + 1 + 1 = ky at *
            generalize w5.heap.size + 1 = kx at *
            generalize w5.heap.size = ke at *
            obtain ⟨fx0, fx1⟩ := X6.free
            obtain ⟨Xc0, Xc1⟩ := X6.cells
            have Xl := X6.lt
            obtain ⟨Yc0, Yc1⟩ := Y6.cells
            have Yl := Y6.lt
            go_wp2_with fail
            refine (Key.awake10 _).mono ?_
            rintro e w7 ⟨rfl, hb7⟩
            have hp := (hb6.setCell (p := ⟨kx, 0, none⟩) lX (.string ⟨#[]⟩)).setCell (p := ⟨kx, 1, none⟩) lX (.string ⟨#[]⟩)
            replace hb7 := hp.trans (hb7.mono hp.size)
            go_wp2_with fail
            go_ret
            exact ⟨rfl, hb7⟩
          | some e =>
            rw [h2, Option.isSome_some, Key.joS_some, Key.joA_some] at J2
            obtain ⟨z3, z4⟩ := Key.join_sizes h2
            have J4 := fun w => Key.join18 s0 p0 (Key.str e.strip) (Key.str e.add) w (by omega) (by omega) (by omega) (by omega)
            rw [h1, h2, Option.bind_some, Option.bind_some] at hthree
            rw [Key.lf_str, ← hthree] at J4
            clear h1 h2 hthree z1 z2 z3 z4
            generalize Key.joinO d (Key.lf s2 p2) = o at *
            generalize Key.joS o = XS at *
            generalize Key.joA o = XA at *
            generalize o.isSome = t at *
            generalize Key.str d.strip = DS at *
            generalize Key.str d.add = DA at *
            generalize Key.str e.strip = ES at *
            generalize Key.str e.add = EA at *
            go_enter Try.func6, Try.ntmps6
            go_wp2_with fail
            refine (G _).mono ?_
            rintro e w1 ⟨rfl, hb1⟩
            have A1 := A0.later hb1
            have B1 := B0.later hb1
            have C1 := C0.later hb1
            replace hb1 := hb0.trans (hb1.mono hb0.size)
            clear A0 B0 C0 hb0
            obtain ⟨Ac0, Ac1⟩ := A1.cells
            have Al := A1.lt
            obtain ⟨Bc0, Bc1⟩ := B1.cells
            have Bl := B1.lt
            obtain ⟨Cc0, Cc1⟩ := C1.cells
            have Cl := C1.lt
            go_wp2_with fail
            refine (G1 _).mono ?_
            rintro e w2 ⟨rfl, hb2⟩
            have A2 := A1.later hb2
            have B2 := B1.later hb2
            have C2 := C1.later hb2
            replace hb2 := hb1.trans (hb2.mono hb1.size)
            clear A1 B1 C1 hb1 Ac0 Ac1 Bc0 Bc1 Cc0 Cc1 Al Bl Cl
            obtain ⟨Ac0, Ac1⟩ := A2.cells
            have Al := A2.lt
            obtain ⟨Bc0, Bc1⟩ := B2.cells
            have Bl := B2.lt
            obtain ⟨Cc0, Cc1⟩ := C2.cells
            have Cl := C2.lt
            go_wp2_with fail
            refine (G2 _).mono ?_
            rintro e w3 ⟨rfl, hb3⟩
            have A3 := A2.later hb3
            have B3 := B2.later hb3
            have C3 := C2.later hb3
            replace hb3 := hb2.trans (hb3.mono hb2.size)
            clear A2 B2 C2 hb2 Ac0 Ac1 Bc0 Bc1 Cc0 Cc1 Al Bl Cl
            obtain ⟨Ac0, Ac1⟩ := A3.cells
            have Al := A3.lt
            obtain ⟨Bc0, Bc1⟩ := B3.cells
            have Bl := B3.lt
            obtain ⟨Cc0, Cc1⟩ := C3.cells
            have Cl := C3.lt
            go_wp2_with fail
            refine (J1 _).mono ?_
            rintro e w4 ⟨rfl, hb4⟩
            have A4 := A3.later hb4
            have B4 := B3.later hb4
            have C4 := C3.later hb4
            replace hb4 := hb3.trans (hb4.mono hb3.size)
            clear A3 B3 C3 hb3 Ac0 Ac1 Bc0 Bc1 Cc0 Cc1 Al Bl Cl
            obtain ⟨Ac0, Ac1⟩ := A4.cells
            have Al := A4.lt
            obtain ⟨Bc0, Bc1⟩ := B4.cells
            have Bl := B4.lt
            obtain ⟨Cc0, Cc1⟩ := C4.cells
            have Cl := C4.lt
            go_wp2_with fail
            refine (J2 _).mono ?_
            rintro e w5 ⟨rfl, hb5⟩
            have hp := hb4.alloc hb4.size (.cells #[.string DS, .string DA] 23)
            have Dp := Key.Pair.new w4 (.string DS) (.string DA)
            have A5 := (A4.alloc (.cells #[.string DS, .string DA] 23)).later hb5
            have B5 := (B4.alloc (.cells #[.string DS, .string DA] 23)).later hb5
            have C5 := (C4.alloc (.cells #[.string DS, .string DA] 23)).later hb5
            have D5 := Dp.later hb5
            replace hb5 := hp.trans (hb5.mono hp.size)
            clear A4 B4 C4 hb4 hp Dp Ac0 Ac1 Bc0 Bc1 Cc0 Cc1 Al Bl Cl
            generalize w4.heap.size = kd at *
            obtain ⟨Ac0, Ac1⟩ := A5.cells
            have Al := A5.lt
            obtain ⟨Bc0, Bc1⟩ := B5.cells
            have Bl := B5.lt
            obtain ⟨Cc0, Cc1⟩ := C5.cells
            have Cl := C5.lt
            obtain ⟨Dc0, Dc1⟩ := D5.cells
            have Dl := D5.lt
            have Al1 : w.heap.size < w5.heap.size + 1 := by omega
            have Al2 : w.heap.size < w5.heap.size + 1 + 1 := by omega
            have Cl1 : w.heap.size + 1 + 1 < w5.heap.size + 1 := by omega
            have Cl2 : w.heap.size + 1 + 1 < w5.heap.size + 1 + 1 := by omega
            have Dl1 : kd < w5.heap.size + 1 := by omega
            have Dl2 : kd < w5.heap.size + 1 + 1 := by omega
            go_wp2_with fail
            refine (J3 _).mono ?_
            rintro e w6 ⟨rfl, hb6⟩
            have nA : w.heap.size ≠ w5.heap.size + 1 := by omega
            have nE : w5.heap.size ≠ w5.heap.size + 1 := by omega
            have nXY : w5.heap.size + 1 ≠ w5.heap.size + 1 + 1 := by omega
            have nYX : w5.heap.size + 1 + 1 ≠ w5.heap.size + 1 := by omega
            have lX : w.heap.size ≤ w5.heap.size + 1 := by omega
            have lY : w.heap.size ≤ w5.heap.size + 1 + 1 := by omega
            have hp := hb5.alloc hb5.size (.cells #[.string ES, .string EA] 23)
            replace hp := hp.alloc hp.size (.cells #[.string ⟨#[]⟩, .string ⟨#[]⟩] 23)
            replace hp := hp.alloc hp.size (.cells #[.string ⟨#[]⟩, .string ⟨#[]⟩] 23)
            obtain ⟨Ep, Xp, Yp⟩ := Key.three_pairs w5 (.string ES) (.string EA) (.string ⟨#[]⟩) (.string ⟨#[]⟩) (.string ⟨#[]⟩) (.string ⟨#[]⟩)
            have A6 := (((A5.alloc (.cells #[.string ES, .string EA] 23)).alloc (.cells #[.string ⟨#[]⟩, .string ⟨#[]⟩] 23)).alloc (.cells #[.string ⟨#[]⟩, .string ⟨#[]⟩] 23)).later hb6
            have E6 := Ep.later hb6
            have X6 := Xp.later hb6
            have Y6 := Yp.later hb6
            replace hb6 := hp.trans (hb6.mono hp.size)
            clear A5 B5 C5 D5 hb5 hp Ep Xp Yp Ac0 Ac1 Bc0 Bc1 Cc0 Cc1 Dc0 Dc1 Al Bl Cl Dl
            generalize w5.heap.size + 1 + 1 = ky at *
            generalize w5.heap.size + 1 = kx at *
            generalize w5.heap.size = ke at *
            obtain ⟨fx0, fx1⟩ := X6.free
            obtain ⟨Ac0, Ac1⟩ := A6.cells
            have Al := A6.lt
            obtain ⟨Ec0, Ec1⟩ := E6.cells
            have El := E6.lt
            obtain ⟨Xc0, Xc1⟩ := X6.cells
            have Xl := X6.lt
            obtain ⟨Yc0, Yc1⟩ := Y6.cells
            have Yl := Y6.lt
            go_wp2_with fail
            refine (J4 _).mono ?_
            rintro e w7 ⟨rfl, hb7⟩
            have hp := (hb6.setCell (p := ⟨kx, 0, none⟩) lX (.string XS)).setCell (p := ⟨kx, 1, none⟩) lX (.string XA)
            have X7 := (X6.put (.string XS) (.string XA)).later hb7
            have Y7 := (Y6.beside nYX (.string XS) (.string XA)).later hb7
            replace hb7 := hp.trans (hb7.mono hp.size)
            clear A6 E6 X6 Y6 hb6 hp Ac0 Ac1 Ec0 Ec1 Xc0 Xc1 Yc0 Yc1 Al El Xl Yl
            obtain ⟨fy0, fy1⟩ := Y7.free
            obtain ⟨Xc0, Xc1⟩ := X7.cells
            have Xl := X7.lt
            obtain ⟨Yc0, Yc1⟩ := Y7.cells
            have Yl := Y7.lt
            go_wp2_with fail
            refine (Key.awake10 _).mono ?_
            rintro e w8 ⟨rfl, hb8⟩
            have hp := (hb7.setCell (p := ⟨ky, 0, none⟩) lY (.string XS)).setCell (p := ⟨ky, 1, none⟩) lY (.string XA)
            replace hb8 := hp.trans (hb8.mono hp.size)
            go_wp2_with fail
            go_ret
            exact ⟨rfl, hb8⟩
      · rw [hg2] at G2
        go_enter Try.func6, Try.ntmps6
        go_wp2_with fail
        refine (G _).mono ?_
        rintro e w1 ⟨rfl, hb1⟩
        have A1 := A0.later hb1
        have B1 := B0.later hb1
        have C1 := C0.later hb1
        replace hb1 := hb0.trans (hb1.mono hb0.size)
        clear A0 B0 C0 hb0
        obtain ⟨Ac0, Ac1⟩ := A1.cells
        have Al := A1.lt
        obtain ⟨Bc0, Bc1⟩ := B1.cells
        have Bl := B1.lt
        obtain ⟨Cc0, Cc1⟩ := C1.cells
        have Cl := C1.lt
        go_wp2_with fail
        refine (G1 _).mono ?_
        rintro e w2 ⟨rfl, hb2⟩
        have A2 := A1.later hb2
        have B2 := B1.later hb2
        have C2 := C1.later hb2
        replace hb2 := hb1.trans (hb2.mono hb1.size)
        clear A1 B1 C1 hb1 Ac0 Ac1 Bc0 Bc1 Cc0 Cc1 Al Bl Cl
        obtain ⟨Ac0, Ac1⟩ := A2.cells
        have Al := A2.lt
        obtain ⟨Bc0, Bc1⟩ := B2.cells
        have Bl := B2.lt
        obtain ⟨Cc0, Cc1⟩ := C2.cells
        have Cl := C2.lt
        go_wp2_with fail
        refine (G2 _).mono ?_
        rintro e w3 ⟨rfl, hb3⟩
        have A3 := A2.later hb3
        have B3 := B2.later hb3
        have C3 := C2.later hb3
        replace hb3 := hb2.trans (hb3.mono hb2.size)
        clear A2 B2 C2 hb2 Ac0 Ac1 Bc0 Bc1 Cc0 Cc1 Al Bl Cl
        obtain ⟨Ac0, Ac1⟩ := A3.cells
        have Al := A3.lt
        obtain ⟨Bc0, Bc1⟩ := B3.cells
        have Bl := B3.lt
        obtain ⟨Cc0, Cc1⟩ := C3.cells
        have Cl := C3.lt
        go_wp2_with fail
        refine (Key.awake10 _).mono ?_
        rintro e w4 ⟨rfl, hb4⟩
        replace hb4 := hb3.trans (hb4.mono hb3.size)
        go_wp2_with fail
        go_ret
        exact ⟨rfl, hb4⟩
    · rw [hg1] at G1
      go_enter Try.func6, Try.ntmps6
      go_wp2_with fail
      refine (G _).mono ?_
      rintro e w1 ⟨rfl, hb1⟩
      have A1 := A0.later hb1
      have B1 := B0.later hb1
      have C1 := C0.later hb1
      replace hb1 := hb0.trans (hb1.mono hb0.size)
      clear A0 B0 C0 hb0
      obtain ⟨Ac0, Ac1⟩ := A1.cells
      have Al := A1.lt
      obtain ⟨Bc0, Bc1⟩ := B1.cells
      have Bl := B1.lt
      obtain ⟨Cc0, Cc1⟩ := C1.cells
      have Cl := C1.lt
      go_wp2_with fail
      refine (G1 _).mono ?_
      rintro e w2 ⟨rfl, hb2⟩
      have A2 := A1.later hb2
      have B2 := B1.later hb2
      have C2 := C1.later hb2
      replace hb2 := hb1.trans (hb2.mono hb1.size)
      clear A1 B1 C1 hb1 Ac0 Ac1 Bc0 Bc1 Cc0 Cc1 Al Bl Cl
      obtain ⟨Ac0, Ac1⟩ := A2.cells
      have Al := A2.lt
      obtain ⟨Bc0, Bc1⟩ := B2.cells
      have Bl := B2.lt
      obtain ⟨Cc0, Cc1⟩ := C2.cells
      have Cl := C2.lt
      go_wp2_with fail
      refine (Key.awake10 _).mono ?_
      rintro e w3 ⟨rfl, hb3⟩
      replace hb3 := hb2.trans (hb3.mono hb2.size)
      go_wp2_with fail
      go_ret
      exact ⟨rfl, hb3⟩
  · rw [hg] at G
    go_enter Try.func6, Try.ntmps6
    go_wp2_with fail
    refine (G _).mono ?_
    rintro e w1 ⟨rfl, hb1⟩
    have A1 := A0.later hb1
    have B1 := B0.later hb1
    have C1 := C0.later hb1
    replace hb1 := hb0.trans (hb1.mono hb0.size)
    clear A0 B0 C0 hb0
    obtain ⟨Ac0, Ac1⟩ := A1.cells
    have Al := A1.lt
    obtain ⟨Bc0, Bc1⟩ := B1.cells
    have Bl := B1.lt
    obtain ⟨Cc0, Cc1⟩ := C1.cells
    have Cl := C1.lt
    go_wp2_with fail
    refine (Key.awake10 _).mono ?_
    rintro e w2 ⟨rfl, hb2⟩
    replace hb2 := hb1.trans (hb2.mono hb1.size)
    go_wp2_with fail
    go_ret
    exact ⟨rfl, hb2⟩

set_option maxRecDepth 100000 in
theorem lifted (os : Os) (started : os.Started) (H : Type) (enc : TypeId × Value → H) :
    ReturnsInHanded {} Try.checked os 6 .any (Rows.liftThreeSpec.pre6 enc Try.prog Try.f6 Rows.liftThreeRow.domain false) (Rows.liftThreeSpec.post enc Try.prog Try.f6 false true false false) := by
  refine returnsInHanded_of_change (C := Try.checked) own started (by kernel_rfl) Try.func6
    (ChangeSpec.witness6 (enc := enc) (C := Try.checked) false ⟨#[], #[.agg #[.string ByteArray.empty, .string ByteArray.empty], .agg #[.string ByteArray.empty, .string ByteArray.empty], .agg #[.string ByteArray.empty, .string ByteArray.empty]], []⟩ 8 (by kernel_rfl) (by kernel_rfl) (by kernel_rfl) (by kernel_rfl)) ?_
  intro W base args ds gs before hval0 hW hcnd _
  have hval : ∀ (j : Nat) t v, Try.f6.params[j]? = some t → args[j]? = some v → Value.okWide Try.prog W .any base t v := hval0
  have hW' := hW
  obtain ⟨p, q, hA0, hV, rfl, hfz, hnd⟩ := hW
  have hA : DataW.TrodAll enc Try.prog W 0 (fun _ => true) true Try.f6.params.toList args.toList ds p := hA0
  rw [Try.params6] at hA hval
  obtain ⟨v0, vs0, d0, ds0, pp0, qq0, hargs, rfl, rfl, g0, r0⟩ := trodAll_cons hA
  obtain ⟨v1, vs1, d1, ds1, pp1, qq1, rfl, rfl, rfl, g1, r1⟩ := trodAll_cons r0
  obtain ⟨v2, vs2, d2, ds2, pp2, qq2, rfl, rfl, rfl, g2, r2⟩ := trodAll_cons r1
  obtain ⟨rfl, rfl, rfl⟩ := trodAll_nil r2
  obtain rfl : args = #[v0, v1, v2] := by cases args; simp_all
  obtain ⟨rfl, rfl⟩ := trodVars_none hV
  obtain ⟨x0, y0, dx0, dy0, m0, rfl, rfl, rfl, hx0, hy0⟩ := open_agg2 Try.underlying23 (by kernel_rfl) cells23 (hval 0 23 v0 rfl rfl) g0
  obtain ⟨s0, es0, rfl, ws0⟩ := DataW.trod_string Try.underlying9 hx0
  obtain ⟨p0, ep0, rfl, wp0⟩ := DataW.trod_string Try.underlying9 hy0
  simp at es0 ep0
  subst es0 ep0
  obtain ⟨x1, y1, dx1, dy1, m1, rfl, rfl, rfl, hx1, hy1⟩ := open_agg2 Try.underlying23 (by kernel_rfl) cells23 (hval 1 23 v1 rfl rfl) g1
  obtain ⟨s1, es1, rfl, ws1⟩ := DataW.trod_string Try.underlying9 hx1
  obtain ⟨p1, ep1, rfl, wp1⟩ := DataW.trod_string Try.underlying9 hy1
  simp at es1 ep1
  subst es1 ep1
  obtain ⟨x2, y2, dx2, dy2, m2, rfl, rfl, rfl, hx2, hy2⟩ := open_agg2 Try.underlying23 (by kernel_rfl) cells23 (hval 2 23 v2 rfl rfl) g2
  obtain ⟨s2, es2, rfl, ws2⟩ := DataW.trod_string Try.underlying9 hx2
  obtain ⟨p2, ep2, rfl, wp2⟩ := DataW.trod_string Try.underlying9 hy2
  simp at es2 ep2
  subst es2 ep2
  clear hA0 hval0
  have rd0 : ∀ (W' : World) (sp : Nat → Bool), DataW.Trod enc Try.prog W' 0 sp true 23 (.agg #[.string s0, .string p0]) (.agg [.lit (.string s0.data.toList), .lit (.string p0.data.toList)]) [] := fun W' sp =>
    shut_agg2 (y0 := (.lit (.string s0.data.toList), [])) (y1 := (.lit (.string p0.data.toList), [])) Try.underlying23 (by kernel_rfl) cells23 (Deep.shut_string_cell Try.underlying9 ws0) (Deep.shut_string_cell Try.underlying9 wp0)
  have rd1 : ∀ (W' : World) (sp : Nat → Bool), DataW.Trod enc Try.prog W' 0 sp true 23 (.agg #[.string s1, .string p1]) (.agg [.lit (.string s1.data.toList), .lit (.string p1.data.toList)]) [] := fun W' sp =>
    shut_agg2 (y0 := (.lit (.string s1.data.toList), [])) (y1 := (.lit (.string p1.data.toList), [])) Try.underlying23 (by kernel_rfl) cells23 (Deep.shut_string_cell Try.underlying9 ws1) (Deep.shut_string_cell Try.underlying9 wp1)
  have rd2 : ∀ (W' : World) (sp : Nat → Bool), DataW.Trod enc Try.prog W' 0 sp true 23 (.agg #[.string s2, .string p2]) (.agg [.lit (.string s2.data.toList), .lit (.string p2.data.toList)]) [] := fun W' sp =>
    shut_agg2 (y0 := (.lit (.string s2.data.toList), [])) (y1 := (.lit (.string p2.data.toList), [])) Try.underlying23 (by kernel_rfl) cells23 (Deep.shut_string_cell Try.underlying9 ws2) (Deep.shut_string_cell Try.underlying9 wp2)
  refine (walk s0 p0 s1 p1 s2 p2 W ws0 wp0 ws1 wp1 ws2 wp2).mono fun e W' ⟨he, bel⟩ => ?_
  subst he
  exact ⟨_, rfl, _, _, _, [], _, [], hW', trodAll_mk1 (shut_bool Try.underlying4 _), (trodAll_cons_mk (rd0 _ _) (trodAll_cons_mk (rd1 _ _) (trodAll_cons_mk (rd2 _ _) trodAll_mk0))), rfl, bel.frame _, fun h => by cases h⟩

theorem over : Rows.liftThreeRow.holds Try.pinned (OpenSpec.ofChange Rows.liftThreeSpec) :=
  OpenClaim.holds_of_wide 6 Try.f6 rfl rfl rfl rfl rfl rfl rfl ⟨rfl, rfl, rfl, rfl, rfl⟩ rfl rfl rfl rfl rfl (by kernel_rfl) Try.func6 (by kernel_rfl)
    (of_decide_eq_true (by kernel_rfl)) (by unfold Func.isWrapper; first | (rw [if_pos (by decide +kernel)]; kernel_rfl) | (rw [if_neg (by decide +kernel)]; exact ⟨rfl, rfl⟩))
    (fun os started H enc _ => lifted os started H enc)

/-- the statement -/
theorem proved : Rows.LiftThreeSaid := over
#print axioms proved
end Go.Proofs.Ytlpnnheopalhaaa.liftThree
