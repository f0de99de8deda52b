/-
  Proved: the call of the statement LiftJoins returns true for every two lifts and every text (two lifts joined are the document's, and go as one behind the other, from any key), and they read afterwards as they read before. No condition.
  The frame of the row's step was written by the guide's proof-skeleton.mjs; the walk is this text's own.
-/
import Derived.Test.YtlpnnheopalhaaaJoinRef
import Derived.Test.YtlpnnheopalhaaaPairs
import Derived.WalkKit
import Derived.ProofKit
import Derived.OpenShut
import Derived.ShutString
import Derived.ChangeOld
import Derived.Below
import Derived.Lib.SmallJoins
namespace Go.Proofs.Ytlpnnheopalhaaa.liftJoins
open Go.ChangeShapes Go.WideShapes Go.ChangeAt Go.RowKit Go.Joins
open Go.ChangeMaps (open_string shut_string)
open Go.Op (bytesLess)
set_option linter.unusedVariables false

theorem own : ownKnob Try.prog.godebug = none := by kernel_rfl
theorem cells23 : Try.prog.cellsOf 23 = 2 := by kernel_rfl

set_option maxHeartbeats 4000000 in
theorem walk (s0 p0 : ByteArray) (s1 p1 : ByteArray) (a2 : ByteArray) (w : World) (ws0 : s0.size ≤ maxLen) (wp0 : p0.size ≤ maxLen) (ws1 : s1.size ≤ maxLen) (wp1 : p1.size ≤ maxLen) (wa2 : a2.size ≤ maxLen) :
    Calls Try.prog 5 #[Key.lv s0 p0, Key.lv s1 p1, .string a2] w fun e w' => e = .returned (.bool true) ∧ Below w.heap.size w w' := by
  unfold maxLen at ws0 wp0 ws1 wp1 wa2
  obtain ⟨A0, B0⟩ := Key.two_pairs w (.string s0) (.string p0) (.string s1) (.string p1)
  have hb0 := Key.below_two w (.cells #[.string s0, .string p0] 23) (.cells #[.string s1, .string p1] 23)
  have G := Key.great8 s0 p0
  have G1 := Key.great8 s1 p1
  cases hg : (decide (300 < s0.size) || decide (300 < p0.size))
  · rw [hg] at G
    have hl : s0.size ≤ 300 ∧ p0.size ≤ 300 := by simp at hg; omega
    cases hg1 : (decide (300 < s1.size) || decide (300 < p1.size))
    · rw [hg1] at G1
      have hl1 : s1.size ≤ 300 ∧ p1.size ≤ 300 := by simp at hg1; omega
      by_cases hk : 300 < a2.size
      · have hd : decide ((300 : Int) < (a2.size : Int)) = true := by simp; omega
        go_enter Try.func5, Try.ntmps5
        go_wp2_with fail
        refine (G _).mono ?_
        rintro e w1 ⟨rfl, hb1⟩
        have A1 := A0.later hb1
        have B1 := B0.later hb1
        replace hb1 := hb0.trans (hb1.mono hb0.size)
        clear A0 B0 hb0
        obtain ⟨Ac0, Ac1⟩ := A1.cells
        have Al := A1.lt
        obtain ⟨Bc0, Bc1⟩ := B1.cells
        have Bl := B1.lt
        go_wp2_with fail
        refine (G1 _).mono ?_
        rintro e w2 ⟨rfl, hb2⟩
        have A2 := A1.later hb2
        have B2 := B1.later hb2
        replace hb2 := hb1.trans (hb2.mono hb1.size)
        clear A1 B1 hb1 Ac0 Ac1 Bc0 Bc1 Al Bl
        obtain ⟨Ac0, Ac1⟩ := A2.cells
        have Al := A2.lt
        obtain ⟨Bc0, Bc1⟩ := B2.cells
        have Bl := B2.lt
        go_wp2_with fail
        refine (Key.awake10 _).mono ?_
        rintro e w3 ⟨rfl, hb3⟩
        replace hb3 := hb2.trans (hb3.mono hb2.size)
        go_wp2_with fail
        go_ret
        exact ⟨rfl, hb3⟩
      · have hd : decide ((300 : Int) < (a2.size : Int)) = false := by simp; omega
        have J1 := fun w => Key.join18 s0 p0 s1 p1 w (by omega) (by omega) (by omega) (by omega)
        have J2 := fun w => Key.join19 s0 p0 s1 p1 w (by omega) (by omega) (by omega) (by omega)
        have C1 := fun w => Key.up11 s0 p0 a2 w (by omega) (by omega)
        cases hj : Key.joinO (Key.lf s0 p0) (Key.lf s1 p1) with
        | none =>
          rw [hj, Option.isSome_none] at J1 J2
          cases u : Key.up (Key.lf s0 p0) a2.data.toList with
          | none =>
            rw [Key.upS_none u, Key.upB_none u] at C1
            generalize Key.joS none = JS at *
            generalize Key.joA none = JA at *
            clear hj u
            go_enter Try.func5, Try.ntmps5
            go_wp2_with fail
            refine (G _).mono ?_
            rintro e w1 ⟨rfl, hb1⟩
            have A1 := A0.later hb1
            have B1 := B0.later hb1
            replace hb1 := hb0.trans (hb1.mono hb0.size)
            clear A0 B0 hb0
            obtain ⟨Ac0, Ac1⟩ := A1.cells
            have Al := A1.lt
            obtain ⟨Bc0, Bc1⟩ := B1.cells
            have Bl := B1.lt
            go_wp2_with fail
            refine (G1 _).mono ?_
            rintro e w2 ⟨rfl, hb2⟩
            have A2 := A1.later hb2
            have B2 := B1.later hb2
            replace hb2 := hb1.trans (hb2.mono hb1.size)
            clear A1 B1 hb1 Ac0 Ac1 Bc0 Bc1 Al Bl
            obtain ⟨Ac0, Ac1⟩ := A2.cells
            have Al := A2.lt
            obtain ⟨Bc0, Bc1⟩ := B2.cells
            have Bl := B2.lt
            go_wp2_with fail
            refine (J1 _).mono ?_
            rintro e w3 ⟨rfl, hb3⟩
            have A3 := A2.later hb3
            have B3 := B2.later hb3
            replace hb3 := hb2.trans (hb3.mono hb2.size)
            clear A2 B2 hb2 Ac0 Ac1 Bc0 Bc1 Al Bl
            obtain ⟨Ac0, Ac1⟩ := A3.cells
            have Al := A3.lt
            obtain ⟨Bc0, Bc1⟩ := B3.cells
            have Bl := B3.lt
            go_wp2_with fail
            refine (J2 _).mono ?_
            rintro e w4 ⟨rfl, hb4⟩
            have hp := hb3.alloc hb3.size (.cells #[.string JS, .string JA] 23)
            have Jp := Key.Pair.new w3 (.string JS) (.string JA)
            have A4 := (A3.alloc (.cells #[.string JS, .string JA] 23)).later hb4
            have B4 := (B3.alloc (.cells #[.string JS, .string JA] 23)).later hb4
            have J4 := Jp.later hb4
            replace hb4 := hp.trans (hb4.mono hp.size)
            clear A3 B3 hb3 hp Jp Ac0 Ac1 Bc0 Bc1 Al Bl
            generalize w3.heap.size = kj at *
            obtain ⟨Ac0, Ac1⟩ := A4.cells
            have Al := A4.lt
            obtain ⟨Bc0, Bc1⟩ := B4.cells
            have Bl := B4.lt
            obtain ⟨Jc0, Jc1⟩ := J4.cells
            have Jl := J4.lt
            go_wp2_with fail
            refine (C1 _).mono ?_
            rintro e w5 ⟨rfl, hb5⟩
            have hp := hb4.alloc hb4.size (.cells #[.string JS, .string JA] 23)
            have Wp := Key.Pair.new w4 (.string JS) (.string JA)
            have A5 := (A4.alloc (.cells #[.string JS, .string JA] 23)).later hb5
            have B5 := (B4.alloc (.cells #[.string JS, .string JA] 23)).later hb5
            have J5 := (J4.alloc (.cells #[.string JS, .string JA] 23)).later hb5
            have W5 := Wp.later hb5
            replace hb5 := hp.trans (hb5.mono hp.size)
            clear A4 B4 J4 hb4 hp Wp Ac0 Ac1 Bc0 Bc1 Jc0 Jc1 Al Bl Jl
            generalize w4.heap.size = kw at *
            obtain ⟨Ac0, Ac1⟩ := A5.cells
            have Al := A5.lt
            obtain ⟨Bc0, Bc1⟩ := B5.cells
            have Bl := B5.lt
            obtain ⟨Jc0, Jc1⟩ := J5.cells
            have Jl := J5.lt
            obtain ⟨Wc0, Wc1⟩ := W5.cells
            have Wl := W5.lt
            go_wp2_with fail
            refine (Key.awake10 _).mono ?_
            rintro e w6 ⟨rfl, hb6⟩
            replace hb6 := hb5.trans (hb6.mono hb5.size)
            go_wp2_with fail
            go_ret
            exact ⟨rfl, hb6⟩
          | some x =>
            have hx := Key.up_size u
            have C2 := fun w => Key.up11 s1 p1 (Key.str x) w (by omega) (by rw [Key.str_size]; omega)
            have hn := Key.goes_none hj u
            rw [Key.str_data, Key.upS_none hn, Key.upB_none hn] at C2
            rw [Key.upS_of u, Key.upB_of u] at C1
            generalize Key.joS none = JS at *
            generalize Key.joA none = JA at *
            generalize Key.str x = X at *
            clear hj u hn hx
            go_enter Try.func5, Try.ntmps5
            go_wp2_with fail
            refine (G _).mono ?_
            rintro e w1 ⟨rfl, hb1⟩
            have A1 := A0.later hb1
            have B1 := B0.later hb1
            replace hb1 := hb0.trans (hb1.mono hb0.size)
            clear A0 B0 hb0
            obtain ⟨Ac0, Ac1⟩ := A1.cells
            have Al := A1.lt
            obtain ⟨Bc0, Bc1⟩ := B1.cells
            have Bl := B1.lt
            go_wp2_with fail
            refine (G1 _).mono ?_
            rintro e w2 ⟨rfl, hb2⟩
            have A2 := A1.later hb2
            have B2 := B1.later hb2
            replace hb2 := hb1.trans (hb2.mono hb1.size)
            clear A1 B1 hb1 Ac0 Ac1 Bc0 Bc1 Al Bl
            obtain ⟨Ac0, Ac1⟩ := A2.cells
            have Al := A2.lt
            obtain ⟨Bc0, Bc1⟩ := B2.cells
            have Bl := B2.lt
            go_wp2_with fail
            refine (J1 _).mono ?_
            rintro e w3 ⟨rfl, hb3⟩
            have A3 := A2.later hb3
            have B3 := B2.later hb3
            replace hb3 := hb2.trans (hb3.mono hb2.size)
            clear A2 B2 hb2 Ac0 Ac1 Bc0 Bc1 Al Bl
            obtain ⟨Ac0, Ac1⟩ := A3.cells
            have Al := A3.lt
            obtain ⟨Bc0, Bc1⟩ := B3.cells
            have Bl := B3.lt
            go_wp2_with fail
            refine (J2 _).mono ?_
            rintro e w4 ⟨rfl, hb4⟩
            have hp := hb3.alloc hb3.size (.cells #[.string JS, .string JA] 23)
            have Jp := Key.Pair.new w3 (.string JS) (.string JA)
            have A4 := (A3.alloc (.cells #[.string JS, .string JA] 23)).later hb4
            have B4 := (B3.alloc (.cells #[.string JS, .string JA] 23)).later hb4
            have J4 := Jp.later hb4
            replace hb4 := hp.trans (hb4.mono hp.size)
            clear A3 B3 hb3 hp Jp Ac0 Ac1 Bc0 Bc1 Al Bl
            generalize w3.heap.size = kj at *
            obtain ⟨Ac0, Ac1⟩ := A4.cells
            have Al := A4.lt
            obtain ⟨Bc0, Bc1⟩ := B4.cells
            have Bl := B4.lt
            obtain ⟨Jc0, Jc1⟩ := J4.cells
            have Jl := J4.lt
            go_wp2_with fail
            refine (C1 _).mono ?_
            rintro e w5 ⟨rfl, hb5⟩
            have hp := hb4.alloc hb4.size (.cells #[.string JS, .string JA] 23)
            have Wp := Key.Pair.new w4 (.string JS) (.string JA)
            have A5 := (A4.alloc (.cells #[.string JS, .string JA] 23)).later hb5
            have B5 := (B4.alloc (.cells #[.string JS, .string JA] 23)).later hb5
            have J5 := (J4.alloc (.cells #[.string JS, .string JA] 23)).later hb5
            have W5 := Wp.later hb5
            replace hb5 := hp.trans (hb5.mono hp.size)
            clear A4 B4 J4 hb4 hp Wp Ac0 Ac1 Bc0 Bc1 Jc0 Jc1 Al Bl Jl
            generalize w4.heap.size = kw at *
            obtain ⟨Ac0, Ac1⟩ := A5.cells
            have Al := A5.lt
            obtain ⟨Bc0, Bc1⟩ := B5.cells
            have Bl := B5.lt
            obtain ⟨Jc0, Jc1⟩ := J5.cells
            have Jl := J5.lt
            obtain ⟨Wc0, Wc1⟩ := W5.cells
            have Wl := W5.lt
            go_wp2_with fail
            refine (C2 _).mono ?_
            rintro e w6 ⟨rfl, hb6⟩
            have A6 := A5.later hb6
            have B6 := B5.later hb6
            have J6 := J5.later hb6
            have W6 := W5.later hb6
            replace hb6 := hb5.trans (hb6.mono hb5.size)
            clear A5 B5 J5 W5 hb5 Ac0 Ac1 Bc0 Bc1 Jc0 Jc1 Wc0 Wc1 Al Bl Jl Wl
            obtain ⟨Ac0, Ac1⟩ := A6.cells
            have Al := A6.lt
            obtain ⟨Bc0, Bc1⟩ := B6.cells
            have Bl := B6.lt
            obtain ⟨Jc0, Jc1⟩ := J6.cells
            have Jl := J6.lt
            obtain ⟨Wc0, Wc1⟩ := W6.cells
            have Wl := W6.lt
            go_wp2_with fail
            refine (Key.awake10 _).mono ?_
            rintro e w7 ⟨rfl, hb7⟩
            replace hb7 := hb6.trans (hb7.mono hb6.size)
            go_wp2_with fail
            go_ret
            exact ⟨rfl, hb7⟩
        | some j =>
          rw [hj, Option.isSome_some, Key.joS_some, Key.joA_some] at J1 J2
          obtain ⟨z1, z2⟩ := Key.join_sizes hj
          have C3 := fun w => Key.up11 (Key.str j.strip) (Key.str j.add) a2 w (by omega) (by omega)
          rw [Key.lf_str] at C3
          clear z1 z2
          cases u : Key.up (Key.lf s0 p0) a2.data.toList with
          | none =>
            have hn := Key.goes_not hj u
            rw [Key.upS_none u, Key.upB_none u] at C1
            rw [Key.upS_none hn, Key.upB_none hn] at C3
            clear hj u hn
            generalize Key.str j.strip = JS at *
            generalize Key.str j.add = JA at *
            go_enter Try.func5, Try.ntmps5
            go_wp2_with fail
            refine (G _).mono ?_
            rintro e w1 ⟨rfl, hb1⟩
            have A1 := A0.later hb1
            have B1 := B0.later hb1
            replace hb1 := hb0.trans (hb1.mono hb0.size)
            clear A0 B0 hb0
            obtain ⟨Ac0, Ac1⟩ := A1.cells
            have Al := A1.lt
            obtain ⟨Bc0, Bc1⟩ := B1.cells
            have Bl := B1.lt
            go_wp2_with fail
            refine (G1 _).mono ?_
            rintro e w2 ⟨rfl, hb2⟩
            have A2 := A1.later hb2
            have B2 := B1.later hb2
            replace hb2 := hb1.trans (hb2.mono hb1.size)
            clear A1 B1 hb1 Ac0 Ac1 Bc0 Bc1 Al Bl
            obtain ⟨Ac0, Ac1⟩ := A2.cells
            have Al := A2.lt
            obtain ⟨Bc0, Bc1⟩ := B2.cells
            have Bl := B2.lt
            go_wp2_with fail
            refine (J1 _).mono ?_
            rintro e w3 ⟨rfl, hb3⟩
            have A3 := A2.later hb3
            have B3 := B2.later hb3
            replace hb3 := hb2.trans (hb3.mono hb2.size)
            clear A2 B2 hb2 Ac0 Ac1 Bc0 Bc1 Al Bl
            obtain ⟨Ac0, Ac1⟩ := A3.cells
            have Al := A3.lt
            obtain ⟨Bc0, Bc1⟩ := B3.cells
            have Bl := B3.lt
            go_wp2_with fail
            refine (J2 _).mono ?_
            rintro e w4 ⟨rfl, hb4⟩
            have hp := hb3.alloc hb3.size (.cells #[.string JS, .string JA] 23)
            have Jp := Key.Pair.new w3 (.string JS) (.string JA)
            have A4 := (A3.alloc (.cells #[.string JS, .string JA] 23)).later hb4
            have B4 := (B3.alloc (.cells #[.string JS, .string JA] 23)).later hb4
            have J4 := Jp.later hb4
            replace hb4 := hp.trans (hb4.mono hp.size)
            clear A3 B3 hb3 hp Jp Ac0 Ac1 Bc0 Bc1 Al Bl
            generalize w3.heap.size = kj at *
            obtain ⟨Ac0, Ac1⟩ := A4.cells
            have Al := A4.lt
            obtain ⟨Bc0, Bc1⟩ := B4.cells
            have Bl := B4.lt
            obtain ⟨Jc0, Jc1⟩ := J4.cells
            have Jl := J4.lt
            go_wp2_with fail
            refine (C1 _).mono ?_
            rintro e w5 ⟨rfl, hb5⟩
            have hp := hb4.alloc hb4.size (.cells #[.string JS, .string JA] 23)
            have Wp := Key.Pair.new w4 (.string JS) (.string JA)
            have A5 := (A4.alloc (.cells #[.string JS, .string JA] 23)).later hb5
            have B5 := (B4.alloc (.cells #[.string JS, .string JA] 23)).later hb5
            have J5 := (J4.alloc (.cells #[.string JS, .string JA] 23)).later hb5
            have W5 := Wp.later hb5
            replace hb5 := hp.trans (hb5.mono hp.size)
            clear A4 B4 J4 hb4 hp Wp Ac0 Ac1 Bc0 Bc1 Jc0 Jc1 Al Bl Jl
            generalize w4.heap.size = kw at *
            obtain ⟨Ac0, Ac1⟩ := A5.cells
            have Al := A5.lt
            obtain ⟨Bc0, Bc1⟩ := B5.cells
            have Bl := B5.lt
            obtain ⟨Jc0, Jc1⟩ := J5.cells
            have Jl := J5.lt
            obtain ⟨Wc0, Wc1⟩ := W5.cells
            have Wl := W5.lt
            go_wp2_with fail
            refine (C3 _).mono ?_
            rintro e w6 ⟨rfl, hb6⟩
            have A6 := A5.later hb6
            have B6 := B5.later hb6
            have J6 := J5.later hb6
            have W6 := W5.later hb6
            replace hb6 := hb5.trans (hb6.mono hb5.size)
            clear A5 B5 J5 W5 hb5 Ac0 Ac1 Bc0 Bc1 Jc0 Jc1 Wc0 Wc1 Al Bl Jl Wl
            obtain ⟨Ac0, Ac1⟩ := A6.cells
            have Al := A6.lt
            obtain ⟨Bc0, Bc1⟩ := B6.cells
            have Bl := B6.lt
            obtain ⟨Jc0, Jc1⟩ := J6.cells
            have Jl := J6.lt
            obtain ⟨Wc0, Wc1⟩ := W6.cells
            have Wl := W6.lt
            go_wp2_with fail
            refine (Key.awake10 _).mono ?_
            rintro e w7 ⟨rfl, hb7⟩
            replace hb7 := hb6.trans (hb7.mono hb6.size)
            go_wp2_with fail
            go_ret
            exact ⟨rfl, hb7⟩
          | some x =>
            have hx := Key.up_size u
            have C2 := fun w => Key.up11 s1 p1 (Key.str x) w (by omega) (by rw [Key.str_size]; omega)
            have hn := Key.goes_some hj u
            rw [Key.str_data] at C2
            unfold Key.upS Key.upB at C3 C2
            rw [hn] at C3
            rw [Key.upS_of u, Key.upB_of u] at C1
            generalize Key.str ((Key.up (Key.lf s1 p1) x).getD []) = Y at *
            generalize (Key.up (Key.lf s1 p1) x).isSome = q at *
            generalize Key.str x = X at *
            clear hj u hn hx
            generalize Key.str j.strip = JS at *
            generalize Key.str j.add = JA at *
            go_enter Try.func5, Try.ntmps5
            go_wp2_with fail
            refine (G _).mono ?_
            rintro e w1 ⟨rfl, hb1⟩
            have A1 := A0.later hb1
            have B1 := B0.later hb1
            replace hb1 := hb0.trans (hb1.mono hb0.size)
            clear A0 B0 hb0
            obtain ⟨Ac0, Ac1⟩ := A1.cells
            have Al := A1.lt
            obtain ⟨Bc0, Bc1⟩ := B1.cells
            have Bl := B1.lt
            go_wp2_with fail
            refine (G1 _).mono ?_
            rintro e w2 ⟨rfl, hb2⟩
            have A2 := A1.later hb2
            have B2 := B1.later hb2
            replace hb2 := hb1.trans (hb2.mono hb1.size)
            clear A1 B1 hb1 Ac0 Ac1 Bc0 Bc1 Al Bl
            obtain ⟨Ac0, Ac1⟩ := A2.cells
            have Al := A2.lt
            obtain ⟨Bc0, Bc1⟩ := B2.cells
            have Bl := B2.lt
            go_wp2_with fail
            refine (J1 _).mono ?_
            rintro e w3 ⟨rfl, hb3⟩
            have A3 := A2.later hb3
            have B3 := B2.later hb3
            replace hb3 := hb2.trans (hb3.mono hb2.size)
            clear A2 B2 hb2 Ac0 Ac1 Bc0 Bc1 Al Bl
            obtain ⟨Ac0, Ac1⟩ := A3.cells
            have Al := A3.lt
            obtain ⟨Bc0, Bc1⟩ := B3.cells
            have Bl := B3.lt
            go_wp2_with fail
            refine (J2 _).mono ?_
            rintro e w4 ⟨rfl, hb4⟩
            have hp := hb3.alloc hb3.size (.cells #[.string JS, .string JA] 23)
            have Jp := Key.Pair.new w3 (.string JS) (.string JA)
            have A4 := (A3.alloc (.cells #[.string JS, .string JA] 23)).later hb4
            have B4 := (B3.alloc (.cells #[.string JS, .string JA] 23)).later hb4
            have J4 := Jp.later hb4
            replace hb4 := hp.trans (hb4.mono hp.size)
            clear A3 B3 hb3 hp Jp Ac0 Ac1 Bc0 Bc1 Al Bl
            generalize w3.heap.size = kj at *
            obtain ⟨Ac0, Ac1⟩ := A4.cells
            have Al := A4.lt
            obtain ⟨Bc0, Bc1⟩ := B4.cells
            have Bl := B4.lt
            obtain ⟨Jc0, Jc1⟩ := J4.cells
            have Jl := J4.lt
            go_wp2_with fail
            refine (C1 _).mono ?_
            rintro e w5 ⟨rfl, hb5⟩
            have hp := hb4.alloc hb4.size (.cells #[.string JS, .string JA] 23)
            have Wp := Key.Pair.new w4 (.string JS) (.string JA)
            have A5 := (A4.alloc (.cells #[.string JS, .string JA] 23)).later hb5
            have B5 := (B4.alloc (.cells #[.string JS, .string JA] 23)).later hb5
            have J5 := (J4.alloc (.cells #[.string JS, .string JA] 23)).later hb5
            have W5 := Wp.later hb5
            replace hb5 := hp.trans (hb5.mono hp.size)
            clear A4 B4 J4 hb4 hp Wp Ac0 Ac1 Bc0 Bc1 Jc0 Jc1 Al Bl Jl
            generalize w4.heap.size = kw at *
            obtain ⟨Ac0, Ac1⟩ := A5.cells
            have Al := A5.lt
            obtain ⟨Bc0, Bc1⟩ := B5.cells
            have Bl := B5.lt
            obtain ⟨Jc0, Jc1⟩ := J5.cells
            have Jl := J5.lt
            obtain ⟨Wc0, Wc1⟩ := W5.cells
            have Wl := W5.lt
            go_wp2_with fail
            refine (C2 _).mono ?_
            rintro e w6 ⟨rfl, hb6⟩
            have A6 := A5.later hb6
            have B6 := B5.later hb6
            have J6 := J5.later hb6
            have W6 := W5.later hb6
            replace hb6 := hb5.trans (hb6.mono hb5.size)
            clear A5 B5 J5 W5 hb5 Ac0 Ac1 Bc0 Bc1 Jc0 Jc1 Wc0 Wc1 Al Bl Jl Wl
            obtain ⟨Ac0, Ac1⟩ := A6.cells
            have Al := A6.lt
            obtain ⟨Bc0, Bc1⟩ := B6.cells
            have Bl := B6.lt
            obtain ⟨Jc0, Jc1⟩ := J6.cells
            have Jl := J6.lt
            obtain ⟨Wc0, Wc1⟩ := W6.cells
            have Wl := W6.lt
            go_wp2_with fail
            refine (C3 _).mono ?_
            rintro e w7 ⟨rfl, hb7⟩
            have A7 := A6.later hb7
            have B7 := B6.later hb7
            have J7 := J6.later hb7
            have W7 := W6.later hb7
            replace hb7 := hb6.trans (hb7.mono hb6.size)
            clear A6 B6 J6 W6 hb6 Ac0 Ac1 Bc0 Bc1 Jc0 Jc1 Wc0 Wc1 Al Bl Jl Wl
            obtain ⟨Ac0, Ac1⟩ := A7.cells
            have Al := A7.lt
            obtain ⟨Bc0, Bc1⟩ := B7.cells
            have Bl := B7.lt
            obtain ⟨Jc0, Jc1⟩ := J7.cells
            have Jl := J7.lt
            obtain ⟨Wc0, Wc1⟩ := W7.cells
            have Wl := W7.lt
            go_wp2_with fail
            refine (Key.awake10 _).mono ?_
            rintro e w8 ⟨rfl, hb8⟩
            replace hb8 := hb7.trans (hb8.mono hb7.size)
            go_wp2_with fail
            go_ret
            exact ⟨rfl, hb8⟩
    · rw [hg1] at G1
      go_enter Try.func5, Try.ntmps5
      go_wp2_with fail
      refine (G _).mono ?_
      rintro e w1 ⟨rfl, hb1⟩
      have A1 := A0.later hb1
      have B1 := B0.later hb1
      replace hb1 := hb0.trans (hb1.mono hb0.size)
      clear A0 B0 hb0
      obtain ⟨Ac0, Ac1⟩ := A1.cells
      have Al := A1.lt
      obtain ⟨Bc0, Bc1⟩ := B1.cells
      have Bl := B1.lt
      go_wp2_with fail
      refine (G1 _).mono ?_
      rintro e w2 ⟨rfl, hb2⟩
      have A2 := A1.later hb2
      have B2 := B1.later hb2
      replace hb2 := hb1.trans (hb2.mono hb1.size)
      clear A1 B1 hb1 Ac0 Ac1 Bc0 Bc1 Al Bl
      obtain ⟨Ac0, Ac1⟩ := A2.cells
      have Al := A2.lt
      obtain ⟨Bc0, Bc1⟩ := B2.cells
      have Bl := B2.lt
      go_wp2_with fail
      refine (Key.awake10 _).mono ?_
      rintro e w3 ⟨rfl, hb3⟩
      replace hb3 := hb2.trans (hb3.mono hb2.size)
      go_wp2_with fail
      go_ret
      exact ⟨rfl, hb3⟩
  · rw [hg] at G
    go_enter Try.func5, Try.ntmps5
    go_wp2_with fail
    refine (G _).mono ?_
    rintro e w1 ⟨rfl, hb1⟩
    have A1 := A0.later hb1
    have B1 := B0.later hb1
    replace hb1 := hb0.trans (hb1.mono hb0.size)
    clear A0 B0 hb0
    obtain ⟨Ac0, Ac1⟩ := A1.cells
    have Al := A1.lt
    obtain ⟨Bc0, Bc1⟩ := B1.cells
    have Bl := B1.lt
    go_wp2_with fail
    refine (Key.awake10 _).mono ?_
    rintro e w2 ⟨rfl, hb2⟩
    replace hb2 := hb1.trans (hb2.mono hb1.size)
    go_wp2_with fail
    go_ret
    exact ⟨rfl, hb2⟩

set_option maxRecDepth 100000 in
theorem lifted (os : Os) (started : os.Started) (H : Type) (enc : TypeId × Value → H) :
    ReturnsInHanded {} Try.checked os 5 .any (Rows.liftJoinsSpec.pre6 enc Try.prog Try.f5 Rows.liftJoinsRow.domain false) (Rows.liftJoinsSpec.post enc Try.prog Try.f5 false true false false) := by
  refine returnsInHanded_of_change (C := Try.checked) own started (by kernel_rfl) Try.func5
    (ChangeSpec.witness6 (enc := enc) (C := Try.checked) false ⟨#[], #[.agg #[.string ByteArray.empty, .string ByteArray.empty], .agg #[.string ByteArray.empty, .string ByteArray.empty], .string ByteArray.empty], []⟩ 8 (by kernel_rfl) (by kernel_rfl) (by kernel_rfl) (by kernel_rfl)) ?_
  intro W base args ds gs before hval0 hW hcnd _
  have hval : ∀ (j : Nat) t v, Try.f5.params[j]? = some t → args[j]? = some v → Value.okWide Try.prog W .any base t v := hval0
  have hW' := hW
  obtain ⟨p, q, hA0, hV, rfl, hfz, hnd⟩ := hW
  have hA : DataW.TrodAll enc Try.prog W 0 (fun _ => true) true Try.f5.params.toList args.toList ds p := hA0
  rw [Try.params5] at hA hval
  obtain ⟨v0, vs0, d0, ds0, pp0, qq0, hargs, rfl, rfl, g0, r0⟩ := trodAll_cons hA
  obtain ⟨v1, vs1, d1, ds1, pp1, qq1, rfl, rfl, rfl, g1, r1⟩ := trodAll_cons r0
  obtain ⟨v2, vs2, d2, ds2, pp2, qq2, rfl, rfl, rfl, g2, r2⟩ := trodAll_cons r1
  obtain ⟨rfl, rfl, rfl⟩ := trodAll_nil r2
  obtain rfl : args = #[v0, v1, v2] := by cases args; simp_all
  obtain ⟨rfl, rfl⟩ := trodVars_none hV
  obtain ⟨x0, y0, dx0, dy0, m0, rfl, rfl, rfl, hx0, hy0⟩ := open_agg2 Try.underlying23 (by kernel_rfl) cells23 (hval 0 23 v0 rfl rfl) g0
  obtain ⟨s0, es0, rfl, ws0⟩ := DataW.trod_string Try.underlying9 hx0
  obtain ⟨p0, ep0, rfl, wp0⟩ := DataW.trod_string Try.underlying9 hy0
  simp at es0 ep0
  subst es0 ep0
  obtain ⟨x1, y1, dx1, dy1, m1, rfl, rfl, rfl, hx1, hy1⟩ := open_agg2 Try.underlying23 (by kernel_rfl) cells23 (hval 1 23 v1 rfl rfl) g1
  obtain ⟨s1, es1, rfl, ws1⟩ := DataW.trod_string Try.underlying9 hx1
  obtain ⟨p1, ep1, rfl, wp1⟩ := DataW.trod_string Try.underlying9 hy1
  simp at es1 ep1
  subst es1 ep1
  obtain ⟨a2, rfl, rfl, rfl, wa2⟩ := open_string Try.underlying9 (hval 2 9 v2 rfl rfl) g2
  clear hA0 hval0
  have rd0 : ∀ (W' : World) (sp : Nat → Bool), DataW.Trod enc Try.prog W' 0 sp true 23 (.agg #[.string s0, .string p0]) (.agg [.lit (.string s0.data.toList), .lit (.string p0.data.toList)]) [] := fun W' sp =>
    shut_agg2 (y0 := (.lit (.string s0.data.toList), [])) (y1 := (.lit (.string p0.data.toList), [])) Try.underlying23 (by kernel_rfl) cells23 (Deep.shut_string_cell Try.underlying9 ws0) (Deep.shut_string_cell Try.underlying9 wp0)
  have rd1 : ∀ (W' : World) (sp : Nat → Bool), DataW.Trod enc Try.prog W' 0 sp true 23 (.agg #[.string s1, .string p1]) (.agg [.lit (.string s1.data.toList), .lit (.string p1.data.toList)]) [] := fun W' sp =>
    shut_agg2 (y0 := (.lit (.string s1.data.toList), [])) (y1 := (.lit (.string p1.data.toList), [])) Try.underlying23 (by kernel_rfl) cells23 (Deep.shut_string_cell Try.underlying9 ws1) (Deep.shut_string_cell Try.underlying9 wp1)
  refine (walk s0 p0 s1 p1 a2 W ws0 wp0 ws1 wp1 wa2).mono fun e W' ⟨he, bel⟩ => ?_
  subst he
  exact ⟨_, rfl, _, _, _, [], _, [], hW', trodAll_mk1 (shut_bool Try.underlying4 _), (trodAll_cons_mk (rd0 _ _) (trodAll_cons_mk (rd1 _ _) (trodAll_cons_mk (shut_string Try.underlying9 wa2) trodAll_mk0))), rfl, bel.frame _, fun h => by cases h⟩

theorem over : Rows.liftJoinsRow.holds Try.pinned (OpenSpec.ofChange Rows.liftJoinsSpec) :=
  OpenClaim.holds_of_wide 5 Try.f5 rfl rfl rfl rfl rfl rfl rfl ⟨rfl, rfl, rfl, rfl, rfl⟩ rfl rfl rfl rfl rfl (by kernel_rfl) Try.func5 (by kernel_rfl)
    (of_decide_eq_true (by kernel_rfl)) (by unfold Func.isWrapper; first | (rw [if_pos (by decide +kernel)]; kernel_rfl) | (rw [if_neg (by decide +kernel)]; exact ⟨rfl, rfl⟩))
    (fun os started H enc _ => lifted os started H enc)

/-- the statement -/
theorem proved : Rows.LiftJoinsSaid := over
#print axioms proved
end Go.Proofs.Ytlpnnheopalhaaa.liftJoins
