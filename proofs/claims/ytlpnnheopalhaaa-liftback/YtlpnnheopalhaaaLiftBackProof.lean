/-
  Proved: the call of the statement LiftBack returns true for every lift and every two texts (a key to which a lift goes goes back to where it came from; and the order of two keys stays), and they read afterwards as they read before. No condition.
  The frame of the row's step was written by the guide's proof-skeleton.mjs; the walk is this text's own.
-/
import Derived.Test.YtlpnnheopalhaaaJoin
import Derived.WalkKit
import Derived.ProofKit
import Derived.OpenShut
import Derived.ShutString
import Derived.ChangeOld
import Derived.Below
import Derived.Lib.SmallJoins
namespace Go.Proofs.Ytlpnnheopalhaaa.liftBack
open Go.ChangeShapes Go.WideShapes Go.ChangeAt Go.RowKit Go.Joins
open Go.ChangeMaps (open_string shut_string)
open Go.Op (bytesLess)
set_option linter.unusedVariables false

theorem own : ownKnob Try.prog.godebug = none := by kernel_rfl
theorem cells23 : Try.prog.cellsOf 23 = 2 := by kernel_rfl

set_option maxHeartbeats 4000000 in
theorem walk (s0 p0 : ByteArray) (a1 : ByteArray) (a2 : ByteArray) (w : World) (ws0 : s0.size ≤ maxLen) (wp0 : p0.size ≤ maxLen) (wa1 : a1.size ≤ maxLen) (wa2 : a2.size ≤ maxLen) :
    Calls Try.prog 4 #[Key.lv s0 p0, .string a1, .string a2] w fun e w' => e = .returned (.bool true) ∧ Below w.heap.size w w' := by
  unfold maxLen at ws0 wp0 wa1 wa2
  have A0 := Key.Pair.new w (.string s0) (.string p0)
  have hb0 := Key.below_one w (.cells #[.string s0, .string p0] 23)
  have G := Key.great8 s0 p0
  cases hg : (decide (300 < s0.size) || decide (300 < p0.size))
  · rw [hg] at G
    have hl : s0.size ≤ 300 ∧ p0.size ≤ 300 := by simp at hg; omega
    by_cases hk1 : 300 < a1.size
    · have hd1 : decide ((300 : Int) < (a1.size : Int)) = true := by simp; omega
      go_enter Try.func4, Try.ntmps4
      go_wp2_with fail
      refine (G _).mono ?_
      rintro e w1 ⟨rfl, hb1⟩
      have A1 := A0.later hb1
      replace hb1 := hb0.trans (hb1.mono hb0.size)
      clear A0 hb0
      obtain ⟨Ac0, Ac1⟩ := A1.cells
      go_wp2_with fail
      refine (Key.awake10 _).mono ?_
      rintro e w2 ⟨rfl, hb2⟩
      replace hb2 := hb1.trans (hb2.mono hb1.size)
      go_wp2_with fail
      go_ret
      exact ⟨rfl, hb2⟩
    · have hd1 : decide ((300 : Int) < (a1.size : Int)) = false := by simp; omega
      by_cases hk2 : 300 < a2.size
      · have hd2 : decide ((300 : Int) < (a2.size : Int)) = true := by simp; omega
        go_enter Try.func4, Try.ntmps4
        go_wp2_with fail
        refine (G _).mono ?_
        rintro e w1 ⟨rfl, hb1⟩
        have A1 := A0.later hb1
        replace hb1 := hb0.trans (hb1.mono hb0.size)
        clear A0 hb0
        obtain ⟨Ac0, Ac1⟩ := A1.cells
        go_wp2_with fail
        refine (Key.awake10 _).mono ?_
        rintro e w2 ⟨rfl, hb2⟩
        replace hb2 := hb1.trans (hb2.mono hb1.size)
        go_wp2_with fail
        go_ret
        exact ⟨rfl, hb2⟩
      · have hd2 : decide ((300 : Int) < (a2.size : Int)) = false := by simp; omega
        have C1 := fun w => Key.up11 s0 p0 a1 w (by omega) (by omega)
        have C2 := fun w => Key.up11 s0 p0 a2 w (by omega) (by omega)
        cases u1 : Key.up (Key.lf s0 p0) a1.data.toList with
        | none =>
          rw [show Key.upS (Key.lf s0 p0) a1.data.toList = ⟨#[]⟩ by unfold Key.upS; rw [u1]; rfl, show Key.upB (Key.lf s0 p0) a1.data.toList = false by unfold Key.upB; rw [u1]; rfl] at C1
          clear u1
          generalize Key.upS (Key.lf s0 p0) a2.data.toList = S2 at *
          generalize Key.upB (Key.lf s0 p0) a2.data.toList = b2 at *
          go_enter Try.func4, Try.ntmps4
          go_wp2_with fail
          refine (G _).mono ?_
          rintro e w1 ⟨rfl, hb1⟩
          have A1 := A0.later hb1
          replace hb1 := hb0.trans (hb1.mono hb0.size)
          clear A0 hb0
          obtain ⟨Ac0, Ac1⟩ := A1.cells
          go_wp2_with fail
          refine (C1 _).mono ?_
          rintro e w2 ⟨rfl, hb2⟩
          have A2 := A1.later hb2
          replace hb2 := hb1.trans (hb2.mono hb1.size)
          clear A1 hb1 Ac0 Ac1
          obtain ⟨Ac0, Ac1⟩ := A2.cells
          go_wp2_with fail
          refine (C2 _).mono ?_
          rintro e w3 ⟨rfl, hb3⟩
          have A3 := A2.later hb3
          replace hb3 := hb2.trans (hb3.mono hb2.size)
          clear A2 hb2 Ac0 Ac1
          obtain ⟨Ac0, Ac1⟩ := A3.cells
          go_wp2_with fail
          refine (Key.awake10 _).mono ?_
          rintro e w4 ⟨rfl, hb4⟩
          replace hb4 := hb3.trans (hb4.mono hb3.size)
          go_wp2_with fail
          go_ret
          exact ⟨rfl, hb4⟩
        | some x =>
          have hx := Key.up_size u1
          have hback := Key.up_back u1
          have C3 := fun w => Key.down13 s0 p0 (Key.str x) w (by omega) (by rw [Key.str_size]; omega)
          rw [Key.str_data, show Key.upS (Key.lf p0 s0) x = a1 by unfold Key.upS; rw [show Key.up (Key.lf p0 s0) x = _ from hback]; exact Key.str_eq a1, show Key.upB (Key.lf p0 s0) x = true by unfold Key.upB; rw [show Key.up (Key.lf p0 s0) x = _ from hback]; rfl] at C3
          rw [show Key.upS (Key.lf s0 p0) a1.data.toList = Key.str x by unfold Key.upS; rw [u1]; rfl, show Key.upB (Key.lf s0 p0) a1.data.toList = true by unfold Key.upB; rw [u1]; rfl] at C1
          cases u2 : Key.up (Key.lf s0 p0) a2.data.toList with
          | none =>
            rw [show Key.upS (Key.lf s0 p0) a2.data.toList = ⟨#[]⟩ by unfold Key.upS; rw [u2]; rfl, show Key.upB (Key.lf s0 p0) a2.data.toList = false by unfold Key.upB; rw [u2]; rfl] at C2
            clear u1 u2 hback hx
            generalize Key.str x = X at *
            go_enter Try.func4, Try.ntmps4
            go_wp2_with fail
            refine (G _).mono ?_
            rintro e w1 ⟨rfl, hb1⟩
            have A1 := A0.later hb1
            replace hb1 := hb0.trans (hb1.mono hb0.size)
            clear A0 hb0
            obtain ⟨Ac0, Ac1⟩ := A1.cells
            go_wp2_with fail
            refine (C1 _).mono ?_
            rintro e w2 ⟨rfl, hb2⟩
            have A2 := A1.later hb2
            replace hb2 := hb1.trans (hb2.mono hb1.size)
            clear A1 hb1 Ac0 Ac1
            obtain ⟨Ac0, Ac1⟩ := A2.cells
            go_wp2_with fail
            refine (C2 _).mono ?_
            rintro e w3 ⟨rfl, hb3⟩
            have A3 := A2.later hb3
            replace hb3 := hb2.trans (hb3.mono hb2.size)
            clear A2 hb2 Ac0 Ac1
            obtain ⟨Ac0, Ac1⟩ := A3.cells
            go_wp2_with fail
            refine (C3 _).mono ?_
            rintro e w4 ⟨rfl, hb4⟩
            have A4 := A3.later hb4
            replace hb4 := hb3.trans (hb4.mono hb3.size)
            clear A3 hb3 Ac0 Ac1
            obtain ⟨Ac0, Ac1⟩ := A4.cells
            go_wp2_with fail
            refine (Key.awake10 _).mono ?_
            rintro e w5 ⟨rfl, hb5⟩
            replace hb5 := hb4.trans (hb5.mono hb4.size)
            go_wp2_with fail
            go_ret
            exact ⟨rfl, hb5⟩
          | some y =>
            rw [show Key.upS (Key.lf s0 p0) a2.data.toList = Key.str y by unfold Key.upS; rw [u2]; rfl, show Key.upB (Key.lf s0 p0) a2.data.toList = true by unfold Key.upB; rw [u2]; rfl] at C2
            have ho : bytesLess (Key.str x).toList (Key.str y).toList = bytesLess a1.toList a2.toList := by
              rw [Lib.toList_data, Lib.toList_data, Lib.toList_data, Lib.toList_data, Key.str_data, Key.str_data]
              exact Key.up_less u1 u2
            clear u1 u2 hback hx
            generalize Key.str x = X at *
            generalize Key.str y = Y at *
            cases hlt : bytesLess a1.toList a2.toList
            all_goals
              rw [hlt] at ho
              go_enter Try.func4, Try.ntmps4
              go_wp2_with fail
              refine (G _).mono ?_
              rintro e w1 ⟨rfl, hb1⟩
              have A1 := A0.later hb1
              replace hb1 := hb0.trans (hb1.mono hb0.size)
              clear A0 hb0
              obtain ⟨Ac0, Ac1⟩ := A1.cells
              go_wp2_with fail
              refine (C1 _).mono ?_
              rintro e w2 ⟨rfl, hb2⟩
              have A2 := A1.later hb2
              replace hb2 := hb1.trans (hb2.mono hb1.size)
              clear A1 hb1 Ac0 Ac1
              obtain ⟨Ac0, Ac1⟩ := A2.cells
              go_wp2_with fail
              refine (C2 _).mono ?_
              rintro e w3 ⟨rfl, hb3⟩
              have A3 := A2.later hb3
              replace hb3 := hb2.trans (hb3.mono hb2.size)
              clear A2 hb2 Ac0 Ac1
              obtain ⟨Ac0, Ac1⟩ := A3.cells
              go_wp2_with fail
              refine (C3 _).mono ?_
              rintro e w4 ⟨rfl, hb4⟩
              have A4 := A3.later hb4
              replace hb4 := hb3.trans (hb4.mono hb3.size)
              clear A3 hb3 Ac0 Ac1
              obtain ⟨Ac0, Ac1⟩ := A4.cells
              go_wp2_with fail
              refine (Key.awake10 _).mono ?_
              rintro e w5 ⟨rfl, hb5⟩
              replace hb5 := hb4.trans (hb5.mono hb4.size)
              go_wp2_with fail
              go_ret
              exact ⟨rfl, hb5⟩
  · rw [hg] at G
    go_enter Try.func4, Try.ntmps4
    go_wp2_with fail
    refine (G _).mono ?_
    rintro e w1 ⟨rfl, hb1⟩
    have A1 := A0.later hb1
    replace hb1 := hb0.trans (hb1.mono hb0.size)
    clear A0 hb0
    obtain ⟨Ac0, Ac1⟩ := A1.cells
    go_wp2_with fail
    refine (Key.awake10 _).mono ?_
    rintro e w2 ⟨rfl, hb2⟩
    replace hb2 := hb1.trans (hb2.mono hb1.size)
    go_wp2_with fail
    go_ret
    exact ⟨rfl, hb2⟩

set_option maxRecDepth 100000 in
theorem lifted (os : Os) (started : os.Started) (H : Type) (enc : TypeId × Value → H) :
    ReturnsInHanded {} Try.checked os 4 .any (Rows.liftBackSpec.pre6 enc Try.prog Try.f4 Rows.liftBackRow.domain false) (Rows.liftBackSpec.post enc Try.prog Try.f4 false true false false) := by
  refine returnsInHanded_of_change (C := Try.checked) own started (by kernel_rfl) Try.func4
    (ChangeSpec.witness6 (enc := enc) (C := Try.checked) false ⟨#[], #[.agg #[.string ByteArray.empty, .string ByteArray.empty], .string ByteArray.empty, .string ByteArray.empty], []⟩ 8 (by kernel_rfl) (by kernel_rfl) (by kernel_rfl) (by kernel_rfl)) ?_
  intro W base args ds gs before hval0 hW hcnd _
  have hval : ∀ (j : Nat) t v, Try.f4.params[j]? = some t → args[j]? = some v → Value.okWide Try.prog W .any base t v := hval0
  have hW' := hW
  obtain ⟨p, q, hA0, hV, rfl, hfz, hnd⟩ := hW
  have hA : DataW.TrodAll enc Try.prog W 0 (fun _ => true) true Try.f4.params.toList args.toList ds p := hA0
  rw [Try.params4] at hA hval
  obtain ⟨v0, vs0, d0, ds0, pp0, qq0, hargs, rfl, rfl, g0, r0⟩ := trodAll_cons hA
  obtain ⟨v1, vs1, d1, ds1, pp1, qq1, rfl, rfl, rfl, g1, r1⟩ := trodAll_cons r0
  obtain ⟨v2, vs2, d2, ds2, pp2, qq2, rfl, rfl, rfl, g2, r2⟩ := trodAll_cons r1
  obtain ⟨rfl, rfl, rfl⟩ := trodAll_nil r2
  obtain rfl : args = #[v0, v1, v2] := by cases args; simp_all
  obtain ⟨rfl, rfl⟩ := trodVars_none hV
  obtain ⟨x0, y0, dx0, dy0, m0, rfl, rfl, rfl, hx0, hy0⟩ := open_agg2 Try.underlying23 (by kernel_rfl) cells23 (hval 0 23 v0 rfl rfl) g0
  obtain ⟨s0, es0, rfl, ws0⟩ := DataW.trod_string Try.underlying9 hx0
  obtain ⟨p0, ep0, rfl, wp0⟩ := DataW.trod_string Try.underlying9 hy0
  simp at es0 ep0
  subst es0 ep0
  obtain ⟨a1, rfl, rfl, rfl, wa1⟩ := open_string Try.underlying9 (hval 1 9 v1 rfl rfl) g1
  obtain ⟨a2, rfl, rfl, rfl, wa2⟩ := open_string Try.underlying9 (hval 2 9 v2 rfl rfl) g2
  clear hA0 hval0
  have rd0 : ∀ (W' : World) (sp : Nat → Bool), DataW.Trod enc Try.prog W' 0 sp true 23 (.agg #[.string s0, .string p0]) (.agg [.lit (.string s0.data.toList), .lit (.string p0.data.toList)]) [] := fun W' sp =>
    shut_agg2 (y0 := (.lit (.string s0.data.toList), [])) (y1 := (.lit (.string p0.data.toList), [])) Try.underlying23 (by kernel_rfl) cells23 (Deep.shut_string_cell Try.underlying9 ws0) (Deep.shut_string_cell Try.underlying9 wp0)
  refine (walk s0 p0 a1 a2 W ws0 wp0 wa1 wa2).mono fun e W' ⟨he, bel⟩ => ?_
  subst he
  exact ⟨_, rfl, _, _, _, [], _, [], hW', trodAll_mk1 (shut_bool Try.underlying4 _), (trodAll_cons_mk (rd0 _ _) (trodAll_cons_mk (shut_string Try.underlying9 wa1) (trodAll_cons_mk (shut_string Try.underlying9 wa2) trodAll_mk0))), rfl, bel.frame _, fun h => by cases h⟩

theorem over : Rows.liftBackRow.holds Try.pinned (OpenSpec.ofChange Rows.liftBackSpec) :=
  OpenClaim.holds_of_wide 4 Try.f4 rfl rfl rfl rfl rfl rfl rfl ⟨rfl, rfl, rfl, rfl, rfl⟩ rfl rfl rfl rfl rfl (by kernel_rfl) Try.func4 (by kernel_rfl)
    (of_decide_eq_true (by kernel_rfl)) (by unfold Func.isWrapper; first | (rw [if_pos (by decide +kernel)]; kernel_rfl) | (rw [if_neg (by decide +kernel)]; exact ⟨rfl, rfl⟩))
    (fun os started H enc _ => lifted os started H enc)

/-- the statement -/
theorem proved : Rows.LiftBackSaid := over
#print axioms proved
end Go.Proofs.Ytlpnnheopalhaaa.liftBack
