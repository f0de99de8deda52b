/-
  Proved: the call of the statement LiftGoes returns true for every lift, every text and every range (where a lift goes from any key, and back, and where it goes from a range, is the document's), and they read afterwards as they read before. No condition.
  The frame of the row's step was written by the guide's proof-skeleton.mjs; the walk is this text's own.
-/
import Derived.Test.YtlpnnheopalhaaaQuiet
import Derived.WalkKit
import Derived.ProofKit
import Derived.OpenShut
import Derived.ShutString
import Derived.ChangeOld
import Derived.Below
import Derived.Lib.SmallJoins
namespace Go.Proofs.Ytlpnnheopalhaaa.liftGoes
open Go.ChangeShapes Go.WideShapes Go.ChangeAt Go.RowKit Go.Joins
open Go.ChangeMaps (open_string shut_string)
open Go.Op (bytesLess)
set_option linter.unusedVariables false

theorem own : ownKnob Try.prog.godebug = none := by kernel_rfl
theorem cells23 : Try.prog.cellsOf 23 = 2 := by kernel_rfl
theorem cells25 : Try.prog.cellsOf 25 = 3 := by kernel_rfl

set_option maxHeartbeats 4000000 in
theorem walk (s0 p0 : ByteArray) (a1 : ByteArray) (l2 h2 : ByteArray) (e2 : Bool) (w : World) (ws0 : s0.size ≤ maxLen) (wp0 : p0.size ≤ maxLen) (wa1 : a1.size ≤ maxLen) (wl2 : l2.size ≤ maxLen) (wh2 : h2.size ≤ maxLen) :
    Calls Try.prog 3 #[Key.lv s0 p0, .string a1, Key.av l2 h2 e2] w fun e w' => e = .returned (.bool true) ∧ Below w.heap.size w w' := by
  unfold maxLen at ws0 wp0 wa1 wl2 wh2
  obtain ⟨A0, R0⟩ := Key.pair_box w (.string s0) (.string p0) (.string l2) (.string h2) (.bool e2)
  have hb0 := Key.below_two w (.cells #[.string s0, .string p0] 23) (.cells #[.string l2, .string h2, .bool e2] 25)
  have G := Key.great8 s0 p0
  have G1 := Key.great9 l2 h2 e2
  cases hg : (decide (300 < s0.size) || decide (300 < p0.size))
  · rw [hg] at G
    have hl : s0.size ≤ 300 ∧ p0.size ≤ 300 := by simp at hg; omega
    by_cases hk : 300 < a1.size
    · have hd : decide ((300 : Int) < (a1.size : Int)) = true := by simp; omega
      go_enter Try.func3, Try.ntmps3
      go_wp2_with fail
      refine (G _).mono ?_
      rintro e w1 ⟨rfl, hb1⟩
      have A1 := A0.later hb1
      have R1 := R0.later hb1
      replace hb1 := hb0.trans (hb1.mono hb0.size)
      clear A0 R0 hb0
      obtain ⟨Ac0, Ac1⟩ := A1.cells
      have Al := A1.lt
      obtain ⟨Rc0, Rc1, Rc2⟩ := R1.cells
      have Rl := R1.lt
      go_wp2_with fail
      refine (Key.awake10 _).mono ?_
      rintro e w2 ⟨rfl, hb2⟩
      replace hb2 := hb1.trans (hb2.mono hb1.size)
      go_wp2_with fail
      go_ret
      exact ⟨rfl, hb2⟩
    · have hd : decide ((300 : Int) < (a1.size : Int)) = false := by simp; omega
      cases hg1 : (decide (300 < l2.size) || decide (300 < h2.size))
      · rw [hg1] at G1
        have hl1 : l2.size ≤ 300 ∧ h2.size ≤ 300 := by simp at hg1; omega
        have C1 := fun w => Key.up11 s0 p0 a1 w (by omega) (by omega)
        have C2 := fun w => Key.up12 s0 p0 a1 w (by omega) (by omega)
        have C3 := fun w => Key.down13 s0 p0 a1 w (by omega) (by omega)
        have C4 := fun w => Key.down14 s0 p0 a1 w (by omega) (by omega)
        have C5 := fun w => Key.over15 s0 p0 l2 h2 e2 w (by omega) (by omega) (by omega) (by omega)
        have C6 := fun w => Key.over16 s0 p0 l2 h2 e2 w (by omega) (by omega) (by omega) (by omega)
        unfold Key.rv at C5 C6
        generalize Key.str (Key.overR (Key.lf s0 p0) (Key.rg l2 h2 e2)).lo = OL at *
        generalize Key.str (Key.overR (Key.lf s0 p0) (Key.rg l2 h2 e2)).hi = OH at *
        generalize (Key.overR (Key.lf s0 p0) (Key.rg l2 h2 e2)).e = OE at *
        generalize Key.upS (Key.lf s0 p0) a1.data.toList = U at *
        generalize Key.upB (Key.lf s0 p0) a1.data.toList = ub at *
        generalize Key.upS (Key.lf p0 s0) a1.data.toList = D at *
        generalize Key.upB (Key.lf p0 s0) a1.data.toList = db at *
        have H1 := Key.hid C5
        have H2 := Key.hid C6
        have H3 := Key.hid (Key.turn17 s0 p0)
        have H4 := Key.hid Key.awake10
        clear C5 C6
        go_enter Try.func3, Try.ntmps3
        go_wp2_with fail
        refine (G _).mono ?_
        rintro e w1 ⟨rfl, hb1⟩
        have A1 := A0.later hb1
        have R1 := R0.later hb1
        replace hb1 := hb0.trans (hb1.mono hb0.size)
        clear A0 R0 hb0
        obtain ⟨Ac0, Ac1⟩ := A1.cells
        have Al := A1.lt
        obtain ⟨Rc0, Rc1, Rc2⟩ := R1.cells
        have Rl := R1.lt
        go_wp2_with fail
        refine (G1 _).mono ?_
        rintro e w2 ⟨rfl, hb2⟩
        have A2 := A1.later hb2
        have R2 := R1.later hb2
        replace hb2 := hb1.trans (hb2.mono hb1.size)
        clear A1 R1 hb1 Ac0 Ac1 Rc0 Rc1 Rc2 Al Rl
        obtain ⟨Ac0, Ac1⟩ := A2.cells
        have Al := A2.lt
        obtain ⟨Rc0, Rc1, Rc2⟩ := R2.cells
        have Rl := R2.lt
        go_wp2_with fail
        refine (C1 _).mono ?_
        rintro e w3 ⟨rfl, hb3⟩
        have A3 := A2.later hb3
        have R3 := R2.later hb3
        replace hb3 := hb2.trans (hb3.mono hb2.size)
        clear A2 R2 hb2 Ac0 Ac1 Rc0 Rc1 Rc2 Al Rl
        obtain ⟨Ac0, Ac1⟩ := A3.cells
        have Al := A3.lt
        obtain ⟨Rc0, Rc1, Rc2⟩ := R3.cells
        have Rl := R3.lt
        go_wp2_with fail
        refine (C2 _).mono ?_
        rintro e w4 ⟨rfl, hb4⟩
        have A4 := A3.later hb4
        have R4 := R3.later hb4
        replace hb4 := hb3.trans (hb4.mono hb3.size)
        clear A3 R3 hb3 Ac0 Ac1 Rc0 Rc1 Rc2 Al Rl
        obtain ⟨Ac0, Ac1⟩ := A4.cells
        have Al := A4.lt
        obtain ⟨Rc0, Rc1, Rc2⟩ := R4.cells
        have Rl := R4.lt
        go_wp2_with fail
        refine (C3 _).mono ?_
        rintro e w5 ⟨rfl, hb5⟩
        have A5 := A4.later hb5
        have R5 := R4.later hb5
        replace hb5 := hb4.trans (hb5.mono hb4.size)
        clear A4 R4 hb4 Ac0 Ac1 Rc0 Rc1 Rc2 Al Rl
        obtain ⟨Ac0, Ac1⟩ := A5.cells
        have Al := A5.lt
        obtain ⟨Rc0, Rc1, Rc2⟩ := R5.cells
        have Rl := R5.lt
        go_wp2_with fail
        refine (C4 _).mono ?_
        rintro e w6 ⟨rfl, hb6⟩
        have A6 := A5.later hb6
        have R6 := R5.later hb6
        replace hb6 := hb5.trans (hb6.mono hb5.size)
        clear A5 R5 hb5 Ac0 Ac1 Rc0 Rc1 Rc2 Al Rl
        obtain ⟨Ac0, Ac1⟩ := A6.cells
        have Al := A6.lt
        obtain ⟨Rc0, Rc1, Rc2⟩ := R6.cells
        have Rl := R6.lt
        go_wp2_with fail
        refine wp_region_quiet (C := fun u => Below w6.heap.size w6 u) (by kernel_rfl) (by kernel_rfl) ((Below.refl _ w6).drew) ?_
        change wpQuiet _ _ _ _ (_ :: _) _
        refine wpQuiet_step (fun K hK => ?_)
        refine Key.quiet_val (.string U) (by kernel_rfl) (fun u hu => by go_simp) ?_
        go_simp
        refine hK _ ?_
        clear hK K
        refine wpQuiet_step (fun K hK => ?_)
        refine Key.quiet_val (.string U) (by kernel_rfl) (fun u hu => by go_simp) ?_
        go_simp
        refine hK _ ?_
        clear hK K
        refine wpQuiet_step (fun K hK => ?_)
        refine Key.quiet_val (.bool true) (by kernel_rfl) (fun u hu => by go_simp) ?_
        go_simp
        refine hK _ ?_
        clear hK K
        refine wpQuiet_step (fun K hK => ?_)
        refine Key.quiet_val (.bool true) (by kernel_rfl) (fun u hu => by go_simp) ?_
        go_simp
        refine hK _ ?_
        clear hK K
        refine wpQuiet_step (fun K hK => ?_)
        refine Key.quiet_val (.bool ub) (by kernel_rfl) (fun u hu => by go_simp) ?_
        go_simp
        refine hK _ ?_
        clear hK K
        refine wpQuiet_step (fun K hK => ?_)
        refine Key.quiet_val (.bool ub) (by kernel_rfl) (fun u hu => by go_simp) ?_
        go_simp
        refine hK _ ?_
        clear hK K
        refine wpQuiet_step (fun K hK => ?_)
        refine Key.quiet_val (.bool true) (by kernel_rfl) (fun u hu => by go_simp) ?_
        go_simp
        refine hK _ ?_
        clear hK K
        refine wpQuiet_step (fun K hK => ?_)
        refine Key.quiet_val (.bool true) (by kernel_rfl) (fun u hu => by go_simp) ?_
        go_simp
        refine hK _ ?_
        clear hK K
        refine wpQuiet_step (fun K hK => ?_)
        refine Key.quiet_val (.bool true) (by kernel_rfl) (fun u hu => by go_simp) ?_
        go_simp
        refine hK _ ?_
        clear hK K
        refine wpQuiet_step (fun K hK => ?_)
        refine Key.quiet_val (.string D) (by kernel_rfl) (fun u hu => by go_simp) ?_
        go_simp
        refine hK _ ?_
        clear hK K
        refine wpQuiet_step (fun K hK => ?_)
        refine Key.quiet_val (.string D) (by kernel_rfl) (fun u hu => by go_simp) ?_
        go_simp
        refine hK _ ?_
        clear hK K
        refine wpQuiet_step (fun K hK => ?_)
        refine Key.quiet_val (.bool true) (by kernel_rfl) (fun u hu => by go_simp) ?_
        go_simp
        refine hK _ ?_
        clear hK K
        refine wpQuiet_step (fun K hK => ?_)
        refine Key.quiet_val (.bool true) (by kernel_rfl) (fun u hu => by go_simp) ?_
        go_simp
        refine hK _ ?_
        clear hK K
        refine wpQuiet_step (fun K hK => ?_)
        refine Key.quiet_val (.bool true) (by kernel_rfl) (fun u hu => by go_simp) ?_
        go_simp
        refine hK _ ?_
        clear hK K
        refine wpQuiet_step (fun K hK => ?_)
        refine Key.quiet_val (.bool db) (by kernel_rfl) (fun u hu => by go_simp) ?_
        go_simp
        refine hK _ ?_
        clear hK K
        refine wpQuiet_step (fun K hK => ?_)
        refine Key.quiet_val (.bool db) (by kernel_rfl) (fun u hu => by go_simp) ?_
        go_simp
        refine hK _ ?_
        clear hK K
        refine wpQuiet_step (fun K hK => ?_)
        refine Key.quiet_val (.bool true) (by kernel_rfl) (fun u hu => by go_simp) ?_
        go_simp
        refine hK _ ?_
        clear hK K
        refine wpQuiet_step (fun K hK => ?_)
        refine Key.quiet_val (.bool true) (by kernel_rfl) (fun u hu => by go_simp) ?_
        go_simp
        refine hK _ ?_
        clear hK K
        refine wpQuiet_step (fun K hK => ?_)
        refine Key.quiet_val (.bool true) (by kernel_rfl) (fun u hu => by go_simp) ?_
        go_simp
        refine hK _ ?_
        clear hK K
        refine wpQuiet_step (fun K hK => ?_)
        refine Key.quiet_val (.agg #[.string s0, .string p0]) (by kernel_rfl) (fun u hu => by obtain ⟨b0, b1⟩ := (A6.later hu).cells; go_simp) ?_
        go_simp
        refine hK _ ?_
        clear hK K
        refine wpQuiet_step (fun K hK => ?_)
        refine Key.quiet_val (.agg #[.string l2, .string h2, .bool e2]) (by kernel_rfl) (fun u hu => by obtain ⟨b0, b1, b2⟩ := (R6.later hu).cells; go_simp) ?_
        go_simp
        refine hK _ ?_
        clear hK K
        refine wpQuiet_step (fun K hK => ?_)
        refine Key.quiet_call (.agg #[.string OL, .string OH, .bool OE]) 15 #[.agg #[.string s0, .string p0], .agg #[.string l2, .string h2, .bool e2]] (by kernel_rfl) (fun u hu => by go_simp) (fun u hu => (H1.out u).mono fun x u' h => ⟨h.1, hu.trans (h.2.mono hu.size)⟩) ?_
        go_simp
        refine hK _ ?_
        clear hK K
        refine wpQuiet_step (fun K hK => ?_)
        refine Key.quiet_val (.agg #[.string s0, .string p0]) (by kernel_rfl) (fun u hu => by obtain ⟨b0, b1⟩ := (A6.later hu).cells; go_simp) ?_
        go_simp
        refine hK _ ?_
        clear hK K
        refine wpQuiet_step (fun K hK => ?_)
        refine Key.quiet_val (.agg #[.string l2, .string h2, .bool e2]) (by kernel_rfl) (fun u hu => by obtain ⟨b0, b1, b2⟩ := (R6.later hu).cells; go_simp) ?_
        go_simp
        refine hK _ ?_
        clear hK K
        refine wpQuiet_step (fun K hK => ?_)
        refine Key.quiet_call (.agg #[.string OL, .string OH, .bool OE]) 16 #[.agg #[.string s0, .string p0], .agg #[.string l2, .string h2, .bool e2]] (by kernel_rfl) (fun u hu => by go_simp) (fun u hu => (H2.out u).mono fun x u' h => ⟨h.1, hu.trans (h.2.mono hu.size)⟩) ?_
        go_simp
        refine hK _ ?_
        clear hK K
        refine wpQuiet_step (fun K hK => ?_)
        refine Key.quiet_val (.bool true) (by kernel_rfl) (fun u hu => by go_simp) ?_
        go_simp
        refine hK _ ?_
        clear hK K
        refine wpQuiet_step (fun K hK => ?_)
        refine Key.quiet_val (.bool true) (by kernel_rfl) (fun u hu => by go_simp) ?_
        go_simp
        refine hK _ ?_
        clear hK K
        refine wpQuiet_step (fun K hK => ?_)
        refine Key.quiet_val (.bool true) (by kernel_rfl) (fun u hu => by go_simp) ?_
        go_simp
        refine hK _ ?_
        clear hK K
        refine wpQuiet_step (fun K hK => ?_)
        refine Key.quiet_val (.agg #[.string s0, .string p0]) (by kernel_rfl) (fun u hu => by obtain ⟨b0, b1⟩ := (A6.later hu).cells; go_simp) ?_
        go_simp
        refine hK _ ?_
        clear hK K
        refine wpQuiet_step (fun K hK => ?_)
        refine Key.quiet_call (.agg #[.string p0, .string s0]) 17 #[.agg #[.string s0, .string p0]] (by kernel_rfl) (fun u hu => by go_simp) (fun u hu => (H3.out u).mono fun x u' h => ⟨h.1, hu.trans (h.2.mono hu.size)⟩) ?_
        go_simp
        refine hK _ ?_
        clear hK K
        refine wpQuiet_step (fun K hK => ?_)
        refine Key.quiet_val (.pointer (some ⟨w.heap.size, 1, none⟩)) (by kernel_rfl) (fun u hu => by go_simp) ?_
        go_simp
        refine hK _ ?_
        clear hK K
        refine wpQuiet_step (fun K hK => ?_)
        refine Key.quiet_val (.string p0) (by kernel_rfl) (fun u hu => by obtain ⟨b0, b1⟩ := (A6.later hu).cells; go_simp) ?_
        go_simp
        refine hK _ ?_
        clear hK K
        refine wpQuiet_step (fun K hK => ?_)
        refine Key.quiet_val (.pointer (some ⟨w.heap.size, 0, none⟩)) (by kernel_rfl) (fun u hu => by go_simp) ?_
        go_simp
        refine hK _ ?_
        clear hK K
        refine wpQuiet_step (fun K hK => ?_)
        refine Key.quiet_val (.string s0) (by kernel_rfl) (fun u hu => by obtain ⟨b0, b1⟩ := (A6.later hu).cells; go_simp) ?_
        go_simp
        refine hK _ ?_
        clear hK K
        refine wpQuiet_step (fun K hK => ?_)
        refine Key.quiet_val (.agg #[.string p0, .string s0]) (by kernel_rfl) (fun u hu => by go_simp) ?_
        go_simp
        refine hK _ ?_
        clear hK K
        refine wpQuiet_step (fun K hK => ?_)
        refine Key.quiet_val (.bool true) (by kernel_rfl) (fun u hu => by go_simp) ?_
        go_simp
        refine hK _ ?_
        clear hK K
        refine wpQuiet_step (fun K hK => ?_)
        refine Key.quiet_val (.bool true) (by kernel_rfl) (fun u hu => by go_simp) ?_
        go_simp
        refine hK _ ?_
        clear hK K
        refine wpQuiet_step (fun K hK => ?_)
        refine Key.quiet_val (.bool true) (by kernel_rfl) (fun u hu => by go_simp) ?_
        go_simp
        refine hK _ ?_
        clear hK K
        refine wpQuiet_step (fun K hK => ?_)
        refine Key.quiet_call (.bool true) 10 #[] (by kernel_rfl) (fun u hu => by go_simp) (fun u hu => (H4.out u).mono fun x u' h => ⟨h.1, hu.trans (h.2.mono hu.size)⟩) ?_
        go_simp
        refine hK _ ?_
        clear hK K
        refine wpQuiet_step (fun K hK => ?_)
        refine Key.quiet_val (.bool true) (by kernel_rfl) (fun u hu => by go_simp) ?_
        go_simp
        refine hK _ ?_
        clear hK K
        refine wpQuiet_step (fun K hK => ?_)
        refine Key.quiet_val (.bool true) (by kernel_rfl) (fun u hu => by go_simp) ?_
        go_simp
        refine hK _ ?_
        clear hK K
        refine wpQuiet_nil (fun u hu => ?_)
        go_wp2_with fail
        go_ret
        exact ⟨rfl, hb6.trans (hu.mono hb6.size)⟩
      · rw [hg1] at G1
        go_enter Try.func3, Try.ntmps3
        go_wp2_with fail
        refine (G _).mono ?_
        rintro e w1 ⟨rfl, hb1⟩
        have A1 := A0.later hb1
        have R1 := R0.later hb1
        replace hb1 := hb0.trans (hb1.mono hb0.size)
        clear A0 R0 hb0
        obtain ⟨Ac0, Ac1⟩ := A1.cells
        have Al := A1.lt
        obtain ⟨Rc0, Rc1, Rc2⟩ := R1.cells
        have Rl := R1.lt
        go_wp2_with fail
        refine (G1 _).mono ?_
        rintro e w2 ⟨rfl, hb2⟩
        have A2 := A1.later hb2
        have R2 := R1.later hb2
        replace hb2 := hb1.trans (hb2.mono hb1.size)
        clear A1 R1 hb1 Ac0 Ac1 Rc0 Rc1 Rc2 Al Rl
        obtain ⟨Ac0, Ac1⟩ := A2.cells
        have Al := A2.lt
        obtain ⟨Rc0, Rc1, Rc2⟩ := R2.cells
        have Rl := R2.lt
        go_wp2_with fail
        refine (Key.awake10 _).mono ?_
        rintro e w3 ⟨rfl, hb3⟩
        replace hb3 := hb2.trans (hb3.mono hb2.size)
        go_wp2_with fail
        go_ret
        exact ⟨rfl, hb3⟩
  · rw [hg] at G
    go_enter Try.func3, Try.ntmps3
    go_wp2_with fail
    refine (G _).mono ?_
    rintro e w1 ⟨rfl, hb1⟩
    have A1 := A0.later hb1
    have R1 := R0.later hb1
    replace hb1 := hb0.trans (hb1.mono hb0.size)
    clear A0 R0 hb0
    obtain ⟨Ac0, Ac1⟩ := A1.cells
    have Al := A1.lt
    obtain ⟨Rc0, Rc1, Rc2⟩ := R1.cells
    have Rl := R1.lt
    go_wp2_with fail
    refine (Key.awake10 _).mono ?_
    rintro e w2 ⟨rfl, hb2⟩
    replace hb2 := hb1.trans (hb2.mono hb1.size)
    go_wp2_with fail
    go_ret
    exact ⟨rfl, hb2⟩

set_option maxRecDepth 100000 in
theorem lifted (os : Os) (started : os.Started) (H : Type) (enc : TypeId × Value → H) :
    ReturnsInHanded {} Try.checked os 3 .any (Rows.liftGoesSpec.pre6 enc Try.prog Try.f3 Rows.liftGoesRow.domain false) (Rows.liftGoesSpec.post enc Try.prog Try.f3 false true false false) := by
  refine returnsInHanded_of_change (C := Try.checked) own started (by kernel_rfl) Try.func3
    (ChangeSpec.witness6 (enc := enc) (C := Try.checked) false ⟨#[], #[.agg #[.string ByteArray.empty, .string ByteArray.empty], .string ByteArray.empty, .agg #[.string ByteArray.empty, .string ByteArray.empty, .bool false]], []⟩ 8 (by kernel_rfl) (by kernel_rfl) (by kernel_rfl) (by kernel_rfl)) ?_
  intro W base args ds gs before hval0 hW hcnd _
  have hval : ∀ (j : Nat) t v, Try.f3.params[j]? = some t → args[j]? = some v → Value.okWide Try.prog W .any base t v := hval0
  have hW' := hW
  obtain ⟨p, q, hA0, hV, rfl, hfz, hnd⟩ := hW
  have hA : DataW.TrodAll enc Try.prog W 0 (fun _ => true) true Try.f3.params.toList args.toList ds p := hA0
  rw [Try.params3] at hA hval
  obtain ⟨v0, vs0, d0, ds0, pp0, qq0, hargs, rfl, rfl, g0, r0⟩ := trodAll_cons hA
  obtain ⟨v1, vs1, d1, ds1, pp1, qq1, rfl, rfl, rfl, g1, r1⟩ := trodAll_cons r0
  obtain ⟨v2, vs2, d2, ds2, pp2, qq2, rfl, rfl, rfl, g2, r2⟩ := trodAll_cons r1
  obtain ⟨rfl, rfl, rfl⟩ := trodAll_nil r2
  obtain rfl : args = #[v0, v1, v2] := by cases args; simp_all
  obtain ⟨rfl, rfl⟩ := trodVars_none hV
  obtain ⟨x0, y0, dx0, dy0, m0, rfl, rfl, rfl, hx0, hy0⟩ := open_agg2 Try.underlying23 (by kernel_rfl) cells23 (hval 0 23 v0 rfl rfl) g0
  obtain ⟨s0, es0, rfl, ws0⟩ := DataW.trod_string Try.underlying9 hx0
  obtain ⟨p0, ep0, rfl, wp0⟩ := DataW.trod_string Try.underlying9 hy0
  simp at es0 ep0
  subst es0 ep0
  obtain ⟨a1, rfl, rfl, rfl, wa1⟩ := open_string Try.underlying9 (hval 1 9 v1 rfl rfl) g1
  obtain ⟨x2, y2, z2, dx2, dy2, dz2, m2, rfl, rfl, rfl, hx2, hy2, hz2⟩ := open_agg3 Try.underlying25 (by kernel_rfl) cells25 (hval 2 25 v2 rfl rfl) g2
  obtain ⟨l2, el2, rfl, wl2⟩ := DataW.trod_string Try.underlying9 hx2
  obtain ⟨h2, eh2, rfl, wh2⟩ := DataW.trod_string Try.underlying9 hy2
  obtain ⟨e2, ee2, rfl⟩ := DataW.trod_bool Try.underlying4 hz2
  simp at el2 eh2 ee2
  subst el2 eh2 ee2
  clear hA0 hval0
  have rd0 : ∀ (W' : World) (sp : Nat → Bool), DataW.Trod enc Try.prog W' 0 sp true 23 (.agg #[.string s0, .string p0]) (.agg [.lit (.string s0.data.toList), .lit (.string p0.data.toList)]) [] := fun W' sp =>
    shut_agg2 (y0 := (.lit (.string s0.data.toList), [])) (y1 := (.lit (.string p0.data.toList), [])) Try.underlying23 (by kernel_rfl) cells23 (Deep.shut_string_cell Try.underlying9 ws0) (Deep.shut_string_cell Try.underlying9 wp0)
  have rd2 : ∀ (W' : World) (sp : Nat → Bool), DataW.Trod enc Try.prog W' 0 sp true 25 (.agg #[.string l2, .string h2, .bool e2]) (.agg [.lit (.string l2.data.toList), .lit (.string h2.data.toList), .lit (.bool e2)]) [] := fun W' sp =>
    shut_agg3 (y0 := (.lit (.string l2.data.toList), [])) (y1 := (.lit (.string h2.data.toList), [])) (y2 := (.lit (.bool e2), [])) Try.underlying25 (by kernel_rfl) cells25 (Deep.shut_string_cell Try.underlying9 wl2) (Deep.shut_string_cell Try.underlying9 wh2) ⟨1, by simp [DataW.trod, Try.underlying4]⟩
  refine (walk s0 p0 a1 l2 h2 e2 W ws0 wp0 wa1 wl2 wh2).mono fun e W' ⟨he, bel⟩ => ?_
  subst he
  exact ⟨_, rfl, _, _, _, [], _, [], hW', trodAll_mk1 (shut_bool Try.underlying4 _), (trodAll_cons_mk (rd0 _ _) (trodAll_cons_mk (shut_string Try.underlying9 wa1) (trodAll_cons_mk (rd2 _ _) trodAll_mk0))), rfl, bel.frame _, fun h => by cases h⟩

theorem over : Rows.liftGoesRow.holds Try.pinned (OpenSpec.ofChange Rows.liftGoesSpec) :=
  OpenClaim.holds_of_wide 3 Try.f3 rfl rfl rfl rfl rfl rfl rfl ⟨rfl, rfl, rfl, rfl, rfl⟩ rfl rfl rfl rfl rfl (by kernel_rfl) Try.func3 (by kernel_rfl)
    (of_decide_eq_true (by kernel_rfl)) (by unfold Func.isWrapper; first | (rw [if_pos (by decide +kernel)]; kernel_rfl) | (rw [if_neg (by decide +kernel)]; exact ⟨rfl, rfl⟩))
    (fun os started H enc _ => lifted os started H enc)

/-- the statement -/
theorem proved : Rows.LiftGoesSaid := over
#print axioms proved
end Go.Proofs.Ytlpnnheopalhaaa.liftGoes
