/-
  Proved: the call of the statement KeyTexts returns true for every two texts (whether a key begins so, what is above all that do, the next key, what two have in common and what is between them is the document's), and the texts read afterwards as they read before. No condition.
  The frame of the row's step was written by the guide's proof-skeleton.mjs; the walk is this text's own.
-/
import Derived.Test.YtfjbgcjckcfmoaaAwake
import Derived.WalkKit
import Derived.ProofKit
import Derived.OpenShut
import Derived.ShutString
import Derived.ChangeOld
import Derived.Below
namespace Go.Proofs.Ytfjbgcjckcfmoaa.keyTexts
open Go.ChangeShapes Go.WideShapes Go.ChangeAt Go.RowKit
open Go.ChangeMaps (open_string shut_string)
open Go.Op (bytesLess)
set_option linter.unusedVariables false

theorem own : ownKnob Try.prog.godebug = none := by kernel_rfl

set_option maxHeartbeats 4000000 in
theorem walk (a0 : ByteArray) (a1 : ByteArray) (w : World) (w0 : a0.size ≤ maxLen) (w1 : a1.size ≤ maxLen) :
    Calls Try.prog 3 #[.string a0, .string a1] w fun e w' => e = .returned (.bool true) ∧ Below w.heap.size w w' := by
  unfold maxLen at w0 w1
  by_cases h0 : 300 < a0.size ∨ 300 < a1.size
  · have hd : (decide ((300 : Int) < (a0.size : Int)) || decide ((300 : Int) < (a1.size : Int))) = true := by simp; omega
    go_enter Try.func3, Try.ntmps3
    go_wp2_with (go_at_call 9; refine (Key.awake9 _).mono ?_; rintro e w' ⟨rfl, hb⟩)
    all_goals (go_ret; exact ⟨rfl, hb⟩)
  · have hd0 : decide ((300 : Int) < (a0.size : Int)) = false := by simp; omega
    have hd1 : decide ((300 : Int) < (a1.size : Int)) = false := by simp; omega
    have C1 := fun w => Key.succ10 a0 w (by omega)
    have C2 := fun w => Key.succ11 _ a0 w rfl (by omega)
    have C3 := Key.has12 a0 a1
    have C4 := Key.has13 a0 a1
    have C5 := fun w => Key.next14 a0 w (by omega)
    have C6 := fun w => Key.common15 a0 a1 w (by omega) (by omega)
    have C7 := fun w => Key.common16 a0 a1 w (by omega)
    have C8 := fun w => Key.between17 a0 a1 w (by omega) (by omega)
    have C9 := fun w => Key.between18 a0 a1 w (by omega)
    rw [← Key.str_append a0 ⟨#[0]⟩] at C5
    generalize Key.sucS a0.data.toList = S at *
    generalize Key.sucO a0.data.toList = o at *
    generalize Key.has a0.data.toList a1.data.toList = t at *
    generalize Key.str (Key.common a0.data.toList a1.data.toList) = c at *
    generalize Key.str (Key.between a0.data.toList a1.data.toList) = m at *
    go_enter Try.func3, Try.ntmps3
    go_wp2_with fail
    refine (C1 _).mono ?_
    rintro e w1 ⟨rfl, hb1⟩
    go_wp2_with fail
    refine (C2 _).mono ?_
    rintro e w2 ⟨rfl, hb2⟩
    replace hb2 := hb1.trans (hb2.mono hb1.size)
    clear hb1 C1 C2
    go_wp2_with fail
    refine (C3 _).mono ?_
    rintro e w3 ⟨rfl, rfl⟩
    go_wp2_with fail
    refine (C4 _).mono ?_
    rintro e w4 ⟨rfl, rfl⟩
    clear C3 C4
    go_wp2_with fail
    refine (C5 _).mono ?_
    rintro e w5 ⟨rfl, rfl⟩
    clear C5
    go_wp2_with fail
    refine (C6 _).mono ?_
    rintro e w6 ⟨rfl, hb6⟩
    replace hb6 := hb2.trans (hb6.mono hb2.size)
    clear hb2 C6
    go_wp2_with fail
    refine (C7 _).mono ?_
    rintro e w7 ⟨rfl, rfl⟩
    clear C7
    go_wp2_with fail
    refine (C8 _).mono ?_
    rintro e w8 ⟨rfl, hb8⟩
    replace hb8 := hb6.trans (hb8.mono hb6.size)
    clear hb6 C8
    go_wp2_with fail
    refine (C9 _).mono ?_
    rintro e w9 ⟨rfl, rfl⟩
    clear C9
    go_wp2_with fail
    refine (Key.awake9 _).mono ?_
    rintro e w10 ⟨rfl, hb10⟩
    replace hb10 := hb8.trans (hb10.mono hb8.size)
    go_wp2_with fail
    go_ret
    exact ⟨rfl, hb10⟩

set_option maxRecDepth 100000 in
theorem lifted (os : Os) (started : os.Started) (H : Type) (enc : TypeId × Value → H) :
    ReturnsInHanded {} Try.checked os 3 .any (Rows.keyTextsSpec.pre6 enc Try.prog Try.f3 Rows.keyTextsRow.domain false) (Rows.keyTextsSpec.post enc Try.prog Try.f3 false true false false) := by
  refine returnsInHanded_of_change (C := Try.checked) own started (by kernel_rfl) Try.func3
    (ChangeSpec.witness6 (enc := enc) (C := Try.checked) false ⟨#[], #[.string ByteArray.empty, .string ByteArray.empty], []⟩ 8 (by kernel_rfl) (by kernel_rfl) (by kernel_rfl) (by kernel_rfl)) ?_
  intro W base args ds gs before hval0 hW hcnd _
  have hval : ∀ (j : Nat) t v, Try.f3.params[j]? = some t → args[j]? = some v → Value.okWide Try.prog W .any base t v := hval0
  have hW' := hW
  obtain ⟨p, q, hA0, hV, rfl, hfz, hnd⟩ := hW
  have hA : DataW.TrodAll enc Try.prog W 0 (fun _ => true) true Try.f3.params.toList args.toList ds p := hA0
  rw [Try.params3] at hA hval
  obtain ⟨v0, vs0, d0, ds0, p0, q0, hargs, rfl, rfl, g0, r0⟩ := trodAll_cons hA
  obtain ⟨v1, vs1, d1, ds1, p1, q1, rfl, rfl, rfl, g1, r1⟩ := trodAll_cons r0
  obtain ⟨rfl, rfl, rfl⟩ := trodAll_nil r1
  obtain rfl : args = #[v0, v1] := by cases args; simp_all
  obtain ⟨rfl, rfl⟩ := trodVars_none hV
  obtain ⟨a0, rfl, rfl, rfl, w0⟩ := open_string Try.underlying9 (hval 0 9 v0 rfl rfl) g0
  obtain ⟨a1, rfl, rfl, rfl, w1⟩ := open_string Try.underlying9 (hval 1 9 v1 rfl rfl) g1
  clear hA0 hval0
  refine (walk a0 a1 W w0 w1).mono fun e W' ⟨he, bel⟩ => ?_
  subst he
  exact ⟨_, rfl, _, _, _, [], _, [], hW', trodAll_mk1 (shut_bool Try.underlying4 _), (trodAll_cons_mk (shut_string Try.underlying9 w0) (trodAll_cons_mk (shut_string Try.underlying9 w1) trodAll_mk0)), rfl, bel.frame _, fun h => by cases h⟩

theorem over : Rows.keyTextsRow.holds Try.pinned (OpenSpec.ofChange Rows.keyTextsSpec) :=
  OpenClaim.holds_of_wide 3 Try.f3 rfl rfl rfl rfl rfl rfl rfl ⟨rfl, rfl, rfl, rfl, rfl⟩ rfl rfl rfl rfl rfl (by kernel_rfl) Try.func3 (by kernel_rfl)
    (of_decide_eq_true (by kernel_rfl)) (by unfold Func.isWrapper; first | (rw [if_pos (by decide +kernel)]; kernel_rfl) | (rw [if_neg (by decide +kernel)]; exact ⟨rfl, rfl⟩))
    (fun os started H enc _ => lifted os started H enc)

/-- the statement -/
theorem proved : Rows.KeyTextsSaid := over
#print axioms proved
end Go.Proofs.Ytfjbgcjckcfmoaa.keyTexts
