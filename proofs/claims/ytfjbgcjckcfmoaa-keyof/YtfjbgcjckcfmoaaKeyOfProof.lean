/-
  Proved: the call of the statement KeyOf returns true for every two texts (a key is in the range of a beginning just if it begins so; and it stands ahead of Succ, or behind all that begin so), and the texts read afterwards as they read before. No condition.
  The frame of the row's step was written by the guide's proof-skeleton.mjs; the walk is this text's own.
-/
import Derived.Test.YtfjbgcjckcfmoaaAwake
import Derived.WalkKit
import Derived.ProofKit
import Derived.OpenShut
import Derived.ShutString
import Derived.ChangeOld
import Derived.Below
namespace Go.Proofs.Ytfjbgcjckcfmoaa.keyOf
open Go.ChangeShapes Go.WideShapes Go.ChangeAt Go.RowKit
open Go.ChangeMaps (open_string shut_string)
open Go.Op (bytesLess)
set_option linter.unusedVariables false

theorem own : ownKnob Try.prog.godebug = none := by kernel_rfl

set_option maxHeartbeats 4000000 in
theorem walk (a0 : ByteArray) (a1 : ByteArray) (w : World) (w0 : a0.size ≤ maxLen) (w1 : a1.size ≤ maxLen) :
    Calls Try.prog 6 #[.string a0, .string a1] w fun e w' => e = .returned (.bool true) ∧ Below w.heap.size w w' := by
  unfold maxLen at w0 w1
  by_cases h0 : 300 < a0.size ∨ 300 < a1.size
  · have hd : (decide ((300 : Int) < (a0.size : Int)) || decide ((300 : Int) < (a1.size : Int))) = true := by simp; omega
    go_enter Try.func6, Try.ntmps6
    go_wp2_with (go_at_call 9; refine (Key.awake9 _).mono ?_; rintro e w' ⟨rfl, hb⟩)
    all_goals (go_ret; exact ⟨rfl, hb⟩)
  · have hd0 : decide ((300 : Int) < (a0.size : Int)) = false := by simp; omega
    have hd1 : decide ((300 : Int) < (a1.size : Int)) = false := by simp; omega
    have C1 := fun w => Key.succ10 a0 w (by omega)
    have C2 := Key.has12 a1 a0
    have C3 := fun w => Key.of28 a0 w (by omega)
    have C4 := Key.in20 a0 (Key.sucS a0.data.toList) a1 (Key.sucO a0.data.toList)
    rw [show Key.rg a0 (Key.sucS a0.data.toList) (Key.sucO a0.data.toList) = Key.ofR a0.data.toList from rfl, Key.in_of] at C4
    cases hs : Key.succ a0.data.toList with
    | none =>
      have e1 : Key.sucS a0.data.toList = ⟨#[]⟩ := by unfold Key.sucS; rw [hs]; rfl
      have e2 : Key.sucO a0.data.toList = false := by unfold Key.sucO; rw [hs]; rfl
      rw [e1, e2] at C1 C3 C4
      clear e1 e2
      cases ht : Key.has a1.data.toList a0.data.toList
      · have hl : bytesLess a1.toList a0.toList = true := by
          rw [Key.less_str]
          cases hc : bytesLess a1.data.toList a0.data.toList
          · rw [Key.of_none hs hc] at ht
            cases ht
          · rfl
        rw [ht] at C2 C4
        clear hs ht
        go_enter Try.func6, Try.ntmps6
        go_wp2_with fail
        refine (C1 _).mono ?_
        rintro e w1 ⟨rfl, hb1⟩
        clear C1
        go_wp2_with fail
        refine (C3 _).mono ?_
        rintro e w2 ⟨rfl, hb2⟩
        replace hb2 := hb1.trans (hb2.mono hb1.size)
        clear C3 hb1
        go_wp2_with fail
        refine (C4 _).mono ?_
        rintro e w3 ⟨rfl, hb3⟩
        replace hb3 := hb2.trans (hb3.mono hb2.size)
        clear C4 hb2
        go_wp2_with fail
        refine (C2 _).mono ?_
        rintro e w4 ⟨rfl, rfl⟩
        go_wp2_with fail
        refine (Key.awake9 _).mono ?_
        rintro e w5 ⟨rfl, hb5⟩
        replace hb5 := hb3.trans (hb5.mono hb3.size)
        go_wp2_with fail
        go_ret
        exact ⟨rfl, hb5⟩
      · have hl : bytesLess a1.toList a0.toList = false := by rw [Key.less_str]; exact Key.has_le ht
        rw [ht] at C2 C4
        clear hs ht
        go_enter Try.func6, Try.ntmps6
        go_wp2_with fail
        refine (C1 _).mono ?_
        rintro e w1 ⟨rfl, hb1⟩
        clear C1
        go_wp2_with fail
        refine (C2 _).mono ?_
        rintro e w2 ⟨rfl, rfl⟩
        go_wp2_with fail
        refine (C3 _).mono ?_
        rintro e w2 ⟨rfl, hb2⟩
        replace hb2 := hb1.trans (hb2.mono hb1.size)
        clear C3 hb1
        go_wp2_with fail
        refine (C4 _).mono ?_
        rintro e w3 ⟨rfl, hb3⟩
        replace hb3 := hb2.trans (hb3.mono hb2.size)
        clear C4 hb2
        go_wp2_with fail
        refine (C2 _).mono ?_
        rintro e w4 ⟨rfl, rfl⟩
        go_wp2_with fail
        refine (Key.awake9 _).mono ?_
        rintro e w5 ⟨rfl, hb5⟩
        replace hb5 := hb3.trans (hb5.mono hb3.size)
        go_wp2_with fail
        go_ret
        exact ⟨rfl, hb5⟩
    | some s =>
      have e1 : Key.sucS a0.data.toList = Key.str s := by unfold Key.sucS; rw [hs]; rfl
      have e2 : Key.sucO a0.data.toList = true := by unfold Key.sucO; rw [hs]; rfl
      rw [e1, e2] at C1 C3 C4
      clear e1 e2
      have hq : Key.has a1.data.toList a0.data.toList = false → bytesLess a1.toList (Key.str s).toList = bytesLess a1.toList a0.toList := by
        intro h
        rw [Key.less_str, Key.less_str]
        exact Key.beside hs h
      generalize Key.str s = S at *
      cases ht : Key.has a1.data.toList a0.data.toList
      · have hl := hq ht
        rw [ht] at C2 C4
        clear hs ht hq
        go_enter Try.func6, Try.ntmps6
        go_wp2_with fail
        refine (C1 _).mono ?_
        rintro e w1 ⟨rfl, hb1⟩
        clear C1
        go_wp2_with fail
        refine (C2 _).mono ?_
        rintro e w2 ⟨rfl, rfl⟩
        go_wp2_with fail
        refine (C3 _).mono ?_
        rintro e w2 ⟨rfl, hb2⟩
        replace hb2 := hb1.trans (hb2.mono hb1.size)
        clear C3 hb1
        go_wp2_with fail
        refine (C4 _).mono ?_
        rintro e w3 ⟨rfl, hb3⟩
        replace hb3 := hb2.trans (hb3.mono hb2.size)
        clear C4 hb2
        go_wp2_with fail
        refine (C2 _).mono ?_
        rintro e w4 ⟨rfl, rfl⟩
        go_wp2_with fail
        refine (Key.awake9 _).mono ?_
        rintro e w5 ⟨rfl, hb5⟩
        replace hb5 := hb3.trans (hb5.mono hb3.size)
        go_wp2_with fail
        go_ret
        exact ⟨rfl, hb5⟩
      · rw [ht] at C2 C4
        clear hs ht hq
        go_enter Try.func6, Try.ntmps6
        go_wp2_with fail
        refine (C1 _).mono ?_
        rintro e w1 ⟨rfl, hb1⟩
        clear C1
        go_wp2_with fail
        refine (C2 _).mono ?_
        rintro e w2 ⟨rfl, rfl⟩
        go_wp2_with fail
        refine (C3 _).mono ?_
        rintro e w2 ⟨rfl, hb2⟩
        replace hb2 := hb1.trans (hb2.mono hb1.size)
        clear C3 hb1
        go_wp2_with fail
        refine (C4 _).mono ?_
        rintro e w3 ⟨rfl, hb3⟩
        replace hb3 := hb2.trans (hb3.mono hb2.size)
        clear C4 hb2
        go_wp2_with fail
        refine (C2 _).mono ?_
        rintro e w4 ⟨rfl, rfl⟩
        go_wp2_with fail
        refine (Key.awake9 _).mono ?_
        rintro e w5 ⟨rfl, hb5⟩
        replace hb5 := hb3.trans (hb5.mono hb3.size)
        go_wp2_with fail
        go_ret
        exact ⟨rfl, hb5⟩

set_option maxRecDepth 100000 in
theorem lifted (os : Os) (started : os.Started) (H : Type) (enc : TypeId × Value → H) :
    ReturnsInHanded {} Try.checked os 6 .any (Rows.keyOfSpec.pre6 enc Try.prog Try.f6 Rows.keyOfRow.domain false) (Rows.keyOfSpec.post enc Try.prog Try.f6 false true false false) := by
  refine returnsInHanded_of_change (C := Try.checked) own started (by kernel_rfl) Try.func6
    (ChangeSpec.witness6 (enc := enc) (C := Try.checked) false ⟨#[], #[.string ByteArray.empty, .string ByteArray.empty], []⟩ 8 (by kernel_rfl) (by kernel_rfl) (by kernel_rfl) (by kernel_rfl)) ?_
  intro W base args ds gs before hval0 hW hcnd _
  have hval : ∀ (j : Nat) t v, Try.f6.params[j]? = some t → args[j]? = some v → Value.okWide Try.prog W .any base t v := hval0
  have hW' := hW
  obtain ⟨p, q, hA0, hV, rfl, hfz, hnd⟩ := hW
  have hA : DataW.TrodAll enc Try.prog W 0 (fun _ => true) true Try.f6.params.toList args.toList ds p := hA0
  rw [Try.params6] at hA hval
  obtain ⟨v0, vs0, d0, ds0, p0, q0, hargs, rfl, rfl, g0, r0⟩ := trodAll_cons hA
  obtain ⟨v1, vs1, d1, ds1, p1, q1, rfl, rfl, rfl, g1, r1⟩ := trodAll_cons r0
  obtain ⟨rfl, rfl, rfl⟩ := trodAll_nil r1
  obtain rfl : args = #[v0, v1] := by cases args; simp_all
  obtain ⟨rfl, rfl⟩ := trodVars_none hV
  obtain ⟨a0, rfl, rfl, rfl, w0⟩ := open_string Try.underlying9 (hval 0 9 v0 rfl rfl) g0
  obtain ⟨a1, rfl, rfl, rfl, w1⟩ := open_string Try.underlying9 (hval 1 9 v1 rfl rfl) g1
  clear hA0 hval0
  refine (walk a0 a1 W w0 w1).mono fun e W' ⟨he, bel⟩ => ?_
  subst he
  exact ⟨_, rfl, _, _, _, [], _, [], hW', trodAll_mk1 (shut_bool Try.underlying4 _), (trodAll_cons_mk (shut_string Try.underlying9 w0) (trodAll_cons_mk (shut_string Try.underlying9 w1) trodAll_mk0)), rfl, bel.frame _, fun h => by cases h⟩

theorem over : Rows.keyOfRow.holds Try.pinned (OpenSpec.ofChange Rows.keyOfSpec) :=
  OpenClaim.holds_of_wide 6 Try.f6 rfl rfl rfl rfl rfl rfl rfl ⟨rfl, rfl, rfl, rfl, rfl⟩ rfl rfl rfl rfl rfl (by kernel_rfl) Try.func6 (by kernel_rfl)
    (of_decide_eq_true (by kernel_rfl)) (by unfold Func.isWrapper; first | (rw [if_pos (by decide +kernel)]; kernel_rfl) | (rw [if_neg (by decide +kernel)]; exact ⟨rfl, rfl⟩))
    (fun os started H enc _ => lifted os started H enc)

/-- the statement -/
theorem proved : Rows.KeyOfSaid := over
#print axioms proved
end Go.Proofs.Ytfjbgcjckcfmoaa.keyOf
