/-
  Proved: the call of the statement KeyBetween returns true for every two texts (what is between two keys is a beginning of the second one, above the first one, and one byte less isn't; nothing stands between a key and the next one), and the texts read afterwards as they read before. No condition.
  The frame of the row's step was written by the guide's proof-skeleton.mjs; the walk is this text's own.
-/
import Derived.Test.YtfjbgcjckcfmoaaAwake
import Derived.WalkKit
import Derived.ProofKit
import Derived.OpenShut
import Derived.ShutString
import Derived.ChangeOld
import Derived.Below
namespace Go.Proofs.Ytfjbgcjckcfmoaa.keyBetween
open Go.ChangeShapes Go.WideShapes Go.ChangeAt Go.RowKit
open Go.ChangeMaps (open_string shut_string)
open Go.Op (bytesLess)
set_option linter.unusedVariables false

theorem own : ownKnob Try.prog.godebug = none := by kernel_rfl

set_option maxHeartbeats 4000000 in
theorem walk (a0 : ByteArray) (a1 : ByteArray) (w : World) (w0 : a0.size ≤ maxLen) (w1 : a1.size ≤ maxLen) :
    Calls Try.prog 8 #[.string a0, .string a1] w fun e w' => e = .returned (.bool true) ∧ Below w.heap.size w w' := by
  unfold maxLen at w0 w1
  by_cases h0 : 300 < a0.size ∨ 300 < a1.size
  · have hd : (decide ((300 : Int) < (a0.size : Int)) || decide ((300 : Int) < (a1.size : Int))) = true := by simp; omega
    go_enter Try.func8, Try.ntmps8
    go_wp2_with (go_at_call 9; refine (Key.awake9 _).mono ?_; rintro e w' ⟨rfl, hb⟩)
    all_goals (go_ret; exact ⟨rfl, hb⟩)
  · have hd0 : decide ((300 : Int) < (a0.size : Int)) = false := by simp; omega
    have hd1 : decide ((300 : Int) < (a1.size : Int)) = false := by simp; omega
    have C1 := fun w => Key.between17 a0 a1 w (by omega) (by omega)
    cases hl : bytesLess a0.toList a1.toList
    · have e : Key.str (Key.between a0.data.toList a1.data.toList) = ⟨#[]⟩ := by
        rw [Key.less_str] at hl
        unfold Key.between
        rw [hl]
        rfl
      rw [e] at C1
      go_enter Try.func8, Try.ntmps8
      go_wp2_with fail
      refine (C1 _).mono ?_
      rintro e w1 ⟨rfl, hb1⟩
      clear C1
      go_wp2_with fail
      refine (Key.awake9 _).mono ?_
      rintro e w5 ⟨rfl, hb5⟩
      replace hb5 := hb1.trans (hb5.mono hb1.size)
      go_wp2_with fail
      go_ret
      exact ⟨rfl, hb5⟩
    · have hl' := hl
      rw [Key.less_str] at hl'
      obtain ⟨hc1, hc2⟩ := Key.common_less hl'
      have hm : Key.between a0.data.toList a1.data.toList = a1.data.toList.take ((Key.common a0.data.toList a1.data.toList).length + 1) := by simp [Key.between, hl']
      have hpart := Key.common_part (Key.common a0.data.toList a1.data.toList).length (a := a0.data.toList) (b := a1.data.toList) (Nat.le_refl _)
      have hz : (Key.str (Key.between a0.data.toList a1.data.toList)).size = (Key.common a0.data.toList a1.data.toList).length + 1 := by
        rw [Key.str_size, hm, List.length_take]
        omega
      generalize (Key.common a0.data.toList a1.data.toList).length = C at *
      generalize hM : Key.str (Key.between a0.data.toList a1.data.toList) = m at *
      have hmd : m.data.toList = a1.data.toList.take (C + 1) := by rw [← hM, Key.str_data, hm]
      clear hM hm
      -- m is above a0
      have k1 := Key.less_asymm hc2
      have m1 : bytesLess m.toList a0.toList = false := by rw [Key.less_str, hmd]; exact k1
      have m2 : (m.toList == a0.toList) = false := by
        rw [Bool.eq_false_iff]
        intro h
        rw [Lib.toList_data, Lib.toList_data] at h
        have := eq_of_beq h
        rw [hmd] at this
        rw [this, Key.less_self] at hc2
        cases hc2
      -- m isn't above a1
      have m3 := Key.le_two (x := m) (y := a1) (by rw [hmd]; exact Key.has_le (Key.has_take _ _))
      have C2 := Key.has12 a1 m
      rw [hmd, Key.has_take] at C2
      have m4 : m.toList.isEmpty = false := by
        rw [Lib.toList_data]
        cases h : m.data.toList with
        | nil => rw [Lib.size_eq, h] at hz; simp at hz
        | cons _ _ => rfl
      -- one byte less isn't above a0
      have m5 := Key.le_two (x := m.extract 0 C) (y := a0) (by
        rw [Key.cut_data, hmd, List.take_take, Nat.min_eq_left (by omega)]
        exact hpart)
      -- the next key
      have C3 := fun w => Key.next14 a0 w (by omega)
      have hn1 := Key.next_above a0.data.toList
      have hn2 := Key.next_least hl'
      generalize hN : Key.str (a0.data.toList ++ [0]) = n at *
      have hnd : n.data.toList = a0.data.toList ++ [0] := by rw [← hN, Key.str_data]
      rw [← hnd] at hn1 hn2
      clear hN hnd
      have m6 : bytesLess n.toList a0.toList = false := by rw [Key.less_str]; exact Key.less_asymm hn1
      have m7 : (n.toList == a0.toList) = false := by
        rw [Bool.eq_false_iff]
        intro h
        rw [Lib.toList_data, Lib.toList_data] at h
        rw [eq_of_beq h, Key.less_self] at hn1
        cases hn1
      have m8 := Key.le_two (x := n) (y := a1) hn2
      have hC : C ≤ 300 := by rw [← Lib.size_eq] at hc1; omega
      clear hl' hc1 hc2 hpart hmd k1 hn1 hn2
      rcases m3 with m3 | ⟨m3, m3'⟩ <;> rcases m5 with m5 | ⟨m5, m5'⟩ <;> rcases m8 with m8 | ⟨m8, m8'⟩
      all_goals
        go_enter Try.func8, Try.ntmps8
        go_wp2_with fail
        refine (C1 _).mono ?_
        rintro e w1 ⟨rfl, hb1⟩
        clear C1
        go_wp2_with fail
        refine (C2 _).mono ?_
        rintro e w2 ⟨rfl, rfl⟩
        clear C2
        go_wp2_with fail
        refine (C3 _).mono ?_
        rintro e w3 ⟨rfl, rfl⟩
        clear C3
        go_wp2_with fail
        refine (Key.awake9 _).mono ?_
        rintro e w5 ⟨rfl, hb5⟩
        replace hb5 := hb1.trans (hb5.mono hb1.size)
        go_wp2_with fail
        go_ret
        exact ⟨rfl, hb5⟩

set_option maxRecDepth 100000 in
theorem lifted (os : Os) (started : os.Started) (H : Type) (enc : TypeId × Value → H) :
    ReturnsInHanded {} Try.checked os 8 .any (Rows.keyBetweenSpec.pre6 enc Try.prog Try.f8 Rows.keyBetweenRow.domain false) (Rows.keyBetweenSpec.post enc Try.prog Try.f8 false true false false) := by
  refine returnsInHanded_of_change (C := Try.checked) own started (by kernel_rfl) Try.func8
    (ChangeSpec.witness6 (enc := enc) (C := Try.checked) false ⟨#[], #[.string ByteArray.empty, .string ByteArray.empty], []⟩ 8 (by kernel_rfl) (by kernel_rfl) (by kernel_rfl) (by kernel_rfl)) ?_
  intro W base args ds gs before hval0 hW hcnd _
  have hval : ∀ (j : Nat) t v, Try.f8.params[j]? = some t → args[j]? = some v → Value.okWide Try.prog W .any base t v := hval0
  have hW' := hW
  obtain ⟨p, q, hA0, hV, rfl, hfz, hnd⟩ := hW
  have hA : DataW.TrodAll enc Try.prog W 0 (fun _ => true) true Try.f8.params.toList args.toList ds p := hA0
  rw [Try.params8] at hA hval
  obtain ⟨v0, vs0, d0, ds0, p0, q0, hargs, rfl, rfl, g0, r0⟩ := trodAll_cons hA
  obtain ⟨v1, vs1, d1, ds1, p1, q1, rfl, rfl, rfl, g1, r1⟩ := trodAll_cons r0
  obtain ⟨rfl, rfl, rfl⟩ := trodAll_nil r1
  obtain rfl : args = #[v0, v1] := by cases args; simp_all
  obtain ⟨rfl, rfl⟩ := trodVars_none hV
  obtain ⟨a0, rfl, rfl, rfl, w0⟩ := open_string Try.underlying9 (hval 0 9 v0 rfl rfl) g0
  obtain ⟨a1, rfl, rfl, rfl, w1⟩ := open_string Try.underlying9 (hval 1 9 v1 rfl rfl) g1
  clear hA0 hval0
  refine (walk a0 a1 W w0 w1).mono fun e W' ⟨he, bel⟩ => ?_
  subst he
  exact ⟨_, rfl, _, _, _, [], _, [], hW', trodAll_mk1 (shut_bool Try.underlying4 _), (trodAll_cons_mk (shut_string Try.underlying9 w0) (trodAll_cons_mk (shut_string Try.underlying9 w1) trodAll_mk0)), rfl, bel.frame _, fun h => by cases h⟩

theorem over : Rows.keyBetweenRow.holds Try.pinned (OpenSpec.ofChange Rows.keyBetweenSpec) :=
  OpenClaim.holds_of_wide 8 Try.f8 rfl rfl rfl rfl rfl rfl rfl ⟨rfl, rfl, rfl, rfl, rfl⟩ rfl rfl rfl rfl rfl (by kernel_rfl) Try.func8 (by kernel_rfl)
    (of_decide_eq_true (by kernel_rfl)) (by unfold Func.isWrapper; first | (rw [if_pos (by decide +kernel)]; kernel_rfl) | (rw [if_neg (by decide +kernel)]; exact ⟨rfl, rfl⟩))
    (fun os started H enc _ => lifted os started H enc)

/-- the statement -/
theorem proved : Rows.KeyBetweenSaid := over
#print axioms proved
end Go.Proofs.Ytfjbgcjckcfmoaa.keyBetween
