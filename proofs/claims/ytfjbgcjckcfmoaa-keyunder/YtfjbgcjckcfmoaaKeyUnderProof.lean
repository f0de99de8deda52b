/-
  Proved: the call of the statement KeyUnder returns true for every range and every text (each key of a range begins with what is said of all of them; and where that is shorter than the first key, not all begin with one byte more), and they read afterwards as they read before. No condition.
  The frame of the row's step was written by the guide's proof-skeleton.mjs; the walk is this text's own.
-/
import Derived.Test.YtfjbgcjckcfmoaaAwake
import Derived.WalkKit
import Derived.ProofKit
import Derived.OpenShut
import Derived.ShutString
import Derived.ChangeOld
import Derived.Below
import Derived.Lib.SmallJoins
namespace Go.Proofs.Ytfjbgcjckcfmoaa.keyUnder
open Go.ChangeShapes Go.WideShapes Go.ChangeAt Go.RowKit Go.Joins
open Go.ChangeMaps (open_string shut_string)
open Go.Op (bytesLess)
set_option linter.unusedVariables false

theorem own : ownKnob Try.prog.godebug = none := by kernel_rfl
theorem cells29 : Try.prog.cellsOf 29 = 3 := by kernel_rfl

set_option maxHeartbeats 4000000 in
theorem walk (l0 h0 : ByteArray) (e0 : Bool) (a1 : ByteArray) (w : World) (wl0 : l0.size ≤ maxLen) (wh0 : h0.size ≤ maxLen) (w1 : a1.size ≤ maxLen) :
    Calls Try.prog 7 #[Key.av l0 h0 e0, .string a1] w fun e w' => e = .returned (.bool true) ∧ Below w.heap.size w w' := by
  unfold maxLen at wl0 wh0 w1
  have hB0 := Key.Box.new w (.string l0) (.string h0) (.bool e0)
  have hb0 := Key.below_box w (.cells #[.string l0, .string h0, .bool e0] 29)
  have G := Key.great19 l0 h0 e0
  cases hg : (decide (300 < l0.size) || decide (300 < h0.size))
  · rw [hg] at G
    have hl : l0.size ≤ 300 ∧ h0.size ≤ 300 := by simp at hg; omega
    by_cases hk : 300 < a1.size
    · have hd : decide ((300 : Int) < (a1.size : Int)) = true := by simp; omega
      go_enter Try.func7, Try.ntmps7
      go_wp2_with fail
      refine (G _).mono ?_
      rintro e w1 ⟨rfl, hb1⟩
      replace hb1 := hb0.trans (hb1.mono hb0.size)
      go_wp2_with fail
      refine (Key.awake9 _).mono ?_
      rintro e w2 ⟨rfl, hb2⟩
      replace hb2 := hb1.trans (hb2.mono hb1.size)
      go_wp2_with fail
      go_ret
      exact ⟨rfl, hb2⟩
    · have hd : decide ((300 : Int) < (a1.size : Int)) = false := by simp; omega
      have C1 := fun w => Key.under24 l0 h0 e0 w (by omega) (by omega)
      have C2 := Key.in21 l0 h0 a1 e0
      have C4 := Key.empty23 l0 h0 e0
      have C3 := Key.has12 a1 (Key.str (Key.under (Key.rg l0 h0 e0)))
      rw [Key.str_data] at C3
      cases hE : Key.emptyR (Key.rg l0 h0 e0)
      · have C5 := Key.has12 l0 (Key.str (Key.under (Key.rg l0 h0 e0)))
        rw [Key.str_data, show Key.has l0.data.toList (Key.under (Key.rg l0 h0 e0)) = true from Key.has_take _ _] at C5
        have hz := Key.str_size (Key.under (Key.rg l0 h0 e0))
        have hN : (Key.under (Key.rg l0 h0 e0)).length = Key.underN (Key.rg l0 h0 e0) := by
          have := Key.underN_le (Key.rg l0 h0 e0)
          unfold Key.under
          rw [List.length_take]
          omega
        have hNle : Key.underN (Key.rg l0 h0 e0) ≤ l0.size := by rw [Lib.size_eq]; exact Key.underN_le (Key.rg l0 h0 e0)
        have hless := fun h => Key.under_less hE h
        rw [show (Key.rg l0 h0 e0).lo.length = l0.size by rw [Lib.size_eq]; rfl] at hless
        rw [show (Key.rg l0 h0 e0).lo = l0.data.toList from rfl] at hless
        rw [hE] at C4
        rw [hN] at hz
        have hin := fun h => Key.under_in (r := Key.rg l0 h0 e0) (k := a1.data.toList) h
        generalize Key.has a1.data.toList (Key.under (Key.rg l0 h0 e0)) = t at *
        generalize Key.str (Key.under (Key.rg l0 h0 e0)) = P at *
        generalize Key.underN (Key.rg l0 h0 e0) = n at *
        clear hN hE
        have hi : Key.inR (Key.rg l0 h0 e0) a1.data.toList = false ∨ (Key.inR (Key.rg l0 h0 e0) a1.data.toList = true ∧ t = true) := by
          cases h : Key.inR (Key.rg l0 h0 e0) a1.data.toList
          · exact .inl rfl
          · exact .inr ⟨rfl, hin h⟩
        clear hin
        generalize Key.inR (Key.rg l0 h0 e0) a1.data.toList = i at *
        by_cases hn : n = l0.size
        · have hn' : ((n : Int) == (l0.size : Int)) = true := by simp [hn]
          clear hless
          rcases hi with rfl | ⟨rfl, rfl⟩
          · go_enter Try.func7, Try.ntmps7
            go_wp2_with fail
            refine (G _).mono ?_
            rintro e w1 ⟨rfl, hb1⟩
            have hB1 := hB0.later hb1
            replace hb1 := hb0.trans (hb1.mono hb0.size)
            clear hB0 hb0
            obtain ⟨c0, c1, c2⟩ := hB1.cells
            go_wp2_with fail
            refine (C1 _).mono ?_
            rintro e w2 ⟨rfl, hb2⟩
            have hB2 := hB1.later hb2
            replace hb2 := hb1.trans (hb2.mono hb1.size)
            clear hB1 hb1 c0 c1 c2
            obtain ⟨c0, c1, c2⟩ := hB2.cells
            go_wp2_with fail
            refine (C2 _).mono ?_
            rintro e w3 ⟨rfl, hb3⟩
            have hB3 := hB2.later hb3
            replace hb3 := hb2.trans (hb3.mono hb2.size)
            clear hB2 hb2 c0 c1 c2
            obtain ⟨c0, c1, c2⟩ := hB3.cells
            go_wp2_with fail
            refine (C4 _).mono ?_
            rintro e w4 ⟨rfl, hb4⟩
            have hB4 := hB3.later hb4
            replace hb4 := hb3.trans (hb4.mono hb3.size)
            clear hB3 hb3 c0 c1 c2
            obtain ⟨c0, c1, c2⟩ := hB4.cells
            go_wp2_with fail
            refine (C5 _).mono ?_
            rintro e wp ⟨rfl, rfl⟩
            go_wp2_with fail
            refine (Key.awake9 _).mono ?_
            rintro e w5 ⟨rfl, hb5⟩
            replace hb5 := hb4.trans (hb5.mono hb4.size)
            go_wp2_with fail
            go_ret
            exact ⟨rfl, hb5⟩
          · go_enter Try.func7, Try.ntmps7
            go_wp2_with fail
            refine (G _).mono ?_
            rintro e w1 ⟨rfl, hb1⟩
            have hB1 := hB0.later hb1
            replace hb1 := hb0.trans (hb1.mono hb0.size)
            clear hB0 hb0
            obtain ⟨c0, c1, c2⟩ := hB1.cells
            go_wp2_with fail
            refine (C1 _).mono ?_
            rintro e w2 ⟨rfl, hb2⟩
            have hB2 := hB1.later hb2
            replace hb2 := hb1.trans (hb2.mono hb1.size)
            clear hB1 hb1 c0 c1 c2
            obtain ⟨c0, c1, c2⟩ := hB2.cells
            go_wp2_with fail
            refine (C2 _).mono ?_
            rintro e w3 ⟨rfl, hb3⟩
            have hB3 := hB2.later hb3
            replace hb3 := hb2.trans (hb3.mono hb2.size)
            clear hB2 hb2 c0 c1 c2
            obtain ⟨c0, c1, c2⟩ := hB3.cells
            go_wp2_with fail
            refine (C3 _).mono ?_
            rintro e wp ⟨rfl, rfl⟩
            go_wp2_with fail
            refine (C4 _).mono ?_
            rintro e w4 ⟨rfl, hb4⟩
            have hB4 := hB3.later hb4
            replace hb4 := hb3.trans (hb4.mono hb3.size)
            clear hB3 hb3 c0 c1 c2
            obtain ⟨c0, c1, c2⟩ := hB4.cells
            go_wp2_with fail
            refine (C5 _).mono ?_
            rintro e wp ⟨rfl, rfl⟩
            go_wp2_with fail
            refine (Key.awake9 _).mono ?_
            rintro e w5 ⟨rfl, hb5⟩
            replace hb5 := hb4.trans (hb5.mono hb4.size)
            go_wp2_with fail
            go_ret
            exact ⟨rfl, hb5⟩
        · have hn' : ((n : Int) == (l0.size : Int)) = false := by simp; omega
          obtain ⟨s, hs1, hs2⟩ := hless (by omega)
          have C6 := fun w => Key.succ10 (l0.extract 0 (n + 1)) w (by simp; omega)
          rw [Key.cut_data] at C6
          unfold Key.sucS Key.sucO at C6
          rw [hs1] at C6
          simp only [Option.getD_some, Option.isSome_some] at C6
          have C7 := Key.in21 l0 h0 (Key.str s) e0
          rw [Key.str_data, hs2] at C7
          have hi1 : (n : Int) + 1 ≤ (l0.size : Int) := by omega
          generalize Key.str s = S at *
          clear hs1 hs2 hless
          rcases hi with rfl | ⟨rfl, rfl⟩
          · go_enter Try.func7, Try.ntmps7
            go_wp2_with fail
            refine (G _).mono ?_
            rintro e w1 ⟨rfl, hb1⟩
            have hB1 := hB0.later hb1
            replace hb1 := hb0.trans (hb1.mono hb0.size)
            clear hB0 hb0
            obtain ⟨c0, c1, c2⟩ := hB1.cells
            go_wp2_with fail
            refine (C1 _).mono ?_
            rintro e w2 ⟨rfl, hb2⟩
            have hB2 := hB1.later hb2
            replace hb2 := hb1.trans (hb2.mono hb1.size)
            clear hB1 hb1 c0 c1 c2
            obtain ⟨c0, c1, c2⟩ := hB2.cells
            go_wp2_with fail
            refine (C2 _).mono ?_
            rintro e w3 ⟨rfl, hb3⟩
            have hB3 := hB2.later hb3
            replace hb3 := hb2.trans (hb3.mono hb2.size)
            clear hB2 hb2 c0 c1 c2
            obtain ⟨c0, c1, c2⟩ := hB3.cells
            go_wp2_with fail
            refine (C4 _).mono ?_
            rintro e w4 ⟨rfl, hb4⟩
            have hB4 := hB3.later hb4
            replace hb4 := hb3.trans (hb4.mono hb3.size)
            clear hB3 hb3 c0 c1 c2
            obtain ⟨c0, c1, c2⟩ := hB4.cells
            go_wp2_with fail
            refine (C5 _).mono ?_
            rintro e wp ⟨rfl, rfl⟩
            go_wp2_with fail
            refine (C6 _).mono ?_
            rintro e w5 ⟨rfl, hb5⟩
            have hB5 := hB4.later hb5
            replace hb5 := hb4.trans (hb5.mono hb4.size)
            clear hB4 hb4 c0 c1 c2
            obtain ⟨c0, c1, c2⟩ := hB5.cells
            go_wp2_with fail
            refine (C7 _).mono ?_
            rintro e w6 ⟨rfl, hb6⟩
            have hB6 := hB5.later hb6
            replace hb6 := hb5.trans (hb6.mono hb5.size)
            clear hB5 hb5 c0 c1 c2
            obtain ⟨c0, c1, c2⟩ := hB6.cells
            go_wp2_with fail
            refine (Key.awake9 _).mono ?_
            rintro e w7 ⟨rfl, hb7⟩
            replace hb7 := hb6.trans (hb7.mono hb6.size)
            go_wp2_with fail
            go_ret
            exact ⟨rfl, hb7⟩
          · go_enter Try.func7, Try.ntmps7
            go_wp2_with fail
            refine (G _).mono ?_
            rintro e w1 ⟨rfl, hb1⟩
            have hB1 := hB0.later hb1
            replace hb1 := hb0.trans (hb1.mono hb0.size)
            clear hB0 hb0
            obtain ⟨c0, c1, c2⟩ := hB1.cells
            go_wp2_with fail
            refine (C1 _).mono ?_
            rintro e w2 ⟨rfl, hb2⟩
            have hB2 := hB1.later hb2
            replace hb2 := hb1.trans (hb2.mono hb1.size)
            clear hB1 hb1 c0 c1 c2
            obtain ⟨c0, c1, c2⟩ := hB2.cells
            go_wp2_with fail
            refine (C2 _).mono ?_
            rintro e w3 ⟨rfl, hb3⟩
            have hB3 := hB2.later hb3
            replace hb3 := hb2.trans (hb3.mono hb2.size)
            clear hB2 hb2 c0 c1 c2
            obtain ⟨c0, c1, c2⟩ := hB3.cells
            go_wp2_with fail
            refine (C3 _).mono ?_
            rintro e wp ⟨rfl, rfl⟩
            go_wp2_with fail
            refine (C4 _).mono ?_
            rintro e w4 ⟨rfl, hb4⟩
            have hB4 := hB3.later hb4
            replace hb4 := hb3.trans (hb4.mono hb3.size)
            clear hB3 hb3 c0 c1 c2
            obtain ⟨c0, c1, c2⟩ := hB4.cells
            go_wp2_with fail
            refine (C5 _).mono ?_
            rintro e wp ⟨rfl, rfl⟩
            go_wp2_with fail
            refine (C6 _).mono ?_
            rintro e w5 ⟨rfl, hb5⟩
            have hB5 := hB4.later hb5
            replace hb5 := hb4.trans (hb5.mono hb4.size)
            clear hB4 hb4 c0 c1 c2
            obtain ⟨c0, c1, c2⟩ := hB5.cells
            go_wp2_with fail
            refine (C7 _).mono ?_
            rintro e w6 ⟨rfl, hb6⟩
            have hB6 := hB5.later hb6
            replace hb6 := hb5.trans (hb6.mono hb5.size)
            clear hB5 hb5 c0 c1 c2
            obtain ⟨c0, c1, c2⟩ := hB6.cells
            go_wp2_with fail
            refine (Key.awake9 _).mono ?_
            rintro e w7 ⟨rfl, hb7⟩
            replace hb7 := hb6.trans (hb7.mono hb6.size)
            go_wp2_with fail
            go_ret
            exact ⟨rfl, hb7⟩
      · rw [Key.in_empty hE] at C2
        rw [Key.under_empty hE] at C1
        rw [hE] at C4
        rw [show Key.str [] = ⟨#[]⟩ from rfl] at C1
        clear hE C3
        go_enter Try.func7, Try.ntmps7
        go_wp2_with fail
        refine (G _).mono ?_
        rintro e w1 ⟨rfl, hb1⟩
        have hB1 := hB0.later hb1
        replace hb1 := hb0.trans (hb1.mono hb0.size)
        clear hB0 hb0
        obtain ⟨c0, c1, c2⟩ := hB1.cells
        go_wp2_with fail
        refine (C1 _).mono ?_
        rintro e w2 ⟨rfl, hb2⟩
        have hB2 := hB1.later hb2
        replace hb2 := hb1.trans (hb2.mono hb1.size)
        clear hB1 hb1 c0 c1 c2
        obtain ⟨c0, c1, c2⟩ := hB2.cells
        go_wp2_with fail
        refine (C2 _).mono ?_
        rintro e w3 ⟨rfl, hb3⟩
        have hB3 := hB2.later hb3
        replace hb3 := hb2.trans (hb3.mono hb2.size)
        clear hB2 hb2 c0 c1 c2
        obtain ⟨c0, c1, c2⟩ := hB3.cells
        go_wp2_with fail
        refine (C4 _).mono ?_
        rintro e w4 ⟨rfl, hb4⟩
        have hB4 := hB3.later hb4
        replace hb4 := hb3.trans (hb4.mono hb3.size)
        clear hB3 hb3 c0 c1 c2
        obtain ⟨c0, c1, c2⟩ := hB4.cells
        go_wp2_with fail
        refine (Key.awake9 _).mono ?_
        rintro e w5 ⟨rfl, hb5⟩
        replace hb5 := hb4.trans (hb5.mono hb4.size)
        go_wp2_with fail
        go_ret
        exact ⟨rfl, hb5⟩
  · rw [hg] at G
    go_enter Try.func7, Try.ntmps7
    go_wp2_with fail
    refine (G _).mono ?_
    rintro e w1 ⟨rfl, hb1⟩
    replace hb1 := hb0.trans (hb1.mono hb0.size)
    go_wp2_with fail
    refine (Key.awake9 _).mono ?_
    rintro e w2 ⟨rfl, hb2⟩
    replace hb2 := hb1.trans (hb2.mono hb1.size)
    go_wp2_with fail
    go_ret
    exact ⟨rfl, hb2⟩

set_option maxRecDepth 100000 in
theorem lifted (os : Os) (started : os.Started) (H : Type) (enc : TypeId × Value → H) :
    ReturnsInHanded {} Try.checked os 7 .any (Rows.keyUnderSpec.pre6 enc Try.prog Try.f7 Rows.keyUnderRow.domain false) (Rows.keyUnderSpec.post enc Try.prog Try.f7 false true false false) := by
  refine returnsInHanded_of_change (C := Try.checked) own started (by kernel_rfl) Try.func7
    (ChangeSpec.witness6 (enc := enc) (C := Try.checked) false ⟨#[], #[.agg #[.string ByteArray.empty, .string ByteArray.empty, .bool false], .string ByteArray.empty], []⟩ 8 (by kernel_rfl) (by kernel_rfl) (by kernel_rfl) (by kernel_rfl)) ?_
  intro W base args ds gs before hval0 hW hcnd _
  have hval : ∀ (j : Nat) t v, Try.f7.params[j]? = some t → args[j]? = some v → Value.okWide Try.prog W .any base t v := hval0
  have hW' := hW
  obtain ⟨p, q, hA0, hV, rfl, hfz, hnd⟩ := hW
  have hA : DataW.TrodAll enc Try.prog W 0 (fun _ => true) true Try.f7.params.toList args.toList ds p := hA0
  rw [Try.params7] at hA hval
  obtain ⟨v0, vs0, d0, ds0, p0, q0, hargs, rfl, rfl, g0, r0⟩ := trodAll_cons hA
  obtain ⟨v1, vs1, d1, ds1, p1, q1, rfl, rfl, rfl, g1, r1⟩ := trodAll_cons r0
  obtain ⟨rfl, rfl, rfl⟩ := trodAll_nil r1
  obtain rfl : args = #[v0, v1] := by cases args; simp_all
  obtain ⟨rfl, rfl⟩ := trodVars_none hV
  obtain ⟨x0, y0, z0, dx0, dy0, dz0, m0, rfl, rfl, rfl, hx0, hy0, hz0⟩ := open_agg3 Try.underlying29 (by kernel_rfl) cells29 (hval 0 29 v0 rfl rfl) g0
  obtain ⟨l0, el0, rfl, wl0⟩ := DataW.trod_string Try.underlying9 hx0
  obtain ⟨h0, eh0, rfl, wh0⟩ := DataW.trod_string Try.underlying9 hy0
  obtain ⟨e0, ee0, rfl⟩ := DataW.trod_bool Try.underlying4 hz0
  simp at el0 eh0 ee0
  subst el0 eh0 ee0
  obtain ⟨a1, rfl, rfl, rfl, w1⟩ := open_string Try.underlying9 (hval 1 9 v1 rfl rfl) g1
  clear hA0 hval0
  have rd0 : ∀ (W' : World) (sp : Nat → Bool), DataW.Trod enc Try.prog W' 0 sp true 29 (.agg #[.string l0, .string h0, .bool e0]) (.agg [.lit (.string l0.data.toList), .lit (.string h0.data.toList), .lit (.bool e0)]) [] := fun W' sp =>
    shut_agg3 (y0 := (.lit (.string l0.data.toList), [])) (y1 := (.lit (.string h0.data.toList), [])) (y2 := (.lit (.bool e0), [])) Try.underlying29 (by kernel_rfl) cells29 (Deep.shut_string_cell Try.underlying9 wl0) (Deep.shut_string_cell Try.underlying9 wh0) ⟨1, by simp [DataW.trod, Try.underlying4]⟩
  refine (walk l0 h0 e0 a1 W wl0 wh0 w1).mono fun e W' ⟨he, bel⟩ => ?_
  subst he
  exact ⟨_, rfl, _, _, _, [], _, [], hW', trodAll_mk1 (shut_bool Try.underlying4 _), (trodAll_cons_mk (rd0 _ _) (trodAll_cons_mk (shut_string Try.underlying9 w1) trodAll_mk0)), rfl, bel.frame _, fun h => by cases h⟩

theorem over : Rows.keyUnderRow.holds Try.pinned (OpenSpec.ofChange Rows.keyUnderSpec) :=
  OpenClaim.holds_of_wide 7 Try.f7 rfl rfl rfl rfl rfl rfl rfl ⟨rfl, rfl, rfl, rfl, rfl⟩ rfl rfl rfl rfl rfl (by kernel_rfl) Try.func7 (by kernel_rfl)
    (of_decide_eq_true (by kernel_rfl)) (by unfold Func.isWrapper; first | (rw [if_pos (by decide +kernel)]; kernel_rfl) | (rw [if_neg (by decide +kernel)]; exact ⟨rfl, rfl⟩))
    (fun os started H enc _ => lifted os started H enc)

/-- the statement -/
theorem proved : Rows.KeyUnderSaid := over
#print axioms proved
end Go.Proofs.Ytfjbgcjckcfmoaa.keyUnder
