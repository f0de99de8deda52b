/-
  Proved: the call of the statement PackStays returns true for every slice of bytes, every number and every slice of steps (behind an error nothing is taken, and the first error stays; a nil reader has nothing), and both slices read afterwards as they read before. No condition.
  The frame of the row's step was written by the guide's proof-skeleton.mjs for another row and turned by hand for the slice of steps; the walk is this text's own.
-/
import Derived.Test.YtkefkjpacfgbdaaStay
import Derived.WalkKit
import Derived.ProofKit
import Derived.OpenShut
import Derived.ShutString
import Derived.ChangeOld
import Derived.Below
import Derived.Deep.SlicePairs
namespace Go.Proofs.Ytkefkjpacfgbdaa.packStays
open Go.ChangeShapes Go.WideShapes Go.ChangeAt Go.RowKit
open Go.ChangeMaps (open_string shut_string)
set_option linter.unusedVariables false

theorem own : ownKnob Try.prog.godebug = none := by kernel_rfl
theorem laidOut : laidOutB Try.prog = true := by kernel_rfl

/-- WHAT THE WALK IS TOLD OF A SLICE OF INTEGERS THAT CAME IN: it is nil; or it leads to a row of 'cap' cells, the numbers 'zs' (the first 'len' are its elements, the rest its spare room), each fitting its kind. -/
def IsRow (k : IntKind) (w : World) (a : Option Addr) (len cap : Nat) (zs : List Int) : Prop :=
  (a = none ∧ len = 0 ∧ cap = 0 ∧ zs = []) ∨
  ∃ x, a = some x ∧ len ≤ cap ∧ cap ≤ maxLen ∧ zs.length = cap ∧ (∀ i, i < zs.length → w.cell? (x.add i) = some (.int k (zs.getD i 0))) ∧ ∀ n ∈ zs, (Lit.int k n).wf = true

set_option maxRecDepth 100000 in
set_option maxHeartbeats 4000000 in
theorem walk (a0 : Option Addr) (len0 cap0 : Nat) (z0 : List Int) (a1 : Int) (a2 : Option Addr) (len2 cap2 : Nat) (K M : Nat → Int) (w : World) (w0 : IsRow .u8 w a0 len0 cap0 z0) (w1 : (Lit.int .i64 a1).wf = true) (w2 : Pack.Steps w a2 len2 K M) (hl2 : len2 ≤ maxLen) :
    Calls Try.prog 6 #[.slice a0 len0 cap0, .int .i64 a1, .slice a2 len2 cap2] w fun e w' => e = .returned (.bool true) ∧ Below w.heap.size w w' := by
  obtain ⟨xs, hx1, hx2, hx3, hx4, hx5⟩ := Pack.opened w0
  clear w0
  unfold maxLen at hx5 hl2
  obtain ⟨hs0, hs1⟩ : -9223372036854775808 ≤ a1 ∧ a1 ≤ 9223372036854775807 := by simpa [Lit.wf, IntKind.min, IntKind.max, IntKind.signed, IntKind.bits] using w1
  clear w1
  by_cases h0 : 2000 < len0 ∨ 200 < len2 ∨ a1 < 1 ∨ 99 < a1
  · go_enter Try.func6, Try.ntmps6
    go_wp2_with (go_at_call 7; refine (Pack.awake_any _).mono ?_; rintro e w' ⟨rfl, hb⟩)
    all_goals (go_ret; exact ⟨rfl, hb⟩)
  · have hd0 : decide ((2000 : Int) < (len0 : Int)) = false := by simp; omega
    have hd1 : decide ((200 : Int) < (len2 : Int)) = false := by simp; omega
    have hd2 : decide (a1 < 1) = false := by simp; omega
    have hd3 : decide (99 < a1) = false := by simp; omega
    have he : a1 ≠ 0 := by omega
    have hx0 : (a1 == 0) = false := by simpa using he
    go_enter Try.func6, Try.ntmps6
    go_wp2_with fail
    refine (Pack.New_any a0 len0 cap0 xs w hx1 hx2 hx3 hx4 (by omega)).mono ?_
    rintro e w3 ⟨k, rfl, hr3, hb3⟩
    have hk := hr3.lt.2
    go_wp2_with fail
    refine (Pack.fail_any hr3 a1).mono ?_
    rintro e w4 ⟨rfl, hr4, hg4⟩
    have hr5 : Pack.Rd w4 w.heap.size k xs 0 a1 := hr4
    have hb4 := Pack.Below.own hb3 hg4 (Nat.le_refl _) hk
    clear hr3 hr4 hg4 hb3
    generalize hB : w.heap.size = B at hr5
    have HB := Pack.hid hB
    clear hB
    go_wp2_with fail
    go_loopw [9] (fun i wr => ∃ j : Nat, j ≤ len2 ∧ i = .int .i64 j ∧ Pack.Rd wr B k xs 0 a1 ∧ Below w.heap.size w wr) (fun i _ => len2 - (intOf i).toNat)
    case atStart => exact ⟨0, Nat.zero_le _, rfl, hr5, hb4⟩
    case round =>
      obtain ⟨j, hj, rfl, hr, hb⟩ := hrel
      by_cases hlt : j < len2
      · obtain ⟨b, off, rfl, hc0, hc1⟩ := w2.at (Below.refl _ _) hlt
        have HC := Pack.hid hc1
        clear hc0 hc1
        have hm := cell_later hb HC.out
        go_wp2_with fail
        refine (Pack.Bad_fail he hr (M j)).mono ?_
        rintro e wa ⟨rfl, hra, hga⟩
        have hba := Pack.Below.own hb hga hk (Nat.le_refl _)
        clear hr hga hm hb
        go_wp2_with fail
        refine (Pack.fail_nil _ 4).mono ?_
        rintro e w' ⟨rfl, rfl⟩
        go_wp2_with fail
        refine (Pack.Bad_1 he hra).mono ?_
        rintro e wb ⟨rfl, hrb, hgb⟩
        have hbb := Pack.Below.own hba hgb hk (Nat.le_refl _)
        clear hra hgb hba
        go_wp2_with fail
        refine (Pack.Bad_2 he hrb).mono ?_
        rintro e wc ⟨rfl, hrc, hgc⟩
        have hbc := Pack.Below.own hbb hgc hk (Nat.le_refl _)
        clear hrb hgc hbb
        go_wp2_with fail
        refine (Pack.Bad_4 he hrc).mono ?_
        rintro e wd ⟨rfl, hrd, hgd⟩
        have hbd := Pack.Below.own hbc hgd hk (Nat.le_refl _)
        clear hrc hgd hbc
        go_wp2_with fail
        refine (Pack.Bad_8 he hrd).mono ?_
        rintro e we ⟨rfl, hre, hge⟩
        have hbe := Pack.Below.own hbd hge hk (Nat.le_refl _)
        clear hrd hge hbd
        have hm := cell_later hbe HC.out
        go_wp2_with fail
        refine (Pack.Bad_text he hre (M j)).mono ?_
        rintro e wf ⟨rfl, hrf, hgf⟩
        have hbf := Pack.Below.own hbe hgf hk (Nat.le_refl _)
        clear hre hgf hbe hm
        go_wp2_with fail
        refine (Pack.left_any hrf).mono ?_
        rintro e wl ⟨rfl, hbl0⟩
        have hrl := hrf.later hbl0
        have hbl := hbf.trans (hbl0.mono hbf.size)
        rw [Nat.sub_zero, hx1]
        clear hrf hbl0 hbf
        go_wp2_with fail
        refine (Pack.Get_nil_1 _).mono ?_
        rintro e w' ⟨rfl, rfl⟩
        go_wp2_with fail
        refine (Pack.Get_nil_2 _).mono ?_
        rintro e w' ⟨rfl, rfl⟩
        go_wp2_with fail
        refine (Pack.Get_nil_4 _).mono ?_
        rintro e w' ⟨rfl, rfl⟩
        go_wp2_with fail
        refine (Pack.Get_nil_8 _).mono ?_
        rintro e w' ⟨rfl, rfl⟩
        have hm := cell_later hbl HC.out
        go_wp2_with fail
        refine (Pack.GetText_nil _ (M j)).mono ?_
        rintro e w' ⟨rfl, rfl⟩
        clear hm
        go_wp2_with fail
        refine (Pack.left_nil _).mono ?_
        rintro e w' ⟨rfl, rfl⟩
        go_wp2_with fail
        refine (Pack.End_nil _).mono ?_
        rintro e w' ⟨rfl, rfl⟩
        go_wp2
        go_roundw
        case rel => exact ⟨j + 1, by omega, by go_num, hrl, hbl⟩
        case measure => simp [intOf]; omega
      · obtain rfl : j = len2 := by omega
        go_wp2_with fail
        refine (Pack.End_any hr).mono ?_
        rintro e w5 ⟨rfl, hb5⟩
        rw [show Pack.endE xs.length 0 a1 = a1 from if_neg (fun x => he x.1)]
        have hb6 := hb.trans (hb5.mono hb.size)
        go_wp2_with fail
        refine (Pack.awake_any _).mono ?_
        rintro e w7 ⟨rfl, hb7⟩
        go_wp2
        go_ret
        exact ⟨rfl, hb6.trans (hb7.mono hb6.size)⟩

/-! ### THE ROW's STEP: WRITTEN OUT: LEAVE IT -/
set_option maxRecDepth 100000 in
theorem lifted (os : Os) (started : os.Started) (H : Type) (enc : TypeId × Value → H) :
    ReturnsInHanded {} Try.checked os 6 .any (Rows.packStaysSpec.pre6 enc Try.prog Try.f6 Rows.packStaysRow.domain false) (Rows.packStaysSpec.post enc Try.prog Try.f6 false true false false) := by
  refine returnsInHanded_of_change (C := Try.checked) own started (by kernel_rfl) Try.func6
    (ChangeSpec.witness6 (enc := enc) (C := Try.checked) false ⟨#[], #[.slice none 0 0, .int .i64 0, .slice none 0 0], []⟩ 8 (by kernel_rfl) (by kernel_rfl) (by kernel_rfl) (by kernel_rfl)) ?_
  intro W base args ds gs before hval0 hW hcnd _
  have hval : ∀ (j : Nat) t v, Try.f6.params[j]? = some t → args[j]? = some v → Value.okWide Try.prog W .any base t v := hval0
  have hW' := hW
  obtain ⟨p, q, hA0, hV, rfl, hfz, hnd⟩ := hW
  have hA : DataW.TrodAll enc Try.prog W 0 (fun _ => true) true Try.f6.params.toList args.toList ds p := hA0
  rw [Try.params6] at hA hval
  obtain ⟨v0, vs0, d0, ds0, p0, q0, hargs, rfl, rfl, h0, r0⟩ := trodAll_cons hA
  obtain ⟨v1, vs1, d1, ds1, p1, q1, rfl, rfl, rfl, h1, r1⟩ := trodAll_cons r0
  obtain ⟨v2, vs2, d2, ds2, p2, q2, rfl, rfl, rfl, h2, r2⟩ := trodAll_cons r1
  obtain ⟨rfl, rfl, rfl⟩ := trodAll_nil r2
  obtain rfl : args = #[v0, v1, v2] := by cases args; simp_all
  obtain ⟨rfl, rfl⟩ := trodVars_none hV
  obtain ⟨a0, len0, cap0, rfl⟩ := okWide_slice Try.underlying22 (hval 0 22 v0 rfl rfl)
  have k0 := h0
  have lt0 : ∀ x ∈ p0, x.block < W.heap.size := by obtain ⟨m, hm⟩ := k0; exact DataW.trod_lt m _ _ _ hm
  obtain ⟨z0, w0⟩ : ∃ zs, IsRow .u8 W a0 len0 cap0 zs := by
    obtain ⟨fuel, hf⟩ := h0
    rcases open_ints Try.underlying22 Try.underlying5 (by kernel_rfl) hf with ⟨hcs, _⟩ | ⟨x, l, c, zs, hcs, _, hl, hm, hz, _, hcell, hwz⟩
    · simp [Value.cells] at hcs
      obtain ⟨rfl, rfl, rfl⟩ := hcs
      exact ⟨[], .inl ⟨rfl, rfl, rfl, rfl⟩⟩
    · simp [Value.cells] at hcs
      obtain ⟨rfl, rfl, rfl⟩ := hcs
      exact ⟨zs, .inr ⟨_, rfl, hl, hm, by simpa using hz, hcell, hwz⟩⟩
  obtain ⟨a1, rfl, rfl, rfl, w1⟩ := open_int Try.underlying3 (hval 1 3 v1 rfl rfl) h1
  obtain ⟨a2, len2, cap2, rfl⟩ := okWide_slice Try.underlying34 (hval 2 34 v2 rfl rfl)
  have k2 := h2
  have lt2 : ∀ x ∈ p2, x.block < W.heap.size := by obtain ⟨m, hm⟩ := k2; exact DataW.trod_lt m _ _ _ hm
  obtain ⟨K, M, w2, hl2⟩ := Pack.opened_steps h2
  clear hA0 hval0
  refine (walk a0 len0 cap0 z0 a1 a2 len2 cap2 K M W w0 w1 w2 hl2).mono fun e W' ⟨he, bel⟩ => ?_
  subst he
  exact ⟨_, rfl, _, _, _, [], _, [], hW', trodAll_mk1 (shut_bool Try.underlying4 _), (trodAll_cons_mk (Below.trod laidOut (by kernel_rfl) (of_decide_eq_true (by kernel_rfl)) k0 bel lt0) (trodAll_cons_mk (shut_int Try.underlying3 w1) (trodAll_cons_mk (Below.trod laidOut (by kernel_rfl) (of_decide_eq_true (by kernel_rfl)) k2 bel lt2) trodAll_mk0))), rfl, bel.frame _, fun h => by cases h⟩

theorem over : Rows.packStaysRow.holds Try.pinned (OpenSpec.ofChange Rows.packStaysSpec) :=
  OpenClaim.holds_of_wide 6 Try.f6 rfl rfl rfl rfl rfl rfl rfl ⟨rfl, rfl, rfl, rfl, rfl⟩ rfl rfl rfl rfl rfl (by kernel_rfl) Try.func6 (by kernel_rfl)
    (of_decide_eq_true (by kernel_rfl)) (by unfold Func.isWrapper; first | (rw [if_pos (by decide +kernel)]; kernel_rfl) | (rw [if_neg (by decide +kernel)]; exact ⟨rfl, rfl⟩))
    (fun os started H enc _ => lifted os started H enc)

/-- ████ THE STATEMENT ████ -/
theorem proved : Rows.PackStaysSaid := over
#print axioms proved
end Go.Proofs.Ytkefkjpacfgbdaa.packStays
