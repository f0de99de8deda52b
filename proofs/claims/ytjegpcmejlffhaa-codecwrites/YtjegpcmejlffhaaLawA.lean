/-
  Contract of awake; the call of the statement CodecBegins.
-/
import Derived.Test.YtjegpcmejlffhaaPutE
import Derived.Test.YtjegpcmejlffhaaGetH
import Derived.Test.YtjegpcmejlffhaaGreat
import Derived.Test.YtjegpcmejlffhaaPn
namespace Go.Proofs.Ytjegpcmejlffhaa.Cod
set_option linter.unusedSimpArgs false
set_option linter.unusedVariables false
open Go.RowKit
open Pack (be txt Own Bytes)
open Key (M E Pr Nd Pl nv Lies mayI ev mv)

def exN : Nd := ⟨true, [⟨⟨#[97]⟩, ⟨#[49]⟩⟩], [], [], []⟩
theorem ex_may : mayI exN = 0 := by decide +kernel
theorem ex_str : strOfNums (wN exN) = ⟨#[1, 1, 1, 97, 1, 49]⟩ := by decide +kernel
theorem ex_len : (wN exN).length = 6 := by decide +kernel

set_option maxRecDepth 100000 in
set_option maxHeartbeats 1000000 in
theorem awake7 (w : World) : Calls Try.prog 7 #[] w fun x w' => x = .returned (.bool true) ∧ Below w.heap.size w w' := by
  have HB := one_box w (.cells #[.string ⟨#[97]⟩, .string ⟨#[49]⟩] 53)
  have R := Row.new w #[.string ⟨#[97]⟩, .string ⟨#[49]⟩] 53
  have hL : Lies (w.alloc (.cells #[.string ⟨#[97]⟩, .string ⟨#[49]⟩] 53)) exN ⟨some ⟨w.heap.size, 0, none⟩, 1, none, 0, none, 0, none, 0⟩ :=
    ⟨.inr ⟨w.heap.size, 0, rfl, fun i hi => by
      have : i = 0 := by have h : i < 1 := hi; omega
      subst this
      exact ⟨R.cell 0, R.cell 1⟩⟩, .inl rfl, .inl rfl, .inl rfl⟩
  have hF : Key.Few exN := ⟨by decide, by decide, by decide, by decide⟩
  have hK : Kinds exN := ⟨fun _ h => (by cases h), fun _ h => (by cases h), fun _ h => (by cases h), fun _ h => (by cases h)⟩
  have HP := hid (put8 exN _ _ hL hF hK)
  rw [ex_may] at HP
  clear hL hF hK R
  go_enter Try.func7, Try.ntmps7
  go_wp2_with fail
  refine HP.out.mono ?_
  rintro x w1 ⟨v, rfl, hW, hb1⟩
  have ho := hW.yes ex_may
  obtain ⟨a1, c1, rfl, hby, hnil⟩ := own_form ho ex_len
  have hc := Pack.conv_str hby 6 c1 ex_len hnil
  rw [ex_str] at hc
  go_wp2
  go_ret
  exact ⟨rfl, HB.trans (hb1.mono (by simp))⟩
end Go.Proofs.Ytjegpcmejlffhaa.Cod
