/-
  Contracts of Has, the program's and the document's.
-/
import Derived.Test.YtlpnnheopalhaaaAid
namespace Go.Proofs.Ytlpnnheopalhaaa.Key
open Go.RowKit
open Go.Op (bytesLess)

set_option maxHeartbeats 1000000 in
theorem has33 (k p : ByteArray) (w : World) :
    Calls Try.prog 33 #[.string k, .string p] w fun x w' => x = .returned (.bool (has k.data.toList p.data.toList)) ∧ w' = w := by
  have hr := hid (Lib.hasPrefix_raw k p)
  go_enter Try.func33, Try.ntmps33
  go_wp2
  · have hc : p.size ≤ k.size := by assumption
    go_ret
    have := hr.out
    rw [decide_eq_true hc, Bool.true_and] at this
    exact ⟨ret_bool this, rfl⟩
  · have hc : ¬ p.size ≤ k.size := by assumption
    go_ret
    have := hr.out
    rw [decide_eq_false hc, Bool.false_and] at this
    exact ⟨ret_bool this, rfl⟩
theorem has30 (k p : ByteArray) (w : World) :
    Calls Try.prog 30 #[.string k, .string p] w fun x w' => x = .returned (.bool (has k.data.toList p.data.toList)) ∧ w' = w := by
  go_enter Try.func30, Try.ntmps30
  go_wp2_with fail
  refine (has33 k p _).mono ?_
  rintro x w' ⟨rfl, rfl⟩
  go_wp2
  go_ret
  exact ⟨rfl, rfl⟩
/-- Has, the program's -/
theorem has21 (k p : ByteArray) (w : World) :
    Calls Try.prog 21 #[.string k, .string p] w fun x w' => x = .returned (.bool (has k.data.toList p.data.toList)) ∧ w' = w := by
  go_enter Try.func21, Try.ntmps21
  go_wp2_with fail
  refine (has30 k p _).mono ?_
  rintro x w' ⟨rfl, rfl⟩
  go_wp2
  go_ret
  exact ⟨rfl, rfl⟩
set_option maxHeartbeats 1000000 in
/-- Has, the document's -/
theorem has22 (k p : ByteArray) (w : World) :
    Calls Try.prog 22 #[.string k, .string p] w fun x w' => x = .returned (.bool (has k.data.toList p.data.toList)) ∧ w' = w := by
  have hr := hid (Lib.hasPrefix_raw k p)
  go_enter Try.func22, Try.ntmps22
  go_wp2
  · have hc : p.size ≤ k.size := by assumption
    go_ret
    have := hr.out
    rw [decide_eq_true hc, Bool.true_and] at this
    exact ⟨ret_bool this, rfl⟩
  · have hc : ¬ p.size ≤ k.size := by assumption
    go_ret
    have := hr.out
    rw [decide_eq_false hc, Bool.false_and] at this
    exact ⟨ret_bool this, rfl⟩

end Go.Proofs.Ytlpnnheopalhaaa.Key
