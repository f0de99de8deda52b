/-
  Contracts of Has and Next, the program's and the document's.
-/
import Derived.Test.YtknjemmhcjihfaaAid
namespace Go.Proofs.Ytknjemmhcjihfaa.Key
open Go.RowKit
open Go.Op (bytesLess)

set_option maxHeartbeats 1000000 in
theorem has68 (k p : ByteArray) (w : World) :
    Calls Try.prog 68 #[.string k, .string p] w fun x w' => x = .returned (.bool (has k.data.toList p.data.toList)) ∧ w' = w := by
  have hr := hid (Lib.hasPrefix_raw k p)
  go_enter Try.func68, Try.ntmps68
  go_wp2
  · have hc : p.size ≤ k.size := by assumption
    go_ret
    have := hr.out
    rw [decide_eq_true hc, Bool.true_and] at this
    exact ⟨ret_bool this, rfl⟩
  · have hc : ¬ p.size ≤ k.size := by assumption
    go_ret
    have := hr.out
    rw [decide_eq_false hc, Bool.false_and] at this
    exact ⟨ret_bool this, rfl⟩
theorem has65 (k p : ByteArray) (w : World) :
    Calls Try.prog 65 #[.string k, .string p] w fun x w' => x = .returned (.bool (has k.data.toList p.data.toList)) ∧ w' = w := by
  go_enter Try.func65, Try.ntmps65
  go_wp2_with fail
  refine (has68 k p _).mono ?_
  rintro x w' ⟨rfl, rfl⟩
  go_wp2
  go_ret
  exact ⟨rfl, rfl⟩
/-- Has, the program's -/
theorem has58 (k p : ByteArray) (w : World) :
    Calls Try.prog 58 #[.string k, .string p] w fun x w' => x = .returned (.bool (has k.data.toList p.data.toList)) ∧ w' = w := by
  go_enter Try.func58, Try.ntmps58
  go_wp2_with fail
  refine (has65 k p _).mono ?_
  rintro x w' ⟨rfl, rfl⟩
  go_wp2
  go_ret
  exact ⟨rfl, rfl⟩
set_option maxHeartbeats 1000000 in
/-- Has, the document's -/
theorem has66 (k p : ByteArray) (w : World) :
    Calls Try.prog 66 #[.string k, .string p] w fun x w' => x = .returned (.bool (has k.data.toList p.data.toList)) ∧ w' = w := by
  have hr := hid (Lib.hasPrefix_raw k p)
  go_enter Try.func66, Try.ntmps66
  go_wp2
  · have hc : p.size ≤ k.size := by assumption
    go_ret
    have := hr.out
    rw [decide_eq_true hc, Bool.true_and] at this
    exact ⟨ret_bool this, rfl⟩
  · have hc : ¬ p.size ≤ k.size := by assumption
    go_ret
    have := hr.out
    rw [decide_eq_false hc, Bool.false_and] at this
    exact ⟨ret_bool this, rfl⟩

/-- Next -/
theorem next63 (k : ByteArray) (w : World) (hk : k.size ≤ 1000000) :
    Calls Try.prog 63 #[.string k] w fun x w' => x = .returned (.string (str (k.data.toList ++ [0]))) ∧ w' = w := by
  have hs := hid (str_append k ⟨#[0]⟩)
  go_enter Try.func63, Try.ntmps63
  go_wp2
  go_ret
  exact ⟨ret_str hs.out, rfl⟩


end Go.Proofs.Ytknjemmhcjihfaa.Key
