/-
  Contracts of the program's disk at a nil one.
-/
import Derived.Test.YtklfpoojpfomeaaPb
namespace Go.Proofs.Ytklfpoojpfomeaa.Key
open Go.RowKit
set_option linter.unusedVariables false
set_option linter.unusedSimpArgs false
theorem nil11 (w : World) : Calls Try.prog 11 #[.pointer none] w fun x w' => x = .returned (.bool false) ∧ Below w.heap.size w w' := by
  go_enter Try.func11, Try.ntmps11
  go_wp2_with fail
  go_ret
  exact ⟨rfl, Below.refl _ _⟩
theorem nil12 (w : World) : Calls Try.prog 12 #[.pointer none] w fun x w' => x = .returned (.int .i64 0) ∧ Below w.heap.size w w' := by
  go_enter Try.func12, Try.ntmps12
  go_wp2_with fail
  go_ret
  exact ⟨rfl, Below.refl _ _⟩
theorem nil13 (w : World) : Calls Try.prog 13 #[.pointer none] w fun x w' => x = .returned (.int .i64 0) ∧ Below w.heap.size w w' := by
  go_enter Try.func13, Try.ntmps13
  go_wp2_with fail
  go_ret
  exact ⟨rfl, Below.refl _ _⟩
theorem nil14 (w : World) : Calls Try.prog 14 #[.pointer none] w fun x w' => x = .returned (.int .i64 0) ∧ Below w.heap.size w w' := by
  go_enter Try.func14, Try.ntmps14
  go_wp2_with fail
  go_ret
  exact ⟨rfl, Below.refl _ _⟩
theorem nil27 (k : Int) (w : World) : Calls Try.prog 27 #[.pointer none, .int .i64 k] w fun x w' => x = .returned (.int .i64 17) ∧ Below w.heap.size w w' := by
  have HC := nil11 w
  go_enter Try.func27, Try.ntmps27
  go_wp2_with fail
  refine HC.mono ?_
  rintro e w1 ⟨rfl, hb⟩
  go_wp2_with fail
  go_ret
  exact ⟨rfl, hb⟩
theorem nil15 (k : Int) (w : World) : Calls Try.prog 15 #[.pointer none, .int .i64 k] w fun x w' => x = .returned (.tuple #[.slice none 0 0, .int .i64 17]) ∧ Below w.heap.size w w' := by
  have HC := nil27 k w
  go_enter Try.func15, Try.ntmps15
  go_wp2_with fail
  refine HC.mono ?_
  rintro e w1 ⟨rfl, hb⟩
  go_wp2_with fail
  exact bodyPost_ret (v := .tuple #[.slice none 0 0, .int .i64 17]) (by simp [results, Try.results15, go_sem]) rfl ⟨rfl, hb⟩
theorem nil17 (k : Int) (a : Option Addr) (n c : Nat) (w : World) : Calls Try.prog 17 #[.pointer none, .int .i64 k, .slice a n c] w fun x w' => x = .returned (.int .i64 17) ∧ Below w.heap.size w w' := by
  have HC := nil27 k w
  go_enter Try.func17, Try.ntmps17
  go_wp2_with fail
  refine HC.mono ?_
  rintro e w1 ⟨rfl, hb⟩
  go_wp2_with fail
  go_ret
  exact ⟨rfl, hb⟩
theorem nil18 (w : World) : Calls Try.prog 18 #[.pointer none] w fun x w' => x = .returned (.int .i64 17) ∧ Below w.heap.size w w' := by
  have HC := nil11 w
  go_enter Try.func18, Try.ntmps18
  go_wp2_with fail
  refine HC.mono ?_
  rintro e w1 ⟨rfl, hb⟩
  go_wp2_with fail
  go_ret
  exact ⟨rfl, hb⟩
theorem nil19 (k : Int) (w : World) : Calls Try.prog 19 #[.pointer none, .int .i64 k] w fun x w' => x = .returned (.tuple #[]) ∧ Below w.heap.size w w' := by
  go_enter Try.func19, Try.ntmps19
  go_wp2_with fail
  go_end0
  exact ⟨rfl, Below.refl _ _⟩
theorem nil20 (w : World) : Calls Try.prog 20 #[.pointer none] w fun x w' => x = .returned (.tuple #[]) ∧ Below w.heap.size w w' := by
  have HC := nil11 w
  go_enter Try.func20, Try.ntmps20
  go_wp2_with fail
  refine HC.mono ?_
  rintro e w1 ⟨rfl, hb⟩
  go_wp2_with fail
  go_end0
  exact ⟨rfl, hb⟩
theorem nil21 (a : Option Addr) (n c : Nat) (t k : Int) (w : World) : Calls Try.prog 21 #[.pointer none, .slice a n c, .int .i64 t, .int .i64 k] w fun x w' => x = .returned (.tuple #[]) ∧ Below w.heap.size w w' := by
  go_enter Try.func21, Try.ntmps21
  go_wp2_with fail
  exact bodyPost_ret (v := .tuple #[]) (by simp [results, Try.results21, go_sem]) rfl ⟨rfl, Below.refl _ _⟩
end Go.Proofs.Ytklfpoojpfomeaa.Key
