/-
  Contracts of Up, Down and Turn, the program's and the document's; blocks that hold a lift.
-/
import Derived.Test.YtlkcoaencliajaaLCutRef
namespace Go.Proofs.Ytlkcoaencliajaa.Key
open Go.RowKit
open Go.Op (bytesLess)

set_option maxRecDepth 100000 in
set_option maxHeartbeats 1000000 in
/-- Up, the program's -/
theorem up11 (s a k : ByteArray) (w : World) (ha : a.size ≤ 1000000) (hk : k.size ≤ 1000000) :
    Calls Try.prog 70 #[lv s a, .string k] w fun x w' => x = .returned (.tuple #[.string (upS (lf s a) k.data.toList), .bool (upB (lf s a) k.data.toList)]) ∧ Below w.heap.size w w' := by
  have HC := has21 k s
  cases h : has k.data.toList s.data.toList
  · rw [h] at HC
    rw [upS_no h, upB_eq h]
    clear h
    go_enter Try.func70, Try.ntmps70
    go_wp2_with fail
    refine (HC _).mono ?_
    clear HC
    rintro x w' ⟨rfl, rfl⟩
    go_wp2_with fail
    exact bodyPost_ret (v := .tuple #[.string ⟨#[]⟩, .bool false]) (by simp [results, Try.results70, go_sem]) rfl ⟨rfl, below_one _ _⟩
  · have hz := has_size h
    have hz' : (s.size : Int) ≤ (k.size : Int) := by omega
    rw [h] at HC
    rw [upS_yes h, upB_eq h]
    clear h
    go_enter Try.func70, Try.ntmps70
    go_wp2_with fail
    refine (HC _).mono ?_
    clear HC
    rintro x w' ⟨rfl, rfl⟩
    go_wp2_with fail
    go_quiet (fail)
    go_wp2_with fail
    exact bodyPost_ret (v := .tuple #[.string (a ++ k.extract s.size k.size), .bool true]) (by simp [results, Try.results70, go_sem]) rfl ⟨rfl, below_drew (below_one _ _) _⟩
set_option maxRecDepth 100000 in
set_option maxHeartbeats 1000000 in
/-- Up, the document's -/
theorem up12 (s a k : ByteArray) (w : World) (ha : a.size ≤ 1000000) (hk : k.size ≤ 1000000) :
    Calls Try.prog 81 #[lv s a, .string k] w fun x w' => x = .returned (.tuple #[.string (upS (lf s a) k.data.toList), .bool (upB (lf s a) k.data.toList)]) ∧ Below w.heap.size w w' := by
  have HC := has22 k s
  cases h : has k.data.toList s.data.toList
  · rw [h] at HC
    rw [upS_no h, upB_eq h]
    clear h
    go_enter Try.func81, Try.ntmps81
    go_wp2_with fail
    refine (HC _).mono ?_
    clear HC
    rintro x w' ⟨rfl, rfl⟩
    go_wp2_with fail
    exact bodyPost_ret (v := .tuple #[.string ⟨#[]⟩, .bool false]) (by simp [results, Try.results81, go_sem]) rfl ⟨rfl, below_one _ _⟩
  · have hz := has_size h
    have hz' : (s.size : Int) ≤ (k.size : Int) := by omega
    rw [h] at HC
    rw [upS_yes h, upB_eq h]
    clear h
    go_enter Try.func81, Try.ntmps81
    go_wp2_with fail
    refine (HC _).mono ?_
    clear HC
    rintro x w' ⟨rfl, rfl⟩
    go_wp2_with fail
    go_quiet (fail)
    go_wp2_with fail
    exact bodyPost_ret (v := .tuple #[.string (a ++ k.extract s.size k.size), .bool true]) (by simp [results, Try.results81, go_sem]) rfl ⟨rfl, below_drew (below_one _ _) _⟩
set_option maxRecDepth 100000 in
set_option maxHeartbeats 1000000 in
/-- Turn -/
theorem turn17 (s a : ByteArray) (w : World) :
    Calls Try.prog 91 #[lv s a] w fun x w' => x = .returned (lv a s) ∧ Below w.heap.size w w' := by
  go_enter Try.func91, Try.ntmps91
  go_wp2_with fail
  exact bodyPost_ret (v := lv a s) (by simp [results, Try.results91, go_sem]) rfl ⟨rfl, below_two _ _ _⟩

set_option maxRecDepth 100000 in
set_option maxHeartbeats 1000000 in
/-- Down, the program's -/
theorem down13 (s a k : ByteArray) (w : World) (hs : s.size ≤ 1000000) (hk : k.size ≤ 1000000) :
    Calls Try.prog 88 #[lv s a, .string k] w fun x w' => x = .returned (.tuple #[.string (upS (lf a s) k.data.toList), .bool (upB (lf a s) k.data.toList)]) ∧ Below w.heap.size w w' := by
  have HC := fun w => up11 a s k w hs hk
  generalize upS (lf a s) k.data.toList = S at *
  generalize upB (lf a s) k.data.toList = b at *
  go_enter Try.func88, Try.ntmps88
  go_wp2_with fail
  refine (turn17 s a _).mono ?_
  rintro x w1 ⟨rfl, hb1⟩
  replace hb1 := (below_one _ _).trans (hb1.mono (by simp))
  go_wp2_with fail
  refine (HC _).mono ?_
  clear HC
  rintro x w2 ⟨rfl, hb2⟩
  replace hb2 := hb1.trans (hb2.mono hb1.size)
  go_wp2_with fail
  exact bodyPost_ret (v := .tuple #[.string S, .bool b]) (by simp [results, Try.results88, go_sem]) rfl ⟨rfl, hb2⟩

end Go.Proofs.Ytlkcoaencliajaa.Key
