/-
  Contracts of Between, the program's and the document's.
-/
import Derived.Test.YtfjbgcjckcfmoaaSucc
namespace Go.Proofs.Ytfjbgcjckcfmoaa.Key
open Go.RowKit
open Go.Op (bytesLess)

theorem less_str (a b : ByteArray) : bytesLess a.toList b.toList = bytesLess a.data.toList b.data.toList := by rw [Lib.toList_data, Lib.toList_data]

set_option maxHeartbeats 1000000 in
/-- Between, the program's -/
theorem between17 (a b : ByteArray) (w : World) (ha : a.size ≤ 1000000) (hb : b.size ≤ 1000000) :
    Calls Try.prog 17 #[.string a, .string b] w fun x w' => x = .returned (.string (str (between a.data.toList b.data.toList))) ∧ Below w.heap.size w w' := by
  cases hl : bytesLess a.toList b.toList
  · have H : between a.data.toList b.data.toList = [] := by rw [less_str] at hl; simp [between, hl]
    have H1 := hid H
    clear H
    go_enter Try.func17, Try.ntmps17
    go_wp2_with fail
    go_ret
    exact ⟨ret_str (by rw [H1.out]; rfl), Below.refl _ _⟩
  · have hl' := hl
    rw [less_str] at hl'
    have hc := (common_less hl').1
    rw [← Lib.size_eq] at hc
    have H : between a.data.toList b.data.toList = b.data.toList.take ((common a.data.toList b.data.toList).length + 1) := by simp [between, hl']
    have H1 := hid H
    have hz := str_size (common a.data.toList b.data.toList)
    have HC := common15 a b w ha hb
    generalize str (common a.data.toList b.data.toList) = S at *
    generalize (common a.data.toList b.data.toList).length = C at *
    clear H hl'
    go_enter Try.func17, Try.ntmps17
    go_wp2_with fail
    refine HC.mono ?_
    clear HC
    rintro x w' ⟨rfl, hbw⟩
    have hi : (C : Int) + 1 ≤ (b.size : Int) := by omega
    go_wp2_with fail
    go_ret
    exact ⟨ret_str (by rw [H1.out, cut_eq]), hbw⟩

theorem gt_yes {x y : ByteArray} (h : (!bytesLess x.toList y.toList) = true ∧ (!x.toList == y.toList) = true) : bytesLess y.data.toList x.data.toList = true := by
  rw [Lib.toList_data, Lib.toList_data] at h
  cases hc : bytesLess y.data.toList x.data.toList
  · have h1 : bytesLess x.data.toList y.data.toList = false := by simpa using h.1
    rw [less_same h1 hc] at h
    simp at h
  · rfl
theorem gt_no {x y : ByteArray} (h : (!bytesLess x.toList y.toList) = false ∨ (!x.toList == y.toList) = false) : bytesLess y.data.toList x.data.toList = false := by
  rw [Lib.toList_data, Lib.toList_data] at h
  rcases h with h | h
  · exact less_asymm (by simpa using h)
  · have h1 : x.data.toList = y.data.toList := by simpa using h
    rw [h1]
    exact less_self _
set_option maxHeartbeats 1000000 in
/-- Between, the document's -/
theorem between18 (a b : ByteArray) (w : World) (hb : b.size ≤ 1000000) :
    Calls Try.prog 18 #[.string a, .string b] w fun x w' => x = .returned (.string (str (between a.data.toList b.data.toList))) ∧ w' = w := by
  go_enter Try.func18, Try.ntmps18
  go_wp2_with fail
  go_loop [5] (fun n => ∃ j : Nat, j ≤ b.size + 1 ∧ n = .int .i64 j ∧ Hid (bytesLess a.data.toList b.data.toList = true → j ≤ (common a.data.toList b.data.toList).length + 1)) (fun n => b.size + 1 - (intOf n).toNat)
  case atStart => exact ⟨0, Nat.zero_le _, rfl, hid (fun _ => Nat.zero_le _)⟩
  case round =>
    obtain ⟨j, hj, rfl, hs⟩ := hrel
    go_wp2_with fail
    · have hg := gt_yes ‹_›
      rw [cut_data] at hg
      go_ret
      refine ⟨ret_str ?_, rfl⟩
      have hl : bytesLess a.data.toList b.data.toList = true := by
        cases h : bytesLess a.data.toList b.data.toList
        · rw [less_part j h] at hg
          cases hg
        · rfl
      have h1 := hs.out hl
      have h2 : ¬ j ≤ (common a.data.toList b.data.toList).length := fun h => by
        rw [common_part j h] at hg
        cases hg
      rw [cut_eq, between, hl, if_pos rfl, show j = (common a.data.toList b.data.toList).length + 1 by omega]
    · have hg := gt_no ‹_›
      rw [cut_data] at hg
      have hj1 : j ≤ b.size := by assumption
      refine ⟨⟨j + 1, by omega, rfl, hid fun hl => ?_⟩, by simp [intOf]; omega⟩
      have h1 := hs.out hl
      have h2 : j ≠ (common a.data.toList b.data.toList).length + 1 := fun h => by
        rw [h, (common_less hl).2] at hg
        cases hg
      omega
    · have hj1 : ¬ j ≤ b.size := by assumption
      go_ret
      refine ⟨ret_str ?_, rfl⟩
      have hl : bytesLess a.data.toList b.data.toList = false := by
        cases h : bytesLess a.data.toList b.data.toList
        · rfl
        · have h1 := hs.out h
          have h2 := (common_less h).1
          rw [← Lib.size_eq] at h2
          omega
      rw [between, hl]
      rfl
end Go.Proofs.Ytfjbgcjckcfmoaa.Key
