/-
  Contracts of the functions of texts alone: Has, Next, Common, Succ, Between, the program's and the document's.
-/
import Derived.Test.YtfjbgcjckcfmoaaAid
namespace Go.Proofs.Ytfjbgcjckcfmoaa.Key
open Go.RowKit
open Go.Op (bytesLess)

set_option maxHeartbeats 1000000 in
theorem has32 (k p : ByteArray) (w : World) :
    Calls Try.prog 32 #[.string k, .string p] w fun x w' => x = .returned (.bool (has k.data.toList p.data.toList)) ∧ w' = w := by
  have hr := hid (Lib.hasPrefix_raw k p)
  go_enter Try.func32, Try.ntmps32
  go_wp2
  · have hc : p.size ≤ k.size := by assumption
    go_ret
    have := hr.out
    rw [decide_eq_true hc, Bool.true_and] at this
    exact ⟨ret_bool this, rfl⟩
  · have hc : ¬ p.size ≤ k.size := by assumption
    go_ret
    have := hr.out
    rw [decide_eq_false hc, Bool.false_and] at this
    exact ⟨ret_bool this, rfl⟩
theorem has30 (k p : ByteArray) (w : World) :
    Calls Try.prog 30 #[.string k, .string p] w fun x w' => x = .returned (.bool (has k.data.toList p.data.toList)) ∧ w' = w := by
  go_enter Try.func30, Try.ntmps30
  go_wp2_with fail
  refine (has32 k p _).mono ?_
  rintro x w' ⟨rfl, rfl⟩
  go_wp2
  go_ret
  exact ⟨rfl, rfl⟩
/-- Has, the program's -/
theorem has12 (k p : ByteArray) (w : World) :
    Calls Try.prog 12 #[.string k, .string p] w fun x w' => x = .returned (.bool (has k.data.toList p.data.toList)) ∧ w' = w := by
  go_enter Try.func12, Try.ntmps12
  go_wp2_with fail
  refine (has30 k p _).mono ?_
  rintro x w' ⟨rfl, rfl⟩
  go_wp2
  go_ret
  exact ⟨rfl, rfl⟩
set_option maxHeartbeats 1000000 in
/-- Has, the document's -/
theorem has13 (k p : ByteArray) (w : World) :
    Calls Try.prog 13 #[.string k, .string p] w fun x w' => x = .returned (.bool (has k.data.toList p.data.toList)) ∧ w' = w := by
  have hr := hid (Lib.hasPrefix_raw k p)
  go_enter Try.func13, Try.ntmps13
  go_wp2
  · have hc : p.size ≤ k.size := by assumption
    go_ret
    have := hr.out
    rw [decide_eq_true hc, Bool.true_and] at this
    exact ⟨ret_bool this, rfl⟩
  · have hc : ¬ p.size ≤ k.size := by assumption
    go_ret
    have := hr.out
    rw [decide_eq_false hc, Bool.false_and] at this
    exact ⟨ret_bool this, rfl⟩

/-- Next -/
theorem next14 (k : ByteArray) (w : World) (hk : k.size ≤ 1000000) :
    Calls Try.prog 14 #[.string k] w fun x w' => x = .returned (.string (str (k.data.toList ++ [0]))) ∧ w' = w := by
  have hs := hid (str_append k ⟨#[0]⟩)
  go_enter Try.func14, Try.ntmps14
  go_wp2
  go_ret
  exact ⟨ret_str hs.out, rfl⟩


theorem same_byte {x y : UInt8} (h : (((x.toNat : Nat) : Int) == ((y.toNat : Nat) : Int)) = true) : x = y := by
  rw [u8_eq]
  have := eq_of_beq h
  omega
theorem other_byte {x y : UInt8} (h : (((x.toNat : Nat) : Int) == ((y.toNat : Nat) : Int)) = false) : x ≠ y := by
  rintro rfl
  simp at h
set_option maxHeartbeats 1000000 in
/-- Common, the program's -/
theorem common15 (a b : ByteArray) (w : World) (ha : a.size ≤ 1000000) (hb : b.size ≤ 1000000) :
    Calls Try.prog 15 #[.string a, .string b] w fun x w' => x = .returned (.string (str (common a.data.toList b.data.toList))) ∧ Below w.heap.size w w' := by
  obtain ⟨hl1, hl2⟩ := common_len a.data.toList b.data.toList
  have hg := hid (fun n => common_go n a.data.toList b.data.toList)
  have ht := hid (common_take a.data.toList b.data.toList)
  rw [← Lib.size_eq] at hl1 hl2
  generalize hC : (common a.data.toList b.data.toList).length = C at *
  clear hC
  go_enter Try.func15, Try.ntmps15
  go_wp2_with fail
  go_loopw [5] (fun n wr => ∃ j : Nat, j ≤ C ∧ n = .int .i64 j ∧ Below w.heap.size w wr) (fun n _ => C + 1 - (intOf n).toNat)
  case atStart => exact ⟨0, Nat.zero_le _, rfl, Below.refl _ _⟩
  case round =>
    obtain ⟨j, hj, rfl, hbw⟩ := hrel
    have hd : ∀ n, Below w.heap.size w (wr.drewN n) := fun n => ⟨hbw.os, hbw.tape, hbw.output, hbw.size, hbw.block⟩
    have HD := hid hd
    clear hd
    by_cases hin : j < a.size ∧ j < b.size
    · obtain ⟨h1, h2⟩ := hin
      have g := hid (hg.out j hj (by rw [← Lib.size_eq]; exact h1) (by rw [← Lib.size_eq]; exact h2))
      rw [← byte_at a j h1, ← byte_at b j h2] at g
      have k1 : (j : Int) < (a.size : Int) := by omega
      have k2 : (j : Int) < (b.size : Int) := by omega
      by_cases hab : (b.size : Int) < (a.size : Int)
      all_goals
        go_wp2_with fail
        go_quiet (fail)
        go_wp2
        · have hj1 := g.out.1 (same_byte ‹_›)
          exact ⟨⟨j + 1, hj1, rfl, HD.out _⟩, by simp [intOf]; omega⟩
        · have hj1 := g.out.2 (other_byte ‹_›)
          go_ret
          refine ⟨ret_str ?_, HD.out _⟩
          rw [cut_eq, ht.out, hj1]
    · have hj1 : C = j := by omega
      by_cases hab : b.size < a.size
      · have k1 : decide (j < b.size) = false := by simp; omega
        go_wp2_with fail
        go_quiet (fail)
        go_wp2
        go_ret
        refine ⟨ret_str ?_, HD.out _⟩
        rw [cut_eq, ht.out, hj1]
      · have k1 : decide (j < a.size) = false := by simp; omega
        go_wp2_with fail
        go_quiet (fail)
        go_wp2
        go_ret
        refine ⟨ret_str ?_, HD.out _⟩
        rw [cut_eq, ht.out, hj1]

set_option maxHeartbeats 1000000 in
/-- Common, the document's -/
theorem common16 (a b : ByteArray) (w : World) (ha : a.size ≤ 1000000) :
    Calls Try.prog 16 #[.string a, .string b] w fun x w' => x = .returned (.string (str (common a.data.toList b.data.toList))) ∧ w' = w := by
  obtain ⟨hl1, hl2⟩ := common_len a.data.toList b.data.toList
  have hg := hid (fun n => common_has n a.data.toList b.data.toList)
  have ht := hid (common_take a.data.toList b.data.toList)
  rw [← Lib.size_eq] at hl1 hl2
  generalize hC : (common a.data.toList b.data.toList).length = C at *
  clear hC
  go_enter Try.func16, Try.ntmps16
  go_wp2_with fail
  go_loop [5] (fun n => ∃ j : Nat, C ≤ j ∧ j ≤ a.size ∧ n = .int .i64 j) (fun n => (intOf n).toNat)
  case atStart => exact ⟨a.size, by omega, Nat.le_refl _, rfl⟩
  case round =>
    obtain ⟨j, hj, hj', rfl⟩ := hrel
    have g := hg.out j (by rw [← Lib.size_eq]; exact hj')
    cases j with
    | zero =>
      clear g
      go_wp2_with fail
      go_ret
      refine ⟨ret_str ?_, rfl⟩
      rw [ht.out, show C = 0 by omega]
      rfl
    | succ m =>
      have hm : (0 : Int) < ((m + 1 : Nat) : Int) := by omega
      have G := hid g
      clear g
      go_wp2_with fail
      refine (has13 _ _ _).mono ?_
      rintro x w' ⟨rfl, rfl⟩
      rw [cut_data]
      by_cases hc : m + 1 = C
      · have e : has b.data.toList (a.data.toList.take (m + 1)) = true := G.out.2 (by omega)
        rw [e]
        clear e
        go_wp2_with fail
        go_ret
        refine ⟨ret_str ?_, rfl⟩
        rw [cut_eq, ht.out, ← hc]
      · have e : has b.data.toList (a.data.toList.take (m + 1)) = false := by
          rw [Bool.eq_false_iff]
          intro h
          have := G.out.1 h
          omega
        rw [e]
        clear e
        go_wp2_with fail
        exact ⟨⟨m, by omega, by omega, by go_num⟩, by simp [intOf]⟩
end Go.Proofs.Ytfjbgcjckcfmoaa.Key
