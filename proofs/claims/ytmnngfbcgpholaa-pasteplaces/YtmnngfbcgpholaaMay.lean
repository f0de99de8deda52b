/-
  Contract of May, the program's.
-/
import Derived.Test.YtmnngfbcgpholaaMs
import Derived.Test.YtmnngfbcgpholaaKd
namespace Go.Proofs.Ytmnngfbcgpholaa.Key
open Go.RowKit Draw
open Go.Op (bytesLess)

theorem empty_or (s : ByteArray) : s = ⟨#[]⟩ ∨ (¬ s.toList = [] ∧ s.size ≠ 0 ∧ s.toList.isEmpty = false) := by
  obtain ⟨⟨l⟩⟩ := s
  cases l with
  | nil => exact .inl rfl
  | cons b l =>
    refine .inr ⟨?_, ?_, ?_⟩
    · rw [Lib.toList_data]; simp
    · rw [Lib.size_eq]; simp
    · rw [Lib.toList_data]; rfl
/-- may a message be? -/
def mayB (m : M) : Bool :=
  decide (m.key.size ≤ 16) && (decide (m.val.size ≤ 32) && (decide (m.add.size ≤ 16) &&
    (if m.kind = 1 then (m.blk == 0) && ((m.deep == 0) && (m.add.size == 0))
     else if m.kind = 2 then (m.val.size == 0) && ((m.blk == 0) && ((m.deep == 0) && (m.add.size == 0)))
     else if m.kind = 3 then decide (1 ≤ m.deep) && (m.val.size == 0) else false)))
theorem gt_of {n k : Nat} (h : decide (n ≤ k) = true) : decide ((k : Int) < (n : Int)) = false := by simp at h; simp; omega
theorem gt_of' {n k : Nat} (h : decide (n ≤ k) = false) : decide ((k : Int) < (n : Int)) = true := by simp at h; simp; omega

set_option maxRecDepth 100000 in
set_option maxHeartbeats 1000000 in
theorem may45 (m : M) (w : World) : Calls Try.prog 39 #[mv m] w fun x w' => x = .returned (.bool (mayB m)) ∧ Below w.heap.size w w' := by
  have hb : Below w.heap.size w (w.alloc (.cells #[.int .u8 m.kind, .string m.key, .string m.val, .int .u32 m.blk, .int .u16 m.deep, .string m.add] 48)) := below_box _ _
  obtain ⟨kd, ky, vl, bk, dp, ad⟩ := m
  dsimp only at hb
  by_cases k1 : 16 < ky.size
  · have hr : mayB ⟨kd, ky, vl, bk, dp, ad⟩ = false := by simp [mayB]; omega
    have k1' : decide ((16 : Int) < (ky.size : Int)) = true := by simp; omega
    clear k1
    rw [hr]
    clear hr
    go_enter Try.func39, Try.ntmps39
    go_wp2_with fail
    go_ret
    exact ⟨rfl, hb⟩
  have k1' : decide ((16 : Int) < (ky.size : Int)) = false := by simp; omega
  by_cases k2 : 32 < vl.size
  · have hr : mayB ⟨kd, ky, vl, bk, dp, ad⟩ = false := by simp [mayB]; omega
    have k2' : decide ((32 : Int) < (vl.size : Int)) = true := by simp; omega
    clear k1 k2
    rw [hr]
    clear hr
    go_enter Try.func39, Try.ntmps39
    go_wp2_with fail
    go_ret
    exact ⟨rfl, hb⟩
  have k2' : decide ((32 : Int) < (vl.size : Int)) = false := by simp; omega
  by_cases k3 : 16 < ad.size
  · have hr : mayB ⟨kd, ky, vl, bk, dp, ad⟩ = false := by simp [mayB]; omega
    have k3' : decide ((16 : Int) < (ad.size : Int)) = true := by simp; omega
    clear k1 k2 k3
    rw [hr]
    clear hr
    go_enter Try.func39, Try.ntmps39
    go_wp2_with fail
    go_ret
    exact ⟨rfl, hb⟩
  have k3' : decide ((16 : Int) < (ad.size : Int)) = false := by simp; omega
  have K1 : ky.size ≤ 16 := by omega
  have K2 : vl.size ≤ 32 := by omega
  have K3 : ad.size ≤ 16 := by omega
  clear k1 k2 k3
  have EA := empty_or ad
  have EV := empty_or vl
  by_cases h1 : kd = 1
  · subst h1
    by_cases q3 : bk = 0
    · by_cases q4 : dp = 0
      · rcases EA with rfl | ⟨q5, q6, _⟩
        · have hr : mayB ⟨1, ky, vl, bk, dp, ⟨#[]⟩⟩ = true := by simp [mayB, q3, q4, K1, K2, show (⟨#[]⟩ : ByteArray).size = 0 from rfl]
          subst q3 q4
          clear K1 K2 K3
          rw [hr]
          clear hr
          go_enter Try.func39, Try.ntmps39
          go_wp2_with fail
          go_ret
          exact ⟨rfl, hb⟩
        · have hr : mayB ⟨1, ky, vl, bk, dp, ad⟩ = false := by simp [mayB, q6]
          subst q3 q4
          clear K1 K2 K3
          rw [hr]
          clear hr
          go_enter Try.func39, Try.ntmps39
          go_wp2_with fail
          go_ret
          exact ⟨rfl, hb⟩
      · have hr : mayB ⟨1, ky, vl, bk, dp, ad⟩ = false := by simp [mayB, q4]
        have q4' : (dp == 0) = false := by simp; omega
        subst q3
        clear K1 K2 K3 q4
        rw [hr]
        clear hr
        go_enter Try.func39, Try.ntmps39
        go_wp2_with fail
        go_ret
        exact ⟨rfl, hb⟩
    · have hr : mayB ⟨1, ky, vl, bk, dp, ad⟩ = false := by simp [mayB, q3]
      have q3' : (bk == 0) = false := by simp; omega
      clear K1 K2 K3 q3
      rw [hr]
      clear hr
      go_enter Try.func39, Try.ntmps39
      go_wp2_with fail
      go_ret
      exact ⟨rfl, hb⟩
  have h1' : (kd == 1) = false := by simp; omega
  by_cases h2 : kd = 2
  · subst h2
    rcases EV with rfl | ⟨q1, q2, _⟩
    · by_cases q3 : bk = 0
      · by_cases q4 : dp = 0
        · rcases EA with rfl | ⟨q5, q6, _⟩
          · have hr : mayB ⟨2, ky, ⟨#[]⟩, bk, dp, ⟨#[]⟩⟩ = true := by simp [mayB, q3, q4, K1, show (⟨#[]⟩ : ByteArray).size = 0 from rfl]
            subst q3 q4
            clear K1 K2 K3
            rw [hr]
            clear hr
            go_enter Try.func39, Try.ntmps39
            go_wp2_with fail
            go_ret
            exact ⟨rfl, hb⟩
          · have hr : mayB ⟨2, ky, ⟨#[]⟩, bk, dp, ad⟩ = false := by simp [mayB, q6]
            subst q3 q4
            clear K1 K2 K3
            rw [hr]
            clear hr
            go_enter Try.func39, Try.ntmps39
            go_wp2_with fail
            go_ret
            exact ⟨rfl, hb⟩
        · have hr : mayB ⟨2, ky, ⟨#[]⟩, bk, dp, ad⟩ = false := by simp [mayB, q4]
          have q4' : (dp == 0) = false := by simp; omega
          subst q3
          clear K1 K2 K3 q4
          rw [hr]
          clear hr
          go_enter Try.func39, Try.ntmps39
          go_wp2_with fail
          go_ret
          exact ⟨rfl, hb⟩
      · have hr : mayB ⟨2, ky, ⟨#[]⟩, bk, dp, ad⟩ = false := by simp [mayB, q3]
        have q3' : (bk == 0) = false := by simp; omega
        clear K1 K2 K3 q3
        rw [hr]
        clear hr
        go_enter Try.func39, Try.ntmps39
        go_wp2_with fail
        go_ret
        exact ⟨rfl, hb⟩
    · have hr : mayB ⟨2, ky, vl, bk, dp, ad⟩ = false := by simp [mayB, q2]
      clear K1 K2 K3
      rw [hr]
      clear hr
      go_enter Try.func39, Try.ntmps39
      go_wp2_with fail
      go_ret
      exact ⟨rfl, hb⟩
  have h2' : (kd == 2) = false := by simp; omega
  by_cases h3 : kd = 3
  · subst h3
    by_cases q4 : 1 ≤ dp
    · have q4' : decide (1 ≤ dp) = true := by simpa using q4
      rcases EV with rfl | ⟨q1, q2, _⟩
      · have hr : mayB ⟨3, ky, ⟨#[]⟩, bk, dp, ad⟩ = true := by simp [mayB, q4, K1, K3, show (⟨#[]⟩ : ByteArray).size = 0 from rfl]
        clear K1 K2 K3 h1 h2
        rw [hr]
        clear hr
        go_enter Try.func39, Try.ntmps39
        go_wp2_with fail
        go_ret
        exact ⟨rfl, hb⟩
      · have hr : mayB ⟨3, ky, vl, bk, dp, ad⟩ = false := by simp [mayB, q2]
        clear K1 K2 K3 h1 h2
        rw [hr]
        clear hr
        go_enter Try.func39, Try.ntmps39
        go_wp2_with fail
        go_ret
        exact ⟨rfl, hb⟩
    · have q4' : decide (1 ≤ dp) = false := by simpa using q4
      have hr : mayB ⟨3, ky, vl, bk, dp, ad⟩ = false := by simp [mayB, q4]
      clear K1 K2 K3 h1 h2
      rw [hr]
      clear hr
      go_enter Try.func39, Try.ntmps39
      go_wp2_with fail
      go_ret
      exact ⟨rfl, hb⟩
  · have h3' : (kd == 3) = false := by simp; omega
    have hr : mayB ⟨kd, ky, vl, bk, dp, ad⟩ = false := by simp [mayB, h1, h2, h3]
    clear K1 K2 K3 h1 h2 h3
    rw [hr]
    clear hr
    go_enter Try.func39, Try.ntmps39
    go_wp2_with fail
    go_ret
    exact ⟨rfl, hb⟩
end Go.Proofs.Ytmnngfbcgpholaa.Key
