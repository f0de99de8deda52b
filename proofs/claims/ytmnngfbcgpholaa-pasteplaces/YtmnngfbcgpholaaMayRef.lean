/-
  Contract of May, the document's.
-/
import Derived.Test.YtmnngfbcgpholaaMay
namespace Go.Proofs.Ytmnngfbcgpholaa.Key
open Go.RowKit Draw
open Go.Op (bytesLess)

set_option maxRecDepth 100000 in
set_option maxHeartbeats 1000000 in
theorem may37 (m : M) (w : World) (hd : 0 ≤ m.deep) : Calls Try.prog 30 #[mv m] w fun x w' => x = .returned (.bool (mayB m)) ∧ Below w.heap.size w w' := by
  have hb : Below w.heap.size w (w.alloc (.cells #[.int .u8 m.kind, .string m.key, .string m.val, .int .u32 m.blk, .int .u16 m.deep, .string m.add] 48)) := below_box _ _
  obtain ⟨kd, ky, vl, bk, dp, ad⟩ := m
  dsimp only at hb hd
  by_cases k1 : 16 < ky.size
  · have hr : mayB ⟨kd, ky, vl, bk, dp, ad⟩ = false := by simp [mayB]; omega
    have k1' : decide ((16 : Int) < (ky.size : Int)) = true := by simp; omega
    clear k1
    rw [hr]
    clear hr
    go_enter Try.func30, Try.ntmps30
    go_wp2_with fail
    go_ret
    exact ⟨rfl, hb⟩
  have k1' : decide ((16 : Int) < (ky.size : Int)) = false := by simp; omega
  by_cases k2 : 32 < vl.size
  · have hr : mayB ⟨kd, ky, vl, bk, dp, ad⟩ = false := by simp [mayB]; omega
    have k2' : decide ((32 : Int) < (vl.size : Int)) = true := by simp; omega
    clear k1 k2
    rw [hr]
    clear hr
    go_enter Try.func30, Try.ntmps30
    go_wp2_with fail
    go_ret
    exact ⟨rfl, hb⟩
  have k2' : decide ((32 : Int) < (vl.size : Int)) = false := by simp; omega
  by_cases k3 : 16 < ad.size
  · have hr : mayB ⟨kd, ky, vl, bk, dp, ad⟩ = false := by simp [mayB]; omega
    have k3' : decide ((16 : Int) < (ad.size : Int)) = true := by simp; omega
    clear k1 k2 k3
    rw [hr]
    clear hr
    go_enter Try.func30, Try.ntmps30
    go_wp2_with fail
    go_ret
    exact ⟨rfl, hb⟩
  have k3' : decide ((16 : Int) < (ad.size : Int)) = false := by simp; omega
  have K1 : ky.size ≤ 16 := by omega
  have K2 : vl.size ≤ 32 := by omega
  have K3 : ad.size ≤ 16 := by omega
  clear k1 k2 k3
  have EA := empty_or ad
  have EV := empty_or vl
  by_cases h1 : kd = 1
  · subst h1
    by_cases q3 : bk = 0
    · by_cases q4 : dp = 0
      · rcases EA with rfl | ⟨q5, q6, q7⟩
        · have hr : mayB ⟨1, ky, vl, bk, dp, ⟨#[]⟩⟩ = true := by simp [mayB, q3, q4, K1, K2, show (⟨#[]⟩ : ByteArray).size = 0 from rfl]
          subst q3 q4
          clear K1 K2 K3
          rw [hr]
          clear hr
          go_enter Try.func30, Try.ntmps30
          go_wp2_with fail
          go_ret
          exact ⟨rfl, hb⟩
        · have hr : mayB ⟨1, ky, vl, bk, dp, ad⟩ = false := by simp [mayB, q6]
          subst q3 q4
          clear K1 K2 K3
          rw [hr]
          clear hr
          go_enter Try.func30, Try.ntmps30
          go_wp2_with fail
          go_ret
          exact ⟨rfl, hb⟩
      · have hr : mayB ⟨1, ky, vl, bk, dp, ad⟩ = false := by simp [mayB, q4]
        have q4' : (dp == 0) = false := by simp; omega
        subst q3
        clear K1 K2 K3
        rw [hr]
        clear hr
        go_enter Try.func30, Try.ntmps30
        go_wp2_with fail
        go_ret
        exact ⟨rfl, hb⟩
    · have hr : mayB ⟨1, ky, vl, bk, dp, ad⟩ = false := by simp [mayB, q3]
      have q3' : (bk == 0) = false := by simp; omega
      clear K1 K2 K3
      rw [hr]
      clear hr
      go_enter Try.func30, Try.ntmps30
      go_wp2_with fail
      go_ret
      exact ⟨rfl, hb⟩
  have h1' : (kd == 1) = false := by simp; omega
  by_cases h2 : kd = 2
  · subst h2
    rcases EV with rfl | ⟨q1, q2, q8⟩
    · by_cases q3 : bk = 0
      · by_cases q4 : dp = 0
        · rcases EA with rfl | ⟨q5, q6, q7⟩
          · have hr : mayB ⟨2, ky, ⟨#[]⟩, bk, dp, ⟨#[]⟩⟩ = true := by simp [mayB, q3, q4, K1, show (⟨#[]⟩ : ByteArray).size = 0 from rfl]
            subst q3 q4
            clear K1 K2 K3
            rw [hr]
            clear hr
            go_enter Try.func30, Try.ntmps30
            go_wp2_with fail
            go_ret
            exact ⟨rfl, hb⟩
          · have hr : mayB ⟨2, ky, ⟨#[]⟩, bk, dp, ad⟩ = false := by simp [mayB, q6]
            subst q3 q4
            clear K1 K2 K3
            rw [hr]
            clear hr
            go_enter Try.func30, Try.ntmps30
            go_wp2_with fail
            go_ret
            exact ⟨rfl, hb⟩
        · have hr : mayB ⟨2, ky, ⟨#[]⟩, bk, dp, ad⟩ = false := by simp [mayB, q4]
          have q4' : (dp == 0) = false := by simp; omega
          subst q3
          clear K1 K2 K3
          rw [hr]
          clear hr
          go_enter Try.func30, Try.ntmps30
          go_wp2_with fail
          go_ret
          exact ⟨rfl, hb⟩
      · have hr : mayB ⟨2, ky, ⟨#[]⟩, bk, dp, ad⟩ = false := by simp [mayB, q3]
        have q3' : (bk == 0) = false := by simp; omega
        clear K1 K2 K3
        rw [hr]
        clear hr
        go_enter Try.func30, Try.ntmps30
        go_wp2_with fail
        go_ret
        exact ⟨rfl, hb⟩
    · have hr : mayB ⟨2, ky, vl, bk, dp, ad⟩ = false := by simp [mayB, q2]
      clear K1 K2 K3
      rw [hr]
      clear hr
      by_cases q3 : bk = 0
      · by_cases q4 : dp = 0
        · rcases EA with rfl | ⟨q5, q6, q7⟩
          all_goals
            subst q3 q4
            go_enter Try.func30, Try.ntmps30
            go_wp2_with fail
            go_ret
            exact ⟨rfl, hb⟩
        · have q4' : (dp == 0) = false := by simp; omega
          subst q3
          go_enter Try.func30, Try.ntmps30
          go_wp2_with fail
          go_ret
          exact ⟨rfl, hb⟩
      · have q3' : (bk == 0) = false := by simp; omega
        go_enter Try.func30, Try.ntmps30
        go_wp2_with fail
        go_ret
        exact ⟨rfl, hb⟩
  have h2' : (kd == 2) = false := by simp; omega
  by_cases h3 : kd = 3
  · subst h3
    clear h1 h2
    by_cases q4 : 1 ≤ dp
    · have q4' : decide (0 < dp) = true := by simp; omega
      rcases EV with rfl | ⟨q1, q2, q8⟩
      · have hr : mayB ⟨3, ky, ⟨#[]⟩, bk, dp, ad⟩ = true := by simp [mayB, q4, K1, K3, show (⟨#[]⟩ : ByteArray).size = 0 from rfl]
        rw [hr]
        clear hr K1 K2 K3
        by_cases q3 : bk = 0
        · rcases EA with rfl | ⟨q5, q6, q7⟩
          all_goals
            subst q3
            go_enter Try.func30, Try.ntmps30
            go_wp2_with fail
            all_goals (go_ret; exact ⟨rfl, hb⟩)
        · have q3' : (bk == 0) = false := by simp; omega
          go_enter Try.func30, Try.ntmps30
          go_wp2_with fail
          all_goals (go_ret; exact ⟨rfl, hb⟩)
      · have hr : mayB ⟨3, ky, vl, bk, dp, ad⟩ = false := by simp [mayB, q2]
        rw [hr]
        clear hr K1 K2 K3
        by_cases q3 : bk = 0
        · rcases EA with rfl | ⟨q5, q6, q7⟩
          all_goals
            subst q3
            go_enter Try.func30, Try.ntmps30
            go_wp2_with fail
            all_goals (go_ret; exact ⟨rfl, hb⟩)
        · have q3' : (bk == 0) = false := by simp; omega
          go_enter Try.func30, Try.ntmps30
          go_wp2_with fail
          all_goals (go_ret; exact ⟨rfl, hb⟩)
    · obtain rfl : dp = 0 := by omega
      have hr : mayB ⟨3, ky, vl, bk, 0, ad⟩ = false := by simp [mayB]
      rw [hr]
      clear hr K1 K2 K3
      by_cases q3 : bk = 0
      · rcases EA with rfl | ⟨q5, q6, q7⟩
        all_goals
          subst q3
          go_enter Try.func30, Try.ntmps30
          go_wp2_with fail
          all_goals (go_ret; exact ⟨rfl, hb⟩)
      · have q3' : (bk == 0) = false := by simp; omega
        go_enter Try.func30, Try.ntmps30
        go_wp2_with fail
        all_goals (go_ret; exact ⟨rfl, hb⟩)
  · have h3' : (kd == 3) = false := by simp; omega
    have hr : mayB ⟨kd, ky, vl, bk, dp, ad⟩ = false := by simp [mayB, h1, h2, h3]
    rw [hr]
    clear hr K1 K2 K3 h1 h2 h3
    by_cases q3 : bk = 0
    · by_cases q4 : dp = 0
      · rcases EA with rfl | ⟨q5, q6, q7⟩
        all_goals
          subst q3 q4
          go_enter Try.func30, Try.ntmps30
          go_wp2_with fail
          all_goals (go_ret; exact ⟨rfl, hb⟩)
      · have q4' : (dp == 0) = false := by simp; omega
        subst q3
        go_enter Try.func30, Try.ntmps30
        go_wp2_with fail
        all_goals (go_ret; exact ⟨rfl, hb⟩)
    · have q3' : (bk == 0) = false := by simp; omega
      go_enter Try.func30, Try.ntmps30
      go_wp2_with fail
      all_goals (go_ret; exact ⟨rfl, hb⟩)
end Go.Proofs.Ytmnngfbcgpholaa.Key
