/-
  Contract of rise.
-/
import Derived.Test.YtobbgndabmnbcaaPairs2
namespace Go.Proofs.Ytobbgndabmnbcaa.Key
open Go.RowKit Draw
open Go.Op (bytesLess)

theorem three_ways' (a b : ByteArray) : (lessS a b = true ∧ bytesLess a.toList b.toList = true ∧ bytesLess b.toList a.toList = false ∧ (a.toList == b.toList) = false ∧ (b.toList == a.toList) = false) ∨ (lessS a b = false ∧ bytesLess a.toList b.toList = false ∧ ((bytesLess b.toList a.toList = true ∧ (a.toList == b.toList) = false ∧ (b.toList == a.toList) = false) ∨ a = b)) := by
  cases h : lessS a b with
  | true =>
    have h2 := lessS_asymm h
    have hne : a ≠ b := by rintro rfl; rw [lessS_self] at h; cases h
    have hl : ¬ a.toList = b.toList := fun e => hne (by rw [Lib.toList_data, Lib.toList_data] at e; rw [← str_eq a, ← str_eq b, e])
    exact .inl ⟨rfl, h, h2, by simpa using hl, by simpa using fun e => hl e.symm⟩
  | false =>
    refine .inr ⟨rfl, h, ?_⟩
    cases h2 : lessS b a with
    | true =>
      have hne : a ≠ b := by rintro rfl; rw [lessS_self] at h2; cases h2
      have hl : ¬ a.toList = b.toList := fun e => hne (by rw [Lib.toList_data, Lib.toList_data] at e; rw [← str_eq a, ← str_eq b, e])
      exact .inl ⟨h2, by simpa using hl, by simpa using fun e => hl e.symm⟩
    | false => exact .inr (lessS_same h h2)

set_option maxHeartbeats 1000000 in
theorem rise43 (a : Option Addr) (c : Nat) (l : List Pr) (w : World) (hl : l.length ≤ 1000) (h : Prs w a l) :
    Calls Try.prog 43 #[.slice a l.length c] w fun x w' => x = .returned (.bool (riseB l)) ∧ Below w.heap.size w w' := by
  have HR := hid (show riseB l = (List.range (l.length - 1)).all (fun i => lessS (l.getD i Pr.nil).key (l.getD (i + 1) Pr.nil).key) from rfl)
  have HNo := hid (riseB_no l)
  generalize riseB l = R at *
  go_enter Try.func43, Try.ntmps43
  go_wp2_with fail
  go_loopw [3] (fun i wr => ∃ j : Nat, (j + 1 ≤ l.length ∨ j = 0) ∧ i = .int .i64 ((j + 1 : Nat) : Int) ∧ Hid ((List.range j).all (fun i => lessS (l.getD i Pr.nil).key (l.getD (i + 1) Pr.nil).key) = true) ∧ Below w.heap.size w wr) (fun i _ => l.length + 1 - (intOf i).toNat)
  case atStart => exact ⟨0, .inr rfl, rfl, by simp [Hid], Below.refl _ _⟩
  case round =>
    obtain ⟨j, hj, rfl, hjn, hb⟩ := hrel
    by_cases hlt : j + 1 < l.length
    · obtain ⟨b, off, rfl, h0, h1⟩ := (h.later hb).at2 (show j < l.length by omega) hlt
      have HS := hid (riseB_step l j hlt)
      have HN := hid (HNo.out j hlt)
      obtain ⟨x, HX⟩ : ∃ m, Hid (l[j]'(by omega) = m) := ⟨_, hid rfl⟩
      obtain ⟨y, HY⟩ : ∃ m, Hid (l[j + 1] = m) := ⟨_, hid rfl⟩
      rw [HX.out] at h0 HS HN
      rw [HY.out] at h1 HS HN
      obtain ⟨xk, xv⟩ := x
      obtain ⟨yk, yv⟩ := y
      obtain ⟨c0, c1⟩ := h0
      obtain ⟨d0, d1⟩ := h1
      dsimp only at c0 c1 d0 d1 HS HN
      have hlt2 : ((j : Int) + 1 < (l.length : Int)) := by omega
      rcases three_ways' xk yk with ⟨t, q1, q2, q3, q4⟩ | ⟨t, q1, hh⟩
      · rw [t] at HS
        have HS : Hid ((List.range (j + 1)).all (fun i => lessS (l.getD i Pr.nil).key (l.getD (i + 1) Pr.nil).key) = true) := by unfold Hid; rw [HS.out, hjn.out]; rfl
        go_upto_region 4 with fail
        go_quiet (fail)
        go_wp2_with fail
        exact ⟨⟨j + 1, .inl (by omega), by go_num, HS, ⟨hb.os, hb.tape, hb.output, hb.size, hb.block⟩⟩, by simp [intOf]; omega⟩
      · have HF : Hid (R = false) := HN.out t
        rcases hh with ⟨q2, q3, q4⟩ | rfl
        · go_upto_region 4 with fail
          go_quiet (fail)
          go_wp2_with fail
          go_ret
          exact ⟨ret_bool HF.out.symm, ⟨hb.os, hb.tape, hb.output, hb.size, hb.block⟩⟩
        · go_upto_region 4 with fail
          go_quiet (fail)
          go_wp2_with fail
          go_ret
          exact ⟨ret_bool HF.out.symm, ⟨hb.os, hb.tape, hb.output, hb.size, hb.block⟩⟩
    · have hlt2 : ¬ ((j : Int) + 1 < (l.length : Int)) := by omega
      have HT : Hid (R = true) := by
        unfold Hid
        rw [HR.out, ← hjn.out]
        congr 2
        omega
      go_wp2_with fail
      go_ret
      exact ⟨ret_bool HT.out.symm, hb⟩
end Go.Proofs.Ytobbgndabmnbcaa.Key
