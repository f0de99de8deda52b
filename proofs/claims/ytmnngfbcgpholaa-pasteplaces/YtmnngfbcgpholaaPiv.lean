/-
  Contracts of pivotsMay, and of Rise.
-/
import Derived.Test.YtmnngfbcgpholaaNode
namespace Go.Proofs.Ytmnngfbcgpholaa.Key
open Go.RowKit
open Go.Op (bytesLess)

theorem pos_len {α : Type} {l : List α} (h : l ≠ []) : 0 < l.length := List.length_pos_iff.2 h
theorem nil_len {α : Type} {l : List α} (h : l = []) : l.length = 0 := by subst h; rfl
theorem no_out {p : Nat → Bool} {n j : Nat} {A : Bool} (HA : Hid (upTo p n = A)) (h : j < n) (hp : p j = false) : false = A := by rw [← HA.out, upTo_no h hp]
theorem yes_out {p : Nat → Bool} {n : Nat} {A : Bool} (HA : Hid (upTo p n = A)) (h : upTo p n = true) : true = A := by rw [← HA.out, h]
theorem one_on {p : Nat → Bool} {j : Nat} (h : Hid (upTo p j = true)) (hp : p j = true) : Hid (upTo p (j + 1) = true) := by
  show upTo p (j + 1) = true
  rw [upTo, h.out, hp]; rfl
theorem le16 {n : Nat} (h : decide (n ≤ 16) = true) : decide ((16 : Int) < (n : Int)) = false := by simp at h; simp; omega
theorem gt16 {n : Nat} (h : decide (n ≤ 16) = false) : decide ((16 : Int) < (n : Int)) = true := by simp at h; simp; omega
theorem le32 {n : Nat} (h : decide (n ≤ 32) = true) : decide ((32 : Int) < (n : Int)) = false := by simp at h; simp; omega
theorem gt32 {n : Nat} (h : decide (n ≤ 32) = false) : decide ((32 : Int) < (n : Int)) = true := by simp at h; simp; omega

set_option maxRecDepth 100000 in
set_option maxHeartbeats 1000000 in
theorem pivots44 (a : Option Addr) (c : Nat) (pv : List ByteArray) (w : World) (hl : pv.length ≤ maxLen) (h : Txts w a pv) :
    Calls Try.prog 38 #[.slice a pv.length c] w fun x w' => x = .returned (.bool (upTo (pivAt pv) pv.length)) ∧ w' = w := by
  unfold maxLen at hl
  generalize hA : upTo (pivAt pv) pv.length = A
  have HA := hid hA
  clear hA
  generalize hn : pv.length = n at *
  have HN := hid hn
  clear hn
  go_enter Try.func38, Try.ntmps38
  go_wp2_with fail
  go_loop [3, 8] (fun s i => ∃ j : Nat, j ≤ n ∧ i = .int .i64 j ∧ s = .string (ahead pv j) ∧ Hid (upTo (pivAt pv) j = true)) (fun _ i => n - (intOf i).toNat)
  case atStart => exact ⟨0, Nat.zero_le _, rfl, rfl, hid rfl⟩
  case round =>
    obtain ⟨j, hj, rfl, rfl, hjn⟩ := hrel
    by_cases hlt : j < n
    · have hlt' : j < pv.length := by rw [HN.out]; exact hlt
      obtain ⟨b, off, rfl, c0⟩ := h.at hlt'
      have HP := hid (pivAt_at hlt')
      have HE := hid (ahead_at hlt')
      obtain ⟨s, HS⟩ : ∃ s, Hid (pv[j] = s) := ⟨_, hid rfl⟩
      rw [HS.out] at c0 HP HE
      have hle := le_str s (ahead pv j)
      generalize ahead pv j = p at *
      cases q1 : bytesLess s.toList p.toList
      · cases q2 : (s.toList == p.toList)
        · rw [q1, q2] at hle
          cases k1 : decide (s.size ≤ 16)
          · have k1' := gt16 k1
            have HF : Hid (pivAt pv j = false) := hid (by rw [HP.out, k1, Bool.and_false])
            clear hle HP k1
            go_wp2_with fail
            go_ret
            exact ⟨ret_bool (no_out HA hlt HF.out), rfl⟩
          · have k1' := le16 k1
            have HF : Hid (pivAt pv j = true) := hid (by rw [HP.out, k1, Bool.and_true]; simpa using hle)
            clear hle HP k1
            go_wp2_with fail
            go_round
            case rel => exact ⟨j + 1, by omega, by go_num, by rw [HE.out], one_on hjn HF.out⟩
            case measure => simp [intOf]; omega
        · rw [q1, q2] at hle
          have HF : Hid (pivAt pv j = false) := hid (by rw [HP.out, show bytesLess p.data.toList s.data.toList = false by simpa using hle, Bool.false_and])
          clear hle HP
          go_wp2_with fail
          go_ret
          exact ⟨ret_bool (no_out HA hlt HF.out), rfl⟩
      · rw [q1] at hle
        have HF : Hid (pivAt pv j = false) := hid (by rw [HP.out, show bytesLess p.data.toList s.data.toList = false by simpa using hle, Bool.false_and])
        clear hle HP
        go_wp2_with fail
        go_ret
        exact ⟨ret_bool (no_out HA hlt HF.out), rfl⟩
    · obtain rfl : j = n := by omega
      go_wp2_with fail
      go_ret
      exact ⟨ret_bool (yes_out HA hjn.out), rfl⟩

set_option maxRecDepth 100000 in
set_option maxHeartbeats 1000000 in
theorem rise36 (a : Option Addr) (c : Nat) (ps : List Pr) (w : World) (hl : ps.length ≤ maxLen) (h : Prs w a ps) :
    Calls Try.prog 29 #[.slice a ps.length c] w fun x w' => x = .returned (.bool (upTo (riseAt ps) ps.length)) ∧ Below w.heap.size w w' := by
  unfold maxLen at hl
  generalize hA : upTo (riseAt ps) ps.length = A
  have HA := hid hA
  clear hA
  generalize hn : ps.length = n at *
  have HN := hid hn
  clear hn
  go_enter Try.func29, Try.ntmps29
  go_wp2_with fail
  go_loopw [3] (fun i wr => ∃ j : Nat, (j + 1 ≤ n ∨ j = 0) ∧ i = .int .i64 ((j : Int) + 1) ∧ Hid (upTo (riseAt ps) (j + 1) = true) ∧ Below w.heap.size w wr) (fun i _ => n - (intOf i).toNat)
  case atStart => exact ⟨0, .inr rfl, rfl, hid rfl, Below.refl _ _⟩
  case round =>
    obtain ⟨j, hj, rfl, hjn, hb⟩ := hrel
    by_cases hlt : j + 1 < n
    · have hlt' : j + 1 < ps.length := by rw [HN.out]; exact hlt
      obtain ⟨b, off, rfl, h2, h2'⟩ := (h.later hb).at2 (by omega : j < ps.length) hlt'
      have HP := hid (riseAt_at hlt')
      obtain ⟨p, HS⟩ : ∃ s, Hid ((ps[j]'(by omega)) = s) := ⟨_, hid rfl⟩
      obtain ⟨q, HT⟩ : ∃ s, Hid (ps[j + 1] = s) := ⟨_, hid rfl⟩
      rw [HS.out] at h2 HP
      rw [HT.out] at h2' HP
      obtain ⟨pk, pv⟩ := p
      obtain ⟨qk, qv⟩ := q
      obtain ⟨c0, c1⟩ := h2
      obtain ⟨d0, d1⟩ := h2'
      dsimp only at c0 c1 d0 d1 HP
      have hle := le_str qk pk
      have hlti : ((j : Int) + 1) < (n : Int) := by omega
      cases q1 : bytesLess qk.toList pk.toList
      · cases q2 : (qk.toList == pk.toList)
        · rw [q1, q2] at hle
          have HF : Hid (riseAt ps (j + 1) = true) := hid (by rw [HP.out]; simpa using hle)
          clear hle HP
          go_wp2_with fail
          go_quiet (fail)
          go_wp2_with fail
          go_roundw
          case rel => exact ⟨j + 1, .inl (by omega), by go_num, one_on hjn HF.out, ⟨hb.os, hb.tape, hb.output, hb.size, hb.block⟩⟩
          case measure => simp [intOf]; omega
        · rw [q1, q2] at hle
          have HF : Hid (riseAt ps (j + 1) = false) := hid (by rw [HP.out]; simpa using hle)
          clear hle HP
          go_wp2_with fail
          go_quiet (fail)
          go_wp2_with fail
          go_ret
          exact ⟨ret_bool (no_out HA hlt HF.out), ⟨hb.os, hb.tape, hb.output, hb.size, hb.block⟩⟩
      · rw [q1] at hle
        have HF : Hid (riseAt ps (j + 1) = false) := hid (by rw [HP.out]; simpa using hle)
        clear hle HP
        go_wp2_with fail
        go_quiet (fail)
        go_wp2_with fail
        go_ret
        exact ⟨ret_bool (no_out HA hlt HF.out), ⟨hb.os, hb.tape, hb.output, hb.size, hb.block⟩⟩
    · have hlti : ¬ ((j : Int) + 1) < (n : Int) := by omega
      go_wp2_with fail
      go_ret
      exact ⟨ret_bool (yes_out HA (upTo_mono hjn.out (by omega))), hb⟩
end Go.Proofs.Ytmnngfbcgpholaa.Key
