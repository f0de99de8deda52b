/-
  The contract of crc.Fits: whether bytes end with their sum.
-/
import Derived.Test.YtcbigopfmiiadaaCMark
namespace Go.Proofs.Ytcbigopfmiiadaa.Crc
open Go.RowKit

theorem ret_bool {a b : Bool} (h : a = b) : Ending.returned (.bool a) = .returned (.bool b) := by rw [h]
set_option maxRecDepth 100000 in
set_option maxHeartbeats 1000000 in
theorem fits_short (a : Option Addr) (n cap : Nat) (zs : List Int) (w : World) (hn : zs.length = n) (h4 : n < 4) :
    Calls Try.prog 17 #[.slice a n cap] w fun e w' => e = .returned (.bool (fitsB zs)) ∧ Below w.heap.size w w' := by
  have HF := hid (show fitsB zs = false by simp [fitsB]; omega)
  go_enter Try.func17, Try.ntmps17
  go_wp2
  go_ret
  exact ⟨ret_bool HF.out.symm, Below.refl _ _⟩

theorem Bytes.head {w : World} {a : Option Addr} {p q : List Int} (h : Bytes w a (p ++ q)) : Bytes w a p := by
  rcases h with h | ⟨b, off, he, hc⟩
  · exact .inl (List.append_eq_nil_iff.1 h).1
  · refine .inr ⟨b, off, he, fun i hi => ?_⟩
    have := hc i (by simp; omega)
    rw [this]
    simp [List.getD, List.getElem?_append_left hi]
theorem differ {b0 b1 b2 b3 c0 c1 c2 c3 : Int} {L : List Int} (h : [b0, b1, b2, b3] = L) (hd : (c0 != b0) = true ∨ (c1 != b1) = true ∨ (c2 != b2) = true ∨ (c3 != b3) = true) : false = decide ([c0, c1, c2, c3] = L) := by
  subst h
  symm
  simp only [bne_iff_ne] at hd
  simp only [decide_eq_false_iff_not, List.cons.injEq, and_true]
  rintro ⟨rfl, rfl, rfl, rfl⟩
  simp at hd
theorem alike {b0 b1 b2 b3 c0 c1 c2 c3 : Int} {L : List Int} (h : [b0, b1, b2, b3] = L) (h0 : (c0 != b0) = false) (h1 : (c1 != b1) = false) (h2 : (c2 != b2) = false) (h3 : (c3 != b3) = false) : true = decide ([c0, c1, c2, c3] = L) := by
  subst h
  simp only [bne_eq_false_iff_eq] at h0 h1 h2 h3
  simp [h0, h1, h2, h3]
set_option maxRecDepth 100000 in
set_option maxHeartbeats 1000000 in
theorem fits_long (b off m cap : Nat) (p : List Int) (c0 c1 c2 c3 : Int) (w : World) (hp : p.length = m) (hc : m + 4 ≤ cap) (hb : Bytes w (some ⟨b, off, none⟩) (p ++ [c0, c1, c2, c3])) (hz : Byt p) (hm : m ≤ 99000) :
    Calls Try.prog 17 #[.slice (some ⟨b, off, none⟩) (m + 4) cap] w fun e w' => e = .returned (.bool (decide ([c0, c1, c2, c3] = le (more 0 p)))) ∧ Below w.heap.size w w' := by
  have hlt := more_lt 0 p
  have hbp : Bytes w (some ⟨b, off, none⟩) p := hb.head
  have h40 : decide ((m : Int) + 4 < 4) = false := by simp; omega
  have hcell : ∀ w2, Below w.heap.size w w2 → ∀ i, i < 4 → w2.cell? ⟨b, off + (m + i), none⟩ = some (.int .u8 ([c0, c1, c2, c3].getD i 0)) := by
    intro w2 hw i hi
    rcases hb.later hw with h | ⟨b', off', he, hcc⟩
    · simp at h
    · simp only [Option.some.injEq, Addr.mk.injEq] at he
      obtain ⟨rfl, rfl, _⟩ := he
      have := hcc (m + i) (by simp; omega)
      rw [this]
      have e : (p ++ [c0, c1, c2, c3]).getD (m + i) 0 = [c0, c1, c2, c3].getD i 0 := by
        simp only [List.getD]
        rw [List.getElem?_append_right (by omega), hp, Nat.add_sub_cancel_left]
      rw [e]
  go_enter Try.func17, Try.ntmps17
  go_wp2_with fail
  refine (sum_any _ _ _ p _ hp hbp hz (by omega)).mono ?_
  rintro e w' ⟨rfl, rfl⟩
  go_wp2_with fail
  refine (written_any _ hlt _).mono ?_
  rintro e w2 ⟨b0, b1, b2, b3, rfl, HL, hbw⟩
  have HH := hid HL
  have q0 := hcell w2 hbw 0 (by omega)
  have q1 := hcell w2 hbw 1 (by omega)
  have q2 := hcell w2 hbw 2 (by omega)
  have q3 := hcell w2 hbw 3 (by omega)
  simp only [Nat.add_zero, List.getD_cons_zero, List.getD_cons_succ] at q0 q1 q2 q3
  have i0 : ∀ u : World, (Instr.index 52 (.agg #[.int .u8 b0, .int .u8 b1, .int .u8 b2, .int .u8 b3]) (.int .i64 0)).run Try.prog u = .ok (.int .u8 b0) u := fun _ => by kernel_rfl
  have i1 : ∀ u : World, (Instr.index 52 (.agg #[.int .u8 b0, .int .u8 b1, .int .u8 b2, .int .u8 b3]) (.int .i64 1)).run Try.prog u = .ok (.int .u8 b1) u := fun _ => by kernel_rfl
  have i2 : ∀ u : World, (Instr.index 52 (.agg #[.int .u8 b0, .int .u8 b1, .int .u8 b2, .int .u8 b3]) (.int .i64 2)).run Try.prog u = .ok (.int .u8 b2) u := fun _ => by kernel_rfl
  have i3 : ∀ u : World, (Instr.index 52 (.agg #[.int .u8 b0, .int .u8 b1, .int .u8 b2, .int .u8 b3]) (.int .i64 3)).run Try.prog u = .ok (.int .u8 b3) u := fun _ => by kernel_rfl
  clear HL hcell hbp hb hz hlt
  go_wp2_with fail
  refine wp_loop_rounds 5 ?_
  rw [rounds_succ]
  go_wp2
  · go_ret
    exact ⟨ret_bool (differ HH.out (.inl ‹_›)), hbw⟩
  rw [rounds_succ]
  go_wp2
  · go_ret
    exact ⟨ret_bool (differ HH.out (.inr (.inl ‹_›))), hbw⟩
  rw [rounds_succ]
  go_wp2
  · go_ret
    exact ⟨ret_bool (differ HH.out (.inr (.inr (.inl ‹_›)))), hbw⟩
  rw [rounds_succ]
  go_wp2
  · go_ret
    exact ⟨ret_bool (differ HH.out (.inr (.inr (.inr ‹_›)))), hbw⟩
  rw [rounds_succ]
  go_wp2
  go_ret
  exact ⟨ret_bool (alike HH.out ‹(c0 != b0) = false› ‹(c1 != b1) = false› ‹(c2 != b2) = false› ‹(c3 != b3) = false›), hbw⟩

/-- whether bytes fit, whatever bytes -/
theorem fits_any (a : Option Addr) (n cap : Nat) (zs : List Int) (w : World) (hn : zs.length = n) (hb : Bytes w a zs) (hz : Byt zs) (hc : n ≤ cap) (hm : n ≤ 99000) :
    Calls Try.prog 17 #[.slice a n cap] w fun e w' => e = .returned (.bool (fitsB zs)) ∧ Below w.heap.size w w' := by
  by_cases h4 : n < 4
  · exact fits_short a n cap zs w hn h4
  · obtain ⟨m, rfl⟩ : ∃ m, n = m + 4 := ⟨n - 4, by omega⟩
    obtain ⟨p, c0, c1, c2, c3, rfl, hp⟩ := four zs m hn
    rcases id hb with h | ⟨b, off, rfl, _⟩
    · simp at h
    · rw [fitsB_four]
      exact fits_long b off m cap p c0 c1 c2 c3 w hp hc hb hz.of_append.1 (by omega)
end Go.Proofs.Ytcbigopfmiiadaa.Crc
