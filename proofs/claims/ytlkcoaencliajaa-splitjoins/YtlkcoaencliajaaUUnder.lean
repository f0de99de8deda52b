/-
  Contracts of Under, the program's and the document's.
-/
import Derived.Test.YtlkcoaencliajaaUText
import Derived.Deep.Quiet
namespace Go.Proofs.Ytlkcoaencliajaa.Key
open Go.RowKit
open Go.Op (bytesLess)

theorem not_empty {lo hi : ByteArray} (h : emptyR (rg lo hi true) = false) : bytesLess lo.data.toList hi.data.toList = true := by
  rw [emptyR_eq] at h
  simpa [rg] using h

set_option maxRecDepth 100000 in
set_option maxHeartbeats 1000000 in
/-- Under, the program's -/
theorem under24 (lo hi : ByteArray) (e : Bool) (w : World) (h1 : lo.size ≤ 1000) (h2 : hi.size ≤ 1000) :
    Calls Try.prog 34 #[.agg #[.string lo, .string hi, .bool e]] w fun x w' => x = .returned (.string (str (under (rg lo hi e)))) ∧ Below w.heap.size w w' := by
  cases hE : emptyR (rg lo hi e)
  · cases e
    · -- no end
      have hN : underN (rg lo hi false) = tops lo.data.toList := by
        unfold underN; rw [hE]; rfl
      have hU : under (rg lo hi false) = lo.data.toList.take (tops lo.data.toList) := by unfold under; rw [hN]; rfl
      have hle := tops_le lo.data.toList
      have hat := hid (fun j => tops_at lo.data.toList j)
      rw [← Lib.size_eq] at hle
      have HU := hid hU
      have HE := empty25 lo hi false
      rw [hE] at HE
      clear hE hN hU
      generalize tops lo.data.toList = T at *
      go_enter Try.func34, Try.ntmps34
      go_wp2_with fail
      refine (HE _).mono ?_
      clear HE
      rintro x w' ⟨rfl, hbw⟩
      have hx := (Box.new w (.string lo) (.string hi) (.bool false)).later hbw
      have hb : Below w.heap.size w w' := (below_box _ _).trans (hbw.mono (by simp))
      clear hbw
      obtain ⟨a0, a1, a2⟩ := hx.cells
      go_wp2_with fail
      go_loop [3] (fun n => ∃ j : Nat, j ≤ T ∧ n = .int .i64 j) (fun n => T + 1 - (intOf n).toNat)
      case atStart => exact ⟨0, Nat.zero_le _, rfl⟩
      case round =>
        obtain ⟨j, hj, rfl⟩ := hrel
        by_cases hin : j < lo.size
        · have k1 : (j : Int) < (lo.size : Int) := by omega
          have g := hid (hat.out j (by rw [← Lib.size_eq]; exact hin))
          rw [← byte_at lo j hin] at g
          go_wp2_with fail
          · have hj1 : j < T := by
              have h := g.out.2
              rcases Nat.lt_or_ge j T with h' | h'
              · exact h'
              · exact absurd (top_byte ‹_›) (h (by omega))
            exact ⟨⟨j + 1, hj1, rfl⟩, by simp [intOf]; omega⟩
          · have hj1 : j = T := by
              rcases Nat.lt_or_ge j T with h' | h'
              · exact absurd (g.out.1 h') (low_byte ‹_›)
              · omega
            go_ret
            exact ⟨ret_str (by rw [HU.out, cut_eq, hj1]), hb⟩
        · have k1 : decide ((j : Int) < (lo.size : Int)) = false := by simp; omega
          go_wp2_with fail
          go_ret
          exact ⟨ret_str (by rw [HU.out, cut_eq, show j = T by omega]), hb⟩
    · -- an end
      have hlt := not_empty hE
      have hN : underN (rg lo hi true) = und lo.data.toList hi.data.toList := by
        unfold underN; rw [hE]; rfl
      have hU : under (rg lo hi true) = lo.data.toList.take (und lo.data.toList hi.data.toList) := by unfold under; rw [hN]; rfl
      have hc := (common_len lo.data.toList hi.data.toList).1
      have hz := str_size (common lo.data.toList hi.data.toList)
      have HW := hid (fun h => und_whole hlt h)
      have HP := hid (fun h => und_part hlt h)
      rw [← Lib.size_eq] at hc HW HP
      have HE := empty25 lo hi true
      have HC := fun w => common15 lo hi w (by omega) (by omega)
      rw [hE] at HE
      have HU := hid hU
      clear hE hN hU hlt
      generalize str (common lo.data.toList hi.data.toList) = S at *
      generalize (common lo.data.toList hi.data.toList).length = C at *
      generalize und lo.data.toList hi.data.toList = U at *
      go_enter Try.func34, Try.ntmps34
      go_wp2_with fail
      refine (HE _).mono ?_
      clear HE
      rintro x w' ⟨rfl, hbw⟩
      have hx := (Box.new w (.string lo) (.string hi) (.bool true)).later hbw
      have hb : Below w.heap.size w w' := (below_box _ _).trans (hbw.mono (by simp))
      clear hbw
      obtain ⟨a0, a1, a2⟩ := hx.cells
      go_wp2_with fail
      refine (HC _).mono ?_
      clear HC
      rintro x w2 ⟨rfl, hbw2⟩
      have hx2 := hx.later hbw2
      have hb2 : Below w.heap.size w w2 := hb.trans (hbw2.mono hb.size)
      clear hbw2 hx a0 a1 a2 hb
      obtain ⟨a0, a1, a2⟩ := hx2.cells
      by_cases hw : C = lo.size
      · have hd : ((C : Int) == (lo.size : Int)) = true := by simp [hw]
        have hU := HW.out hw
        clear HW HP
        go_wp2_with fail
        go_ret
        refine ⟨ret_str ?_, hb2⟩
        rw [HU.out, hU, Lib.size_eq, List.take_length, str_eq]
      · have hd : ((C : Int) == (lo.size : Int)) = false := by simp; omega
        obtain ⟨s, hs, hs1, hs2⟩ := HP.out (by omega)
        clear HW HP
        have HS := fun w => succ31 (lo.extract 0 (C + 1)) w (by simp; omega)
        rw [cut_data] at HS
        unfold sucS sucO at HS
        rw [hs] at HS
        simp only [Option.getD_some, Option.isSome_some] at HS
        have hi' : (C : Int) + 1 ≤ (lo.size : Int) := by omega
        by_cases hq : s = hi.data.toList
        · have hq' : str s = hi := by rw [hq, str_eq]
          rw [hq'] at HS
          have hU := hs1 hq
          have hle := tops_le (lo.data.toList.drop (C + 1))
          rw [List.length_drop, ← Lib.size_eq] at hle
          have hat : ∀ (j : Nat) (h : j < lo.size), C + 1 ≤ j → (j < U → lo[j] = 255) ∧ (j = U → lo[j] ≠ 255) := by
            intro j hj hge
            have := tops_at (lo.data.toList.drop (C + 1)) (j - (C + 1)) (by rw [List.length_drop, ← Lib.size_eq]; omega)
            rw [List.getElem_drop] at this
            simp only [show C + 1 + (j - (C + 1)) = j by omega] at this
            rw [← byte_at lo j hj] at this
            exact ⟨fun h => this.1 (by omega), fun h => this.2 (by omega)⟩
          have HAT := hid hat
          have hU1 : C + 1 ≤ U := by omega
          have hU2 : U ≤ lo.size := by omega
          clear hs hs1 hs2 hq hq' hU hle hat
          go_wp2_with fail
          refine (HS _).mono ?_
          clear HS
          rintro x w3 ⟨rfl, hbw3⟩
          have hx3 := hx2.later hbw3
          have hb3 : Below w.heap.size w w3 := hb2.trans (hbw3.mono hb2.size)
          clear hbw3 hx2 a0 a1 a2 hb2
          obtain ⟨a0, a1, a2⟩ := hx3.cells
          go_wp2_with fail
          go_loop [3] (fun n => ∃ j : Nat, C + 1 ≤ j ∧ j ≤ U ∧ n = .int .i64 j) (fun n => U + 1 - (intOf n).toNat)
          case atStart => exact ⟨C + 1, Nat.le_refl _, hU1, rfl⟩
          case round =>
            obtain ⟨j, hj', hj, rfl⟩ := hrel
            by_cases hin : j < lo.size
            · have k1 : (j : Int) < (lo.size : Int) := by omega
              have g := hid (HAT.out j hin hj')
              go_wp2_with fail
              · have hj1 : j < U := by
                  have h := g.out.2
                  rcases Nat.lt_or_ge j U with h' | h'
                  · exact h'
                  · exact absurd (top_byte ‹_›) (h (by omega))
                exact ⟨⟨j + 1, by omega, hj1, rfl⟩, by simp [intOf]; omega⟩
              · have hj1 : j = U := by
                  rcases Nat.lt_or_ge j U with h' | h'
                  · exact absurd (g.out.1 h') (low_byte ‹_›)
                  · omega
                go_ret
                exact ⟨ret_str (by rw [HU.out, cut_eq, hj1]), hb3⟩
            · have k1 : decide ((j : Int) < (lo.size : Int)) = false := by simp; omega
              go_wp2_with fail
              go_ret
              exact ⟨ret_str (by rw [HU.out, cut_eq, show j = U by omega]), hb3⟩
        · have hU := hs2 hq
          have hne : ((str s).toList == hi.toList) = false := by
            rw [Bool.eq_false_iff]
            intro h
            rw [Lib.toList_data, Lib.toList_data, str_data] at h
            exact hq (eq_of_beq h)
          generalize str s = S2 at *
          clear hs hs1 hs2 hq
          go_wp2_with fail
          refine (HS _).mono ?_
          clear HS
          rintro x w3 ⟨rfl, hbw3⟩
          have hx3 := hx2.later hbw3
          have hb3 : Below w.heap.size w w3 := hb2.trans (hbw3.mono hb2.size)
          clear hbw3 hx2 a0 a1 a2 hb2
          obtain ⟨a0, a1, a2⟩ := hx3.cells
          go_wp2_with fail
          go_ret
          exact ⟨ret_str (by rw [HU.out, cut_eq, hU]), hb3⟩
  · have HU := hid (under_empty hE)
    have HE := empty25 lo hi e
    rw [hE] at HE
    clear hE
    go_enter Try.func34, Try.ntmps34
    go_wp2_with fail
    refine (HE _).mono ?_
    clear HE
    rintro x w' ⟨rfl, hbw⟩
    go_wp2_with fail
    go_ret
    exact ⟨ret_str (by rw [HU.out]; rfl), (below_box _ _).trans (hbw.mono (by simp))⟩

end Go.Proofs.Ytlkcoaencliajaa.Key
