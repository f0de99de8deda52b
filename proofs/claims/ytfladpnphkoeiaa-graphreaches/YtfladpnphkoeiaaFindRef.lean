/-
  Contracts of the document's Find, and of its leads.
-/
import Derived.Test.YtfladpnphkoeiaaFind
namespace Go.Proofs.Ytfladpnphkoeiaa.Key
open Go.RowKit
set_option linter.unusedVariables false
set_option linter.unusedSimpArgs false

set_option maxRecDepth 100000 in
set_option maxHeartbeats 800000 in
theorem find10 (a : Option Addr) (c : Nat) (l : List It) (b : Int) (w : World) (hln : l.length ≤ 1000) (h : Items w a l) :
    Calls Try.prog 10 #[.slice a l.length c, .int .u32 b] w fun x w' => (∃ (n : Nd) (p : Pl), x = .returned (.tuple #[nv n p, .bool (findI l b).isSome]) ∧ n = foundN l b ∧ Lies w' n p) ∧ Below w.heap.size w w' := by
  generalize hn : l.length = n at *
  have HN := hid hn
  clear hn
  have N0 := NBox.new w (.bool false) (.slice none 0 0) (.slice none 0 0) (.slice none 0 0) (.slice none 0 0)
  have hb0 := below_box w (.cells #[.bool false, .slice none 0 0, .slice none 0 0, .slice none 0 0, .slice none 0 0] 31)
  have HI := hid h
  clear h
  go_enter Try.func10, Try.ntmps10
  go_wp2_with fail
  generalize (w.alloc (.cells #[.bool false, .slice none 0 0, .slice none 0 0, .slice none 0 0, .slice none 0 0] 31)) = w0 at *
  generalize hk0 : w.heap.size = k0 at *
  go_loop [9] (fun i => ∃ j : Nat, j ≤ n ∧ i = .int .i64 j ∧ Hid (findI (l.take j) b = none)) (fun i => n - (intOf i).toNat)
  case atStart => exact ⟨0, Nat.zero_le _, rfl, rfl⟩
  case round =>
    obtain ⟨j, hj, rfl, hjn⟩ := hrel
    by_cases hlt : j < n
    · have hlt' : j < l.length := by rw [HN.out]; exact hlt
      obtain ⟨bb, off, rfl, h6, h7⟩ := (HI.out.later (by rw [hk0]; exact hb0)).at hlt'
      have HIT := hid (fun e => find_hit hlt' hjn.out e)
      have NXT := hid (fun e => find_next hlt' hjn.out e)
      have HL5 := hid (fun u (hu : Below k0 w u) => (show Lies u l[j].nd l[j].pl by
        obtain ⟨b', off', e, h8, h9⟩ := (HI.out.later (by rw [hk0]; exact hu)).at hlt'
        exact h9))
      obtain ⟨x, HX⟩ : ∃ m, Hid (l[j] = m) := ⟨_, hid rfl⟩
      rw [HX.out] at h6 h7 HIT NXT HL5
      have HFN : Hid (x.blk = b → foundN l b = x.nd ∧ (findI l b).isSome = true) := hid (fun e => by unfold foundN; rw [HIT.out e]; exact ⟨rfl, rfl⟩)
      obtain ⟨bk, ⟨lf, ps, pv, ks, bf⟩, ⟨a1, c1, a2, c2, a3, c3, a4, c4⟩⟩ := x
      obtain ⟨d0, d1, d2, d3, d4, d5⟩ := h6
      dsimp only [nv] at *
      clear h7 HIT
      by_cases hbk : bk = b
      · have hbk' : (bk == b) = true := by simpa using hbk
        obtain ⟨HF1, HF2⟩ := HFN.out hbk
        replace HF1 := hid HF1
        replace HF2 := hid HF2
        clear hbk HFN NXT
        have M2 := N0.put (.bool lf) (.slice a1 ps.length c1) (.slice a2 pv.length c2) (.slice a3 ks.length c3) (.slice a4 bf.length c4)
        have hb7 := below_five' hb0 (Nat.le_refl k0) (.bool lf) (.slice a1 ps.length c1) (.slice a2 pv.length c2) (.slice a3 ks.length c3) (.slice a4 bf.length c4)
        have HL6 := hid (HL5.out _ hb7)
        obtain ⟨z0, z1, z2, z3, z4⟩ := N0.cells
        have f0 := N0.free 0
        have f1 := N0.free 1
        have f2 := N0.free 2
        have f3 := N0.free 3
        have f4 := N0.free 4
        have HQ : Hid (nv ⟨lf, ps, pv, ks, bf⟩ ⟨a1, c1, a2, c2, a3, c3, a4, c4⟩ = .agg #[.bool lf, .slice a1 ps.length c1, .slice a2 pv.length c2, .slice a3 ks.length c3, .slice a4 bf.length c4]) := hid rfl
        generalize ps.length = n1 at *
        generalize pv.length = n2 at *
        generalize ks.length = n3 at *
        generalize bf.length = n4 at *
        clear N0
        go_wp2_with fail
        obtain ⟨v0, v1, v2, v3, v4⟩ := M2.cells
        refine bodyPost_ret (v := .tuple #[.agg #[.bool lf, .slice a1 n1 c1, .slice a2 n2 c2, .slice a3 n3 c3, .slice a4 n4 c4], .bool true]) (by simp [results, Try.results10, go_sem, v0, v1, v2, v3, v4]) rfl ⟨⟨⟨lf, ps, pv, ks, bf⟩, ⟨a1, c1, a2, c2, a3, c3, a4, c4⟩, ?_, HF1.out.symm, HL6.out⟩, ?_⟩
        · rw [HF2.out, HQ.out]
        · first | exact hb7 | (rw [hk0]; exact hb7)
      · have hbk' : (bk == b) = false := by simpa using hbk
        have NX := hid (NXT.out hbk)
        clear hbk HFN
        go_wp2_with fail
        go_round
        case rel => exact ⟨j + 1, by omega, by go_num, NX⟩
        case measure => simp [intOf]; omega
    · obtain rfl : j = n := by omega
      have HF : Hid (findI l b = none) := hid (by have := hjn.out; rw [← HN.out, List.take_length] at this; exact this)
      have M2 := N0.put (.bool false) (.slice none 0 0) (.slice none 0 0) (.slice none 0 0) (.slice none 0 0)
      have hb7 := below_five' hb0 (Nat.le_refl k0) (.bool false) (.slice none 0 0) (.slice none 0 0) (.slice none 0 0) (.slice none 0 0)
      obtain ⟨z0, z1, z2, z3, z4⟩ := N0.cells
      have f0 := N0.free 0
      have f1 := N0.free 1
      have f2 := N0.free 2
      have f3 := N0.free 3
      have f4 := N0.free 4
      clear N0 hjn
      go_wp2_with fail
      obtain ⟨v0, v1, v2, v3, v4⟩ := M2.cells
      refine bodyPost_ret (v := .tuple #[.agg #[.bool false, .slice none 0 0, .slice none 0 0, .slice none 0 0, .slice none 0 0], .bool false]) (by simp [results, Try.results10, go_sem, v0, v1, v2, v3, v4]) rfl ⟨⟨zeroN, ⟨none, 0, none, 0, none, 0, none, 0⟩, ?_, ?_, ?_⟩, ?_⟩
      · rw [HF.out]; rfl
      · unfold foundN; rw [HF.out]; rfl
      · exact ⟨.inl rfl, .inl rfl, .inl rfl, .inl rfl⟩
      · first | exact hb7 | (rw [hk0]; exact hb7)

theorem found_small {l : List It} (h : ∀ x ∈ l, Small x.nd) (b : Int) : Small (foundN l b) := by
  unfold foundN
  cases hf : findI l b with
  | none => exact ⟨⟨by simp [zeroN], by simp [zeroN], by simp [zeroN], by simp [zeroN]⟩, by simp [zeroN], by simp [zeroN], by simp [zeroN], by simp [zeroN], by simp [zeroN]⟩
  | some x => exact h x (List.mem_of_find?_eq_some hf)
theorem fits_found (l : List It) (b d : Int) : fitsB l b d = ((findI l b).isSome && (decide (d < 65535) && decide (deepI (foundN l b) = d))) := by
  unfold fitsB foundN
  cases findI l b with
  | none => rfl
  | some x => simp [Bool.and_comm]
set_option maxRecDepth 100000 in
set_option maxHeartbeats 600000 in
theorem leads29 (a : Option Addr) (c : Nat) (l : List It) (b d : Int) (w : World) (hl : Fine l) (h : Items w a l) :
    Calls Try.prog 29 #[.slice a l.length c, .int .u32 b, .int .u16 d] w fun x w' => x = .returned (.bool (fitsB l b d)) ∧ Below w.heap.size w w' := by
  have HFD := find10 a c l b w hl.len h
  have HG := hid (fits_found l b d)
  have hsm := found_small hl.sml b
  generalize fitsB l b d = G at *
  generalize l.length = n at *
  obtain ⟨t, HT⟩ : ∃ t, Hid ((findI l b).isSome = t) := ⟨_, hid rfl⟩
  rw [HT.out] at HFD HG
  cases t
  case false =>
    go_enter Try.func29, Try.ntmps29
    go_wp2_with fail
    refine HFD.mono ?_
    rintro e w1 ⟨⟨N, P, rfl, hN, hL⟩, hb1⟩
    clear hN hL
    have hb2 := hb1.alloc hb1.size (.cells #[.bool N.leaf, .slice P.a1 N.ps.length P.c1, .slice P.a2 N.pv.length P.c2, .slice P.a3 N.ks.length P.c3, .slice P.a4 N.bf.length P.c4] 31)
    go_wp2_with fail
    go_ret
    exact ⟨ret_bool HG.out.symm, hb2⟩
  case true =>
  by_cases hd : d < 65535
  case neg =>
    have hd' : decide (d < 65535) = false := by simpa using hd
    have HG2 : Hid (G = false) := hid (by rw [HG.out, hd']; rfl)
    clear hd
    go_enter Try.func29, Try.ntmps29
    go_wp2_with fail
    refine HFD.mono ?_
    rintro e w1 ⟨⟨N, P, rfl, hN, hL⟩, hb1⟩
    clear hN hL
    have hb2 := hb1.alloc hb1.size (.cells #[.bool N.leaf, .slice P.a1 N.ps.length P.c1, .slice P.a2 N.pv.length P.c2, .slice P.a3 N.ks.length P.c3, .slice P.a4 N.bf.length P.c4] 31)
    go_wp2_with fail
    go_ret
    exact ⟨ret_bool HG2.out.symm, hb2⟩
  case pos =>
  have hd' : decide (d < 65535) = true := by simpa using hd
  have HG2 : Hid (G = decide (deepI (foundN l b) = d)) := hid (by rw [HG.out, hd']; rfl)
  clear hd HG
  go_enter Try.func29, Try.ntmps29
  go_wp2_with fail
  refine HFD.mono ?_
  rintro e w1 ⟨⟨N, P, rfl, hN, hL⟩, hb1⟩
  rw [← hN] at hsm HG2
  have hbx := below_box w1 (.cells #[.bool N.leaf, .slice P.a1 N.ps.length P.c1, .slice P.a2 N.pv.length P.c2, .slice P.a3 N.ks.length P.c3, .slice P.a4 N.bf.length P.c4] 31)
  have HD := deep15 N P _ hsm (hL.later hbx)
  have hb2 := hb1.trans (hbx.mono hb1.size)
  obtain ⟨m0, m1, m2, m3, m4⟩ := (NBox.new w1 (.bool N.leaf) (.slice P.a1 N.ps.length P.c1) (.slice P.a2 N.pv.length P.c2) (.slice P.a3 N.ks.length P.c3) (.slice P.a4 N.bf.length P.c4)).cells
  obtain ⟨DN, HDN⟩ : ∃ m, Hid (deepI N = m) := ⟨_, hid rfl⟩
  rw [HDN.out] at HD HG2
  clear HFD hbx hL hN
  go_wp2_with fail
  refine HD.mono ?_
  rintro e w2 ⟨rfl, hb3⟩
  have hb4 := hb2.trans (hb3.mono hb2.size)
  go_wp2_with fail
  go_ret
  refine ⟨ret_bool ?_, hb4⟩
  rw [HG2.out]
  exact Bool.eq_iff_iff.2 (by simp)
end Go.Proofs.Ytfladpnphkoeiaa.Key
