/-
  Worlds that only grow, to the letter; the program's Deep among them; a node's depth compared, as a closure.
-/
import Derived.Test.YtegmpfmhlpdmhaaGreatDeep
import Derived.Test.YtegmpfmhlpdmhaaGreatItems
import Derived.Test.YtegmpfmhlpdmhaaGreatQu
import Derived.Sort.Grow
namespace Go.Proofs.YtegmpfmhlpdmhaaGreat.Key
open Go.RowKit Go.Sort
set_option linter.unusedVariables false
set_option linter.unusedSimpArgs false

/-- new blocks and draws, nothing else -/
def Gr (w w' : World) : Prop := ∃ q os', w' = grow (w.drewN q) os'
theorem Gr.refl (w : World) : Gr w w := ⟨0, #[], by rw [grow_empty]; rfl⟩
theorem Gr.alloc {w w' : World} (h : Gr w w') (o : Obj) : Gr w (w'.alloc o) := by
  obtain ⟨q, os', rfl⟩ := h
  exact ⟨q, os' ++ #[o], by rw [alloc_eq_grow, grow_grow]⟩
theorem Gr.box (w : World) (o : Obj) : Gr w (w.alloc o) := (Gr.refl w).alloc o
theorem Gr.drewN {w w' : World} (h : Gr w w') (n : Nat) : Gr w (w'.drewN n) := by
  obtain ⟨q, os', rfl⟩ := h
  refine ⟨q + n, os', ?_⟩
  simp [grow, World.drewN, Nat.add_assoc]
theorem Gr.trans {a b c : World} (h : Gr a b) (h' : Gr b c) : Gr a c := by
  obtain ⟨q, os', rfl⟩ := h'
  obtain ⟨q2, os2, e⟩ := h.drewN q
  exact ⟨q2, os2 ++ os', by rw [e, grow_grow]⟩
theorem Gr.below {w w' : World} (h : Gr w w') : Below w.heap.size w w' := by
  obtain ⟨q, os', rfl⟩ := h
  refine ⟨rfl, rfl, rfl, by simp [grow, World.drewN], fun k hk => ?_⟩
  show (w.heap ++ os')[k]? = w.heap[k]?
  rw [Array.getElem?_append_left hk]
set_option maxRecDepth 100000 in
set_option maxHeartbeats 2000000 in
theorem deep14g (n : Nd) (p : Pl) (w : World) (hf : Small n) (h : Lies w n p) :
    Calls Tryz.prog 52 #[nv n p] w fun x w' => x = .returned (.int .u16 (deepI n)) ∧ Gr w w' := by
  have hb0 : Gr w (w.alloc (.cells #[.bool n.leaf, .slice p.a1 n.ps.length p.c1, .slice p.a2 n.pv.length p.c2, .slice p.a3 n.ks.length p.c3, .slice p.a4 n.bf.length p.c4] 46)) := Gr.box w _
  have N0 := NBox.new w (.bool n.leaf) (.slice p.a1 n.ps.length p.c1) (.slice p.a2 n.pv.length p.c2) (.slice p.a3 n.ks.length p.c3) (.slice p.a4 n.bf.length p.c4)
  have hD : deepI n = if n.leaf then 1 else if deepM n = 65535 then 65535 else deepM n + 1 := rfl
  have hM : deepM n = bufD (kidD n.ks n.ks.length) n.bf n.bf.length := rfl
  obtain ⟨⟨l1, l2, l3, l4⟩, _, _, _, db, de⟩ := hf
  have KI := hid (fun j => kidD_in de j)
  have BI := hid (bufD_in (kidD_in de n.ks.length (Nat.le_refl _)) db)
  have q3 := hid h.h3
  have q4 := hid h.h4
  clear h db de
  generalize deepI n = R at *
  generalize deepM n = DM at *
  obtain ⟨lf, ps, pv, ks, bf⟩ := n
  obtain ⟨a1, c1, a2, c2, a3, c3, a4, c4⟩ := p
  dsimp only [nv] at *
  generalize ps.length = n1 at *
  generalize pv.length = n2 at *
  generalize hn3 : ks.length = n3 at *
  generalize hn4 : bf.length = n4 at *
  have HN3 := hid hn3
  have HN4 := hid hn4
  clear hn3 hn4
  cases lf
  case true =>
    have HR : Hid (R = 1) := hid hD
    clear hD hM
    go_enter Tryz.func52, Tryz.ntmps52
    go_wp2_with fail
    go_ret
    exact ⟨by rw [HR.out]; rfl, hb0⟩
  case false =>
  have HR : Hid (R = if DM = 65535 then 65535 else DM + 1) := hid hD
  have HM := hid hM
  clear hD hM
  go_enter Tryz.func52, Tryz.ntmps52
  go_wp2_with fail
  generalize (w.alloc (.cells #[.bool false, .slice a1 n1 c1, .slice a2 n2 c2, .slice a3 n3 c3, .slice a4 n4 c4] 46)) = w0 at *
  go_loopw [3, 13] (fun d i wr => ∃ j : Nat, j ≤ n3 ∧ i = .int .i64 j ∧ d = .int .u16 (kidD ks j) ∧ Gr w0 wr) (fun _ i _ => n3 - (intOf i).toNat)
  case atStart => exact ⟨0, Nat.zero_le _, rfl, rfl, Gr.refl _⟩
  case round =>
    obtain ⟨j, hj, rfl, rfl, hb⟩ := hrel
    have hbw : Gr w wr := hb0.trans hb
    by_cases hlt : j < n3
    · have hlt' : j < ks.length := by rw [HN3.out]; exact hlt
      obtain ⟨b, off, rfl, h6⟩ := (q3.out.later hbw.below).at hlt'
      have HK := hid (kidD_at hlt')
      obtain ⟨e, HS⟩ : ∃ s, Hid (ks[j] = s) := ⟨_, hid rfl⟩
      rw [HS.out] at HK h6
      obtain ⟨bk, dp, st, ad⟩ := e
      obtain ⟨d0, d1, d2, d3⟩ := h6
      dsimp only at d0 d1 d2 d3 HK
      have hb2 := hb.alloc (.cells #[.int .u32 bk, .int .u16 dp, .string st, .string ad] 39)
      generalize kidD ks j = q at *
      by_cases hd : q < dp
      · have HF : Hid (kidD ks (j + 1) = dp) := hid (by rw [HK.out, up2, if_pos hd])
        clear HK
        go_wp2_with fail
        go_roundw
        case rel => exact ⟨j + 1, by omega, by go_num, by rw [HF.out], hb2⟩
        case measure => simp [intOf]; omega
      · have HF : Hid (kidD ks (j + 1) = q) := hid (by rw [HK.out, up2, if_neg hd])
        clear HK
        go_wp2_with fail
        go_roundw
        case rel => exact ⟨j + 1, by omega, by go_num, by rw [HF.out], hb2⟩
        case measure => simp [intOf]; omega
    · obtain rfl : j = n3 := by omega
      obtain ⟨m0, m1, m2, m3, m4⟩ := (N0.later hb.below).cells
      generalize kidD ks j = s at *
      go_wp2_with fail
      go_loopw [3, 25] (fun d i wr' => ∃ j : Nat, j ≤ n4 ∧ i = .int .i64 j ∧ d = .int .u16 (bufD s bf j) ∧ Gr wr wr') (fun _ i _ => n4 - (intOf i).toNat)
      case atStart => exact ⟨0, Nat.zero_le _, rfl, rfl, Gr.refl _⟩
      case round =>
        obtain ⟨j, hj, rfl, rfl, hb3⟩ := hrel
        have hbw3 := hbw.trans hb3
        clear m0 m1 m2 m3 m4
        by_cases hlt : j < n4
        · have hlt' : j < bf.length := by rw [HN4.out]; exact hlt
          obtain ⟨b, off, rfl, h6⟩ := (q4.out.later hbw3.below).at hlt'
          have HK := hid (bufD_at (s := s) hlt')
          obtain ⟨m, HS⟩ : ∃ s, Hid (bf[j] = s) := ⟨_, hid rfl⟩
          rw [HS.out] at HK h6
          obtain ⟨kd, ky, vl, bk, dp, ad⟩ := m
          obtain ⟨d0, d1, d2, d3, d4, d5⟩ := h6
          dsimp only at d0 d1 d2 d3 d4 d5 HK
          have hb4 := hb3.alloc (.cells #[.int .u8 kd, .string ky, .string vl, .int .u32 bk, .int .u16 dp, .string ad] 42)
          have HKe := HK.out
          generalize bufD s bf j = q at *
          by_cases h3 : kd = 3
          · subst h3
            rw [if_pos rfl] at HKe
            by_cases hd : q < dp
            · have HF : Hid (bufD s bf (j + 1) = dp) := hid (by rw [HKe, up2, if_pos hd])
              clear HK HKe
              go_wp2_with fail
              go_roundw
              case rel => exact ⟨j + 1, by omega, by go_num, by rw [HF.out], hb4⟩
              case measure => simp [intOf]; omega
            · have HF : Hid (bufD s bf (j + 1) = q) := hid (by rw [HKe, up2, if_neg hd])
              clear HK HKe
              go_wp2_with fail
              go_roundw
              case rel => exact ⟨j + 1, by omega, by go_num, by rw [HF.out], hb4⟩
              case measure => simp [intOf]; omega
          · rw [if_neg h3] at HKe
            have HF := hid HKe
            have h3' : (kd == 3) = false := by simpa using h3
            clear HK HKe h3
            go_wp2_with fail
            go_roundw
            case rel => exact ⟨j + 1, by omega, by go_num, by rw [HF.out], hb4⟩
            case measure => simp [intOf]; omega
        · obtain rfl : j = n4 := by omega
          have hin := BI.out j (Nat.le_refl _)
          rw [← HM.out] at hin ⊢
          clear HM KI BI
          by_cases he : DM = 65535
          · subst he
            have HF : Hid (R = 65535) := hid (by rw [HR.out, if_pos rfl])
            clear HR
            go_wp2_with fail
            go_ret
            exact ⟨by rw [HF.out]; rfl, hbw3⟩
          · have HF : Hid (R = DM + 1) := hid (by rw [HR.out, if_neg he])
            have he' : (DM == 65535) = false := by simpa using he
            have hw := wrap16 (z := DM + 1) (by omega)
            clear HR
            go_wp2_with fail
            go_ret
            exact ⟨by rw [HF.out]; rfl, hbw3⟩
end Go.Proofs.YtegmpfmhlpdmhaaGreat.Key
