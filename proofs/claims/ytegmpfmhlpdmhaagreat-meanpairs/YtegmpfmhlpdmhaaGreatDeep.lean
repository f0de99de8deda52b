/-
  Contracts of Deep, the program's and the document's.
-/
import Derived.Test.YtegmpfmhlpdmhaaGreatStep
namespace Go.Proofs.YtegmpfmhlpdmhaaGreat.Key
open Go.RowKit
open Go.Op (bytesLess)

/-- the greater one -/
def up2 (a b : Int) : Int := if a < b then b else a
/-- the greatest Deep of kids -/
def kidD (ks : List E) : Nat → Int
  | 0 => 0
  | j + 1 => up2 (kidD ks j) (ks.getD j E.nil).deep
/-- .. and of Gotos -/
def bufD (s : Int) (bf : List M) : Nat → Int
  | 0 => s
  | j + 1 => if (bf.getD j M.nil).kind = 3 then up2 (bufD s bf j) (bf.getD j M.nil).deep else bufD s bf j
def deepM (n : Nd) : Int := bufD (kidD n.ks n.ks.length) n.bf n.bf.length
def deepI (n : Nd) : Int := if n.leaf then 1 else if deepM n = 65535 then 65535 else deepM n + 1
set_option maxRecDepth 100000 in
theorem kidD_at {ks : List E} {j : Nat} (h : j < ks.length) : kidD ks (j + 1) = up2 (kidD ks j) ks[j].deep := by rw [kidD, getD_at h]
set_option maxRecDepth 100000 in
theorem bufD_at {s : Int} {bf : List M} {j : Nat} (h : j < bf.length) : bufD s bf (j + 1) = if bf[j].kind = 3 then up2 (bufD s bf j) bf[j].deep else bufD s bf j := by rw [bufD, getD_at h]
set_option maxRecDepth 100000 in
theorem up2_in {a b : Int} (ha : 0 ≤ a ∧ a ≤ 65535) (hb : 0 ≤ b ∧ b ≤ 65535) : 0 ≤ up2 a b ∧ up2 a b ≤ 65535 := by
  unfold up2
  split
  · exact hb
  · exact ha
set_option maxRecDepth 100000 in
theorem kidD_in {ks : List E} (h : ∀ e ∈ ks, 0 ≤ e.deep ∧ e.deep ≤ 65535) : ∀ j, j ≤ ks.length → 0 ≤ kidD ks j ∧ kidD ks j ≤ 65535
  | 0, _ => by simp [kidD]
  | j + 1, hj => by
    rw [kidD_at (by omega)]
    exact up2_in (kidD_in h j (by omega)) (h _ (List.getElem_mem _))
set_option maxRecDepth 100000 in
theorem bufD_in {s : Int} {bf : List M} (hs : 0 ≤ s ∧ s ≤ 65535) (h : ∀ m ∈ bf, 0 ≤ m.deep ∧ m.deep ≤ 65535) : ∀ j, j ≤ bf.length → 0 ≤ bufD s bf j ∧ bufD s bf j ≤ 65535
  | 0, _ => hs
  | j + 1, hj => by
    rw [bufD_at (by omega)]
    have ih := bufD_in hs h j (by omega)
    split
    · exact up2_in ih (h _ (List.getElem_mem _))
    · exact ih
set_option maxRecDepth 100000 in
theorem wrap16 {z : Int} (h : 0 ≤ z ∧ z ≤ 65535) : IntKind.u16.wrap z = z := by
  have e : IntKind.u16.wrap z = z % 65536 := by first | rfl | simp [IntKind.wrap, IntKind.signed, IntKind.bits]
  rw [e]
  omega

set_option maxRecDepth 100000 in
set_option maxHeartbeats 2000000 in
theorem deep14 (n : Nd) (p : Pl) (w : World) (hf : Small n) (h : Lies w n p) :
    Calls Tryz.prog 52 #[nv n p] w fun x w' => x = .returned (.int .u16 (deepI n)) ∧ Below w.heap.size w w' := by
  have hb0 : Below w.heap.size w (w.alloc (.cells #[.bool n.leaf, .slice p.a1 n.ps.length p.c1, .slice p.a2 n.pv.length p.c2, .slice p.a3 n.ks.length p.c3, .slice p.a4 n.bf.length p.c4] 46)) := below_box w _
  have N0 := NBox.new w (.bool n.leaf) (.slice p.a1 n.ps.length p.c1) (.slice p.a2 n.pv.length p.c2) (.slice p.a3 n.ks.length p.c3) (.slice p.a4 n.bf.length p.c4)
  have hD : deepI n = if n.leaf then 1 else if deepM n = 65535 then 65535 else deepM n + 1 := rfl
  have hM : deepM n = bufD (kidD n.ks n.ks.length) n.bf n.bf.length := rfl
  obtain ⟨⟨l1, l2, l3, l4⟩, _, _, _, db, de⟩ := hf
  have KI := hid (fun j => kidD_in de j)
  have BI := hid (bufD_in (kidD_in de n.ks.length (Nat.le_refl _)) db)
  have q3 := hid h.h3
  have q4 := hid h.h4
  clear h db de
  generalize deepI n = R at *
  generalize deepM n = DM at *
  obtain ⟨lf, ps, pv, ks, bf⟩ := n
  obtain ⟨a1, c1, a2, c2, a3, c3, a4, c4⟩ := p
  dsimp only [nv] at *
  generalize ps.length = n1 at *
  generalize pv.length = n2 at *
  generalize hn3 : ks.length = n3 at *
  generalize hn4 : bf.length = n4 at *
  have HN3 := hid hn3
  have HN4 := hid hn4
  clear hn3 hn4
  cases lf
  case true =>
    have HR : Hid (R = 1) := hid hD
    clear hD hM
    go_enter Tryz.func52, Tryz.ntmps52
    go_wp2_with fail
    go_ret
    exact ⟨by rw [HR.out]; rfl, hb0⟩
  case false =>
  have HR : Hid (R = if DM = 65535 then 65535 else DM + 1) := hid hD
  have HM := hid hM
  clear hD hM
  go_enter Tryz.func52, Tryz.ntmps52
  go_wp2_with fail
  generalize (w.alloc (.cells #[.bool false, .slice a1 n1 c1, .slice a2 n2 c2, .slice a3 n3 c3, .slice a4 n4 c4] 46)) = w0 at *
  generalize hk0 : w.heap.size = k0 at *
  go_loopw [3, 13] (fun d i wr => ∃ j : Nat, j ≤ n3 ∧ i = .int .i64 j ∧ d = .int .u16 (kidD ks j) ∧ Below w0.heap.size w0 wr) (fun _ i _ => n3 - (intOf i).toNat)
  case atStart => exact ⟨0, Nat.zero_le _, rfl, rfl, Below.refl _ _⟩
  case round =>
    obtain ⟨j, hj, rfl, rfl, hb⟩ := hrel
    have hbw : Below k0 w wr := hb0.trans (hb.mono (by have := hb0.size; omega))
    by_cases hlt : j < n3
    · have hlt' : j < ks.length := by rw [HN3.out]; exact hlt
      obtain ⟨b, off, rfl, h6⟩ := (q3.out.later (by rw [hk0]; exact hbw)).at hlt'
      have HK := hid (kidD_at hlt')
      obtain ⟨e, HS⟩ : ∃ s, Hid (ks[j] = s) := ⟨_, hid rfl⟩
      rw [HS.out] at HK h6
      obtain ⟨bk, dp, st, ad⟩ := e
      obtain ⟨d0, d1, d2, d3⟩ := h6
      dsimp only at d0 d1 d2 d3 HK
      have hb2 := hb.alloc hb.size (.cells #[.int .u32 bk, .int .u16 dp, .string st, .string ad] 39)
      generalize kidD ks j = q at *
      by_cases hd : q < dp
      · have HF : Hid (kidD ks (j + 1) = dp) := hid (by rw [HK.out, up2, if_pos hd])
        clear HK
        go_wp2_with fail
        go_roundw
        case rel => exact ⟨j + 1, by omega, by go_num, by rw [HF.out], hb2⟩
        case measure => simp [intOf]; omega
      · have HF : Hid (kidD ks (j + 1) = q) := hid (by rw [HK.out, up2, if_neg hd])
        clear HK
        go_wp2_with fail
        go_roundw
        case rel => exact ⟨j + 1, by omega, by go_num, by rw [HF.out], hb2⟩
        case measure => simp [intOf]; omega
    · obtain rfl : j = n3 := by omega
      obtain ⟨m0, m1, m2, m3, m4⟩ := (N0.later hb).cells
      generalize kidD ks j = s at *
      go_wp2_with fail
      go_loopw [3, 25] (fun d i wr' => ∃ j : Nat, j ≤ n4 ∧ i = .int .i64 j ∧ d = .int .u16 (bufD s bf j) ∧ Below wr.heap.size wr wr') (fun _ i _ => n4 - (intOf i).toNat)
      case atStart => exact ⟨0, Nat.zero_le _, rfl, rfl, Below.refl _ _⟩
      case round =>
        obtain ⟨j, hj, rfl, rfl, hb3⟩ := hrel
        have hbw3 := hbw.trans (hb3.mono (by have := hbw.size; omega))
        clear m0 m1 m2 m3 m4
        by_cases hlt : j < n4
        · have hlt' : j < bf.length := by rw [HN4.out]; exact hlt
          obtain ⟨b, off, rfl, h6⟩ := (q4.out.later (by rw [hk0]; exact hbw3)).at hlt'
          have HK := hid (bufD_at (s := s) hlt')
          obtain ⟨m, HS⟩ : ∃ s, Hid (bf[j] = s) := ⟨_, hid rfl⟩
          rw [HS.out] at HK h6
          obtain ⟨kd, ky, vl, bk, dp, ad⟩ := m
          obtain ⟨d0, d1, d2, d3, d4, d5⟩ := h6
          dsimp only at d0 d1 d2 d3 d4 d5 HK
          have hb4 := hb3.alloc hb3.size (.cells #[.int .u8 kd, .string ky, .string vl, .int .u32 bk, .int .u16 dp, .string ad] 42)
          have HKe := HK.out
          generalize bufD s bf j = q at *
          by_cases h3 : kd = 3
          · subst h3
            rw [if_pos rfl] at HKe
            by_cases hd : q < dp
            · have HF : Hid (bufD s bf (j + 1) = dp) := hid (by rw [HKe, up2, if_pos hd])
              clear HK HKe
              go_wp2_with fail
              go_roundw
              case rel => exact ⟨j + 1, by omega, by go_num, by rw [HF.out], hb4⟩
              case measure => simp [intOf]; omega
            · have HF : Hid (bufD s bf (j + 1) = q) := hid (by rw [HKe, up2, if_neg hd])
              clear HK HKe
              go_wp2_with fail
              go_roundw
              case rel => exact ⟨j + 1, by omega, by go_num, by rw [HF.out], hb4⟩
              case measure => simp [intOf]; omega
          · rw [if_neg h3] at HKe
            have HF := hid HKe
            have h3' : (kd == 3) = false := by simpa using h3
            clear HK HKe h3
            go_wp2_with fail
            go_roundw
            case rel => exact ⟨j + 1, by omega, by go_num, by rw [HF.out], hb4⟩
            case measure => simp [intOf]; omega
        · obtain rfl : j = n4 := by omega
          have hin := BI.out j (Nat.le_refl _)
          rw [← HM.out] at hin ⊢
          clear HM KI BI
          by_cases he : DM = 65535
          · subst he
            have HF : Hid (R = 65535) := hid (by rw [HR.out, if_pos rfl])
            clear HR
            go_wp2_with fail
            go_ret
            exact ⟨by rw [HF.out]; rfl, by first | exact hbw3 | (rw [hk0]; exact hbw3)⟩
          · have HF : Hid (R = DM + 1) := hid (by rw [HR.out, if_neg he])
            have he' : (DM == 65535) = false := by simpa using he
            have hw := wrap16 (z := DM + 1) (by omega)
            clear HR
            go_wp2_with fail
            go_ret
            exact ⟨by rw [HF.out]; rfl, by first | exact hbw3 | (rw [hk0]; exact hbw3)⟩
set_option maxRecDepth 100000 in
set_option maxHeartbeats 2000000 in
theorem deep15 (n : Nd) (p : Pl) (w : World) (hf : Small n) (h : Lies w n p) :
    Calls Tryz.prog 19 #[nv n p] w fun x w' => x = .returned (.int .u16 (deepI n)) ∧ Below w.heap.size w w' := by
  have hb0 : Below w.heap.size w (w.alloc (.cells #[.bool n.leaf, .slice p.a1 n.ps.length p.c1, .slice p.a2 n.pv.length p.c2, .slice p.a3 n.ks.length p.c3, .slice p.a4 n.bf.length p.c4] 46)) := below_box w _
  have N0 := NBox.new w (.bool n.leaf) (.slice p.a1 n.ps.length p.c1) (.slice p.a2 n.pv.length p.c2) (.slice p.a3 n.ks.length p.c3) (.slice p.a4 n.bf.length p.c4)
  have hD : deepI n = if n.leaf then 1 else if deepM n = 65535 then 65535 else deepM n + 1 := rfl
  have hM : deepM n = bufD (kidD n.ks n.ks.length) n.bf n.bf.length := rfl
  obtain ⟨⟨l1, l2, l3, l4⟩, _, _, _, db, de⟩ := hf
  have KI := hid (fun j => kidD_in de j)
  have BI := hid (bufD_in (kidD_in de n.ks.length (Nat.le_refl _)) db)
  have q3 := hid h.h3
  have q4 := hid h.h4
  have DE := hid de
  have DB := hid db
  clear h db de
  generalize deepI n = R at *
  generalize deepM n = DM at *
  obtain ⟨lf, ps, pv, ks, bf⟩ := n
  obtain ⟨a1, c1, a2, c2, a3, c3, a4, c4⟩ := p
  dsimp only [nv] at *
  generalize ps.length = n1 at *
  generalize pv.length = n2 at *
  generalize hn3 : ks.length = n3 at *
  generalize hn4 : bf.length = n4 at *
  have HN3 := hid hn3
  have HN4 := hid hn4
  clear hn3 hn4
  cases lf
  case true =>
    have HR : Hid (R = 1) := hid hD
    clear hD hM
    go_enter Tryz.func19, Tryz.ntmps19
    go_wp2_with fail
    go_ret
    exact ⟨by rw [HR.out]; rfl, hb0⟩
  case false =>
  have HR : Hid (R = if DM = 65535 then 65535 else DM + 1) := hid hD
  have HM := hid hM
  clear hD hM
  go_enter Tryz.func19, Tryz.ntmps19
  go_wp2_with fail
  generalize (w.alloc (.cells #[.bool false, .slice a1 n1 c1, .slice a2 n2 c2, .slice a3 n3 c3, .slice a4 n4 c4] 46)) = w0 at *
  generalize hk0 : w.heap.size = k0 at *
  go_loopw [3, 11] (fun d i wr => ∃ j : Nat, j ≤ n3 ∧ i = .int .i64 j ∧ d = .int .i64 (kidD ks j) ∧ Below w0.heap.size w0 wr) (fun _ i _ => n3 - (intOf i).toNat)
  case atStart => exact ⟨0, Nat.zero_le _, rfl, rfl, Below.refl _ _⟩
  case round =>
    obtain ⟨j, hj, rfl, rfl, hb⟩ := hrel
    have hbw : Below k0 w wr := hb0.trans (hb.mono (by have := hb0.size; omega))
    by_cases hlt : j < n3
    · have hlt' : j < ks.length := by rw [HN3.out]; exact hlt
      obtain ⟨b, off, rfl, h6⟩ := (q3.out.later (by rw [hk0]; exact hbw)).at hlt'
      have HK := hid (kidD_at hlt')
      obtain ⟨e, HS⟩ : ∃ s, Hid (ks[j] = s) := ⟨_, hid rfl⟩
      rw [HS.out] at HK h6
      obtain ⟨bk, dp, st, ad⟩ := e
      obtain ⟨d0, d1, d2, d3⟩ := h6
      dsimp only at d0 d1 d2 d3 HK
      have hdp := hid (DE.out _ (List.getElem_mem hlt'))
      rw [HS.out] at hdp
      have hdp' : 0 ≤ dp ∧ dp ≤ 65535 := hdp.out
      obtain ⟨hdl, hdu⟩ := hdp'
      have hqi := KI.out j (by omega)
      obtain ⟨hql, hqu⟩ := hqi
      obtain ⟨m0, m1, m2, m3, m4⟩ := (N0.later hb).cells
      generalize kidD ks j = q at *
      by_cases hd : q < dp
      · have HF : Hid (kidD ks (j + 1) = dp) := hid (by rw [HK.out, up2, if_pos hd])
        clear HK
        go_wp2_with fail
        go_roundw
        case rel => exact ⟨j + 1, by omega, by go_num, by rw [HF.out], hb⟩
        case measure => simp [intOf]; omega
      · have HF : Hid (kidD ks (j + 1) = q) := hid (by rw [HK.out, up2, if_neg hd])
        clear HK
        go_wp2_with fail
        go_roundw
        case rel => exact ⟨j + 1, by omega, by go_num, by rw [HF.out], hb⟩
        case measure => simp [intOf]; omega
    · obtain rfl : j = n3 := by omega
      obtain ⟨m0, m1, m2, m3, m4⟩ := (N0.later hb).cells
      generalize kidD ks j = s at *
      go_wp2_with fail
      go_loopw [3, 34] (fun d i wr' => ∃ j : Nat, j ≤ n4 ∧ i = .int .i64 j ∧ d = .int .i64 (bufD s bf j) ∧ Below wr.heap.size wr wr') (fun _ i _ => n4 - (intOf i).toNat)
      case atStart => exact ⟨0, Nat.zero_le _, rfl, rfl, Below.refl _ _⟩
      case round =>
        obtain ⟨j, hj, rfl, rfl, hb3⟩ := hrel
        have hbw3 := hbw.trans (hb3.mono (by have := hbw.size; omega))
        clear m0 m1 m2 m3 m4
        by_cases hlt : j < n4
        · have hlt' : j < bf.length := by rw [HN4.out]; exact hlt
          obtain ⟨b, off, rfl, h6⟩ := (q4.out.later (by rw [hk0]; exact hbw3)).at hlt'
          have HK := hid (bufD_at (s := s) hlt')
          obtain ⟨m, HS⟩ : ∃ s, Hid (bf[j] = s) := ⟨_, hid rfl⟩
          rw [HS.out] at HK h6
          obtain ⟨kd, ky, vl, bk, dp, ad⟩ := m
          obtain ⟨d0, d1, d2, d3, d4, d5⟩ := h6
          dsimp only at d0 d1 d2 d3 d4 d5 HK
          have hdp := hid (DB.out _ (List.getElem_mem hlt'))
          rw [HS.out] at hdp
          have hdp' : 0 ≤ dp ∧ dp ≤ 65535 := hdp.out
          obtain ⟨hdl, hdu⟩ := hdp'
          have hqi := BI.out j (by omega)
          obtain ⟨hql, hqu⟩ := hqi
          obtain ⟨m0, m1, m2, m3, m4⟩ := ((N0.later hb).later hb3).cells
          have HKe := HK.out
          generalize bufD s bf j = q at *
          by_cases h3 : kd = 3
          · subst h3
            rw [if_pos rfl] at HKe
            by_cases hd : q < dp
            · have HF : Hid (bufD s bf (j + 1) = dp) := hid (by rw [HKe, up2, if_pos hd])
              clear HK HKe
              go_wp2_with fail
              go_roundw
              case rel => exact ⟨j + 1, by omega, by go_num, by rw [HF.out], hb3⟩
              case measure => simp [intOf]; omega
            · have HF : Hid (bufD s bf (j + 1) = q) := hid (by rw [HKe, up2, if_neg hd])
              clear HK HKe
              go_wp2_with fail
              go_roundw
              case rel => exact ⟨j + 1, by omega, by go_num, by rw [HF.out], hb3⟩
              case measure => simp [intOf]; omega
          · rw [if_neg h3] at HKe
            have HF := hid HKe
            have h3' : (kd == 3) = false := by simpa using h3
            clear HK HKe h3
            go_wp2_with fail
            go_roundw
            case rel => exact ⟨j + 1, by omega, by go_num, by rw [HF.out], hb3⟩
            case measure => simp [intOf]; omega
        · obtain rfl : j = n4 := by omega
          have hin := BI.out j (Nat.le_refl _)
          rw [← HM.out] at hin ⊢
          clear HM KI BI
          obtain ⟨hil, hiu⟩ := hin
          by_cases he : DM = 65535
          · subst he
            have HF : Hid (R = 65535) := hid (by rw [HR.out, if_pos rfl])
            clear HR
            go_wp2_with fail
            go_ret
            exact ⟨by rw [HF.out]; rfl, by first | exact hbw3 | (rw [hk0]; exact hbw3)⟩
          · have HF : Hid (R = DM + 1) := hid (by rw [HR.out, if_neg he])
            have he' : ¬ 65535 ≤ DM := by omega
            have hw := wrap16 (z := DM + 1) (by omega)
            clear HR
            go_wp2_with fail
            go_ret
            exact ⟨by rw [HF.out]; rfl, by first | exact hbw3 | (rw [hk0]; exact hbw3)⟩
end Go.Proofs.YtegmpfmhlpdmhaaGreat.Key
