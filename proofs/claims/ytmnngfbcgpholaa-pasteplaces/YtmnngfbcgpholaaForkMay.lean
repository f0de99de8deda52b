/-
  Contract of forkMay.
-/
import Derived.Test.YtmnngfbcgpholaaPiv
import Derived.Test.YtmnngfbcgpholaaMay
namespace Go.Proofs.Ytmnngfbcgpholaa.Key
open Go.RowKit
open Go.Op (bytesLess)

def msgAt (bf : List M) (i : Nat) : Bool := mayB (bf.getD i M.nil)
theorem msgAt_at {bf : List M} {i : Nat} (h : i < bf.length) : msgAt bf i = mayB bf[i] := by rw [msgAt, getD_at h]
def forkB (n : Nd) : Bool := n.ps.isEmpty && ((n.pv.length + 1 == n.ks.length) && (upTo (pivAt n.pv) n.pv.length && (upTo (edgeAt n.ks) n.ks.length && upTo (msgAt n.bf) n.bf.length)))
theorem no_outA {p : Nat → Bool} {n j : Nat} {A B : Bool} (HA : Hid ((upTo p n && B) = A)) (h : j < n) (hp : p j = false) : false = A := by rw [← HA.out, upTo_no h hp]; rfl

set_option maxRecDepth 100000 in
set_option maxHeartbeats 2000000 in
theorem fork35 (n : Nd) (p : Pl) (w : World) (hl2 : n.pv.length ≤ 1000) (hl3 : n.ks.length ≤ 1000) (hl4 : n.bf.length ≤ 1000) (h : Lies w n p) :
    Calls Try.prog 32 #[nv n p] w fun x w' => x = .returned (.bool (forkB n)) ∧ Below w.heap.size w w' := by
  obtain ⟨lf, ps, pv, ks, bf⟩ := n
  obtain ⟨a1, c1, a2, c2, a3, c3, a4, c4⟩ := p
  obtain ⟨_, h2, h3, h4⟩ := h
  dsimp only at h2 h3 h4 hl2 hl3 hl4 ⊢
  by_cases e1 : ps = []
  case neg =>
    have hr : forkB ⟨lf, ps, pv, ks, bf⟩ = false := by simp [forkB, e1]
    have t1 := pos_len e1
    rw [hr]
    clear hr
    dsimp only [nv]
    generalize ps.length = n1 at *
    generalize pv.length = n2 at *
    generalize ks.length = n3 at *
    generalize bf.length = n4 at *
    try subst t1
    go_enter Try.func32, Try.ntmps32
    go_wp2_with fail
    go_ret
    exact ⟨rfl, below_box _ _⟩
  case pos =>
  have t1 := nil_len e1
  by_cases e2 : pv.length + 1 = ks.length
  case neg =>
    have hr : forkB ⟨lf, ps, pv, ks, bf⟩ = false := by simp [forkB, e2]
    have t2 : ¬ (pv.length : Int) = (ks.length : Int) - 1 := by omega
    rw [hr]
    clear hr
    dsimp only [nv]
    generalize ps.length = n1 at *
    generalize pv.length = n2 at *
    generalize ks.length = n3 at *
    generalize bf.length = n4 at *
    try subst t1
    go_enter Try.func32, Try.ntmps32
    go_wp2_with fail
    go_ret
    exact ⟨rfl, below_box _ _⟩
  case pos =>
  have t2 : (pv.length : Int) = (ks.length : Int) - 1 := by omega
  dsimp only [nv]
  rw [t1]
  clear t1
  have hb0 : Below w.heap.size w (w.alloc (.cells #[.bool lf, .slice a1 0 c1, .slice a2 pv.length c2, .slice a3 ks.length c3, .slice a4 bf.length c4] 27)) := below_box w _
  have HP := hid (pivots44 a2 c2 pv _ (by unfold maxLen; omega) (h2.later hb0))
  cases e3 : upTo (pivAt pv) pv.length
  case false =>
    have hr : forkB ⟨lf, ps, pv, ks, bf⟩ = false := by simp [forkB, e3]
    rw [e3] at HP
    rw [hr]
    clear hr
    generalize pv.length = n2 at *
    generalize ks.length = n3 at *
    generalize bf.length = n4 at *
    go_enter Try.func32, Try.ntmps32
    go_wp2_with fail
    refine HP.out.mono ?_
    rintro x w1 ⟨rfl, rfl⟩
    go_wp2_with fail
    go_ret
    exact ⟨rfl, below_box _ _⟩
  case true =>
  rw [e3] at HP
  have hr : forkB ⟨lf, ps, pv, ks, bf⟩ = (upTo (edgeAt ks) ks.length && upTo (msgAt bf) bf.length) := by simp [forkB, e1, e2, e3]
  rw [hr]
  clear hr e1 e2 e3
  generalize hA : (upTo (edgeAt ks) ks.length && upTo (msgAt bf) bf.length) = A
  have HA := hid hA
  clear hA
  have N0 := NBox.new w (.bool lf) (.slice a1 0 c1) (.slice a2 pv.length c2) (.slice a3 ks.length c3) (.slice a4 bf.length c4)
  have h3' := h3.later hb0
  have h4' := h4.later hb0
  clear h3 h4 h2
  generalize pv.length = n2 at *
  generalize hn3 : ks.length = n3 at *
  generalize hn4 : bf.length = n4 at *
  have HN3 := hid hn3
  have HN4 := hid hn4
  clear hn3 hn4
  go_enter Try.func32, Try.ntmps32
  go_wp2_with fail
  refine HP.out.mono ?_
  rintro x w1 ⟨rfl, rfl⟩
  clear HP
  generalize (w.alloc (.cells #[.bool lf, .slice a1 0 c1, .slice a2 n2 c2, .slice a3 n3 c3, .slice a4 n4 c4] 27)) = w0 at *
  obtain ⟨m0, m1, m2, m3, m4⟩ := N0.cells
  generalize hk0 : w.heap.size = k0 at *
  go_wp2_with fail
  go_loopw [30] (fun i wr => ∃ j : Nat, j ≤ n3 ∧ i = .int .i64 j ∧ Hid (upTo (edgeAt ks) j = true) ∧ Below w0.heap.size w0 wr) (fun i _ => n3 - (intOf i).toNat)
  case atStart => exact ⟨0, Nat.zero_le _, rfl, hid rfl, Below.refl _ _⟩
  case round =>
    obtain ⟨j, hj, rfl, hjn, hb⟩ := hrel
    have hbw : Below k0 w wr := hb0.trans (hb.mono (by have := hb0.size; omega))
    by_cases hlt : j < n3
    · have hlt' : j < ks.length := by rw [HN3.out]; exact hlt
      clear m0 m1 m2 m3 m4
      obtain ⟨b, off, rfl, h6⟩ := (h3'.later hb).at hlt'
      have HO := hid (edgeAt_at hlt')
      obtain ⟨e, HS⟩ : ∃ s, Hid (ks[j] = s) := ⟨_, hid rfl⟩
      rw [HS.out] at HO h6
      obtain ⟨bk, dp, st, ad⟩ := e
      obtain ⟨d0, d1, d2, d3⟩ := h6
      dsimp only at d0 d1 d2 d3
      have hb1 : Below k0 w (wr.alloc (.cells #[.int .u32 bk, .int .u16 dp, .string st, .string ad] 46)) := hbw.alloc (by have := hbw.size; have := hb0.size; omega) _
      have hb2 := hb.alloc hb.size (.cells #[.int .u32 bk, .int .u16 dp, .string st, .string ad] 46)
      by_cases k0' : 1 ≤ dp
      case neg =>
        have HF : Hid (edgeAt ks j = false) := hid (by rw [HO.out]; simp [okE]; omega)
        have k0'' : decide (dp < 1) = true := by simp; omega
        clear HO k0'
        go_wp2_with fail
        go_ret
        exact ⟨ret_bool (no_outA HA hlt HF.out), by rw [hk0]; exact hb1⟩
      case pos =>
      have k0'' : decide (dp < 1) = false := by simp; omega
      cases k1 : decide (st.size ≤ 16)
      case false =>
        have HF : Hid (edgeAt ks j = false) := hid (by rw [HO.out, okE, k1]; simp)
        have k1' := gt16 k1
        clear HO k1
        go_wp2_with fail
        go_ret
        exact ⟨ret_bool (no_outA HA hlt HF.out), by rw [hk0]; exact hb1⟩
      case true =>
      have k1' := le16 k1
      cases k2 : decide (ad.size ≤ 16)
      case false =>
        have HF : Hid (edgeAt ks j = false) := hid (by rw [HO.out, okE, k2]; simp)
        have k2' := gt16 k2
        clear HO k1 k2
        go_wp2_with fail
        go_ret
        exact ⟨ret_bool (no_outA HA hlt HF.out), by rw [hk0]; exact hb1⟩
      case true =>
        have HF : Hid (edgeAt ks j = true) := hid (by rw [HO.out, okE, k1, k2]; simpa using k0')
        have k2' := le16 k2
        clear HO k1 k2 k0'
        go_wp2_with fail
        go_roundw
        case rel => exact ⟨j + 1, by omega, by go_num, one_on hjn HF.out, hb2⟩
        case measure => simp [intOf]; omega
    · obtain rfl : j = n3 := by omega
      have HA' : Hid (upTo (msgAt bf) n4 = A) := hid (by have := HA.out; rw [hjn.out, Bool.true_and] at this; exact this)
      clear m0 m1 m2 m3 m4
      obtain ⟨m0, m1, m2, m3, m4⟩ := (N0.later hb).cells
      go_wp2_with fail
      go_loopw [55] (fun i wr' => ∃ j : Nat, j ≤ n4 ∧ i = .int .i64 j ∧ Hid (upTo (msgAt bf) j = true) ∧ Below wr.heap.size wr wr') (fun i _ => n4 - (intOf i).toNat)
      case atStart => exact ⟨0, Nat.zero_le _, rfl, hid rfl, Below.refl _ _⟩
      case round =>
        obtain ⟨j, hj, rfl, hjn4, hb4⟩ := hrel
        have hbw4 := hbw.trans (hb4.mono (by have := hbw.size; have := hb0.size; omega))
        by_cases hlt : j < n4
        · have hlt' : j < bf.length := by rw [HN4.out]; exact hlt
          clear m0 m1 m2 m3 m4
          obtain ⟨b, off, rfl, h6⟩ := ((h4'.later hb).later hb4).at hlt'
          have HO := hid (msgAt_at hlt')
          obtain ⟨m, HS⟩ : ∃ s, Hid (bf[j] = s) := ⟨_, hid rfl⟩
          rw [HS.out] at HO h6
          have HM := may45 m
          obtain ⟨t, HT⟩ : ∃ t, Hid (mayB m = t) := ⟨_, hid rfl⟩
          rw [HT.out] at HO HM
          obtain ⟨kd, ky, vl, bk, dp, ad⟩ := m
          obtain ⟨d0, d1, d2, d3, d4, d5⟩ := h6
          dsimp only at d0 d1 d2 d3 d4 d5
          have hb5 := hb4.alloc hb4.size (.cells #[.int .u8 kd, .string ky, .string vl, .int .u32 bk, .int .u16 dp, .string ad] 48)
          go_wp2_with fail
          refine (HM _).mono ?_
          clear HM
          rintro x w2 ⟨rfl, hb6⟩
          have hb7 := hb5.trans (hb6.mono hb5.size)
          have hb8 := hbw.trans (hb7.mono (by have := hbw.size; have := hb0.size; omega))
          clear d0 d1 d2 d3 d4 d5
          cases t
          · go_wp2_with fail
            go_ret
            exact ⟨ret_bool (no_out HA' hlt HO.out), by rw [hk0]; exact hb8⟩
          · go_wp2_with fail
            go_roundw
            case rel => exact ⟨j + 1, by omega, by go_num, one_on hjn4 HO.out, hb7⟩
            case measure => simp [intOf]; omega
        · obtain rfl : j = n4 := by omega
          go_wp2_with fail
          go_ret
          exact ⟨ret_bool (yes_out HA' hjn4.out), by rw [hk0]; exact hbw4⟩
end Go.Proofs.Ytmnngfbcgpholaa.Key
