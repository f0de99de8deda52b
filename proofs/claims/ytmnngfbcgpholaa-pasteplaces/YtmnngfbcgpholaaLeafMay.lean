/-
  Contract of leafMay.
-/
import Derived.Test.YtmnngfbcgpholaaPiv
namespace Go.Proofs.Ytmnngfbcgpholaa.Key
open Go.RowKit
open Go.Op (bytesLess)


set_option maxRecDepth 100000 in
set_option maxHeartbeats 2000000 in
theorem leaf34 (n : Nd) (p : Pl) (w : World) (hl : n.ps.length ≤ 1000) (h : Lies w n p) :
    Calls Try.prog 31 #[nv n p] w fun x w' => x = .returned (.bool (leafB n)) ∧ Below w.heap.size w w' := by
  obtain ⟨lf, ps, pv, ks, bf⟩ := n
  obtain ⟨a1, c1, a2, c2, a3, c3, a4, c4⟩ := p
  obtain ⟨h1, _, _, _⟩ := h
  dsimp only at h1 hl ⊢
  by_cases e2 : pv = []
  case neg =>
    have hr : leafB ⟨lf, ps, pv, ks, bf⟩ = false := by simp [leafB, e2]
    have t2 := pos_len e2
    rw [hr]
    clear hr
    dsimp only [nv]
    generalize ps.length = n1 at *
    generalize pv.length = n2 at *
    generalize ks.length = n3 at *
    generalize bf.length = n4 at *
    try subst t2
    try subst t3
    go_enter Try.func31, Try.ntmps31
    go_wp2_with fail
    go_ret
    exact ⟨rfl, below_box _ _⟩
  case pos =>
  have t2 := nil_len e2
  by_cases e3 : ks = []
  case neg =>
    have hr : leafB ⟨lf, ps, pv, ks, bf⟩ = false := by simp [leafB, e3]
    have t3 := pos_len e3
    rw [hr]
    clear hr
    dsimp only [nv]
    generalize ps.length = n1 at *
    generalize pv.length = n2 at *
    generalize ks.length = n3 at *
    generalize bf.length = n4 at *
    try subst t2
    try subst t3
    go_enter Try.func31, Try.ntmps31
    go_wp2_with fail
    go_ret
    exact ⟨rfl, below_box _ _⟩
  case pos =>
  have t3 := nil_len e3
  by_cases e4 : bf = []
  case neg =>
    have hr : leafB ⟨lf, ps, pv, ks, bf⟩ = false := by simp [leafB, e4]
    have t4 := pos_len e4
    rw [hr]
    clear hr
    dsimp only [nv]
    generalize ps.length = n1 at *
    generalize pv.length = n2 at *
    generalize ks.length = n3 at *
    generalize bf.length = n4 at *
    try subst t2
    try subst t3
    go_enter Try.func31, Try.ntmps31
    go_wp2_with fail
    go_ret
    exact ⟨rfl, below_box _ _⟩
  case pos =>
  have t4 := nil_len e4
  have hr : leafB ⟨lf, ps, pv, ks, bf⟩ = upTo (fun i => okAt ps i && riseAt ps i) ps.length := by simp [leafB, e2, e3, e4]
  rw [hr]
  clear hr e2 e3 e4
  generalize hA : upTo (fun i => okAt ps i && riseAt ps i) ps.length = A
  have HA := hid hA
  clear hA
  dsimp only [nv]
  rw [t2, t3, t4]
  clear t2 t3 t4
  generalize hn : ps.length = n at *
  have HN := hid hn
  clear hn
  have N0 := NBox.new w (.bool lf) (.slice a1 n c1) (.slice a2 0 c2) (.slice a3 0 c3) (.slice a4 0 c4)
  have hb0 : Below w.heap.size w (w.alloc (.cells #[.bool lf, .slice a1 n c1, .slice a2 0 c2, .slice a3 0 c3, .slice a4 0 c4] 27)) := below_box w _
  have h1' := h1.later hb0
  clear h1
  go_enter Try.func31, Try.ntmps31
  go_wp2_with fail
  generalize (w.alloc (.cells #[.bool lf, .slice a1 n c1, .slice a2 0 c2, .slice a3 0 c3, .slice a4 0 c4] 27)) = w0 at *
  generalize hk0 : w.heap.size = k0 at *
  go_loopw [24] (fun i wr => ∃ j : Nat, j ≤ n ∧ i = .int .i64 j ∧ Hid (upTo (fun i => okAt ps i && riseAt ps i) j = true) ∧ Below w0.heap.size w0 wr) (fun i _ => n - (intOf i).toNat)
  case atStart => exact ⟨0, Nat.zero_le _, rfl, hid rfl, Below.refl _ _⟩
  case round =>
    obtain ⟨j, hj, rfl, hjn, hb⟩ := hrel
    have hbw : Below k0 w wr := hb0.trans (hb.mono (by have := hb0.size; omega))
    by_cases hlt : j < n
    · have hlt' : j < ps.length := by rw [HN.out]; exact hlt
      have N1 := N0.later hb
      have hk1 := N1.lt
      obtain ⟨m0, m1, m2, m3, m4⟩ := N1.cells
      have HO := hid (okAt_at hlt')
      obtain ⟨x, HS⟩ : ∃ s, Hid (ps[j] = s) := ⟨_, hid rfl⟩
      rw [HS.out] at HO
      have hb1 : Below k0 w (wr.alloc (.cells #[.string x.key, .string x.val] 66)) := hbw.alloc (by omega) _
      cases k1 : decide (x.key.size ≤ 16)
      case false =>
        obtain ⟨b, off, rfl, h2⟩ := (h1'.later hb).at hlt'
        rw [HS.out] at h2
        have HF : Hid ((okAt ps j && riseAt ps j) = false) := hid (by rw [HO.out, okP, k1]; rfl)
        obtain ⟨xk, xv⟩ := x
        obtain ⟨c0, c1⟩ := h2
        dsimp only at c0 c1 k1 hb1
        have k1' := gt16 k1
        clear HO k1
        go_wp2_with fail
        go_ret
        exact ⟨ret_bool (no_out HA hlt HF.out), by rw [hk0]; exact hb1⟩
      case true =>
      cases k2 : decide (x.val.size ≤ 32)
      case false =>
        obtain ⟨b, off, rfl, h2⟩ := (h1'.later hb).at hlt'
        rw [HS.out] at h2
        have HF : Hid ((okAt ps j && riseAt ps j) = false) := hid (by rw [HO.out, okP, k1, k2]; rfl)
        obtain ⟨xk, xv⟩ := x
        obtain ⟨c0, c1⟩ := h2
        dsimp only at c0 c1 k1 k2 hb1
        have k1' := le16 k1
        have k2' := gt32 k2
        clear HO k1 k2
        go_wp2_with fail
        go_ret
        exact ⟨ret_bool (no_out HA hlt HF.out), by rw [hk0]; exact hb1⟩
      case true =>
      have HO' : Hid (okAt ps j = true) := hid (by rw [HO.out, okP, k1, k2]; rfl)
      have k1' := le16 k1
      have k2' := le32 k2
      clear HO k1 k2
      cases j with
      | zero =>
        obtain ⟨b, off, rfl, h2⟩ := (h1'.later hb).at hlt'
        rw [HS.out] at h2
        obtain ⟨xk, xv⟩ := x
        obtain ⟨c0, c1⟩ := h2
        dsimp only at c0 c1 k1' k2' hb1
        simp only [Nat.zero_mul, Nat.add_zero] at c0 c1
        rw [show ((0 : Nat) : Int) = 0 from rfl]
        have HF : Hid ((okAt ps 0 && riseAt ps 0) = true) := hid (by rw [HO'.out]; rfl)
        clear HO'
        have hb2 := hb.alloc hb.size (.cells #[.string xk, .string xv] 66)
        go_wp2_with fail
        go_quiet (fail)
        go_wp2_with fail
        go_roundw
        case rel => exact ⟨1, by omega, by go_num, one_on hjn HF.out, ⟨hb2.os, hb2.tape, hb2.output, hb2.size, hb2.block⟩⟩
        case measure => simp [intOf]; omega
      | succ i =>
        obtain ⟨b, off, rfl, h2', h2⟩ := (h1'.later hb).at2 (by omega : i < ps.length) hlt'
        have HP := hid (riseAt_at hlt')
        obtain ⟨y, HT⟩ : ∃ s, Hid ((ps[i]'(by omega)) = s) := ⟨_, hid rfl⟩
        rw [HS.out] at h2 HP
        rw [HT.out] at h2' HP
        have hbk := h2.lt
        obtain ⟨xk, xv⟩ := x
        obtain ⟨yk, yv⟩ := y
        obtain ⟨c0, c1⟩ := h2
        obtain ⟨d0, d1⟩ := h2'
        dsimp only at c0 c1 d0 d1 k1' k2' hb1 HP
        have hle := le_str xk yk
        have hb2 := hb.alloc hb.size (.cells #[.string xk, .string xv] 66)
        rw [show ((i + 1 : Nat) : Int) = (i : Int) + 1 from rfl]
        have hlti : ((i : Int) + 1) < (n : Int) := by omega
        cases q1 : bytesLess xk.toList yk.toList
        · cases q2 : (xk.toList == yk.toList)
          · rw [q1, q2] at hle
            have HF : Hid ((okAt ps (i + 1) && riseAt ps (i + 1)) = true) := hid (by rw [HO'.out, HP.out]; simpa using hle)
            clear hle HP HO'
            go_wp2_with fail
            go_quiet (fail)
            go_wp2_with fail
            go_roundw
            case rel => exact ⟨i + 1 + 1, by omega, by go_num, one_on hjn HF.out, ⟨hb2.os, hb2.tape, hb2.output, hb2.size, hb2.block⟩⟩
            case measure => simp [intOf]; omega
          · rw [q1, q2] at hle
            have HF : Hid ((okAt ps (i + 1) && riseAt ps (i + 1)) = false) := hid (by rw [HO'.out, HP.out]; simpa using hle)
            clear hle HP HO'
            go_wp2_with fail
            go_quiet (fail)
            go_wp2_with fail
            go_ret
            exact ⟨ret_bool (no_out HA hlt HF.out), by rw [hk0]; exact ⟨hb1.os, hb1.tape, hb1.output, hb1.size, hb1.block⟩⟩
        · rw [q1] at hle
          have HF : Hid ((okAt ps (i + 1) && riseAt ps (i + 1)) = false) := hid (by rw [HO'.out, HP.out]; simpa using hle)
          clear hle HP HO'
          go_wp2_with fail
          go_quiet (fail)
          go_wp2_with fail
          go_ret
          exact ⟨ret_bool (no_out HA hlt HF.out), by rw [hk0]; exact ⟨hb1.os, hb1.tape, hb1.output, hb1.size, hb1.block⟩⟩
    · obtain rfl : j = n := by omega
      go_wp2_with fail
      go_ret
      exact ⟨ret_bool (yes_out HA hjn.out), by rw [hk0]; exact hbw⟩
end Go.Proofs.Ytmnngfbcgpholaa.Key
