/-
  Contract of May, the document's.
  Contract of May (of a node), the document's.
  Contract of May (of a node), the document's: all nodes.
-/
import Derived.Test.YtegmpfmhlpdmhaaGreatKm
import Derived.Test.YtegmpfmhlpdmhaaGreatMayN
namespace Go.Proofs.YtegmpfmhlpdmhaaGreat.Key
open Go.RowKit Draw
open Go.Op (bytesLess)

set_option maxRecDepth 100000 in
set_option maxHeartbeats 1000000 in
theorem may37 (m : M) (w : World) (hd : 0 ≤ m.deep) : Calls Tryz.prog 46 #[mv m] w fun x w' => x = .returned (.bool (mayB m)) ∧ Below w.heap.size w w' := by
  have hb : Below w.heap.size w (w.alloc (.cells #[.int .u8 m.kind, .string m.key, .string m.val, .int .u32 m.blk, .int .u16 m.deep, .string m.add] 42)) := below_box _ _
  obtain ⟨kd, ky, vl, bk, dp, ad⟩ := m
  dsimp only at hb hd
  by_cases k1 : 16 < ky.size
  · have hr : mayB ⟨kd, ky, vl, bk, dp, ad⟩ = false := by simp [mayB]; omega
    have k1' : decide ((16 : Int) < (ky.size : Int)) = true := by simp; omega
    clear k1
    rw [hr]
    clear hr
    go_enter Tryz.func46, Tryz.ntmps46
    go_wp2_with fail
    go_ret
    exact ⟨rfl, hb⟩
  have k1' : decide ((16 : Int) < (ky.size : Int)) = false := by simp; omega
  by_cases k2 : 32 < vl.size
  · have hr : mayB ⟨kd, ky, vl, bk, dp, ad⟩ = false := by simp [mayB]; omega
    have k2' : decide ((32 : Int) < (vl.size : Int)) = true := by simp; omega
    clear k1 k2
    rw [hr]
    clear hr
    go_enter Tryz.func46, Tryz.ntmps46
    go_wp2_with fail
    go_ret
    exact ⟨rfl, hb⟩
  have k2' : decide ((32 : Int) < (vl.size : Int)) = false := by simp; omega
  by_cases k3 : 16 < ad.size
  · have hr : mayB ⟨kd, ky, vl, bk, dp, ad⟩ = false := by simp [mayB]; omega
    have k3' : decide ((16 : Int) < (ad.size : Int)) = true := by simp; omega
    clear k1 k2 k3
    rw [hr]
    clear hr
    go_enter Tryz.func46, Tryz.ntmps46
    go_wp2_with fail
    go_ret
    exact ⟨rfl, hb⟩
  have k3' : decide ((16 : Int) < (ad.size : Int)) = false := by simp; omega
  have K1 : ky.size ≤ 16 := by omega
  have K2 : vl.size ≤ 32 := by omega
  have K3 : ad.size ≤ 16 := by omega
  clear k1 k2 k3
  have EA := empty_or ad
  have EV := empty_or vl
  by_cases h1 : kd = 1
  · subst h1
    by_cases q3 : bk = 0
    · by_cases q4 : dp = 0
      · rcases EA with rfl | ⟨q5, q6, q7⟩
        · have hr : mayB ⟨1, ky, vl, bk, dp, ⟨#[]⟩⟩ = true := by simp [mayB, q3, q4, K1, K2, show (⟨#[]⟩ : ByteArray).size = 0 from rfl]
          subst q3 q4
          clear K1 K2 K3
          rw [hr]
          clear hr
          go_enter Tryz.func46, Tryz.ntmps46
          go_wp2_with fail
          go_ret
          exact ⟨rfl, hb⟩
        · have hr : mayB ⟨1, ky, vl, bk, dp, ad⟩ = false := by simp [mayB, q6]
          subst q3 q4
          clear K1 K2 K3
          rw [hr]
          clear hr
          go_enter Tryz.func46, Tryz.ntmps46
          go_wp2_with fail
          go_ret
          exact ⟨rfl, hb⟩
      · have hr : mayB ⟨1, ky, vl, bk, dp, ad⟩ = false := by simp [mayB, q4]
        have q4' : (dp == 0) = false := by simp; omega
        subst q3
        clear K1 K2 K3
        rw [hr]
        clear hr
        go_enter Tryz.func46, Tryz.ntmps46
        go_wp2_with fail
        go_ret
        exact ⟨rfl, hb⟩
    · have hr : mayB ⟨1, ky, vl, bk, dp, ad⟩ = false := by simp [mayB, q3]
      have q3' : (bk == 0) = false := by simp; omega
      clear K1 K2 K3
      rw [hr]
      clear hr
      go_enter Tryz.func46, Tryz.ntmps46
      go_wp2_with fail
      go_ret
      exact ⟨rfl, hb⟩
  have h1' : (kd == 1) = false := by simp; omega
  by_cases h2 : kd = 2
  · subst h2
    rcases EV with rfl | ⟨q1, q2, q8⟩
    · by_cases q3 : bk = 0
      · by_cases q4 : dp = 0
        · rcases EA with rfl | ⟨q5, q6, q7⟩
          · have hr : mayB ⟨2, ky, ⟨#[]⟩, bk, dp, ⟨#[]⟩⟩ = true := by simp [mayB, q3, q4, K1, show (⟨#[]⟩ : ByteArray).size = 0 from rfl]
            subst q3 q4
            clear K1 K2 K3
            rw [hr]
            clear hr
            go_enter Tryz.func46, Tryz.ntmps46
            go_wp2_with fail
            go_ret
            exact ⟨rfl, hb⟩
          · have hr : mayB ⟨2, ky, ⟨#[]⟩, bk, dp, ad⟩ = false := by simp [mayB, q6]
            subst q3 q4
            clear K1 K2 K3
            rw [hr]
            clear hr
            go_enter Tryz.func46, Tryz.ntmps46
            go_wp2_with fail
            go_ret
            exact ⟨rfl, hb⟩
        · have hr : mayB ⟨2, ky, ⟨#[]⟩, bk, dp, ad⟩ = false := by simp [mayB, q4]
          have q4' : (dp == 0) = false := by simp; omega
          subst q3
          clear K1 K2 K3
          rw [hr]
          clear hr
          go_enter Tryz.func46, Tryz.ntmps46
          go_wp2_with fail
          go_ret
          exact ⟨rfl, hb⟩
      · have hr : mayB ⟨2, ky, ⟨#[]⟩, bk, dp, ad⟩ = false := by simp [mayB, q3]
        have q3' : (bk == 0) = false := by simp; omega
        clear K1 K2 K3
        rw [hr]
        clear hr
        go_enter Tryz.func46, Tryz.ntmps46
        go_wp2_with fail
        go_ret
        exact ⟨rfl, hb⟩
    · have hr : mayB ⟨2, ky, vl, bk, dp, ad⟩ = false := by simp [mayB, q2]
      clear K1 K2 K3
      rw [hr]
      clear hr
      by_cases q3 : bk = 0
      · by_cases q4 : dp = 0
        · rcases EA with rfl | ⟨q5, q6, q7⟩
          all_goals
            subst q3 q4
            go_enter Tryz.func46, Tryz.ntmps46
            go_wp2_with fail
            go_ret
            exact ⟨rfl, hb⟩
        · have q4' : (dp == 0) = false := by simp; omega
          subst q3
          go_enter Tryz.func46, Tryz.ntmps46
          go_wp2_with fail
          go_ret
          exact ⟨rfl, hb⟩
      · have q3' : (bk == 0) = false := by simp; omega
        go_enter Tryz.func46, Tryz.ntmps46
        go_wp2_with fail
        go_ret
        exact ⟨rfl, hb⟩
  have h2' : (kd == 2) = false := by simp; omega
  by_cases h3 : kd = 3
  · subst h3
    clear h1 h2
    by_cases q4 : 1 ≤ dp
    · have q4' : decide (0 < dp) = true := by simp; omega
      rcases EV with rfl | ⟨q1, q2, q8⟩
      · have hr : mayB ⟨3, ky, ⟨#[]⟩, bk, dp, ad⟩ = true := by simp [mayB, q4, K1, K3, show (⟨#[]⟩ : ByteArray).size = 0 from rfl]
        rw [hr]
        clear hr K1 K2 K3
        by_cases q3 : bk = 0
        · rcases EA with rfl | ⟨q5, q6, q7⟩
          all_goals
            subst q3
            go_enter Tryz.func46, Tryz.ntmps46
            go_wp2_with fail
            all_goals (go_ret; exact ⟨rfl, hb⟩)
        · have q3' : (bk == 0) = false := by simp; omega
          go_enter Tryz.func46, Tryz.ntmps46
          go_wp2_with fail
          all_goals (go_ret; exact ⟨rfl, hb⟩)
      · have hr : mayB ⟨3, ky, vl, bk, dp, ad⟩ = false := by simp [mayB, q2]
        rw [hr]
        clear hr K1 K2 K3
        by_cases q3 : bk = 0
        · rcases EA with rfl | ⟨q5, q6, q7⟩
          all_goals
            subst q3
            go_enter Tryz.func46, Tryz.ntmps46
            go_wp2_with fail
            all_goals (go_ret; exact ⟨rfl, hb⟩)
        · have q3' : (bk == 0) = false := by simp; omega
          go_enter Tryz.func46, Tryz.ntmps46
          go_wp2_with fail
          all_goals (go_ret; exact ⟨rfl, hb⟩)
    · obtain rfl : dp = 0 := by omega
      have hr : mayB ⟨3, ky, vl, bk, 0, ad⟩ = false := by simp [mayB]
      rw [hr]
      clear hr K1 K2 K3
      by_cases q3 : bk = 0
      · rcases EA with rfl | ⟨q5, q6, q7⟩
        all_goals
          subst q3
          go_enter Tryz.func46, Tryz.ntmps46
          go_wp2_with fail
          all_goals (go_ret; exact ⟨rfl, hb⟩)
      · have q3' : (bk == 0) = false := by simp; omega
        go_enter Tryz.func46, Tryz.ntmps46
        go_wp2_with fail
        all_goals (go_ret; exact ⟨rfl, hb⟩)
  · have h3' : (kd == 3) = false := by simp; omega
    have hr : mayB ⟨kd, ky, vl, bk, dp, ad⟩ = false := by simp [mayB, h1, h2, h3]
    rw [hr]
    clear hr K1 K2 K3 h1 h2 h3
    by_cases q3 : bk = 0
    · by_cases q4 : dp = 0
      · rcases EA with rfl | ⟨q5, q6, q7⟩
        all_goals
          subst q3 q4
          go_enter Tryz.func46, Tryz.ntmps46
          go_wp2_with fail
          all_goals (go_ret; exact ⟨rfl, hb⟩)
      · have q4' : (dp == 0) = false := by simp; omega
        subst q3
        go_enter Tryz.func46, Tryz.ntmps46
        go_wp2_with fail
        all_goals (go_ret; exact ⟨rfl, hb⟩)
    · have q3' : (bk == 0) = false := by simp; omega
      go_enter Tryz.func46, Tryz.ntmps46
      go_wp2_with fail
      all_goals (go_ret; exact ⟨rfl, hb⟩)
end Go.Proofs.YtegmpfmhlpdmhaaGreat.Key

namespace Go.Proofs.YtegmpfmhlpdmhaaGreat.Key
open Go.RowKit
open Go.Op (bytesLess)

theorem ret_three {R : Int} {b : Bool} (h : R = ans b) (hb : b = false) : Ending.returned (.int .i64 3) = .returned (.int .i64 R) := by subst h; rw [hb]; rfl
theorem ret_zero {R : Int} {b : Bool} (h : R = ans b) (hb : b = true) : Ending.returned (.int .i64 0) = .returned (.int .i64 R) := by subst h; rw [hb]; rfl
theorem less_empty (s : ByteArray) (h : s.size ≠ 0) : bytesLess (⟨#[]⟩ : ByteArray).data.toList s.data.toList = true := by
  obtain ⟨⟨l⟩⟩ := s
  cases l with
  | nil => exact absurd rfl h
  | cons b l => rfl

set_option maxRecDepth 100000 in
set_option maxHeartbeats 2000000 in
/-- of a leaf -/
theorem may13_leaf (n : Nd) (p : Pl) (w : World) (hf : Few n) (h : Lies w n p) (hmany : manyB n = false) (hlf : n.leaf = true) :
    Calls Tryz.prog 26 #[nv n p] w fun x w' => x = .returned (.int .i64 (mayI n)) ∧ Below w.heap.size w w' := by
  have hb0 : Below w.heap.size w (w.alloc (.cells #[.bool n.leaf, .slice p.a1 n.ps.length p.c1, .slice p.a2 n.pv.length p.c2, .slice p.a3 n.ks.length p.c3, .slice p.a4 n.bf.length p.c4] 46)) := below_box w _
  have N0 := NBox.new w (.bool n.leaf) (.slice p.a1 n.ps.length p.c1) (.slice p.a2 n.pv.length p.c2) (.slice p.a3 n.ks.length p.c3) (.slice p.a4 n.bf.length p.c4)
  have hmay : mayI n = ans (leafB n) := by unfold mayI fineB; rw [hmany, hlf]; rfl
  have hleaf : leafB n = (n.pv.isEmpty && (n.ks.isEmpty && (n.bf.isEmpty && (upTo (okAt n.ps) n.ps.length && upTo (riseAt n.ps) n.ps.length)))) := by unfold leafB; rw [upTo_and]
  obtain ⟨l1, l2, l3, l4⟩ := hf
  have hm : (decide (16 < n.ps.length) || (decide (8 < n.ks.length) || decide (16 < n.bf.length))) = false := hmany
  rw [Bool.or_eq_false_iff, Bool.or_eq_false_iff] at hm
  obtain ⟨q1, q2, q3⟩ := hm
  have k1' := n16 q1
  have k2' := n8 q2
  have k3' := n16 q3
  have h1 := h.h1.later hb0
  have HRI := hid (rise36 p.a1 p.c1 n.ps _ (by unfold maxLen; omega) h1)
  clear h hmany q1 q2 q3
  generalize leafB n = LB at *
  generalize mayI n = R at *
  obtain ⟨lf, ps, pv, ks, bf⟩ := n
  obtain ⟨a1, c1, a2, c2, a3, c3, a4, c4⟩ := p
  dsimp only [nv] at *
  subst hlf
  have HMA := hid hmay
  clear hmay
  by_cases e2 : pv = []
  case neg =>
    have HLB : Hid (LB = false) := hid (by rw [hleaf]; simp [e2])
    have t2 := pos_len e2
    clear hleaf HRI
    generalize ps.length = n1 at *
    generalize pv.length = n2 at *
    generalize ks.length = n3 at *
    generalize bf.length = n4 at *
    go_enter Tryz.func26, Tryz.ntmps26
    go_wp2_with fail
    go_ret
    exact ⟨ret_three HMA.out HLB.out, hb0⟩
  case pos =>
  have t2 := nil_len e2
  by_cases e3 : ks = []
  case neg =>
    have HLB : Hid (LB = false) := hid (by rw [hleaf]; simp [e3])
    have t3 := pos_len e3
    clear hleaf HRI
    rw [t2] at hb0 ⊢
    generalize ps.length = n1 at *
    generalize ks.length = n3 at *
    generalize bf.length = n4 at *
    go_enter Tryz.func26, Tryz.ntmps26
    go_wp2_with fail
    go_ret
    exact ⟨ret_three HMA.out HLB.out, hb0⟩
  case pos =>
  have t3 := nil_len e3
  by_cases e4 : bf = []
  case neg =>
    have HLB : Hid (LB = false) := hid (by rw [hleaf]; simp [e4])
    have t4 := pos_len e4
    clear hleaf HRI
    rw [t2, t3] at hb0 ⊢
    generalize ps.length = n1 at *
    generalize bf.length = n4 at *
    go_enter Tryz.func26, Tryz.ntmps26
    go_wp2_with fail
    go_ret
    exact ⟨ret_three HMA.out HLB.out, hb0⟩
  case pos =>
  have t4 := nil_len e4
  have HLE : Hid (LB = (upTo (okAt ps) ps.length && upTo (riseAt ps) ps.length)) := hid (by rw [hleaf, e2, e3, e4]; rfl)
  rw [t2, t3, t4] at hb0 N0 HRI h1 ⊢
  clear hleaf e2 e3 e4 t2 t3 t4 k2' k3'
  cases e5 : upTo (riseAt ps) ps.length
  case false =>
    rw [e5] at HRI
    have HLB : Hid (LB = false) := hid (by rw [HLE.out, e5, Bool.and_false])
    clear HLE e5
    generalize ps.length = n1 at *
    go_enter Tryz.func26, Tryz.ntmps26
    go_wp2_with fail
    refine HRI.out.mono ?_
    rintro x w1 ⟨rfl, hb1⟩
    have hb2 := hb0.trans (hb1.mono hb0.size)
    clear HRI
    go_wp2_with fail
    go_ret
    exact ⟨ret_three HMA.out HLB.out, hb2⟩
  case true =>
  rw [e5] at HRI
  have HLB : Hid (upTo (okAt ps) ps.length = LB) := hid (by rw [HLE.out, e5, Bool.and_true])
  clear HLE e5
  generalize hn : ps.length = n1 at *
  have HN := hid hn
  clear hn
  go_enter Tryz.func26, Tryz.ntmps26
  go_wp2_with fail
  refine HRI.out.mono ?_
  rintro x w1 ⟨rfl, hb1⟩
  have hb2 := hb0.trans (hb1.mono hb0.size)
  obtain ⟨m0, m1, m2, m3, m4⟩ := (N0.later hb1).cells
  have h1' := h1.later hb1
  clear HRI N0 h1 hb1 hb0
  generalize hk0 : w.heap.size = k0 at *
  go_wp2_with fail
  go_loop [50] (fun i => ∃ j : Nat, j ≤ n1 ∧ i = .int .i64 j ∧ Hid (upTo (okAt ps) j = true)) (fun i => n1 - (intOf i).toNat)
  case atStart => exact ⟨0, Nat.zero_le _, rfl, hid rfl⟩
  case round =>
    obtain ⟨j, hj, rfl, hjn⟩ := hrel
    by_cases hlt : j < n1
    · have hlt' : j < ps.length := by rw [HN.out]; exact hlt
      obtain ⟨b, off, rfl, h6⟩ := h1'.at hlt'
      have HO := hid (okAt_at hlt')
      obtain ⟨x, HS⟩ : ∃ s, Hid (ps[j] = s) := ⟨_, hid rfl⟩
      rw [HS.out] at HO h6
      obtain ⟨xk, xv⟩ := x
      obtain ⟨d0, d1⟩ := h6
      dsimp only at d0 d1
      cases k1 : decide (xk.size ≤ 16)
      · have HF : Hid (okAt ps j = false) := hid (by rw [HO.out, okP, k1]; rfl)
        have k1' := gt16 k1
        clear HO k1
        go_wp2_with fail
        go_ret
        exact ⟨ret_three HMA.out (no_out HLB hlt HF.out).symm, by first | exact hb2 | (rw [hk0]; exact hb2)⟩
      cases k2 : decide (xv.size ≤ 32)
      · have HF : Hid (okAt ps j = false) := hid (by rw [HO.out, okP, k1, k2]; rfl)
        have k1' := le16 k1
        have k2' := gt32 k2
        clear HO k1 k2
        go_wp2_with fail
        go_ret
        exact ⟨ret_three HMA.out (no_out HLB hlt HF.out).symm, by first | exact hb2 | (rw [hk0]; exact hb2)⟩
      · have HF : Hid (okAt ps j = true) := hid (by rw [HO.out, okP, k1, k2]; rfl)
        have k1' := le16 k1
        have k2' := le32 k2
        clear HO k1 k2
        go_wp2_with fail
        go_round
        case rel => exact ⟨j + 1, by omega, by go_num, one_on hjn HF.out⟩
        case measure => simp [intOf]; omega
    · obtain rfl : j = n1 := by omega
      go_wp2_with fail
      go_ret
      exact ⟨ret_zero HMA.out (yes_out HLB hjn.out).symm, by first | exact hb2 | (rw [hk0]; exact hb2)⟩

set_option maxRecDepth 100000 in
set_option maxHeartbeats 4000000 in
/-- of a node with kids -/
theorem may13_fork (n : Nd) (p : Pl) (w : World) (hf : Few n) (h : Lies w n p) (hd : ∀ m ∈ n.bf, 0 ≤ m.deep) (hmany : manyB n = false) (hlf : n.leaf = false) :
    Calls Tryz.prog 26 #[nv n p] w fun x w' => x = .returned (.int .i64 (mayI n)) ∧ Below w.heap.size w w' := by
  have hb0 : Below w.heap.size w (w.alloc (.cells #[.bool n.leaf, .slice p.a1 n.ps.length p.c1, .slice p.a2 n.pv.length p.c2, .slice p.a3 n.ks.length p.c3, .slice p.a4 n.bf.length p.c4] 46)) := below_box w _
  have N0 := NBox.new w (.bool n.leaf) (.slice p.a1 n.ps.length p.c1) (.slice p.a2 n.pv.length p.c2) (.slice p.a3 n.ks.length p.c3) (.slice p.a4 n.bf.length p.c4)
  have hmay : mayI n = ans (forkB n) := by unfold mayI fineB; rw [hmany, hlf]; rfl
  have hfork : forkB n = (n.ps.isEmpty && ((n.pv.length + 1 == n.ks.length) && (upTo (pivAt n.pv) n.pv.length && (upTo (edgeAt n.ks) n.ks.length && upTo (msgAt n.bf) n.bf.length)))) := rfl
  obtain ⟨l1, l2, l3, l4⟩ := hf
  have hm : (decide (16 < n.ps.length) || (decide (8 < n.ks.length) || decide (16 < n.bf.length))) = false := hmany
  rw [Bool.or_eq_false_iff, Bool.or_eq_false_iff] at hm
  obtain ⟨q1, q2, q3⟩ := hm
  have k1' := n16 q1
  have k2' := n8 q2
  have k3' := n16 q3
  obtain ⟨_, h2, h3, h4⟩ := h.later hb0
  clear h hmany q1 q2 q3
  generalize forkB n = FB at *
  generalize mayI n = R at *
  obtain ⟨lf, ps, pv, ks, bf⟩ := n
  obtain ⟨a1, c1, a2, c2, a3, c3, a4, c4⟩ := p
  dsimp only [nv] at *
  subst hlf
  have HMA := hid hmay
  clear hmay
  by_cases e1 : ps = []
  case neg =>
    have HLB : Hid (FB = false) := hid (by rw [hfork]; simp [e1])
    have t1 := pos_len e1
    clear hfork
    generalize ps.length = n1 at *
    generalize pv.length = n2 at *
    generalize ks.length = n3 at *
    generalize bf.length = n4 at *
    go_enter Tryz.func26, Tryz.ntmps26
    go_wp2_with fail
    go_ret
    exact ⟨ret_three HMA.out HLB.out, hb0⟩
  case pos =>
  have t1 := nil_len e1
  rw [t1] at hb0 N0 h2 h3 h4 ⊢
  clear k1' t1 l1
  by_cases e2 : pv.length + 1 = ks.length
  case neg =>
    have HLB : Hid (FB = false) := hid (by rw [hfork]; simp [e2])
    have t2 : ¬ (pv.length : Int) + 1 = (ks.length : Int) := by omega
    clear hfork
    generalize pv.length = n2 at *
    generalize ks.length = n3 at *
    generalize bf.length = n4 at *
    by_cases e3 : n3 = 0
    · subst e3
      go_enter Tryz.func26, Tryz.ntmps26
      go_wp2_with fail
      go_ret
      exact ⟨ret_three HMA.out HLB.out, hb0⟩
    · have t3 : ¬ (n3 : Int) < 1 := by omega
      have t3' : ¬ n3 < 1 := by omega
      go_enter Tryz.func26, Tryz.ntmps26
      go_wp2_with fail
      go_ret
      exact ⟨ret_three HMA.out HLB.out, hb0⟩
  case pos =>
  have HLE : Hid (FB = (upTo (pivAt pv) pv.length && (upTo (edgeAt ks) ks.length && upTo (msgAt bf) bf.length))) := hid (by rw [hfork, e1, e2]; simp)
  have t2 : (pv.length : Int) + 1 = (ks.length : Int) := by omega
  have t3 : ¬ (ks.length : Int) < 1 := by omega
  have t3' : ¬ ks.length < 1 := by omega
  have t3'' : ¬ ks.length = 0 := by omega
  clear hfork e1 e2
  generalize hn2 : pv.length = n2 at *
  generalize hn3 : ks.length = n3 at *
  generalize hn4 : bf.length = n4 at *
  have HN2 := hid hn2
  have HN3 := hid hn3
  have HN4 := hid hn4
  clear hn2 hn3 hn4
  obtain ⟨m0, m1, m2, m3, m4⟩ := N0.cells
  go_enter Tryz.func26, Tryz.ntmps26
  go_wp2_with fail
  generalize (w.alloc (.cells #[.bool false, .slice a1 0 c1, .slice a2 n2 c2, .slice a3 n3 c3, .slice a4 n4 c4] 46)) = w0 at *
  generalize hk0 : w.heap.size = k0 at *
  clear t2 t3 t3' t3'' k2' k3'
  go_loop [95] (fun i => ∃ j : Nat, j ≤ n3 ∧ i = .int .i64 j ∧ Hid (upTo (edgeAt ks) j = true)) (fun i => n3 - (intOf i).toNat)
  case atStart => exact ⟨0, Nat.zero_le _, rfl, hid rfl⟩
  case round =>
    obtain ⟨j, hj, rfl, hjn⟩ := hrel
    by_cases hlt : j < n3
    · have hlt' : j < ks.length := by rw [HN3.out]; exact hlt
      obtain ⟨b, off, rfl, h6⟩ := h3.at hlt'
      have HO := hid (edgeAt_at hlt')
      obtain ⟨x, HS⟩ : ∃ s, Hid (ks[j] = s) := ⟨_, hid rfl⟩
      rw [HS.out] at HO h6
      obtain ⟨bk, dp, st, ad⟩ := x
      obtain ⟨d0, d1, d2, d3⟩ := h6
      dsimp only at d0 d1 d2 d3
      have hno : edgeAt ks j = false → FB = false := fun hh => by rw [HLE.out, upTo_no hlt hh, Bool.false_and, Bool.and_false]
      have HNO := hid hno
      clear hno
      by_cases q0 : 1 ≤ dp
      case neg =>
        have HF : Hid (edgeAt ks j = false) := hid (by rw [HO.out]; simp [okE]; omega)
        have q0' : decide (dp < 1) = true := by simp; omega
        clear HO q0
        go_wp2_with fail
        go_ret
        exact ⟨ret_three HMA.out (HNO.out HF.out), by first | exact hb0 | (rw [hk0]; exact hb0)⟩
      case pos =>
      have q0' : decide (dp < 1) = false := by simp; omega
      cases k1 : decide (st.size ≤ 16)
      case false =>
        have HF : Hid (edgeAt ks j = false) := hid (by rw [HO.out, okE, k1]; simp)
        have k1' := gt16 k1
        clear HO k1 q0
        go_wp2_with fail
        go_ret
        exact ⟨ret_three HMA.out (HNO.out HF.out), by first | exact hb0 | (rw [hk0]; exact hb0)⟩
      case true =>
      have k1' := le16 k1
      cases k2 : decide (ad.size ≤ 16)
      case false =>
        have HF : Hid (edgeAt ks j = false) := hid (by rw [HO.out, okE, k2]; simp)
        have k2' := gt16 k2
        clear HO k1 k2 q0
        go_wp2_with fail
        go_ret
        exact ⟨ret_three HMA.out (HNO.out HF.out), by first | exact hb0 | (rw [hk0]; exact hb0)⟩
      case true =>
        have HF : Hid (edgeAt ks j = true) := hid (by rw [HO.out, okE, k1, k2]; simpa using q0)
        have k2' := le16 k2
        clear HO k1 k2 q0
        go_wp2_with fail
        go_round
        case rel => exact ⟨j + 1, by omega, by go_num, one_on hjn HF.out⟩
        case measure => simp [intOf]; omega
    · obtain rfl : j = n3 := by omega
      have HLE2 : Hid (FB = (upTo (pivAt pv) n2 && upTo (msgAt bf) n4)) := hid (by rw [HLE.out, hjn.out, Bool.true_and])
      clear HLE hjn
      go_wp2_with fail
      go_loopw [131] (fun i wr => ∃ j : Nat, j ≤ n2 ∧ i = .int .i64 j ∧ Hid (upTo (pivAt pv) j = true) ∧ Below w0.heap.size w0 wr) (fun i _ => n2 - (intOf i).toNat)
      case atStart => exact ⟨0, Nat.zero_le _, rfl, hid rfl, Below.refl _ _⟩
      case round =>
        obtain ⟨j, hj, rfl, hjn, hb⟩ := hrel
        have hbw : Below k0 w wr := hb0.trans (hb.mono (by have := hb0.size; omega))
        clear m0 m1 m2 m3 m4
        obtain ⟨m0, m1, m2, m3, m4⟩ := (N0.later hb).cells
        by_cases hlt : j < n2
        · have hlt' : j < pv.length := by rw [HN2.out]; exact hlt
          have HP := hid (pivAt_at hlt')
          obtain ⟨s, HS⟩ : ∃ s, Hid (pv[j] = s) := ⟨_, hid rfl⟩
          rw [HS.out] at HP
          have hno : pivAt pv j = false → FB = false := fun hh => by rw [HLE2.out, upTo_no hlt hh, Bool.false_and]
          have HNO := hid hno
          clear hno
          rcases empty_or s with rfl | ⟨y1, y2, y3⟩
          · have HF : Hid (pivAt pv j = false) := hid (by rw [HP.out, show (⟨#[]⟩ : ByteArray).data.toList = [] from rfl, less_nil, Bool.false_and])
            obtain ⟨b, off, rfl, d0⟩ := (h2.later hb).at hlt'
            rw [HS.out] at d0
            clear HP
            go_wp2_with fail
            go_quiet (fail)
            go_wp2_with fail
            go_ret
            exact ⟨ret_three HMA.out (HNO.out HF.out), by rw [hk0]; exact ⟨hbw.os, hbw.tape, hbw.output, hbw.size, hbw.block⟩⟩
          cases k1 : decide (s.size ≤ 16)
          case false =>
            have HF : Hid (pivAt pv j = false) := hid (by rw [HP.out, k1, Bool.and_false])
            have k1' := gt16 k1
            obtain ⟨b, off, rfl, d0⟩ := (h2.later hb).at hlt'
            rw [HS.out] at d0
            clear HP k1
            go_wp2_with fail
            go_quiet (fail)
            go_wp2_with fail
            go_ret
            exact ⟨ret_three HMA.out (HNO.out HF.out), by rw [hk0]; exact ⟨hbw.os, hbw.tape, hbw.output, hbw.size, hbw.block⟩⟩
          case true =>
          have k1' := le16 k1
          cases j with
          | zero =>
            have HF : Hid (pivAt pv 0 = true) := hid (by rw [HP.out, k1, Bool.and_true]; exact less_empty s y2)
            obtain ⟨b, off, rfl, d0⟩ := (h2.later hb).at hlt'
            rw [HS.out] at d0
            simp only [Nat.add_zero] at d0
            rw [show ((0 : Nat) : Int) = 0 from rfl]
            clear HP k1
            go_wp2_with fail
            go_quiet (fail)
            go_wp2_with fail
            go_roundw
            case rel => exact ⟨1, by omega, by go_num, one_on hjn HF.out, ⟨hb.os, hb.tape, hb.output, hb.size, hb.block⟩⟩
            case measure => simp [intOf]; omega
          | succ i =>
            have HAH := ahead_at (by omega : i < pv.length)
            obtain ⟨b, off, rfl, d1, d0⟩ := (h2.later hb).at2 (by omega : i < pv.length) hlt'
            obtain ⟨y, HT⟩ : ∃ s, Hid ((pv[i]'(by omega)) = s) := ⟨_, hid rfl⟩
            rw [HS.out] at d0
            rw [HT.out] at d1 HAH
            rw [HAH] at HP
            have hle := le_str s y
            rw [show ((i + 1 : Nat) : Int) = (i : Int) + 1 from rfl]
            have hlti : ((i : Int) + 1) < (n2 : Int) := by omega
            cases r1 : bytesLess s.toList y.toList
            · cases r2 : (s.toList == y.toList)
              · rw [r1, r2] at hle
                have HF : Hid (pivAt pv (i + 1) = true) := hid (by rw [HP.out, k1, Bool.and_true]; simpa using hle)
                clear HP k1 hle HAH
                go_wp2_with fail
                go_quiet (fail)
                go_wp2_with fail
                go_roundw
                case rel => exact ⟨i + 1 + 1, by omega, by go_num, one_on hjn HF.out, ⟨hb.os, hb.tape, hb.output, hb.size, hb.block⟩⟩
                case measure => simp [intOf]; omega
              · rw [r1, r2] at hle
                have HF : Hid (pivAt pv (i + 1) = false) := hid (by rw [HP.out, show bytesLess y.data.toList s.data.toList = false by simpa using hle, Bool.false_and])
                clear HP k1 hle HAH
                go_wp2_with fail
                go_quiet (fail)
                go_wp2_with fail
                go_ret
                exact ⟨ret_three HMA.out (HNO.out HF.out), by rw [hk0]; exact ⟨hbw.os, hbw.tape, hbw.output, hbw.size, hbw.block⟩⟩
            · rw [r1] at hle
              have HF : Hid (pivAt pv (i + 1) = false) := hid (by rw [HP.out, show bytesLess y.data.toList s.data.toList = false by simpa using hle, Bool.false_and])
              clear HP k1 hle HAH
              go_wp2_with fail
              go_quiet (fail)
              go_wp2_with fail
              go_ret
              exact ⟨ret_three HMA.out (HNO.out HF.out), by rw [hk0]; exact ⟨hbw.os, hbw.tape, hbw.output, hbw.size, hbw.block⟩⟩
        · obtain rfl : j = n2 := by omega
          have HLE3 : Hid (upTo (msgAt bf) n4 = FB) := hid (by rw [HLE2.out, hjn.out, Bool.true_and])
          have h4' := h4.later hb
          clear HLE2 hjn
          go_wp2_with fail
          go_loopw [171] (fun i wr' => ∃ j : Nat, j ≤ n4 ∧ i = .int .i64 j ∧ Hid (upTo (msgAt bf) j = true) ∧ Below wr.heap.size wr wr') (fun i _ => n4 - (intOf i).toNat)
          case atStart => exact ⟨0, Nat.zero_le _, rfl, hid rfl, Below.refl _ _⟩
          case round =>
            obtain ⟨j, hj, rfl, hjn4, hb4⟩ := hrel
            have hbw4 := hbw.trans (hb4.mono (by have := hbw.size; have := hb0.size; omega))
            clear m0 m1 m2 m3 m4
            obtain ⟨m0, m1, m2, m3, m4⟩ := ((N0.later hb).later hb4).cells
            by_cases hlt : j < n4
            · have hlt' : j < bf.length := by rw [HN4.out]; exact hlt
              obtain ⟨b, off, rfl, h6⟩ := (h4'.later hb4).at hlt'
              have HO := hid (msgAt_at hlt')
              have hdm := hd _ (List.getElem_mem hlt')
              obtain ⟨m, HS⟩ : ∃ s, Hid (bf[j] = s) := ⟨_, hid rfl⟩
              rw [HS.out] at HO h6 hdm
              have HM := fun w => may37 m w hdm
              obtain ⟨t, HT⟩ : ∃ t, Hid (mayB m = t) := ⟨_, hid rfl⟩
              rw [HT.out] at HO HM
              clear hdm
              obtain ⟨kd, ky, vl, bk, dp, ad⟩ := m
              obtain ⟨d0, d1, d2, d3, d4, d5⟩ := h6
              dsimp only at d0 d1 d2 d3 d4 d5
              go_wp2_with fail
              refine (HM _).mono ?_
              clear HM
              rintro x w2 ⟨rfl, hb6⟩
              have hb7 := hb4.trans (hb6.mono hb4.size)
              have hb8 := hbw.trans (hb7.mono (by have := hbw.size; have := hb0.size; omega))
              clear d0 d1 d2 d3 d4 d5
              cases t
              · go_wp2_with fail
                go_ret
                exact ⟨ret_three HMA.out (no_out HLE3 hlt HO.out).symm, by rw [hk0]; exact hb8⟩
              · go_wp2_with fail
                go_roundw
                case rel => exact ⟨j + 1, by omega, by go_num, one_on hjn4 HO.out, hb7⟩
                case measure => simp [intOf]; omega
            · obtain rfl : j = n4 := by omega
              go_wp2_with fail
              go_ret
              exact ⟨ret_zero HMA.out (yes_out HLE3 hjn4.out).symm, by rw [hk0]; exact hbw4⟩
end Go.Proofs.YtegmpfmhlpdmhaaGreat.Key

namespace Go.Proofs.YtegmpfmhlpdmhaaGreat.Key
open Go.RowKit
open Go.Op (bytesLess)

set_option maxRecDepth 100000 in
set_option maxHeartbeats 2000000 in
theorem may13 (n : Nd) (p : Pl) (w : World) (hf : Few n) (h : Lies w n p) (hd : ∀ m ∈ n.bf, 0 ≤ m.deep) :
    Calls Tryz.prog 26 #[nv n p] w fun x w' => x = .returned (.int .i64 (mayI n)) ∧ Below w.heap.size w w' := by
  cases hmany : manyB n
  · cases hlf : n.leaf
    · exact may13_fork n p w hf h hd hmany hlf
    · exact may13_leaf n p w hf h hmany hlf
  · have hb0 : Below w.heap.size w (w.alloc (.cells #[.bool n.leaf, .slice p.a1 n.ps.length p.c1, .slice p.a2 n.pv.length p.c2, .slice p.a3 n.ks.length p.c3, .slice p.a4 n.bf.length p.c4] 46)) := below_box w _
    have HR : Hid (mayI n = 13) := hid (by unfold mayI; rw [hmany]; rfl)
    have hm : (decide (16 < n.ps.length) || (decide (8 < n.ks.length) || decide (16 < n.bf.length))) = true := hmany
    clear hmany h hd hf
    generalize mayI n = R at *
    obtain ⟨lf, ps, pv, ks, bf⟩ := n
    obtain ⟨a1, c1, a2, c2, a3, c3, a4, c4⟩ := p
    dsimp only [nv] at *
    generalize ps.length = n1 at *
    generalize pv.length = n2 at *
    generalize ks.length = n3 at *
    generalize bf.length = n4 at *
    cases k1 : decide (16 < n1)
    case true =>
      have k1' := n16 k1
      clear hm k1
      go_enter Tryz.func26, Tryz.ntmps26
      go_wp2_with fail
      go_ret
      exact ⟨by rw [HR.out]; rfl, hb0⟩
    case false =>
    have k1' := n16 k1
    cases k2 : decide (8 < n3)
    case true =>
      have k2' := n8 k2
      clear hm k1 k2
      go_enter Tryz.func26, Tryz.ntmps26
      go_wp2_with fail
      go_ret
      exact ⟨by rw [HR.out]; rfl, hb0⟩
    case false =>
    have k2' := n8 k2
    rw [k1, k2, Bool.false_or, Bool.false_or] at hm
    have k3' := n16 hm
    clear hm k1 k2
    go_enter Tryz.func26, Tryz.ntmps26
    go_wp2_with fail
    go_ret
    exact ⟨by rw [HR.out]; rfl, hb0⟩
end Go.Proofs.YtegmpfmhlpdmhaaGreat.Key
