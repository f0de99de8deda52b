/-
  Contracts of the document's Range and Kid.
-/
import Derived.Test.YtlkcoaencliajaaKid
namespace Go.Proofs.Ytlkcoaencliajaa.Key
open Go.RowKit
open Go.Op (bytesLess)

theorem below_three (w : World) (o0 o1 o2 : Obj) : Below w.heap.size w (((w.alloc o0).alloc o1).alloc o2) := ((below_box w o0).alloc (by simp) _).alloc (by simp; omega) _

set_option maxRecDepth 100000 in
set_option maxHeartbeats 2000000 in
theorem range61 (n : Nd) (p : Pl) (j : Nat) (w : World) (hl : n.pv.length ≤ 1000) (hl3 : n.ks.length ≤ 1000) (hj : j < n.ks.length) (h : Lies w n p) :
    Calls Try.prog 33 #[nv n p, .int .i64 j] w fun x w' => x = .returned (av (loOf n.pv j) (hiOf n.pv j) (endOf n.pv j)) ∧ Below w.heap.size w w' := by
  obtain ⟨_, h2, _, _⟩ := h
  obtain ⟨lf, ps, pv, ks, bf⟩ := n
  obtain ⟨a1, c1, a2, c2, a3, c3, a4, c4⟩ := p
  dsimp only [nv] at *
  have hlo : loOf pv j = if j ≤ pv.length then ahead pv j else ⟨#[]⟩ := rfl
  have hhi : hiOf pv j = if j < pv.length then pv.getD j default else ⟨#[]⟩ := rfl
  have hen : endOf pv j = decide (j < pv.length) := rfl
  have hj3 : ¬ ks.length ≤ j := by omega
  have hj3' : (j : Int) < (ks.length : Int) := by omega
  cases j with
  | zero =>
    rw [if_pos (Nat.zero_le _)] at hlo
    rw [hlo, show ahead pv 0 = ⟨#[]⟩ from rfl, show ((0 : Nat) : Int) = 0 from rfl]
    by_cases e : 0 < pv.length
    · obtain ⟨b, off, rfl, d0⟩ := h2.at e
      have hb := World.block_lt_of_cell? w _ d0
      rw [hhi, if_pos e, hen, decide_eq_true e, getD_at e]
      simp only [Nat.add_zero] at d0
      generalize pv[0] = s at *
      clear hlo hhi hen h2
      have hb' : b < w.heap.size + 1 := Nat.lt_succ_of_lt hb
      have hb'' : b < w.heap.size + 1 + 1 := Nat.lt_succ_of_lt hb'
      have e' : (0 : Int) < (pv.length : Int) := by omega
      generalize ps.length = n1 at *
      generalize pv.length = n2 at *
      generalize ks.length = n3 at *
      generalize bf.length = n4 at *
      dsimp only at hb hb' hb''
      go_enter Try.func33, Try.ntmps33
      go_wp2_with fail
      exact bodyPost_ret (v := .agg #[.string ⟨#[]⟩, .string s, .bool true]) (by simp [results, Try.results33, go_sem]) rfl ⟨rfl, below_three _ _ _ _⟩
    · have e0 : pv.length = 0 := by omega
      rw [hhi, if_neg e, hen, decide_eq_false e]
      rw [e0]
      clear hlo hhi hen h2 e e0
      generalize ps.length = n1 at *
      generalize ks.length = n3 at *
      generalize bf.length = n4 at *
      go_enter Try.func33, Try.ntmps33
      go_wp2_with fail
      exact bodyPost_ret (v := .agg #[.string ⟨#[]⟩, .string ⟨#[]⟩, .bool false]) (by simp [results, Try.results33, go_sem]) rfl ⟨rfl, below_three _ _ _ _⟩
  | succ i =>
    rw [show ((i + 1 : Nat) : Int) = (i : Int) + 1 from rfl] at *
    have hi1 : ¬ ((i : Int) + 1) < 0 := by omega
    by_cases e1 : i < pv.length
    · have e1i : (i : Int) < (pv.length : Int) := by omega
      rw [if_pos (by omega), ahead_at e1] at hlo
      by_cases e2 : i + 1 < pv.length
      · obtain ⟨b, off, rfl, d0, d1⟩ := h2.at2 e1 e2
        have hb := World.block_lt_of_cell? w _ d0
        rw [hlo, hhi, if_pos e2, hen, decide_eq_true e2, getD_at e2]
        have e2i : ((i : Int) + 1) < (pv.length : Int) := by omega
        generalize pv[i] = s at *
        generalize pv[i + 1] = s' at *
        clear hlo hhi hen h2
        have hb' : b < w.heap.size + 1 := Nat.lt_succ_of_lt hb
        have hb'' : b < w.heap.size + 1 + 1 := Nat.lt_succ_of_lt hb'
        dsimp only at hb hb' hb''
        generalize ps.length = n1 at *
        generalize pv.length = n2 at *
        generalize ks.length = n3 at *
        generalize bf.length = n4 at *
        go_enter Try.func33, Try.ntmps33
        go_wp2_with fail
        exact bodyPost_ret (v := .agg #[.string s, .string s', .bool true]) (by simp [results, Try.results33, go_sem]) rfl ⟨rfl, below_three _ _ _ _⟩
      · obtain ⟨b, off, rfl, d0⟩ := h2.at e1
        have hb := World.block_lt_of_cell? w _ d0
        rw [hlo, hhi, if_neg e2, hen, decide_eq_false e2]
        have e2i : ¬ ((i : Int) + 1) < (pv.length : Int) := by omega
        generalize pv[i] = s at *
        clear hlo hhi hen h2
        have hb' : b < w.heap.size + 1 := Nat.lt_succ_of_lt hb
        have hb'' : b < w.heap.size + 1 + 1 := Nat.lt_succ_of_lt hb'
        dsimp only at hb hb' hb''
        generalize ps.length = n1 at *
        generalize pv.length = n2 at *
        generalize ks.length = n3 at *
        generalize bf.length = n4 at *
        go_enter Try.func33, Try.ntmps33
        go_wp2_with fail
        exact bodyPost_ret (v := .agg #[.string s, .string ⟨#[]⟩, .bool false]) (by simp [results, Try.results33, go_sem]) rfl ⟨rfl, below_three _ _ _ _⟩
    · have e2 : ¬ i + 1 < pv.length := by omega
      have e1i : ¬ (i : Int) < (pv.length : Int) := by omega
      have e2i : ¬ ((i : Int) + 1) < (pv.length : Int) := by omega
      rw [if_neg (by omega)] at hlo
      rw [hlo, hhi, if_neg e2, hen, decide_eq_false e2]
      clear hlo hhi hen h2
      generalize ps.length = n1 at *
      generalize pv.length = n2 at *
      generalize ks.length = n3 at *
      generalize bf.length = n4 at *
      go_enter Try.func33, Try.ntmps33
      go_wp2_with fail
      exact bodyPost_ret (v := .agg #[.string ⟨#[]⟩, .string ⟨#[]⟩, .bool false]) (by simp [results, Try.results33, go_sem]) rfl ⟨rfl, below_three _ _ _ _⟩

set_option maxRecDepth 100000 in
set_option maxHeartbeats 1000000 in
theorem kid53 (n : Nd) (p : Pl) (k : ByteArray) (w : World) (hl : n.pv.length ≤ 1000) (hl3 : n.ks.length ≤ 1000) (h : Lies w n p) :
    Calls Try.prog 68 #[nv n p, .string k] w fun x w' => x = .returned (.int .i64 (kidR n.pv k.data.toList n.ks.length)) ∧ Below w.heap.size w w' := by
  have hb0 : Below w.heap.size w (w.alloc (.cells #[.bool n.leaf, .slice p.a1 n.ps.length p.c1, .slice p.a2 n.pv.length p.c2, .slice p.a3 n.ks.length p.c3, .slice p.a4 n.bf.length p.c4] 27)) := below_box w _
  have N0 := NBox.new w (.bool n.leaf) (.slice p.a1 n.ps.length p.c1) (.slice p.a2 n.pv.length p.c2) (.slice p.a3 n.ks.length p.c3) (.slice p.a4 n.bf.length p.c4)
  have h0 := h.later hb0
  have HR := hid (fun j w hj h => range61 n p j w hl hl3 hj h)
  have hK : ∀ j, kidR n.pv k.data.toList (j + 1) = if inR (rg (loOf n.pv j) (hiOf n.pv j) (endOf n.pv j)) k.data.toList then (j : Int) else kidR n.pv k.data.toList j := fun _ => rfl
  have HK := hid hK
  clear hK h
  have HL := hid h0
  clear h0
  obtain ⟨lf, ps, pv, ks, bf⟩ := n
  obtain ⟨a1, c1, a2, c2, a3, c3, a4, c4⟩ := p
  dsimp only [nv] at *
  generalize ps.length = n1 at *
  generalize hn3 : ks.length = n3 at *
  have HN3 := hid hn3
  clear hn3
  generalize bf.length = n4 at *
  generalize pv.length = n2 at *
  obtain ⟨m0, m1, m2, m3, m4⟩ := N0.cells
  go_enter Try.func68, Try.ntmps68
  go_wp2_with fail
  generalize (w.alloc (.cells #[.bool lf, .slice a1 n1 c1, .slice a2 n2 c2, .slice a3 n3 c3, .slice a4 n4 c4] 27)) = w0 at *
  generalize hk0 : w.heap.size = k0 at *
  go_loopw [5, 10] (fun q i wr => ∃ j : Nat, j ≤ n3 ∧ i = .int .i64 j ∧ q = .int .i64 (kidR pv k.data.toList j) ∧ Below w0.heap.size w0 wr) (fun _ i _ => n3 - (intOf i).toNat)
  case atStart => exact ⟨0, Nat.zero_le _, rfl, rfl, Below.refl _ _⟩
  case round =>
    obtain ⟨j, hj, rfl, rfl, hb⟩ := hrel
    have hbw : Below k0 w wr := hb0.trans (hb.mono (by have := hb0.size; omega))
    clear m0 m1 m2 m3 m4
    obtain ⟨m0, m1, m2, m3, m4⟩ := (N0.later hb).cells
    by_cases hlt : j < n3
    · have HRj := HR.out j wr hlt (HL.out.later hb)
      have HKj := HK.out j
      have HI := fun w => in60 (loOf pv j) (hiOf pv j) k (endOf pv j) w
      have HKH := hid HKj
      clear HKj
      generalize inR (rg (loOf pv j) (hiOf pv j) (endOf pv j)) k.data.toList = t at *
      generalize loOf pv j = L at *
      generalize hiOf pv j = H at *
      generalize endOf pv j = e at *
      generalize kidR pv k.data.toList j = q at *
      go_wp2_with fail
      refine HRj.mono ?_
      clear HRj
      rintro x w1 ⟨rfl, hb1⟩
      have hb2 := hb.trans (hb1.mono hb.size)
      clear m0 m1 m2 m3 m4
      go_wp2_with fail
      refine (HI _).mono ?_
      clear HI
      rintro x w2 ⟨rfl, hb3⟩
      have hb4 := hb2.trans (hb3.mono hb2.size)
      cases t
      · go_wp2_with fail
        go_roundw
        case rel => exact ⟨j + 1, by omega, by go_num, by rw [HKH.out]; rfl, hb4⟩
        case measure => simp [intOf]; omega
      · go_wp2_with fail
        go_roundw
        case rel => exact ⟨j + 1, by omega, by go_num, by rw [HKH.out]; rfl, hb4⟩
        case measure => simp [intOf]; omega
    · obtain rfl : j = n3 := by omega
      go_wp2_with fail
      go_ret
      exact ⟨rfl, by rw [hk0]; exact hbw⟩
end Go.Proofs.Ytlkcoaencliajaa.Key
