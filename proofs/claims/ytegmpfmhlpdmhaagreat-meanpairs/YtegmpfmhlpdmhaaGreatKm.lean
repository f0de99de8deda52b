/-
  Contracts of pivotsMay, and of Rise.
  Contract of leafMay.
  Contract of May, the program's.
  Contract of forkMay.
-/
import Derived.Test.YtegmpfmhlpdmhaaGreatNode
import Derived.Test.YtegmpfmhlpdmhaaGreatMs
import Derived.Test.YtegmpfmhlpdmhaaGreatKd
namespace Go.Proofs.YtegmpfmhlpdmhaaGreat.Key
open Go.RowKit
open Go.Op (bytesLess)

theorem pos_len {α : Type} {l : List α} (h : l ≠ []) : 0 < l.length := List.length_pos_iff.2 h
theorem nil_len {α : Type} {l : List α} (h : l = []) : l.length = 0 := by subst h; rfl
theorem no_out {p : Nat → Bool} {n j : Nat} {A : Bool} (HA : Hid (upTo p n = A)) (h : j < n) (hp : p j = false) : false = A := by rw [← HA.out, upTo_no h hp]
theorem yes_out {p : Nat → Bool} {n : Nat} {A : Bool} (HA : Hid (upTo p n = A)) (h : upTo p n = true) : true = A := by rw [← HA.out, h]
theorem one_on {p : Nat → Bool} {j : Nat} (h : Hid (upTo p j = true)) (hp : p j = true) : Hid (upTo p (j + 1) = true) := by
  show upTo p (j + 1) = true
  rw [upTo, h.out, hp]; rfl
theorem le16 {n : Nat} (h : decide (n ≤ 16) = true) : decide ((16 : Int) < (n : Int)) = false := by simp at h; simp; omega
theorem gt16 {n : Nat} (h : decide (n ≤ 16) = false) : decide ((16 : Int) < (n : Int)) = true := by simp at h; simp; omega
theorem le32 {n : Nat} (h : decide (n ≤ 32) = true) : decide ((32 : Int) < (n : Int)) = false := by simp at h; simp; omega
theorem gt32 {n : Nat} (h : decide (n ≤ 32) = false) : decide ((32 : Int) < (n : Int)) = true := by simp at h; simp; omega

set_option maxRecDepth 100000 in
set_option maxHeartbeats 1000000 in
theorem pivots44 (a : Option Addr) (c : Nat) (pv : List ByteArray) (w : World) (hl : pv.length ≤ maxLen) (h : Txts w a pv) :
    Calls Tryz.prog 68 #[.slice a pv.length c] w fun x w' => x = .returned (.bool (upTo (pivAt pv) pv.length)) ∧ w' = w := by
  unfold maxLen at hl
  generalize hA : upTo (pivAt pv) pv.length = A
  have HA := hid hA
  clear hA
  generalize hn : pv.length = n at *
  have HN := hid hn
  clear hn
  go_enter Tryz.func68, Tryz.ntmps68
  go_wp2_with fail
  go_loop [3, 8] (fun s i => ∃ j : Nat, j ≤ n ∧ i = .int .i64 j ∧ s = .string (ahead pv j) ∧ Hid (upTo (pivAt pv) j = true)) (fun _ i => n - (intOf i).toNat)
  case atStart => exact ⟨0, Nat.zero_le _, rfl, rfl, hid rfl⟩
  case round =>
    obtain ⟨j, hj, rfl, rfl, hjn⟩ := hrel
    by_cases hlt : j < n
    · have hlt' : j < pv.length := by rw [HN.out]; exact hlt
      obtain ⟨b, off, rfl, c0⟩ := h.at hlt'
      have HP := hid (pivAt_at hlt')
      have HE := hid (ahead_at hlt')
      obtain ⟨s, HS⟩ : ∃ s, Hid (pv[j] = s) := ⟨_, hid rfl⟩
      rw [HS.out] at c0 HP HE
      have hle := le_str s (ahead pv j)
      generalize ahead pv j = p at *
      cases q1 : bytesLess s.toList p.toList
      · cases q2 : (s.toList == p.toList)
        · rw [q1, q2] at hle
          cases k1 : decide (s.size ≤ 16)
          · have k1' := gt16 k1
            have HF : Hid (pivAt pv j = false) := hid (by rw [HP.out, k1, Bool.and_false])
            clear hle HP k1
            go_wp2_with fail
            go_ret
            exact ⟨ret_bool (no_out HA hlt HF.out), rfl⟩
          · have k1' := le16 k1
            have HF : Hid (pivAt pv j = true) := hid (by rw [HP.out, k1, Bool.and_true]; simpa using hle)
            clear hle HP k1
            go_wp2_with fail
            go_round
            case rel => exact ⟨j + 1, by omega, by go_num, by rw [HE.out], one_on hjn HF.out⟩
            case measure => simp [intOf]; omega
        · rw [q1, q2] at hle
          have HF : Hid (pivAt pv j = false) := hid (by rw [HP.out, show bytesLess p.data.toList s.data.toList = false by simpa using hle, Bool.false_and])
          clear hle HP
          go_wp2_with fail
          go_ret
          exact ⟨ret_bool (no_out HA hlt HF.out), rfl⟩
      · rw [q1] at hle
        have HF : Hid (pivAt pv j = false) := hid (by rw [HP.out, show bytesLess p.data.toList s.data.toList = false by simpa using hle, Bool.false_and])
        clear hle HP
        go_wp2_with fail
        go_ret
        exact ⟨ret_bool (no_out HA hlt HF.out), rfl⟩
    · obtain rfl : j = n := by omega
      go_wp2_with fail
      go_ret
      exact ⟨ret_bool (yes_out HA hjn.out), rfl⟩

set_option maxRecDepth 100000 in
set_option maxHeartbeats 1000000 in
theorem rise36 (a : Option Addr) (c : Nat) (ps : List Pr) (w : World) (hl : ps.length ≤ maxLen) (h : Prs w a ps) :
    Calls Tryz.prog 45 #[.slice a ps.length c] w fun x w' => x = .returned (.bool (upTo (riseAt ps) ps.length)) ∧ Below w.heap.size w w' := by
  unfold maxLen at hl
  generalize hA : upTo (riseAt ps) ps.length = A
  have HA := hid hA
  clear hA
  generalize hn : ps.length = n at *
  have HN := hid hn
  clear hn
  go_enter Tryz.func45, Tryz.ntmps45
  go_wp2_with fail
  go_loopw [3] (fun i wr => ∃ j : Nat, (j + 1 ≤ n ∨ j = 0) ∧ i = .int .i64 ((j : Int) + 1) ∧ Hid (upTo (riseAt ps) (j + 1) = true) ∧ Below w.heap.size w wr) (fun i _ => n - (intOf i).toNat)
  case atStart => exact ⟨0, .inr rfl, rfl, hid rfl, Below.refl _ _⟩
  case round =>
    obtain ⟨j, hj, rfl, hjn, hb⟩ := hrel
    by_cases hlt : j + 1 < n
    · have hlt' : j + 1 < ps.length := by rw [HN.out]; exact hlt
      obtain ⟨b, off, rfl, h2, h2'⟩ := (h.later hb).at2 (by omega : j < ps.length) hlt'
      have HP := hid (riseAt_at hlt')
      obtain ⟨p, HS⟩ : ∃ s, Hid ((ps[j]'(by omega)) = s) := ⟨_, hid rfl⟩
      obtain ⟨q, HT⟩ : ∃ s, Hid (ps[j + 1] = s) := ⟨_, hid rfl⟩
      rw [HS.out] at h2 HP
      rw [HT.out] at h2' HP
      obtain ⟨pk, pv⟩ := p
      obtain ⟨qk, qv⟩ := q
      obtain ⟨c0, c1⟩ := h2
      obtain ⟨d0, d1⟩ := h2'
      dsimp only at c0 c1 d0 d1 HP
      have hle := le_str qk pk
      have hlti : ((j : Int) + 1) < (n : Int) := by omega
      cases q1 : bytesLess qk.toList pk.toList
      · cases q2 : (qk.toList == pk.toList)
        · rw [q1, q2] at hle
          have HF : Hid (riseAt ps (j + 1) = true) := hid (by rw [HP.out]; simpa using hle)
          clear hle HP
          go_wp2_with fail
          go_quiet (fail)
          go_wp2_with fail
          go_roundw
          case rel => exact ⟨j + 1, .inl (by omega), by go_num, one_on hjn HF.out, ⟨hb.os, hb.tape, hb.output, hb.size, hb.block⟩⟩
          case measure => simp [intOf]; omega
        · rw [q1, q2] at hle
          have HF : Hid (riseAt ps (j + 1) = false) := hid (by rw [HP.out]; simpa using hle)
          clear hle HP
          go_wp2_with fail
          go_quiet (fail)
          go_wp2_with fail
          go_ret
          exact ⟨ret_bool (no_out HA hlt HF.out), ⟨hb.os, hb.tape, hb.output, hb.size, hb.block⟩⟩
      · rw [q1] at hle
        have HF : Hid (riseAt ps (j + 1) = false) := hid (by rw [HP.out]; simpa using hle)
        clear hle HP
        go_wp2_with fail
        go_quiet (fail)
        go_wp2_with fail
        go_ret
        exact ⟨ret_bool (no_out HA hlt HF.out), ⟨hb.os, hb.tape, hb.output, hb.size, hb.block⟩⟩
    · have hlti : ¬ ((j : Int) + 1) < (n : Int) := by omega
      go_wp2_with fail
      go_ret
      exact ⟨ret_bool (yes_out HA (upTo_mono hjn.out (by omega))), hb⟩
end Go.Proofs.YtegmpfmhlpdmhaaGreat.Key

namespace Go.Proofs.YtegmpfmhlpdmhaaGreat.Key
open Go.RowKit
open Go.Op (bytesLess)


set_option maxRecDepth 100000 in
set_option maxHeartbeats 2000000 in
theorem leaf34 (n : Nd) (p : Pl) (w : World) (hl : n.ps.length ≤ 1000) (h : Lies w n p) :
    Calls Tryz.prog 59 #[nv n p] w fun x w' => x = .returned (.bool (leafB n)) ∧ Below w.heap.size w w' := by
  obtain ⟨lf, ps, pv, ks, bf⟩ := n
  obtain ⟨a1, c1, a2, c2, a3, c3, a4, c4⟩ := p
  obtain ⟨h1, _, _, _⟩ := h
  dsimp only at h1 hl ⊢
  by_cases e2 : pv = []
  case neg =>
    have hr : leafB ⟨lf, ps, pv, ks, bf⟩ = false := by simp [leafB, e2]
    have t2 := pos_len e2
    rw [hr]
    clear hr
    dsimp only [nv]
    generalize ps.length = n1 at *
    generalize pv.length = n2 at *
    generalize ks.length = n3 at *
    generalize bf.length = n4 at *
    try subst t2
    try subst t3
    go_enter Tryz.func59, Tryz.ntmps59
    go_wp2_with fail
    go_ret
    exact ⟨rfl, below_box _ _⟩
  case pos =>
  have t2 := nil_len e2
  by_cases e3 : ks = []
  case neg =>
    have hr : leafB ⟨lf, ps, pv, ks, bf⟩ = false := by simp [leafB, e3]
    have t3 := pos_len e3
    rw [hr]
    clear hr
    dsimp only [nv]
    generalize ps.length = n1 at *
    generalize pv.length = n2 at *
    generalize ks.length = n3 at *
    generalize bf.length = n4 at *
    try subst t2
    try subst t3
    go_enter Tryz.func59, Tryz.ntmps59
    go_wp2_with fail
    go_ret
    exact ⟨rfl, below_box _ _⟩
  case pos =>
  have t3 := nil_len e3
  by_cases e4 : bf = []
  case neg =>
    have hr : leafB ⟨lf, ps, pv, ks, bf⟩ = false := by simp [leafB, e4]
    have t4 := pos_len e4
    rw [hr]
    clear hr
    dsimp only [nv]
    generalize ps.length = n1 at *
    generalize pv.length = n2 at *
    generalize ks.length = n3 at *
    generalize bf.length = n4 at *
    try subst t2
    try subst t3
    go_enter Tryz.func59, Tryz.ntmps59
    go_wp2_with fail
    go_ret
    exact ⟨rfl, below_box _ _⟩
  case pos =>
  have t4 := nil_len e4
  have hr : leafB ⟨lf, ps, pv, ks, bf⟩ = upTo (fun i => okAt ps i && riseAt ps i) ps.length := by simp [leafB, e2, e3, e4]
  rw [hr]
  clear hr e2 e3 e4
  generalize hA : upTo (fun i => okAt ps i && riseAt ps i) ps.length = A
  have HA := hid hA
  clear hA
  dsimp only [nv]
  rw [t2, t3, t4]
  clear t2 t3 t4
  generalize hn : ps.length = n at *
  have HN := hid hn
  clear hn
  have N0 := NBox.new w (.bool lf) (.slice a1 n c1) (.slice a2 0 c2) (.slice a3 0 c3) (.slice a4 0 c4)
  have hb0 : Below w.heap.size w (w.alloc (.cells #[.bool lf, .slice a1 n c1, .slice a2 0 c2, .slice a3 0 c3, .slice a4 0 c4] 46)) := below_box w _
  have h1' := h1.later hb0
  clear h1
  go_enter Tryz.func59, Tryz.ntmps59
  go_wp2_with fail
  generalize (w.alloc (.cells #[.bool lf, .slice a1 n c1, .slice a2 0 c2, .slice a3 0 c3, .slice a4 0 c4] 46)) = w0 at *
  generalize hk0 : w.heap.size = k0 at *
  go_loopw [24] (fun i wr => ∃ j : Nat, j ≤ n ∧ i = .int .i64 j ∧ Hid (upTo (fun i => okAt ps i && riseAt ps i) j = true) ∧ Below w0.heap.size w0 wr) (fun i _ => n - (intOf i).toNat)
  case atStart => exact ⟨0, Nat.zero_le _, rfl, hid rfl, Below.refl _ _⟩
  case round =>
    obtain ⟨j, hj, rfl, hjn, hb⟩ := hrel
    have hbw : Below k0 w wr := hb0.trans (hb.mono (by have := hb0.size; omega))
    by_cases hlt : j < n
    · have hlt' : j < ps.length := by rw [HN.out]; exact hlt
      have N1 := N0.later hb
      have hk1 := N1.lt
      obtain ⟨m0, m1, m2, m3, m4⟩ := N1.cells
      have HO := hid (okAt_at hlt')
      obtain ⟨x, HS⟩ : ∃ s, Hid (ps[j] = s) := ⟨_, hid rfl⟩
      rw [HS.out] at HO
      have hb1 : Below k0 w (wr.alloc (.cells #[.string x.key, .string x.val] 50)) := hbw.alloc (by omega) _
      cases k1 : decide (x.key.size ≤ 16)
      case false =>
        obtain ⟨b, off, rfl, h2⟩ := (h1'.later hb).at hlt'
        rw [HS.out] at h2
        have HF : Hid ((okAt ps j && riseAt ps j) = false) := hid (by rw [HO.out, okP, k1]; rfl)
        obtain ⟨xk, xv⟩ := x
        obtain ⟨c0, c1⟩ := h2
        dsimp only at c0 c1 k1 hb1
        have k1' := gt16 k1
        clear HO k1
        go_wp2_with fail
        go_ret
        exact ⟨ret_bool (no_out HA hlt HF.out), by rw [hk0]; exact hb1⟩
      case true =>
      cases k2 : decide (x.val.size ≤ 32)
      case false =>
        obtain ⟨b, off, rfl, h2⟩ := (h1'.later hb).at hlt'
        rw [HS.out] at h2
        have HF : Hid ((okAt ps j && riseAt ps j) = false) := hid (by rw [HO.out, okP, k1, k2]; rfl)
        obtain ⟨xk, xv⟩ := x
        obtain ⟨c0, c1⟩ := h2
        dsimp only at c0 c1 k1 k2 hb1
        have k1' := le16 k1
        have k2' := gt32 k2
        clear HO k1 k2
        go_wp2_with fail
        go_ret
        exact ⟨ret_bool (no_out HA hlt HF.out), by rw [hk0]; exact hb1⟩
      case true =>
      have HO' : Hid (okAt ps j = true) := hid (by rw [HO.out, okP, k1, k2]; rfl)
      have k1' := le16 k1
      have k2' := le32 k2
      clear HO k1 k2
      cases j with
      | zero =>
        obtain ⟨b, off, rfl, h2⟩ := (h1'.later hb).at hlt'
        rw [HS.out] at h2
        obtain ⟨xk, xv⟩ := x
        obtain ⟨c0, c1⟩ := h2
        dsimp only at c0 c1 k1' k2' hb1
        simp only [Nat.zero_mul, Nat.add_zero] at c0 c1
        rw [show ((0 : Nat) : Int) = 0 from rfl]
        have HF : Hid ((okAt ps 0 && riseAt ps 0) = true) := hid (by rw [HO'.out]; rfl)
        clear HO'
        have hb2 := hb.alloc hb.size (.cells #[.string xk, .string xv] 50)
        go_wp2_with fail
        go_quiet (fail)
        go_wp2_with fail
        go_roundw
        case rel => exact ⟨1, by omega, by go_num, one_on hjn HF.out, ⟨hb2.os, hb2.tape, hb2.output, hb2.size, hb2.block⟩⟩
        case measure => simp [intOf]; omega
      | succ i =>
        obtain ⟨b, off, rfl, h2', h2⟩ := (h1'.later hb).at2 (by omega : i < ps.length) hlt'
        have HP := hid (riseAt_at hlt')
        obtain ⟨y, HT⟩ : ∃ s, Hid ((ps[i]'(by omega)) = s) := ⟨_, hid rfl⟩
        rw [HS.out] at h2 HP
        rw [HT.out] at h2' HP
        have hbk := h2.lt
        obtain ⟨xk, xv⟩ := x
        obtain ⟨yk, yv⟩ := y
        obtain ⟨c0, c1⟩ := h2
        obtain ⟨d0, d1⟩ := h2'
        dsimp only at c0 c1 d0 d1 k1' k2' hb1 HP
        have hle := le_str xk yk
        have hb2 := hb.alloc hb.size (.cells #[.string xk, .string xv] 50)
        rw [show ((i + 1 : Nat) : Int) = (i : Int) + 1 from rfl]
        have hlti : ((i : Int) + 1) < (n : Int) := by omega
        cases q1 : bytesLess xk.toList yk.toList
        · cases q2 : (xk.toList == yk.toList)
          · rw [q1, q2] at hle
            have HF : Hid ((okAt ps (i + 1) && riseAt ps (i + 1)) = true) := hid (by rw [HO'.out, HP.out]; simpa using hle)
            clear hle HP HO'
            go_wp2_with fail
            go_quiet (fail)
            go_wp2_with fail
            go_roundw
            case rel => exact ⟨i + 1 + 1, by omega, by go_num, one_on hjn HF.out, ⟨hb2.os, hb2.tape, hb2.output, hb2.size, hb2.block⟩⟩
            case measure => simp [intOf]; omega
          · rw [q1, q2] at hle
            have HF : Hid ((okAt ps (i + 1) && riseAt ps (i + 1)) = false) := hid (by rw [HO'.out, HP.out]; simpa using hle)
            clear hle HP HO'
            go_wp2_with fail
            go_quiet (fail)
            go_wp2_with fail
            go_ret
            exact ⟨ret_bool (no_out HA hlt HF.out), by rw [hk0]; exact ⟨hb1.os, hb1.tape, hb1.output, hb1.size, hb1.block⟩⟩
        · rw [q1] at hle
          have HF : Hid ((okAt ps (i + 1) && riseAt ps (i + 1)) = false) := hid (by rw [HO'.out, HP.out]; simpa using hle)
          clear hle HP HO'
          go_wp2_with fail
          go_quiet (fail)
          go_wp2_with fail
          go_ret
          exact ⟨ret_bool (no_out HA hlt HF.out), by rw [hk0]; exact ⟨hb1.os, hb1.tape, hb1.output, hb1.size, hb1.block⟩⟩
    · obtain rfl : j = n := by omega
      go_wp2_with fail
      go_ret
      exact ⟨ret_bool (yes_out HA hjn.out), by rw [hk0]; exact hbw⟩
end Go.Proofs.YtegmpfmhlpdmhaaGreat.Key

namespace Go.Proofs.YtegmpfmhlpdmhaaGreat.Key
open Go.RowKit Draw
open Go.Op (bytesLess)

theorem empty_or (s : ByteArray) : s = ⟨#[]⟩ ∨ (¬ s.toList = [] ∧ s.size ≠ 0 ∧ s.toList.isEmpty = false) := by
  obtain ⟨⟨l⟩⟩ := s
  cases l with
  | nil => exact .inl rfl
  | cons b l =>
    refine .inr ⟨?_, ?_, ?_⟩
    · rw [Lib.toList_data]; simp
    · rw [Lib.size_eq]; simp
    · rw [Lib.toList_data]; rfl
/-- may a message be? -/
def mayB (m : M) : Bool :=
  decide (m.key.size ≤ 16) && (decide (m.val.size ≤ 32) && (decide (m.add.size ≤ 16) &&
    (if m.kind = 1 then (m.blk == 0) && ((m.deep == 0) && (m.add.size == 0))
     else if m.kind = 2 then (m.val.size == 0) && ((m.blk == 0) && ((m.deep == 0) && (m.add.size == 0)))
     else if m.kind = 3 then decide (1 ≤ m.deep) && (m.val.size == 0) else false)))
theorem gt_of {n k : Nat} (h : decide (n ≤ k) = true) : decide ((k : Int) < (n : Int)) = false := by simp at h; simp; omega
theorem gt_of' {n k : Nat} (h : decide (n ≤ k) = false) : decide ((k : Int) < (n : Int)) = true := by simp at h; simp; omega

set_option maxRecDepth 100000 in
set_option maxHeartbeats 1000000 in
theorem may45 (m : M) (w : World) : Calls Tryz.prog 69 #[mv m] w fun x w' => x = .returned (.bool (mayB m)) ∧ Below w.heap.size w w' := by
  have hb : Below w.heap.size w (w.alloc (.cells #[.int .u8 m.kind, .string m.key, .string m.val, .int .u32 m.blk, .int .u16 m.deep, .string m.add] 42)) := below_box _ _
  obtain ⟨kd, ky, vl, bk, dp, ad⟩ := m
  dsimp only at hb
  by_cases k1 : 16 < ky.size
  · have hr : mayB ⟨kd, ky, vl, bk, dp, ad⟩ = false := by simp [mayB]; omega
    have k1' : decide ((16 : Int) < (ky.size : Int)) = true := by simp; omega
    clear k1
    rw [hr]
    clear hr
    go_enter Tryz.func69, Tryz.ntmps69
    go_wp2_with fail
    go_ret
    exact ⟨rfl, hb⟩
  have k1' : decide ((16 : Int) < (ky.size : Int)) = false := by simp; omega
  by_cases k2 : 32 < vl.size
  · have hr : mayB ⟨kd, ky, vl, bk, dp, ad⟩ = false := by simp [mayB]; omega
    have k2' : decide ((32 : Int) < (vl.size : Int)) = true := by simp; omega
    clear k1 k2
    rw [hr]
    clear hr
    go_enter Tryz.func69, Tryz.ntmps69
    go_wp2_with fail
    go_ret
    exact ⟨rfl, hb⟩
  have k2' : decide ((32 : Int) < (vl.size : Int)) = false := by simp; omega
  by_cases k3 : 16 < ad.size
  · have hr : mayB ⟨kd, ky, vl, bk, dp, ad⟩ = false := by simp [mayB]; omega
    have k3' : decide ((16 : Int) < (ad.size : Int)) = true := by simp; omega
    clear k1 k2 k3
    rw [hr]
    clear hr
    go_enter Tryz.func69, Tryz.ntmps69
    go_wp2_with fail
    go_ret
    exact ⟨rfl, hb⟩
  have k3' : decide ((16 : Int) < (ad.size : Int)) = false := by simp; omega
  have K1 : ky.size ≤ 16 := by omega
  have K2 : vl.size ≤ 32 := by omega
  have K3 : ad.size ≤ 16 := by omega
  clear k1 k2 k3
  have EA := empty_or ad
  have EV := empty_or vl
  by_cases h1 : kd = 1
  · subst h1
    by_cases q3 : bk = 0
    · by_cases q4 : dp = 0
      · rcases EA with rfl | ⟨q5, q6, _⟩
        · have hr : mayB ⟨1, ky, vl, bk, dp, ⟨#[]⟩⟩ = true := by simp [mayB, q3, q4, K1, K2, show (⟨#[]⟩ : ByteArray).size = 0 from rfl]
          subst q3 q4
          clear K1 K2 K3
          rw [hr]
          clear hr
          go_enter Tryz.func69, Tryz.ntmps69
          go_wp2_with fail
          go_ret
          exact ⟨rfl, hb⟩
        · have hr : mayB ⟨1, ky, vl, bk, dp, ad⟩ = false := by simp [mayB, q6]
          subst q3 q4
          clear K1 K2 K3
          rw [hr]
          clear hr
          go_enter Tryz.func69, Tryz.ntmps69
          go_wp2_with fail
          go_ret
          exact ⟨rfl, hb⟩
      · have hr : mayB ⟨1, ky, vl, bk, dp, ad⟩ = false := by simp [mayB, q4]
        have q4' : (dp == 0) = false := by simp; omega
        subst q3
        clear K1 K2 K3 q4
        rw [hr]
        clear hr
        go_enter Tryz.func69, Tryz.ntmps69
        go_wp2_with fail
        go_ret
        exact ⟨rfl, hb⟩
    · have hr : mayB ⟨1, ky, vl, bk, dp, ad⟩ = false := by simp [mayB, q3]
      have q3' : (bk == 0) = false := by simp; omega
      clear K1 K2 K3 q3
      rw [hr]
      clear hr
      go_enter Tryz.func69, Tryz.ntmps69
      go_wp2_with fail
      go_ret
      exact ⟨rfl, hb⟩
  have h1' : (kd == 1) = false := by simp; omega
  by_cases h2 : kd = 2
  · subst h2
    rcases EV with rfl | ⟨q1, q2, _⟩
    · by_cases q3 : bk = 0
      · by_cases q4 : dp = 0
        · rcases EA with rfl | ⟨q5, q6, _⟩
          · have hr : mayB ⟨2, ky, ⟨#[]⟩, bk, dp, ⟨#[]⟩⟩ = true := by simp [mayB, q3, q4, K1, show (⟨#[]⟩ : ByteArray).size = 0 from rfl]
            subst q3 q4
            clear K1 K2 K3
            rw [hr]
            clear hr
            go_enter Tryz.func69, Tryz.ntmps69
            go_wp2_with fail
            go_ret
            exact ⟨rfl, hb⟩
          · have hr : mayB ⟨2, ky, ⟨#[]⟩, bk, dp, ad⟩ = false := by simp [mayB, q6]
            subst q3 q4
            clear K1 K2 K3
            rw [hr]
            clear hr
            go_enter Tryz.func69, Tryz.ntmps69
            go_wp2_with fail
            go_ret
            exact ⟨rfl, hb⟩
        · have hr : mayB ⟨2, ky, ⟨#[]⟩, bk, dp, ad⟩ = false := by simp [mayB, q4]
          have q4' : (dp == 0) = false := by simp; omega
          subst q3
          clear K1 K2 K3 q4
          rw [hr]
          clear hr
          go_enter Tryz.func69, Tryz.ntmps69
          go_wp2_with fail
          go_ret
          exact ⟨rfl, hb⟩
      · have hr : mayB ⟨2, ky, ⟨#[]⟩, bk, dp, ad⟩ = false := by simp [mayB, q3]
        have q3' : (bk == 0) = false := by simp; omega
        clear K1 K2 K3 q3
        rw [hr]
        clear hr
        go_enter Tryz.func69, Tryz.ntmps69
        go_wp2_with fail
        go_ret
        exact ⟨rfl, hb⟩
    · have hr : mayB ⟨2, ky, vl, bk, dp, ad⟩ = false := by simp [mayB, q2]
      clear K1 K2 K3
      rw [hr]
      clear hr
      go_enter Tryz.func69, Tryz.ntmps69
      go_wp2_with fail
      go_ret
      exact ⟨rfl, hb⟩
  have h2' : (kd == 2) = false := by simp; omega
  by_cases h3 : kd = 3
  · subst h3
    by_cases q4 : 1 ≤ dp
    · have q4' : decide (1 ≤ dp) = true := by simpa using q4
      rcases EV with rfl | ⟨q1, q2, _⟩
      · have hr : mayB ⟨3, ky, ⟨#[]⟩, bk, dp, ad⟩ = true := by simp [mayB, q4, K1, K3, show (⟨#[]⟩ : ByteArray).size = 0 from rfl]
        clear K1 K2 K3 h1 h2
        rw [hr]
        clear hr
        go_enter Tryz.func69, Tryz.ntmps69
        go_wp2_with fail
        go_ret
        exact ⟨rfl, hb⟩
      · have hr : mayB ⟨3, ky, vl, bk, dp, ad⟩ = false := by simp [mayB, q2]
        clear K1 K2 K3 h1 h2
        rw [hr]
        clear hr
        go_enter Tryz.func69, Tryz.ntmps69
        go_wp2_with fail
        go_ret
        exact ⟨rfl, hb⟩
    · have q4' : decide (1 ≤ dp) = false := by simpa using q4
      have hr : mayB ⟨3, ky, vl, bk, dp, ad⟩ = false := by simp [mayB, q4]
      clear K1 K2 K3 h1 h2
      rw [hr]
      clear hr
      go_enter Tryz.func69, Tryz.ntmps69
      go_wp2_with fail
      go_ret
      exact ⟨rfl, hb⟩
  · have h3' : (kd == 3) = false := by simp; omega
    have hr : mayB ⟨kd, ky, vl, bk, dp, ad⟩ = false := by simp [mayB, h1, h2, h3]
    clear K1 K2 K3 h1 h2 h3
    rw [hr]
    clear hr
    go_enter Tryz.func69, Tryz.ntmps69
    go_wp2_with fail
    go_ret
    exact ⟨rfl, hb⟩
end Go.Proofs.YtegmpfmhlpdmhaaGreat.Key

namespace Go.Proofs.YtegmpfmhlpdmhaaGreat.Key
open Go.RowKit
open Go.Op (bytesLess)

def msgAt (bf : List M) (i : Nat) : Bool := mayB (bf.getD i M.nil)
theorem msgAt_at {bf : List M} {i : Nat} (h : i < bf.length) : msgAt bf i = mayB bf[i] := by rw [msgAt, getD_at h]
def forkB (n : Nd) : Bool := n.ps.isEmpty && ((n.pv.length + 1 == n.ks.length) && (upTo (pivAt n.pv) n.pv.length && (upTo (edgeAt n.ks) n.ks.length && upTo (msgAt n.bf) n.bf.length)))
theorem no_outA {p : Nat → Bool} {n j : Nat} {A B : Bool} (HA : Hid ((upTo p n && B) = A)) (h : j < n) (hp : p j = false) : false = A := by rw [← HA.out, upTo_no h hp]; rfl

set_option maxRecDepth 100000 in
set_option maxHeartbeats 2000000 in
theorem fork35 (n : Nd) (p : Pl) (w : World) (hl2 : n.pv.length ≤ 1000) (hl3 : n.ks.length ≤ 1000) (hl4 : n.bf.length ≤ 1000) (h : Lies w n p) :
    Calls Tryz.prog 60 #[nv n p] w fun x w' => x = .returned (.bool (forkB n)) ∧ Below w.heap.size w w' := by
  obtain ⟨lf, ps, pv, ks, bf⟩ := n
  obtain ⟨a1, c1, a2, c2, a3, c3, a4, c4⟩ := p
  obtain ⟨_, h2, h3, h4⟩ := h
  dsimp only at h2 h3 h4 hl2 hl3 hl4 ⊢
  by_cases e1 : ps = []
  case neg =>
    have hr : forkB ⟨lf, ps, pv, ks, bf⟩ = false := by simp [forkB, e1]
    have t1 := pos_len e1
    rw [hr]
    clear hr
    dsimp only [nv]
    generalize ps.length = n1 at *
    generalize pv.length = n2 at *
    generalize ks.length = n3 at *
    generalize bf.length = n4 at *
    try subst t1
    go_enter Tryz.func60, Tryz.ntmps60
    go_wp2_with fail
    go_ret
    exact ⟨rfl, below_box _ _⟩
  case pos =>
  have t1 := nil_len e1
  by_cases e2 : pv.length + 1 = ks.length
  case neg =>
    have hr : forkB ⟨lf, ps, pv, ks, bf⟩ = false := by simp [forkB, e2]
    have t2 : ¬ (pv.length : Int) = (ks.length : Int) - 1 := by omega
    rw [hr]
    clear hr
    dsimp only [nv]
    generalize ps.length = n1 at *
    generalize pv.length = n2 at *
    generalize ks.length = n3 at *
    generalize bf.length = n4 at *
    try subst t1
    go_enter Tryz.func60, Tryz.ntmps60
    go_wp2_with fail
    go_ret
    exact ⟨rfl, below_box _ _⟩
  case pos =>
  have t2 : (pv.length : Int) = (ks.length : Int) - 1 := by omega
  dsimp only [nv]
  rw [t1]
  clear t1
  have hb0 : Below w.heap.size w (w.alloc (.cells #[.bool lf, .slice a1 0 c1, .slice a2 pv.length c2, .slice a3 ks.length c3, .slice a4 bf.length c4] 46)) := below_box w _
  have HP := hid (pivots44 a2 c2 pv _ (by unfold maxLen; omega) (h2.later hb0))
  cases e3 : upTo (pivAt pv) pv.length
  case false =>
    have hr : forkB ⟨lf, ps, pv, ks, bf⟩ = false := by simp [forkB, e3]
    rw [e3] at HP
    rw [hr]
    clear hr
    generalize pv.length = n2 at *
    generalize ks.length = n3 at *
    generalize bf.length = n4 at *
    go_enter Tryz.func60, Tryz.ntmps60
    go_wp2_with fail
    refine HP.out.mono ?_
    rintro x w1 ⟨rfl, rfl⟩
    go_wp2_with fail
    go_ret
    exact ⟨rfl, below_box _ _⟩
  case true =>
  rw [e3] at HP
  have hr : forkB ⟨lf, ps, pv, ks, bf⟩ = (upTo (edgeAt ks) ks.length && upTo (msgAt bf) bf.length) := by simp [forkB, e1, e2, e3]
  rw [hr]
  clear hr e1 e2 e3
  generalize hA : (upTo (edgeAt ks) ks.length && upTo (msgAt bf) bf.length) = A
  have HA := hid hA
  clear hA
  have N0 := NBox.new w (.bool lf) (.slice a1 0 c1) (.slice a2 pv.length c2) (.slice a3 ks.length c3) (.slice a4 bf.length c4)
  have h3' := h3.later hb0
  have h4' := h4.later hb0
  clear h3 h4 h2
  generalize pv.length = n2 at *
  generalize hn3 : ks.length = n3 at *
  generalize hn4 : bf.length = n4 at *
  have HN3 := hid hn3
  have HN4 := hid hn4
  clear hn3 hn4
  go_enter Tryz.func60, Tryz.ntmps60
  go_wp2_with fail
  refine HP.out.mono ?_
  rintro x w1 ⟨rfl, rfl⟩
  clear HP
  generalize (w.alloc (.cells #[.bool lf, .slice a1 0 c1, .slice a2 n2 c2, .slice a3 n3 c3, .slice a4 n4 c4] 46)) = w0 at *
  obtain ⟨m0, m1, m2, m3, m4⟩ := N0.cells
  generalize hk0 : w.heap.size = k0 at *
  go_wp2_with fail
  go_loopw [30] (fun i wr => ∃ j : Nat, j ≤ n3 ∧ i = .int .i64 j ∧ Hid (upTo (edgeAt ks) j = true) ∧ Below w0.heap.size w0 wr) (fun i _ => n3 - (intOf i).toNat)
  case atStart => exact ⟨0, Nat.zero_le _, rfl, hid rfl, Below.refl _ _⟩
  case round =>
    obtain ⟨j, hj, rfl, hjn, hb⟩ := hrel
    have hbw : Below k0 w wr := hb0.trans (hb.mono (by have := hb0.size; omega))
    by_cases hlt : j < n3
    · have hlt' : j < ks.length := by rw [HN3.out]; exact hlt
      clear m0 m1 m2 m3 m4
      obtain ⟨b, off, rfl, h6⟩ := (h3'.later hb).at hlt'
      have HO := hid (edgeAt_at hlt')
      obtain ⟨e, HS⟩ : ∃ s, Hid (ks[j] = s) := ⟨_, hid rfl⟩
      rw [HS.out] at HO h6
      obtain ⟨bk, dp, st, ad⟩ := e
      obtain ⟨d0, d1, d2, d3⟩ := h6
      dsimp only at d0 d1 d2 d3
      have hb1 : Below k0 w (wr.alloc (.cells #[.int .u32 bk, .int .u16 dp, .string st, .string ad] 39)) := hbw.alloc (by have := hbw.size; have := hb0.size; omega) _
      have hb2 := hb.alloc hb.size (.cells #[.int .u32 bk, .int .u16 dp, .string st, .string ad] 39)
      by_cases k0' : 1 ≤ dp
      case neg =>
        have HF : Hid (edgeAt ks j = false) := hid (by rw [HO.out]; simp [okE]; omega)
        have k0'' : decide (dp < 1) = true := by simp; omega
        clear HO k0'
        go_wp2_with fail
        go_ret
        exact ⟨ret_bool (no_outA HA hlt HF.out), by rw [hk0]; exact hb1⟩
      case pos =>
      have k0'' : decide (dp < 1) = false := by simp; omega
      cases k1 : decide (st.size ≤ 16)
      case false =>
        have HF : Hid (edgeAt ks j = false) := hid (by rw [HO.out, okE, k1]; simp)
        have k1' := gt16 k1
        clear HO k1
        go_wp2_with fail
        go_ret
        exact ⟨ret_bool (no_outA HA hlt HF.out), by rw [hk0]; exact hb1⟩
      case true =>
      have k1' := le16 k1
      cases k2 : decide (ad.size ≤ 16)
      case false =>
        have HF : Hid (edgeAt ks j = false) := hid (by rw [HO.out, okE, k2]; simp)
        have k2' := gt16 k2
        clear HO k1 k2
        go_wp2_with fail
        go_ret
        exact ⟨ret_bool (no_outA HA hlt HF.out), by rw [hk0]; exact hb1⟩
      case true =>
        have HF : Hid (edgeAt ks j = true) := hid (by rw [HO.out, okE, k1, k2]; simpa using k0')
        have k2' := le16 k2
        clear HO k1 k2 k0'
        go_wp2_with fail
        go_roundw
        case rel => exact ⟨j + 1, by omega, by go_num, one_on hjn HF.out, hb2⟩
        case measure => simp [intOf]; omega
    · obtain rfl : j = n3 := by omega
      have HA' : Hid (upTo (msgAt bf) n4 = A) := hid (by have := HA.out; rw [hjn.out, Bool.true_and] at this; exact this)
      clear m0 m1 m2 m3 m4
      obtain ⟨m0, m1, m2, m3, m4⟩ := (N0.later hb).cells
      go_wp2_with fail
      go_loopw [55] (fun i wr' => ∃ j : Nat, j ≤ n4 ∧ i = .int .i64 j ∧ Hid (upTo (msgAt bf) j = true) ∧ Below wr.heap.size wr wr') (fun i _ => n4 - (intOf i).toNat)
      case atStart => exact ⟨0, Nat.zero_le _, rfl, hid rfl, Below.refl _ _⟩
      case round =>
        obtain ⟨j, hj, rfl, hjn4, hb4⟩ := hrel
        have hbw4 := hbw.trans (hb4.mono (by have := hbw.size; have := hb0.size; omega))
        by_cases hlt : j < n4
        · have hlt' : j < bf.length := by rw [HN4.out]; exact hlt
          clear m0 m1 m2 m3 m4
          obtain ⟨b, off, rfl, h6⟩ := ((h4'.later hb).later hb4).at hlt'
          have HO := hid (msgAt_at hlt')
          obtain ⟨m, HS⟩ : ∃ s, Hid (bf[j] = s) := ⟨_, hid rfl⟩
          rw [HS.out] at HO h6
          have HM := may45 m
          obtain ⟨t, HT⟩ : ∃ t, Hid (mayB m = t) := ⟨_, hid rfl⟩
          rw [HT.out] at HO HM
          obtain ⟨kd, ky, vl, bk, dp, ad⟩ := m
          obtain ⟨d0, d1, d2, d3, d4, d5⟩ := h6
          dsimp only at d0 d1 d2 d3 d4 d5
          have hb5 := hb4.alloc hb4.size (.cells #[.int .u8 kd, .string ky, .string vl, .int .u32 bk, .int .u16 dp, .string ad] 42)
          go_wp2_with fail
          refine (HM _).mono ?_
          clear HM
          rintro x w2 ⟨rfl, hb6⟩
          have hb7 := hb5.trans (hb6.mono hb5.size)
          have hb8 := hbw.trans (hb7.mono (by have := hbw.size; have := hb0.size; omega))
          clear d0 d1 d2 d3 d4 d5
          cases t
          · go_wp2_with fail
            go_ret
            exact ⟨ret_bool (no_out HA' hlt HO.out), by rw [hk0]; exact hb8⟩
          · go_wp2_with fail
            go_roundw
            case rel => exact ⟨j + 1, by omega, by go_num, one_on hjn4 HO.out, hb7⟩
            case measure => simp [intOf]; omega
        · obtain rfl : j = n4 := by omega
          go_wp2_with fail
          go_ret
          exact ⟨ret_bool (yes_out HA' hjn4.out), by rw [hk0]; exact hbw4⟩
end Go.Proofs.YtegmpfmhlpdmhaaGreat.Key
