/-
  Contracts of byEdge, byMsg, byPairs, and of the document's on and Get.
  Contracts of Kid, the program's and the document's, and of the document's Range; that they are one where the node may be.
  Contracts of the document's Range and Kid.
  Contract of Step, the program's.
-/
import Derived.Test.YtegmpfmhlpdmhaaGreatKl
import Derived.Test.YtegmpfmhlpdmhaaGreatKm
import Derived.Test.YtegmpfmhlpdmhaaGreatMayN
import Derived.Lib.SmallJoins
namespace Go.Proofs.YtegmpfmhlpdmhaaGreat.Key
open Go.RowKit
open Go.Op (bytesLess)

theorem below_five {B k : Nat} {w w' : World} (h : Below B w w') (hk : B ≤ k) (v0 v1 v2 v3 v4 : Value) :
    Below B w (((((w'.setCell ⟨k, 0, none⟩ v0).setCell ⟨k, 1, none⟩ v1).setCell ⟨k, 2, none⟩ v2).setCell ⟨k, 3, none⟩ v3).setCell ⟨k, 4, none⟩ v4) :=
  ((((h.setCell (p := ⟨k, 0, none⟩) hk _).setCell (p := ⟨k, 1, none⟩) hk _).setCell (p := ⟨k, 2, none⟩) hk _).setCell (p := ⟨k, 3, none⟩) hk _).setCell (p := ⟨k, 4, none⟩) hk _
set_option maxRecDepth 100000 in
set_option maxHeartbeats 1000000 in
theorem edge42 (e : E) (k : ByteArray) (w : World) (ha : e.add.size ≤ 1000000) (hk : k.size ≤ 1000000) :
    Calls Tryz.prog 41 #[ev e, .string k] w fun x w' => x = .returned (wv (byE e k.data.toList)) ∧ Below w.heap.size w w' := by
  have HU := fun w => up50 e.strip e.add k w ha hk
  have hE : byE e k.data.toList = if upB (lf e.strip e.add) k.data.toList then ⟨2, ⟨#[]⟩, e.blk, e.deep, upS (lf e.strip e.add) k.data.toList⟩ else noWay := rfl
  generalize upB (lf e.strip e.add) k.data.toList = B at *
  generalize upS (lf e.strip e.add) k.data.toList = S at *
  have E0 := (EBox.new w e).alloc (.cells #[.int .u8 0, .string ⟨#[]⟩, .int .u32 0, .int .u16 0, .string ⟨#[]⟩] 70)
  have W0 := WBox.new (w.alloc (.cells #[.int .u32 e.blk, .int .u16 e.deep, .string e.strip, .string e.add] 39)) (.int .u8 0) (.string ⟨#[]⟩) (.int .u32 0) (.int .u16 0) (.string ⟨#[]⟩)
  have hb0 : Below w.heap.size w ((w.alloc (.cells #[.int .u32 e.blk, .int .u16 e.deep, .string e.strip, .string e.add] 39)).alloc (.cells #[.int .u8 0, .string ⟨#[]⟩, .int .u32 0, .int .u16 0, .string ⟨#[]⟩] 70)) := (below_box w _).alloc (by simp) _
  simp only [World.size_alloc] at W0
  rw [hE]
  clear hE
  obtain ⟨bk, dp, st, ad⟩ := e
  dsimp only at *
  go_enter Tryz.func41, Tryz.ntmps41
  go_wp2_with fail
  refine (HU _).mono ?_
  clear HU
  rintro x w1 ⟨rfl, hb1⟩
  have hb2 := hb0.trans (hb1.mono hb0.size)
  obtain ⟨d0, d1, d2, d3⟩ := (E0.later hb1).four
  have W1 := W0.later hb1
  obtain ⟨v0, v1, v2, v3, v4⟩ := W1.cells
  have f := W1.free
  have f0 := f 0
  have f1 := f 1
  have f2 := f 2
  have f3 := f 3
  have f4 := f 4
  dsimp only at d0 d1 d2 d3
  clear f E0 W0 W1 hb0 hb1 ha hk
  cases B
  · go_wp2_with fail
    exact bodyPost_ret (v := .agg #[.int .u8 0, .string ⟨#[]⟩, .int .u32 0, .int .u16 0, .string ⟨#[]⟩]) (by simp [results, Tryz.results41, go_sem, v0, v1, v2, v3, v4]) rfl ⟨rfl, below_five hb2 (by omega) _ _ _ _ _⟩
  · go_wp2_with fail
    exact bodyPost_ret (v := .agg #[.int .u8 2, .string ⟨#[]⟩, .int .u32 bk, .int .u16 dp, .string S]) (by simp [results, Tryz.results41, go_sem, v0, v1, v2, v3, v4]) rfl ⟨rfl, below_five hb2 (by omega) _ _ _ _ _⟩

set_option maxRecDepth 100000 in
set_option maxHeartbeats 1000000 in
theorem msg41 (m : M) (k : ByteArray) (w : World) (ha : m.add.size ≤ 1000000) (hk : k.size ≤ 1000000) :
    Calls Tryz.prog 40 #[mv m, .string k] w fun x w' => x = .returned (wv (byM m k.data.toList)) ∧ Below w.heap.size w w' := by
  have hM : byM m k.data.toList = if m.kind = 1 then toVal m.val else if m.kind = 3 then byE ⟨m.blk, m.deep, m.key, m.add⟩ k.data.toList else noWay := rfl
  have HE := fun w => edge42 ⟨m.blk, m.deep, m.key, m.add⟩ k w ha hk
  have hb0 : Below w.heap.size w ((w.alloc (.cells #[.int .u8 m.kind, .string m.key, .string m.val, .int .u32 m.blk, .int .u16 m.deep, .string m.add] 42)).alloc (.cells #[.int .u8 0, .string ⟨#[]⟩, .int .u32 0, .int .u16 0, .string ⟨#[]⟩] 70)) := (below_box w _).alloc (by simp) _
  have W0 := WBox.new (w.alloc (.cells #[.int .u8 m.kind, .string m.key, .string m.val, .int .u32 m.blk, .int .u16 m.deep, .string m.add] 42)) (.int .u8 0) (.string ⟨#[]⟩) (.int .u32 0) (.int .u16 0) (.string ⟨#[]⟩)
  simp only [World.size_alloc] at W0
  generalize byE ⟨m.blk, m.deep, m.key, m.add⟩ k.data.toList = y at *
  rw [hM]
  clear hM
  obtain ⟨kd, ky, vl, bk, dp, ad⟩ := m
  dsimp only at *
  by_cases h1 : kd = 1
  · subst h1
    clear HE
    rw [if_pos rfl]
    go_enter Tryz.func40, Tryz.ntmps40
    go_wp2_with fail
    exact bodyPost_ret (v := .agg #[.int .u8 1, .string vl, .int .u32 0, .int .u16 0, .string ⟨#[]⟩]) (by simp [results, Tryz.results40, go_sem]) rfl ⟨rfl, (below_box w _).alloc (by simp) _⟩
  · have h1' : (kd == 1) = false := by simp; omega
    rw [if_neg h1]
    by_cases h3 : kd = 3
    · subst h3
      rw [if_pos rfl]
      go_enter Tryz.func40, Tryz.ntmps40
      go_wp2_with fail
      refine (HE _).mono ?_
      clear HE
      rintro x w1 ⟨rfl, hb1⟩
      have hb2 := hb0.trans (hb1.mono hb0.size)
      have W1 := W0.later hb1
      obtain ⟨v0, v1, v2, v3, v4⟩ := W1.cells
      have f := W1.free
      have f0 := f 0
      have f1 := f 1
      have f2 := f 2
      have f3 := f 3
      have f4 := f 4
      clear f W0 W1 hb0 hb1 ha hk
      obtain ⟨yk, yv, yb, yd, yy⟩ := y
      dsimp only
      go_wp2_with fail
      exact bodyPost_ret (v := .agg #[.int .u8 yk, .string yv, .int .u32 yb, .int .u16 yd, .string yy]) (by simp [results, Tryz.results40, go_sem, v0, v1, v2, v3, v4]) rfl ⟨rfl, below_five hb2 (by omega) _ _ _ _ _⟩
    · have h3' : (kd == 3) = false := by simp; omega
      rw [if_neg h3]
      clear HE
      go_enter Tryz.func40, Tryz.ntmps40
      go_wp2_with fail
      exact bodyPost_ret (v := .agg #[.int .u8 0, .string ⟨#[]⟩, .int .u32 0, .int .u16 0, .string ⟨#[]⟩]) (by simp [results, Tryz.results40, go_sem]) rfl ⟨rfl, (below_box w _).alloc (by simp) _⟩

set_option maxRecDepth 100000 in
set_option maxHeartbeats 1000000 in
theorem pairs39 (a : Option Addr) (c : Nat) (ps : List Pr) (k : ByteArray) (w : World) (hl : ps.length ≤ 1000) (h : Prs w a ps) :
    Calls Tryz.prog 38 #[.slice a ps.length c, .string k] w fun x w' => x = .returned (wv (pairW ps k.data.toList)) ∧ Below w.heap.size w w' := by
  have HY := hid (fun (j : Nat) (x : Pr) (hx : ps[j]? = some x) (h1 : (ps.take j).any (isK k.data.toList) = false) (h2 : isK k.data.toList x = true) => show pairW ps k.data.toList = toVal x.val by unfold pairW getB getV getP; rw [found_at hx h1 h2]; rfl)
  have HN := hid (fun (h1 : ps.any (isK k.data.toList) = false) => show pairW ps k.data.toList = noWay by unfold pairW getB getP; rw [find_no (isK k.data.toList) ps h1]; rfl)
  generalize pairW ps k.data.toList = R at *
  have W0 := WBox.new w (.int .u8 0) (.string ⟨#[]⟩) (.int .u32 0) (.int .u16 0) (.string ⟨#[]⟩)
  have hb0 : Below w.heap.size w (w.alloc (.cells #[.int .u8 0, .string ⟨#[]⟩, .int .u32 0, .int .u16 0, .string ⟨#[]⟩] 70)) := below_box w _
  have h' := h.later hb0
  clear h
  generalize hn : ps.length = n at *
  have HL := hid hn
  clear hn
  go_enter Tryz.func38, Tryz.ntmps38
  go_wp2_with fail
  generalize (w.alloc (.cells #[.int .u8 0, .string ⟨#[]⟩, .int .u32 0, .int .u16 0, .string ⟨#[]⟩] 70)) = w0 at *
  generalize hk0 : w.heap.size = k0 at *
  go_loopw [9] (fun i wr => ∃ j : Nat, j ≤ n ∧ i = .int .i64 j ∧ Hid ((ps.take j).any (isK k.data.toList) = false) ∧ Below w0.heap.size w0 wr) (fun i _ => n - (intOf i).toNat)
  case atStart => exact ⟨0, Nat.zero_le _, rfl, by simp [Hid], Below.refl _ _⟩
  case round =>
    obtain ⟨j, hj, rfl, hjn, hb⟩ := hrel
    have hbw : Below k0 w wr := hb0.trans (hb.mono (by have := hb0.size; omega))
    have W1 := W0.later hb
    have hk1 := W1.lt
    have f := W1.free
    have f0 := f 0
    have f1 := f 1
    have f2 := f 2
    have f3 := f 3
    have f4 := f 4
    obtain ⟨v0, v1, v2, v3, v4⟩ := W1.cells
    clear f W1
    by_cases hlt : j < n
    · have hlt' : j < ps.length := by rw [HL.out]; exact hlt
      obtain ⟨b, off, rfl, h6⟩ := (h'.later hb).at hlt'
      have HV := hid (HY.out j ps[j] (List.getElem?_eq_getElem hlt') hjn.out)
      have hK := isK_str k ps[j]
      obtain ⟨x, HS⟩ : ∃ s, Hid (ps[j] = s) := ⟨_, hid rfl⟩
      rw [HS.out] at h6 HV hK
      have HK := hid hK
      clear hK
      obtain ⟨xk, xv⟩ := x
      obtain ⟨d0, d1⟩ := h6
      dsimp only at d0 d1 HV HK
      have hb2 := hb.alloc hb.size (.cells #[.string xk, .string xv] 50)
      have hb1 : Below k0 w (wr.alloc (.cells #[.string xk, .string xv] 50)) := hbw.alloc (by omega) _
      cases q : (xk.toList == k.toList)
      · have HF : Hid (isK k.data.toList ⟨xk, xv⟩ = false) := hid (by rw [← HK.out, q])
        go_wp2_with fail
        go_roundw
        case rel => exact ⟨j + 1, by omega, by go_num, by unfold Hid at *; rw [any_take_succ ps (isK k.data.toList) hlt', hjn, HS, HF]; rfl, hb2⟩
        case measure => simp [intOf]; omega
      · have HF : Hid (R = toVal xv) := hid (HV.out (by rw [← HK.out, q]))
        clear HV HK
        go_wp2_with fail
        refine bodyPost_ret (v := .agg #[.int .u8 1, .string xv, .int .u32 0, .int .u16 0, .string ⟨#[]⟩]) (by simp [results, Tryz.results38, go_sem, v0, v1, v2, v3, v4, hk1]) rfl ⟨by rw [HF.out]; rfl, ?_⟩
        rw [hk0]
        have q5 := below_five hbw (Nat.le_refl k0) (.int .u8 1) (.string xv) (.int .u32 0) (.int .u16 0) (.string ⟨#[]⟩)
        exact q5.alloc (by have := q5.size; omega) _
    · obtain rfl : j = n := by omega
      have HF : Hid (R = noWay) := hid (HN.out (by have := hjn.out; rw [← HL.out, List.take_length] at this; exact this))
      go_wp2_with fail
      refine bodyPost_ret (v := .agg #[.int .u8 0, .string ⟨#[]⟩, .int .u32 0, .int .u16 0, .string ⟨#[]⟩]) (by simp [results, Tryz.results38, go_sem, v0, v1, v2, v3, v4]) rfl ⟨by rw [HF.out]; rfl, ?_⟩
      rw [hk0]
      exact below_five hbw (Nat.le_refl _) _ _ _ _ _

end Go.Proofs.YtegmpfmhlpdmhaaGreat.Key

namespace Go.Proofs.YtegmpfmhlpdmhaaGreat.Key
open Go.RowKit
open Go.Op (bytesLess)

theorem le_leK (s k : ByteArray) : (bytesLess s.toList k.toList || s.toList == k.toList) = leK k.data.toList s := le_str s k

set_option maxRecDepth 100000 in
set_option maxHeartbeats 1000000 in
theorem kid23 (n : Nd) (p : Pl) (k : ByteArray) (w : World) (hl : n.pv.length ≤ 1000) (hl3 : n.ks.length ≤ 1000) (h : Lies w n p) :
    Calls Tryz.prog 42 #[nv n p, .string k] w fun x w' => x = .returned (.int .i64 (kidI n.pv n.ks.length k.data.toList)) ∧ Below w.heap.size w w' := by
  have hb0 : Below w.heap.size w (w.alloc (.cells #[.bool n.leaf, .slice p.a1 n.ps.length p.c1, .slice p.a2 n.pv.length p.c2, .slice p.a3 n.ks.length p.c3, .slice p.a4 n.bf.length p.c4] 46)) := below_box w _
  have N0 := NBox.new w (.bool n.leaf) (.slice p.a1 n.ps.length p.c1) (.slice p.a2 n.pv.length p.c2) (.slice p.a3 n.ks.length p.c3) (.slice p.a4 n.bf.length p.c4)
  obtain ⟨_, h2, _, _⟩ := h.later hb0
  obtain ⟨lf, ps, pv, ks, bf⟩ := n
  obtain ⟨a1, c1, a2, c2, a3, c3, a4, c4⟩ := p
  dsimp only [nv] at *
  clear h
  have HK := hid (show kidI pv ks.length k.data.toList = if ((ks.length : Int) - 1) < (kidC pv k.data.toList : Int) then (ks.length : Int) - 1 else (kidC pv k.data.toList : Int) from rfl)
  have hcl := count_le pv k.data.toList
  generalize kidI pv ks.length k.data.toList = R at *
  generalize ps.length = n1 at *
  generalize ks.length = n3 at *
  generalize bf.length = n4 at *
  generalize hn2 : pv.length = n2 at *
  have HN2 := hid hn2
  clear hn2
  obtain ⟨m0, m1, m2, m3, m4⟩ := N0.cells
  go_enter Tryz.func42, Tryz.ntmps42
  go_wp2_with fail
  generalize (w.alloc (.cells #[.bool lf, .slice a1 n1 c1, .slice a2 n2 c2, .slice a3 n3 c3, .slice a4 n4 c4] 46)) = w0 at *
  generalize hk0 : w.heap.size = k0 at *
  go_loop [5, 11] (fun q i => ∃ j : Nat, j ≤ n2 ∧ i = .int .i64 j ∧ q = .int .i64 (kidC (pv.take j) k.data.toList : Nat)) (fun _ i => n2 - (intOf i).toNat)
  case atStart => exact ⟨0, Nat.zero_le _, rfl, rfl⟩
  case round =>
    obtain ⟨j, hj, rfl, rfl⟩ := hrel
    by_cases hlt : j < n2
    · have hlt' : j < pv.length := by rw [HN2.out]; exact hlt
      obtain ⟨b, off, rfl, d0⟩ := h2.at hlt'
      have HC := hid (count_succ (k := k.data.toList) hlt')
      have hq : kidC (pv.take j) k.data.toList ≤ 1000 := by
        have := count_le (pv.take j) k.data.toList
        rw [List.length_take] at this
        omega
      obtain ⟨s, HS⟩ : ∃ s, Hid (pv[j] = s) := ⟨_, hid rfl⟩
      rw [HS.out] at d0 HC
      have hle := le_leK s k
      generalize kidC (pv.take j) k.data.toList = q at *
      cases r1 : bytesLess s.toList k.toList
      · cases r2 : (s.toList == k.toList)
        · rw [r1, r2] at hle
          have HF : Hid (kidC (pv.take (j + 1)) k.data.toList = q) := hid (by rw [HC.out, ← hle]; rfl)
          clear hle HC
          go_wp2_with fail
          go_round
          case rel => exact ⟨j + 1, by omega, by go_num, by rw [HF.out]⟩
          case measure => simp [intOf]; omega
        · rw [r1, r2] at hle
          have HF : Hid (kidC (pv.take (j + 1)) k.data.toList = q + 1) := hid (by rw [HC.out, ← hle]; rfl)
          clear hle HC
          go_wp2_with fail
          go_round
          case rel => exact ⟨j + 1, by omega, by go_num, by rw [HF.out]; go_num⟩
          case measure => simp [intOf]; omega
      · rw [r1] at hle
        have HF : Hid (kidC (pv.take (j + 1)) k.data.toList = q + 1) := hid (by rw [HC.out, ← hle]; rfl)
        clear hle HC
        go_wp2_with fail
        go_round
        case rel => exact ⟨j + 1, by omega, by go_num, by rw [HF.out]; go_num⟩
        case measure => simp [intOf]; omega
    · obtain rfl : j = n2 := by omega
      rw [← HN2.out, List.take_length, HN2.out]
      generalize kidC pv k.data.toList = q at *
      by_cases hd : ((n3 : Int) - 1) < (q : Int)
      · have HF : Hid (R = (n3 : Int) - 1) := hid (by rw [HK.out, if_pos hd])
        clear HK
        go_wp2_with fail
        go_ret
        refine ⟨?_, by first | exact hb0 | (rw [hk0]; exact hb0)⟩
        rw [HF.out]
        rfl
      · have HF : Hid (R = (q : Int)) := hid (by rw [HK.out, if_neg hd])
        clear HK
        go_wp2_with fail
        go_ret
        refine ⟨?_, by first | exact hb0 | (rw [hk0]; exact hb0)⟩
        rw [HF.out]
        rfl
end Go.Proofs.YtegmpfmhlpdmhaaGreat.Key

namespace Go.Proofs.YtegmpfmhlpdmhaaGreat.Key
open Go.RowKit
open Go.Op (bytesLess)

theorem below_three (w : World) (o0 o1 o2 : Obj) : Below w.heap.size w (((w.alloc o0).alloc o1).alloc o2) := ((below_box w o0).alloc (by simp) _).alloc (by simp; omega) _

set_option maxRecDepth 100000 in
set_option maxHeartbeats 2000000 in
theorem range61 (n : Nd) (p : Pl) (j : Nat) (w : World) (hl : n.pv.length ≤ 1000) (hl3 : n.ks.length ≤ 1000) (hj : j < n.ks.length) (h : Lies w n p) :
    Calls Tryz.prog 29 #[nv n p, .int .i64 j] w fun x w' => x = .returned (av (loOf n.pv j) (hiOf n.pv j) (endOf n.pv j)) ∧ Below w.heap.size w w' := by
  obtain ⟨_, h2, _, _⟩ := h
  obtain ⟨lf, ps, pv, ks, bf⟩ := n
  obtain ⟨a1, c1, a2, c2, a3, c3, a4, c4⟩ := p
  dsimp only [nv] at *
  have hlo : loOf pv j = if j ≤ pv.length then ahead pv j else ⟨#[]⟩ := rfl
  have hhi : hiOf pv j = if j < pv.length then pv.getD j default else ⟨#[]⟩ := rfl
  have hen : endOf pv j = decide (j < pv.length) := rfl
  have hj3 : ¬ ks.length ≤ j := by omega
  have hj3' : (j : Int) < (ks.length : Int) := by omega
  cases j with
  | zero =>
    rw [if_pos (Nat.zero_le _)] at hlo
    rw [hlo, show ahead pv 0 = ⟨#[]⟩ from rfl, show ((0 : Nat) : Int) = 0 from rfl]
    by_cases e : 0 < pv.length
    · obtain ⟨b, off, rfl, d0⟩ := h2.at e
      have hb := World.block_lt_of_cell? w _ d0
      rw [hhi, if_pos e, hen, decide_eq_true e, getD_at e]
      simp only [Nat.add_zero] at d0
      generalize pv[0] = s at *
      clear hlo hhi hen h2
      have hb' : b < w.heap.size + 1 := Nat.lt_succ_of_lt hb
      have hb'' : b < w.heap.size + 1 + 1 := Nat.lt_succ_of_lt hb'
      have e' : (0 : Int) < (pv.length : Int) := by omega
      generalize ps.length = n1 at *
      generalize pv.length = n2 at *
      generalize ks.length = n3 at *
      generalize bf.length = n4 at *
      dsimp only at hb hb' hb''
      go_enter Tryz.func29, Tryz.ntmps29
      go_wp2_with fail
      exact bodyPost_ret (v := .agg #[.string ⟨#[]⟩, .string s, .bool true]) (by simp [results, Tryz.results29, go_sem]) rfl ⟨rfl, below_three _ _ _ _⟩
    · have e0 : pv.length = 0 := by omega
      rw [hhi, if_neg e, hen, decide_eq_false e]
      rw [e0]
      clear hlo hhi hen h2 e e0
      generalize ps.length = n1 at *
      generalize ks.length = n3 at *
      generalize bf.length = n4 at *
      go_enter Tryz.func29, Tryz.ntmps29
      go_wp2_with fail
      exact bodyPost_ret (v := .agg #[.string ⟨#[]⟩, .string ⟨#[]⟩, .bool false]) (by simp [results, Tryz.results29, go_sem]) rfl ⟨rfl, below_three _ _ _ _⟩
  | succ i =>
    rw [show ((i + 1 : Nat) : Int) = (i : Int) + 1 from rfl] at *
    have hi1 : ¬ ((i : Int) + 1) < 0 := by omega
    by_cases e1 : i < pv.length
    · have e1i : (i : Int) < (pv.length : Int) := by omega
      rw [if_pos (by omega), ahead_at e1] at hlo
      by_cases e2 : i + 1 < pv.length
      · obtain ⟨b, off, rfl, d0, d1⟩ := h2.at2 e1 e2
        have hb := World.block_lt_of_cell? w _ d0
        rw [hlo, hhi, if_pos e2, hen, decide_eq_true e2, getD_at e2]
        have e2i : ((i : Int) + 1) < (pv.length : Int) := by omega
        generalize pv[i] = s at *
        generalize pv[i + 1] = s' at *
        clear hlo hhi hen h2
        have hb' : b < w.heap.size + 1 := Nat.lt_succ_of_lt hb
        have hb'' : b < w.heap.size + 1 + 1 := Nat.lt_succ_of_lt hb'
        dsimp only at hb hb' hb''
        generalize ps.length = n1 at *
        generalize pv.length = n2 at *
        generalize ks.length = n3 at *
        generalize bf.length = n4 at *
        go_enter Tryz.func29, Tryz.ntmps29
        go_wp2_with fail
        exact bodyPost_ret (v := .agg #[.string s, .string s', .bool true]) (by simp [results, Tryz.results29, go_sem]) rfl ⟨rfl, below_three _ _ _ _⟩
      · obtain ⟨b, off, rfl, d0⟩ := h2.at e1
        have hb := World.block_lt_of_cell? w _ d0
        rw [hlo, hhi, if_neg e2, hen, decide_eq_false e2]
        have e2i : ¬ ((i : Int) + 1) < (pv.length : Int) := by omega
        generalize pv[i] = s at *
        clear hlo hhi hen h2
        have hb' : b < w.heap.size + 1 := Nat.lt_succ_of_lt hb
        have hb'' : b < w.heap.size + 1 + 1 := Nat.lt_succ_of_lt hb'
        dsimp only at hb hb' hb''
        generalize ps.length = n1 at *
        generalize pv.length = n2 at *
        generalize ks.length = n3 at *
        generalize bf.length = n4 at *
        go_enter Tryz.func29, Tryz.ntmps29
        go_wp2_with fail
        exact bodyPost_ret (v := .agg #[.string s, .string ⟨#[]⟩, .bool false]) (by simp [results, Tryz.results29, go_sem]) rfl ⟨rfl, below_three _ _ _ _⟩
    · have e2 : ¬ i + 1 < pv.length := by omega
      have e1i : ¬ (i : Int) < (pv.length : Int) := by omega
      have e2i : ¬ ((i : Int) + 1) < (pv.length : Int) := by omega
      rw [if_neg (by omega)] at hlo
      rw [hlo, hhi, if_neg e2, hen, decide_eq_false e2]
      clear hlo hhi hen h2
      generalize ps.length = n1 at *
      generalize pv.length = n2 at *
      generalize ks.length = n3 at *
      generalize bf.length = n4 at *
      go_enter Tryz.func29, Tryz.ntmps29
      go_wp2_with fail
      exact bodyPost_ret (v := .agg #[.string ⟨#[]⟩, .string ⟨#[]⟩, .bool false]) (by simp [results, Tryz.results29, go_sem]) rfl ⟨rfl, below_three _ _ _ _⟩

end Go.Proofs.YtegmpfmhlpdmhaaGreat.Key

namespace Go.Proofs.YtegmpfmhlpdmhaaGreat.Key
open Go.RowKit Draw
open Go.Op (bytesLess)

theorem WBox.put {w : World} {k : Nat} {v0 v1 v2 v3 v4 : Value} (h : WBox w k v0 v1 v2 v3 v4) (y0 y1 y2 y3 y4 : Value) :
    WBox (((((w.setCell ⟨k, 0, none⟩ y0).setCell ⟨k, 1, none⟩ y1).setCell ⟨k, 2, none⟩ y2).setCell ⟨k, 3, none⟩ y3).setCell ⟨k, 4, none⟩ y4) k y0 y1 y2 y3 y4 :=
  Go.Joins.block_setCell (Go.Joins.block_setCell (Go.Joins.block_setCell (Go.Joins.block_setCell (Go.Joins.block_setCell h y0) y1) y2) y3) y4
theorem NBox.beside {w : World} {k k' : Nat} {v0 v1 v2 v3 v4 : Value} (h : NBox w k v0 v1 v2 v3 v4) (hne : k < k') (y0 y1 y2 y3 y4 : Value) :
    NBox (((((w.setCell ⟨k', 0, none⟩ y0).setCell ⟨k', 1, none⟩ y1).setCell ⟨k', 2, none⟩ y2).setCell ⟨k', 3, none⟩ y3).setCell ⟨k', 4, none⟩ y4) k v0 v1 v2 v3 v4 := by
  unfold NBox
  rw [Below.heap_setCell _ _ _ _ (Nat.ne_of_lt hne), Below.heap_setCell _ _ _ _ (Nat.ne_of_lt hne), Below.heap_setCell _ _ _ _ (Nat.ne_of_lt hne), Below.heap_setCell _ _ _ _ (Nat.ne_of_lt hne), Below.heap_setCell _ _ _ _ (Nat.ne_of_lt hne)]
  exact h
theorem last40' (a : Option Addr) (c : Nat) (l : List M) (k : ByteArray) (w : World) (hl : l.length ≤ maxLen) (hk : ∀ m ∈ l, m.key.size ≤ 1000) (hm : Msgs w a l) :
    Calls Tryz.prog 39 #[.slice a l.length c, .string k] w fun x w' => x = .returned (.int .i64 (lastI l k.data.toList)) ∧ Below w.heap.size w w' := by
  obtain ⟨lk, rfl⟩ := msOf_of l hk
  have := last40 a c lk k w (by rw [← msOf_length]; exact hl) hm
  rw [msOf_length]
  exact this

set_option maxRecDepth 100000 in
set_option maxHeartbeats 2000000 in
theorem step19 (n : Nd) (p : Pl) (k : ByteArray) (w : World) (hf : Small n) (hk : k.size ≤ 1000) (h : Lies w n p) :
    Calls Tryz.prog 22 #[nv n p, .string k] w fun x w' => x = .returned (wv (stepW n k.data.toList)) ∧ Below w.heap.size w w' := by
  have hb0 : Below w.heap.size w ((w.alloc (.cells #[.bool n.leaf, .slice p.a1 n.ps.length p.c1, .slice p.a2 n.pv.length p.c2, .slice p.a3 n.ks.length p.c3, .slice p.a4 n.bf.length p.c4] 46)).alloc (.cells #[.int .u8 0, .string ⟨#[]⟩, .int .u32 0, .int .u16 0, .string ⟨#[]⟩] 70)) := (below_box w _).alloc (by simp) _
  have N0 := (NBox.new w (.bool n.leaf) (.slice p.a1 n.ps.length p.c1) (.slice p.a2 n.pv.length p.c2) (.slice p.a3 n.ks.length p.c3) (.slice p.a4 n.bf.length p.c4)).alloc (.cells #[.int .u8 0, .string ⟨#[]⟩, .int .u32 0, .int .u16 0, .string ⟨#[]⟩] 70)
  have W0 := WBox.new (w.alloc (.cells #[.bool n.leaf, .slice p.a1 n.ps.length p.c1, .slice p.a2 n.pv.length p.c2, .slice p.a3 n.ks.length p.c3, .slice p.a4 n.bf.length p.c4] 46)) (.int .u8 0) (.string ⟨#[]⟩) (.int .u32 0) (.int .u16 0) (.string ⟨#[]⟩)
  simp only [World.size_alloc] at W0
  have HM := hid (may12 n p _ hf.few (h.later hb0))
  obtain ⟨few, kb, ab, ae, _, _⟩ := hf
  have hf1 := few.l1
  have hf2 := few.l2
  have hf3 := few.l3
  have hf4 := few.l4
  have HP := hid (fun w' (h : Prs w' p.a1 n.ps) => pairs39 p.a1 p.c1 n.ps k w' few.l1 h)
  have HL := hid (fun w' (h : Msgs w' p.a4 n.bf) => last40' p.a4 p.c4 n.bf k w' (by unfold maxLen; omega) kb h)
  have HK := hid (fun w' (h : Lies w' n p) => kid23 n p k w' few.l2 few.l3 h)
  have hS : stepW n k.data.toList = if mayI n = 0 then if n.leaf then pairW n.ps k.data.toList else if 0 ≤ lastI n.bf k.data.toList then byM (n.bf.getD (lastI n.bf k.data.toList).toNat M.nil) k.data.toList else byE (n.ks.getD (kidC n.pv k.data.toList) E.nil) k.data.toList else noWay := rfl
  have hMF := fun h hl => @may_fork n h hl
  have HLC := hid (lastI_cases n.bf k.data.toList)
  have hh := hid h
  by_cases hr : mayI n = 0
  case neg =>
    rw [if_neg hr] at hS
    rw [hS]
    clear hS hMF HLC HP HL HK hh h few kb ab ae
    generalize mayI n = R at *
    obtain ⟨lf, ps, pv, ks, bf⟩ := n
    obtain ⟨a1, c1, a2, c2, a3, c3, a4, c4⟩ := p
    dsimp only [nv] at *
    generalize ps.length = n1 at *
    generalize pv.length = n2 at *
    generalize ks.length = n3 at *
    generalize bf.length = n4 at *
    go_enter Tryz.func22, Tryz.ntmps22
    go_wp2_with fail
    refine HM.out.mono ?_
    clear HM
    rintro x w1 ⟨rfl, hb1⟩
    have hb2 := hb0.trans (hb1.mono hb0.size)
    have W1 := W0.later hb1
    obtain ⟨v0, v1, v2, v3, v4⟩ := W1.cells
    have f := W1.free
    have f0 := f 0
    have f1 := f 1
    have f2 := f 2
    have f3 := f 3
    have f4 := f 4
    have hr' : (R == 0) = false := by simpa using hr
    clear f W0 W1 hb0 hb1 N0
    go_wp2_with fail
    exact bodyPost_ret (v := .agg #[.int .u8 0, .string ⟨#[]⟩, .int .u32 0, .int .u16 0, .string ⟨#[]⟩]) (by simp [results, Tryz.results22, go_sem, v0, v1, v2, v3, v4]) rfl ⟨rfl, below_five hb2 (by omega) _ _ _ _ _⟩
  case pos =>
  rw [if_pos hr] at hS
  rw [hr] at HM
  have hMF := hMF hr
  clear hr
  cases hlf : n.leaf
  case true =>
    rw [hlf, if_pos rfl] at hS
    rw [hS]
    clear hS hMF HLC HL HK h few kb ab ae
    generalize pairW n.ps k.data.toList = y at *
    obtain ⟨lf, ps, pv, ks, bf⟩ := n
    obtain ⟨a1, c1, a2, c2, a3, c3, a4, c4⟩ := p
    dsimp only [nv] at *
    subst hlf
    have h1 := hid hh.out.h1
    dsimp only at h1
    clear hh
    generalize ps.length = n1 at *
    generalize pv.length = n2 at *
    generalize ks.length = n3 at *
    generalize bf.length = n4 at *
    go_enter Tryz.func22, Tryz.ntmps22
    go_wp2_with fail
    refine HM.out.mono ?_
    clear HM
    rintro x w1 ⟨rfl, hb1⟩
    have hb2 := hb0.trans (hb1.mono hb0.size)
    have W1 := W0.later hb1
    obtain ⟨m0, m1, m2, m3, m4⟩ := (N0.later hb1).cells
    clear W0 hb0 hb1 N0
    go_wp2_with fail
    refine (HP.out w1 (h1.out.later hb2)).mono ?_
    clear HP m0 m1 m2 m3 m4
    rintro x w2 ⟨rfl, hb3⟩
    have W2 := W1.later hb3
    have hb4 := hb2.trans (hb3.mono hb2.size)
    obtain ⟨v0, v1, v2, v3, v4⟩ := W2.cells
    have f := W2.free
    have f0 := f 0
    have f1 := f 1
    have f2 := f 2
    have f3 := f 3
    have f4 := f 4
    clear f W1 W2 hb3 hb2
    obtain ⟨yk, yv, yb, yd, yy⟩ := y
    dsimp only
    go_wp2_with fail
    exact bodyPost_ret (v := .agg #[.int .u8 yk, .string yv, .int .u32 yb, .int .u16 yd, .string yy]) (by simp [results, Tryz.results22, go_sem, v0, v1, v2, v3, v4]) rfl ⟨rfl, below_five hb4 (by omega) _ _ _ _ _⟩
  case false =>
  rw [hlf, if_neg (by simp)] at hS
  obtain ⟨hlen, hup⟩ := hMF hlf
  rcases HLC.out with ⟨i, hi, hil⟩ | hi
  case inl =>
    rw [hi, if_pos (by omega), Int.toNat_natCast, getD_at hil] at hS
    rw [hi] at HL
    rw [hS]
    clear hS hMF HLC HP HK h few kb ae hup
    have HB := hid (fun w' => msg41 n.bf[i] k w' (by have := ab n.bf[i] (List.getElem_mem hil); omega) (by omega))
    generalize byM n.bf[i] k.data.toList = y at *
    clear ab hi
    obtain ⟨b, off, ha4, h6⟩ := hh.out.h4.at hil
    obtain ⟨m, HS⟩ : ∃ m, Hid (n.bf[i] = m) := ⟨_, hid rfl⟩
    rw [HS.out] at h6 HB
    clear HS
    have h4 := hid hh.out.h4
    clear hh
    obtain ⟨lf, ps, pv, ks, bf⟩ := n
    obtain ⟨a1, c1, a2, c2, a3, c3, a4, c4⟩ := p
    dsimp only [nv] at *
    subst hlf ha4
    obtain ⟨kd, ky, vl, bk, dp, ad⟩ := m
    try dsimp only at HB
    generalize ps.length = n1 at *
    generalize pv.length = n2 at *
    generalize ks.length = n3 at *
    generalize bf.length = n4 at *
    go_enter Tryz.func22, Tryz.ntmps22
    go_wp2_with fail
    refine HM.out.mono ?_
    clear HM
    rintro x w1 ⟨rfl, hb1⟩
    have hb2 := hb0.trans (hb1.mono hb0.size)
    have W1 := W0.later hb1
    have N1 := N0.later hb1
    obtain ⟨m0, m1, m2, m3, m4⟩ := N1.cells
    clear W0 hb0 hb1 N0
    go_wp2_with fail
    refine (HL.out w1 (h4.out.later hb2)).mono ?_
    clear HL m0 m1 m2 m3 m4
    rintro x w2 ⟨rfl, hb3⟩
    have W2 := W1.later hb3
    have N2 := N1.later hb3
    have hb4 := hb2.trans (hb3.mono hb2.size)
    obtain ⟨d0, d1, d2, d3, d4, d5⟩ := h6.later hb4
    obtain ⟨m0, m1, m2, m3, m4⟩ := N2.cells
    have hi0 : (0 : Int) ≤ (i : Int) := by omega
    dsimp only at d0 d1 d2 d3 d4 d5
    clear W1 N1 hb3 hb2
    go_wp2_with fail
    refine (HB.out w2).mono ?_
    clear HB m0 m1 m2 m3 m4 d0 d1 d2 d3 d4 d5
    rintro x w3 ⟨rfl, hb5⟩
    have W3 := W2.later hb5
    have hb6 := hb4.trans (hb5.mono hb4.size)
    obtain ⟨v0, v1, v2, v3, v4⟩ := W3.cells
    have f := W3.free
    have f0 := f 0
    have f1 := f 1
    have f2 := f 2
    have f3 := f 3
    have f4 := f 4
    clear f W2 W3 hb4 hb5
    obtain ⟨yk, yv, yb, yd, yy⟩ := y
    dsimp only
    go_wp2_with fail
    exact bodyPost_ret (v := .agg #[.int .u8 yk, .string yv, .int .u32 yb, .int .u16 yd, .string yy]) (by simp [results, Tryz.results22, go_sem, v0, v1, v2, v3, v4]) rfl ⟨rfl, below_five hb6 (by omega) _ _ _ _ _⟩
  case inr =>
    rw [hi, if_neg (by omega)] at hS
    rw [hi] at HL
    rw [hS]
    obtain ⟨hk1, _, hk3⟩ := kid_same (k := k.data.toList) hup hlen
    rw [getD_at hk3]
    rw [hk1] at HK
    clear hS hMF HLC HP h few kb ab hup hk1 hlen
    have HB := hid (fun w' => edge42 (n.ks[kidC n.pv k.data.toList]) k w' (by have := ae _ (List.getElem_mem hk3); omega) (by omega))
    generalize byE (n.ks[kidC n.pv k.data.toList]) k.data.toList = y at *
    clear ae hi
    obtain ⟨b, off, ha3, h6⟩ := hh.out.h3.at hk3
    obtain ⟨e, HS⟩ : ∃ m, Hid (n.ks[kidC n.pv k.data.toList] = m) := ⟨_, hid rfl⟩
    rw [HS.out] at h6 HB
    clear HS
    generalize kidC n.pv k.data.toList = q at *
    have h4 := hid hh.out.h4
    have HK' := hid (fun w' (hb : Below w.heap.size w w') => HK.out w' (hh.out.later hb))
    clear hh HK
    obtain ⟨lf, ps, pv, ks, bf⟩ := n
    obtain ⟨a1, c1, a2, c2, a3, c3, a4, c4⟩ := p
    dsimp only [nv] at *
    subst hlf ha3
    obtain ⟨bk, dp, st, ad⟩ := e
    try dsimp only at HB
    generalize ps.length = n1 at *
    generalize pv.length = n2 at *
    generalize ks.length = n3 at *
    generalize bf.length = n4 at *
    go_enter Tryz.func22, Tryz.ntmps22
    go_wp2_with fail
    refine HM.out.mono ?_
    clear HM
    rintro x w1 ⟨rfl, hb1⟩
    have hb2 := hb0.trans (hb1.mono hb0.size)
    have W1 := W0.later hb1
    have N1 := N0.later hb1
    obtain ⟨m0, m1, m2, m3, m4⟩ := N1.cells
    clear W0 hb0 hb1 N0
    go_wp2_with fail
    refine (HL.out w1 (h4.out.later hb2)).mono ?_
    clear HL m0 m1 m2 m3 m4
    rintro x w2 ⟨rfl, hb3⟩
    have W2 := W1.later hb3
    have N2 := N1.later hb3
    have hb4 := hb2.trans (hb3.mono hb2.size)
    clear W1 N1 hb3 hb2 h4
    go_wp2_with fail
    obtain ⟨yk, yv, yb, yd, yy⟩ := y
    try dsimp only at HB
    generalize hk0 : w.heap.size = k0 at *
    refine wp_region_each [(some 29, [], false), (some 30, [(0, 29)], false), (some 31, [], false), (some 32, [], false), (some 33, [(2, 31), (3, 32)], false), (some 34, [(1, 30), (4, 33)], false), (some 35, [(5, 34)], false), (some 36, [], false), (some 37, [(6, 35), (7, 36)], false), (none, [(8, 37)], true)]
      (fun u => Below k0 w u ∧ NBox u k0 (.bool false) (.slice a1 n1 c1) (.slice a2 n2 c2) (.slice (some ⟨b, off, none⟩) n3 c3) (.slice a4 n4 c4) ∧ ∃ v0 v1 v2 v3 v4, WBox u (k0 + 1) v0 v1 v2 v3 v4)
      (fun i u u' => if i = 9 then (Below k0 w u' ∧ NBox u' k0 (.bool false) (.slice a1 n1 c1) (.slice a2 n2 c2) (.slice (some ⟨b, off, none⟩) n3 c3) (.slice a4 n4 c4) ∧ ∃ v0 v1 v2 v3 v4, WBox u' (k0 + 1) v0 v1 v2 v3 v4) else Below u.heap.size u u')
      (fun i v u => match i with | 0 => v = .pointer (some ⟨k0, 3, none⟩) | 1 => v = .slice (some ⟨b, off, none⟩) n3 c3 | 2 => v = .agg #[.bool false, .slice a1 n1 c1, .slice a2 n2 c2, .slice (some ⟨b, off, none⟩) n3 c3, .slice a4 n4 c4] | 3 => v = .string k | 4 => v = .int .i64 q | 5 => v = .pointer (some ⟨b, off + q * 4, none⟩) | 6 => v = ev ⟨bk, dp, st, ad⟩ | 7 => v = .string k | 8 => v = wv ⟨yk, yv, yb, yd, yy⟩ | 9 => WBox u (k0 + 1) (.int .u8 yk) (.string yv) (.int .u32 yb) (.int .u16 yd) (.string yy) | _ => True)
      (by kernel_rfl) (by kernel_rfl) ⟨hb4.drew, N2, _, _, _, _, _, W2⟩ (fun i u u' h h' => ?_) (fun i j v u u' hn h h' hv => ?_) ⟨?_, ?_, ?_, ?_, ?_, ?_, ?_, ?_, ?_, ?_, trivial⟩ ?_
    · split at h'
      · exact h'
      · obtain ⟨g1, g2, v0, v1, v2, v3, v4, g3⟩ := h
        exact ⟨g1.trans (h'.mono (by rw [← hk0]; exact g1.size)), g2.later h', v0, v1, v2, v3, v4, g3.later h'⟩
    · match j with
      | 0 => exact hv
      | 1 => exact hv
      | 2 => exact hv
      | 3 => exact hv
      | 4 => exact hv
      | 5 => exact hv
      | 6 => exact hv
      | 7 => exact hv
      | 8 => exact hv
      | 9 =>
        by_cases hi9 : i = 9
        · subst hi9; exact absurd hn (by decide)
        · rw [if_neg hi9] at h'
          exact WBox.later hv h'
      | _ + 10 => trivial
    · rintro u ⟨g1, g2, _⟩
      exact opYields_val _ (by kernel_rfl) (by go_simp) ⟨Below.refl _ _, rfl⟩
    · rintro u ⟨g1, g2, _⟩ _ rfl
      obtain ⟨m0, m1, m2, m3, m4⟩ := g2.cells
      exact opYields_val (.slice (some ⟨b, off, none⟩) n3 c3) (by kernel_rfl) (by go_simp) ⟨Below.refl _ _, rfl⟩
    · rintro u ⟨g1, g2, _⟩
      obtain ⟨m0, m1, m2, m3, m4⟩ := g2.cells
      exact opYields_val (.agg #[.bool false, .slice a1 n1 c1, .slice a2 n2 c2, .slice (some ⟨b, off, none⟩) n3 c3, .slice a4 n4 c4]) (by kernel_rfl) (by go_simp) ⟨Below.refl _ _, rfl⟩
    · rintro u ⟨g1, g2, _⟩
      exact opYields_val _ (by kernel_rfl) (by go_simp) ⟨Below.refl _ _, rfl⟩
    · rintro u ⟨g1, g2, _⟩ _ rfl _ rfl
      exact opYields_call 42 #[.agg #[.bool false, .slice a1 n1 c1, .slice a2 n2 c2, .slice (some ⟨b, off, none⟩) n3 c3, .slice a4 n4 c4], .string k] (by kernel_rfl) (by go_simp) ((HK'.out u g1).mono fun x u' ⟨h1, h2⟩ => ⟨_, h1, h2, rfl⟩)
    · rintro u ⟨g1, g2, _⟩ _ rfl _ rfl
      exact opYields_val (.pointer (some ⟨b, off + q * 4, none⟩)) (by kernel_rfl) (by go_simp) ⟨Below.refl _ _, rfl⟩
    · rintro u ⟨g1, g2, _⟩ _ rfl
      obtain ⟨d0, d1, d2, d3⟩ := h6.below g1 (by rw [← hk0]; exact h6.lt)
      exact opYields_val (ev ⟨bk, dp, st, ad⟩) (by kernel_rfl) (by go_simp) ⟨Below.refl _ _, rfl⟩
    · rintro u ⟨g1, g2, _⟩
      exact opYields_val _ (by kernel_rfl) (by go_simp) ⟨Below.refl _ _, rfl⟩
    · rintro u ⟨g1, g2, _⟩ _ rfl _ rfl
      exact opYields_call 41 #[ev ⟨bk, dp, st, ad⟩, .string k] (by kernel_rfl) (by go_simp) ((HB.out u).mono fun x u' ⟨h1, h2⟩ => ⟨_, h1, h2, rfl⟩)
    · rintro u ⟨g1, g2, v0, v1, v2, v3, v4, g3⟩ _ rfl
      obtain ⟨z0, z1, z2, z3, z4⟩ := g3.cells
      have f := g3.free
      have f0 := f 0
      have f1 := f 1
      have f2 := f 2
      have f3 := f 3
      have f4 := f 4
      clear f
      refine opYields_put (u' := ((((u.setCell ⟨k0 + 1, 0, none⟩ (.int .u8 yk)).setCell ⟨k0 + 1, 1, none⟩ (.string yv)).setCell ⟨k0 + 1, 2, none⟩ (.int .u32 yb)).setCell ⟨k0 + 1, 3, none⟩ (.int .u16 yd)).setCell ⟨k0 + 1, 4, none⟩ (.string yy)) (by kernel_rfl) (by go_simp) ⟨?_, g3.put _ _ _ _ _⟩
      exact ⟨below_five g1 (by omega) _ _ _ _ _, g2.beside (by omega) _ _ _ _ _, _, _, _, _, _, g3.put _ _ _ _ _⟩
    · rintro u ⟨g1, g2, _⟩ _ _ _ _ _ _ _ _ _ v hv
      simp only [givingAll, Act.put, List.setIfInBounds_toArray, List.set_cons_zero, List.set_cons_succ]
      obtain ⟨v0, v1, v2, v3, v4⟩ := WBox.cells hv
      go_wp2_with fail
      exact bodyPost_ret (v := .agg #[.int .u8 yk, .string yv, .int .u32 yb, .int .u16 yd, .string yy]) (by simp [results, Tryz.results22, go_sem, v0, v1, v2, v3, v4]) rfl ⟨rfl, by first | exact g1 | (rw [hk0]; exact g1)⟩
end Go.Proofs.YtegmpfmhlpdmhaaGreat.Key
