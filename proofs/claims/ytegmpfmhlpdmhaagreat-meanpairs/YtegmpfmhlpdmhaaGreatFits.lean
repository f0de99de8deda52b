/-
  Contracts of Right's closure, and of leadsBy.
-/
import Derived.Test.YtegmpfmhlpdmhaaGreatGMap
namespace Go.Proofs.YtegmpfmhlpdmhaaGreat.Key
open Go.RowKit Go.Maps
set_option linter.unusedVariables false
set_option linter.unusedSimpArgs false

def fitF (f : Int → Option Int) (b d : Int) : Bool := match f b with | some t => decide (t = d) && decide (d < 65535) | none => false
set_option maxRecDepth 100000 in
set_option maxHeartbeats 600000 in
theorem fits26 (cb mb n : Nat) (f : Int → Option Int) (b d : Int) (w : World) (hc : w.cell? ⟨cb, 0, none⟩ = some (.map (some mb))) (hm : GMap w 35 .u16 mb n f) (hb : (Lit.int .u32 b).wf = true) :
    Calls Tryz.prog 53 #[.int .u32 b, .int .u16 d, .pointer (some ⟨cb, 0, none⟩)] w fun e w' => e = .returned (.bool (fitF f b d)) ∧ w' = w := by
  have HF := hid (show fitF f b d = match f b with | some t => decide (t = d) && decide (d < 65535) | none => false from rfl)
  generalize fitF f b d = F at *
  obtain ⟨y, hy⟩ : ∃ y, f b = y := ⟨_, rfl⟩
  have HY := hid hy
  rw [hy] at HF
  clear hy
  cases y with
  | none =>
    go_enter Tryz.func53, Tryz.ntmps53
    go_wp2_with (first | (at_lookup; refine look rfl _ _ 107 rfl 35 .u16 Tryz.underlying107 Tryz.underlying35 (zero35 _) mb n f rfl hm b rfl hb ?_; rw [HY.out]; dsimp only [Option.getD, Option.isSome]) | fail)
    go_ret
    exact ⟨ret_bool HF.out.symm, rfl⟩
  | some t =>
    have HF : Hid (F = (decide (t = d) && decide (d < 65535))) := HF
    by_cases h1 : t = d
    · have h1' : (t == d) = true := by simpa using h1
      have HF2 : Hid (F = decide (d < 65535)) := hid (by rw [HF.out, decide_eq_true h1]; rfl)
      clear h1 HF
      go_enter Tryz.func53, Tryz.ntmps53
      go_wp2_with (first | (at_lookup; refine look rfl _ _ 107 rfl 35 .u16 Tryz.underlying107 Tryz.underlying35 (zero35 _) mb n f rfl hm b rfl hb ?_; rw [HY.out]; dsimp only [Option.getD, Option.isSome]) | fail)
      go_ret
      exact ⟨ret_bool HF2.out.symm, rfl⟩
    · have h1' : (t == d) = false := by simpa using h1
      have HF2 : Hid (F = false) := hid (by rw [HF.out, decide_eq_false h1]; rfl)
      clear h1 HF
      go_enter Tryz.func53, Tryz.ntmps53
      go_wp2_with (first | (at_lookup; refine look rfl _ _ 107 rfl 35 .u16 Tryz.underlying107 Tryz.underlying35 (zero35 _) mb n f rfl hm b rfl hb ?_; rw [HY.out]; dsimp only [Option.getD, Option.isSome]) | fail)
      go_ret
      exact ⟨ret_bool HF2.out.symm, rfl⟩

def gotoF (f : Int → Option Int) (m : M) : Bool := if m.kind = 3 then fitF f m.blk m.deep else true
def leadsF (f : Int → Option Int) (n : Nd) : Bool := n.ks.all (fun e => fitF f e.blk e.deep) && n.bf.all (gotoF f)
theorem all_take_succ {α : Type} (l : List α) (p : α → Bool) {j : Nat} (h : j < l.length) : (l.take (j + 1)).all p = ((l.take j).all p && p l[j]) := by
  rw [List.take_succ_eq_append_getElem h, List.all_append]
  simp
theorem all_not {α : Type} (l : List α) (p : α → Bool) {j : Nat} (h : j < l.length) (hp : p l[j] = false) : l.all p = false := by
  rw [List.all_eq_false]
  exact ⟨l[j], List.getElem_mem h, by rw [hp]; simp⟩
set_option maxRecDepth 100000 in
set_option maxHeartbeats 800000 in
theorem leads27 (cb mb nn : Nat) (f : Int → Option Int) (n : Nd) (p : Pl) (w : World) (hf : Few n) (hi : n.In) (h : Lies w n p) (hc : w.cell? ⟨cb, 0, none⟩ = some (.map (some mb))) (hm : GMap w 35 .u16 mb nn f) :
    Calls Tryz.prog 54 #[nv n p, .func (.func 53) #[] #[.pointer (some ⟨cb, 0, none⟩)]] w fun e w' => e = .returned (.bool (leadsF f n)) ∧ Below w.heap.size w w' := by
  have hb0 : Below w.heap.size w (w.alloc (.cells #[.bool n.leaf, .slice p.a1 n.ps.length p.c1, .slice p.a2 n.pv.length p.c2, .slice p.a3 n.ks.length p.c3, .slice p.a4 n.bf.length p.c4] 46)) := below_box w _
  have N0 := NBox.new w (.bool n.leaf) (.slice p.a1 n.ps.length p.c1) (.slice p.a2 n.pv.length p.c2) (.slice p.a3 n.ks.length p.c3) (.slice p.a4 n.bf.length p.c4)
  have hg : leadsF f n = (n.ks.all (fun e => fitF f e.blk e.deep) && n.bf.all (gotoF f)) := rfl
  have HF := hid (fun b d w' (hb : Below w.heap.size w w') (hbk : (Lit.int .u32 b).wf = true) => fits26 cb mb nn f b d w' ((hb.cell (p := ⟨cb, 0, none⟩) (World.block_lt_of_cell? w _ hc)).trans hc) (hm.later hb) hbk)
  obtain ⟨l1, l2, l3, l4⟩ := hf
  have IK := hid (fun e he => (hi.ks e he).blk)
  have IM := hid (fun m hm => (hi.bf m hm).blk)
  have h3 := hid h.h3
  have h4 := hid h.h4
  clear h hm hc hi
  generalize leadsF f n = G at *
  obtain ⟨lf, ps, pv, ks, bf⟩ := n
  obtain ⟨a1, c1, a2, c2, a3, c3, a4, c4⟩ := p
  dsimp only [nv] at *
  generalize ps.length = n1 at *
  generalize pv.length = n2 at *
  generalize hn3 : ks.length = n3 at *
  generalize hn4 : bf.length = n4 at *
  have HN3 := hid hn3
  have HN4 := hid hn4
  have HG := hid hg
  clear hn3 hn4 hg
  go_enter Tryz.func54, Tryz.ntmps54
  go_wp2_with fail
  generalize (w.alloc (.cells #[.bool lf, .slice a1 n1 c1, .slice a2 n2 c2, .slice a3 n3 c3, .slice a4 n4 c4] 46)) = w0 at *
  generalize hk0 : w.heap.size = k0 at *
  go_loopw [12] (fun i wr => ∃ j : Nat, j ≤ n3 ∧ i = .int .i64 j ∧ Hid ((ks.take j).all (fun e => fitF f e.blk e.deep) = true) ∧ Below w0.heap.size w0 wr) (fun i _ => n3 - (intOf i).toNat)
  case atStart => exact ⟨0, Nat.zero_le _, rfl, by simp [Hid], Below.refl _ _⟩
  case round =>
    obtain ⟨j, hj, rfl, hjn, hb⟩ := hrel
    have hbw : Below k0 w wr := hb0.trans (hb.mono (by have := hb0.size; omega))
    by_cases hlt : j < n3
    · have hlt' : j < ks.length := by rw [HN3.out]; exact hlt
      obtain ⟨b, off, rfl, h6⟩ := (h3.out.later (by rw [hk0]; exact hbw)).at hlt'
      have hwf := IK.out _ (List.getElem_mem hlt')
      have hst := all_take_succ ks (fun e => fitF f e.blk e.deep) hlt'
      have hno := hid (fun hp => all_not ks (fun e => fitF f e.blk e.deep) hlt' hp)
      obtain ⟨x, HX⟩ : ∃ m, Hid (ks[j] = m) := ⟨_, hid rfl⟩
      rw [HX.out] at h6 hwf hst hno
      replace hst := hid hst
      obtain ⟨bk, dp, sp, ad⟩ := x
      obtain ⟨d0, d1, d2, d3⟩ := h6
      dsimp only at d0 d1 d2 d3 hwf hst hno
      have HC := HF.out bk dp (wr.alloc (.cells #[.int .u32 bk, .int .u16 dp, .string sp, .string ad] 39)) (hbw.alloc (by rw [← hk0]; exact hbw.size) _) hwf
      have hbx := hb.trans ((below_box wr (.cells #[.int .u32 bk, .int .u16 dp, .string sp, .string ad] 39)).mono hb.size)
      obtain ⟨G1, HG1⟩ : ∃ g, Hid (fitF f bk dp = g) := ⟨_, hid rfl⟩
      rw [HG1.out] at HC
      have E0 := (EBox.new wr ⟨bk, dp, sp, ad⟩).four
      obtain ⟨e0, e1, _, _⟩ := E0
      dsimp only at e0 e1
      cases G1
      · go_wp2_with fail
        refine HC.mono ?_
        rintro e w1 ⟨rfl, rfl⟩
        go_wp2_with fail
        go_ret
        refine ⟨ret_bool (by rw [HG.out, hno.out HG1.out]; rfl), ?_⟩
        first | exact hb0.trans (hbx.mono (by have := hb0.size; omega)) | (rw [hk0]; exact hb0.trans (hbx.mono (by have := hb0.size; omega)))
      · go_wp2_with fail
        refine HC.mono ?_
        rintro e w1 ⟨rfl, rfl⟩
        go_wp2_with fail
        go_roundw
        case rel => exact ⟨j + 1, by omega, by go_num, by unfold Hid at *; rw [hst, hjn, HG1]; rfl, hbx⟩
        case measure => simp [intOf]; omega
    · obtain rfl : j = n3 := by omega
      have HG2 : Hid (G = bf.all (gotoF f)) := hid (by
        have h0 := hjn.out
        rw [← HN3.out, List.take_length] at h0
        rw [HG.out, h0]; rfl)
      clear HG hjn
      obtain ⟨m0, m1, m2, m3, m4⟩ := (N0.later hb).cells
      go_wp2_with fail
      go_loopw [27] (fun i wr => ∃ j : Nat, j ≤ n4 ∧ i = .int .i64 j ∧ Hid ((bf.take j).all (gotoF f) = true) ∧ Below w0.heap.size w0 wr) (fun i _ => n4 - (intOf i).toNat)
      case atStart => exact ⟨0, Nat.zero_le _, rfl, by simp [Hid], hb⟩
      case round =>
        clear m0 m1 m2 m3 m4 hb hbw
        obtain ⟨j, hj, rfl, hjn, hb⟩ := hrel
        have hbw : Below k0 w wr := hb0.trans (hb.mono (by have := hb0.size; omega))
        by_cases hlt : j < n4
        · have hlt' : j < bf.length := by rw [HN4.out]; exact hlt
          obtain ⟨b, off, rfl, h6⟩ := (h4.out.later (by rw [hk0]; exact hbw)).at hlt'
          have hwf := IM.out _ (List.getElem_mem hlt')
          have hst := all_take_succ bf (gotoF f) hlt'
          have hno := hid (fun hp => all_not bf (gotoF f) hlt' hp)
          obtain ⟨x, HX⟩ : ∃ m, Hid (bf[j] = m) := ⟨_, hid rfl⟩
          rw [HX.out] at h6 hwf hst hno
          replace hst := hid hst
          have hgf : gotoF f x = if x.kind = 3 then fitF f x.blk x.deep else true := rfl
          have E0 := (MBox.new wr x).six
          obtain ⟨kd, ky, vl, bk, dp, ad⟩ := x
          obtain ⟨d0, d1, d2, d3, d4, d5⟩ := h6
          obtain ⟨e0, _, _, e3, e4, _⟩ := E0
          dsimp only at d0 d1 d2 d3 d4 d5 hwf hgf e0 e3 e4
          have HC := HF.out bk dp (wr.alloc (.cells #[.int .u8 kd, .string ky, .string vl, .int .u32 bk, .int .u16 dp, .string ad] 42)) (hbw.alloc (by rw [← hk0]; exact hbw.size) _) hwf
          have hbx := hb.trans ((below_box wr (.cells #[.int .u8 kd, .string ky, .string vl, .int .u32 bk, .int .u16 dp, .string ad] 42)).mono hb.size)
          by_cases hk : kd = 3
          · have hk' : (kd == 3) = true := by simpa using hk
            obtain ⟨G1, HG1⟩ : ∃ g, Hid (fitF f bk dp = g) := ⟨_, hid rfl⟩
            rw [HG1.out] at HC hgf
            have HG3 := hid (hgf.trans (if_pos hk))
            clear hgf hk
            cases G1
            · go_wp2_with fail
              refine HC.mono ?_
              rintro e w1 ⟨rfl, rfl⟩
              go_wp2_with fail
              go_ret
              refine ⟨ret_bool (by rw [HG2.out, hno.out HG3.out]), ?_⟩
              first | exact hb0.trans (hbx.mono (by have := hb0.size; omega)) | (rw [hk0]; exact hb0.trans (hbx.mono (by have := hb0.size; omega)))
            · go_wp2_with fail
              refine HC.mono ?_
              rintro e w1 ⟨rfl, rfl⟩
              go_wp2_with fail
              go_roundw
              case rel => exact ⟨j + 1, by omega, by go_num, by unfold Hid at *; rw [hst, hjn, HG3]; rfl, hbx⟩
              case measure => simp [intOf]; omega
          · have hk' : (kd == 3) = false := by simpa using hk
            have HG3 := hid (hgf.trans (if_neg hk))
            clear hgf hk
            go_wp2_with fail
            go_roundw
            case rel => exact ⟨j + 1, by omega, by go_num, by unfold Hid at *; rw [hst, hjn, HG3]; rfl, hbx⟩
            case measure => simp [intOf]; omega
        · obtain rfl : j = n4 := by omega
          go_wp2_with fail
          go_ret
          refine ⟨ret_bool ?_, by first | exact hbw | (rw [hk0]; exact hbw)⟩
          rw [HG2.out, ← hjn.out, ← HN4.out, List.take_length]
end Go.Proofs.YtegmpfmhlpdmhaaGreat.Key
