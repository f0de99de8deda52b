/-
  Contract of Find, the program's.
-/
import Derived.Test.YtfladpnphkoeiaaRight
import Derived.Test.YtfladpnphkoeiaaBump
namespace Go.Proofs.Ytfladpnphkoeiaa.Key
open Go.RowKit Draw
set_option linter.unusedVariables false
set_option linter.unusedSimpArgs false

def zeroN : Nd := ⟨false, [], [], [], []⟩
/-- the node found, or the zero value -/
def foundN (l : List It) (b : Int) : Nd := ((findI l b).map (·.nd)).getD zeroN
theorem find_hit {l : List It} {b : Int} {j : Nat} (h : j < l.length) (hn : findI (l.take j) b = none) (hb : l[j].blk = b) : findI l b = some l[j] := by
  unfold findI at *
  rw [List.find?_eq_some_iff_getElem]
  refine ⟨by simpa using hb, j, h, rfl, fun i hi => ?_⟩
  rw [List.find?_eq_none] at hn
  have := hn l[i] (by rw [List.mem_take_iff_getElem]; exact ⟨i, by omega, rfl⟩)
  simpa using this
theorem find_next {l : List It} {b : Int} {j : Nat} (h : j < l.length) (hn : findI (l.take j) b = none) (hb : l[j].blk ≠ b) : findI (l.take (j + 1)) b = none := by
  unfold findI at *
  rw [List.take_succ_eq_append_getElem h, List.find?_append, hn]
  simp [hb]
set_option maxRecDepth 100000 in
set_option maxHeartbeats 800000 in
theorem find9 (a : Option Addr) (c : Nat) (l : List It) (b : Int) (w : World) (hl : Fine l) (h : Items w a l) :
    Calls Try.prog 9 #[.slice a l.length c, .int .u32 b] w fun x w' => (∃ (n : Nd) (p : Pl), x = .returned (.tuple #[nv n p, .bool (findI l b).isSome]) ∧ n = foundN l b ∧ Lies w' n p) ∧ Below w.heap.size w w' := by
  obtain ⟨hln, hin, hsm⟩ := hl
  generalize hn : l.length = n at *
  have HN := hid hn
  clear hn
  have N0 := NBox.new w (.bool false) (.slice none 0 0) (.slice none 0 0) (.slice none 0 0) (.slice none 0 0)
  have hb0 := below_box w (.cells #[.bool false, .slice none 0 0, .slice none 0 0, .slice none 0 0, .slice none 0 0] 31)
  have HI := hid h
  clear h
  go_enter Try.func9, Try.ntmps9
  go_wp2_with fail
  generalize (w.alloc (.cells #[.bool false, .slice none 0 0, .slice none 0 0, .slice none 0 0, .slice none 0 0] 31)) = w0 at *
  generalize hk0 : w.heap.size = k0 at *
  go_loopw [10] (fun i wr => ∃ j : Nat, j ≤ n ∧ i = .int .i64 j ∧ Hid (findI (l.take j) b = none) ∧ NBox wr k0 (.bool false) (.slice none 0 0) (.slice none 0 0) (.slice none 0 0) (.slice none 0 0) ∧ Below k0 w wr) (fun i _ => n - (intOf i).toNat)
  case atStart => exact ⟨0, Nat.zero_le _, rfl, rfl, N0, hb0⟩
  case round =>
    obtain ⟨j, hj, rfl, hjn, hN, hb⟩ := hrel
    have hbs : k0 < wr.heap.size := hN.lt
    by_cases hlt : j < n
    · have hlt' : j < l.length := by rw [HN.out]; exact hlt
      obtain ⟨bb, off, rfl, h6, h7⟩ := (HI.out.later (by rw [hk0]; exact hb)).at hlt'
      have hxi := hin _ (List.getElem_mem hlt')
      have hxs := hsm _ (List.getElem_mem hlt')
      have HIT := hid (fun e => find_hit hlt' hjn.out e)
      have NXT := hid (fun e => find_next hlt' hjn.out e)
      obtain ⟨x, HX⟩ : ∃ m, Hid (l[j] = m) := ⟨_, hid rfl⟩
      rw [HX.out] at h6 h7 hxi hxs HIT NXT
      have hbx := below_box wr (.cells #[.int .u32 x.blk, .bool x.nd.leaf, .slice x.pl.a1 x.nd.ps.length x.pl.c1, .slice x.pl.a2 x.nd.pv.length x.pl.c2, .slice x.pl.a3 x.nd.ks.length x.pl.c3, .slice x.pl.a4 x.nd.bf.length x.pl.c4] 47)
      have HC := own9 x.nd x.pl _ hxs.few hxi.pl (h7.later hbx)
      have X5 := I6.new wr (.int .u32 x.blk) (.bool x.nd.leaf) (.slice x.pl.a1 x.nd.ps.length x.pl.c1) (.slice x.pl.a2 x.nd.pv.length x.pl.c2) (.slice x.pl.a3 x.nd.ks.length x.pl.c3) (.slice x.pl.a4 x.nd.bf.length x.pl.c4)
      have hb5 : Below k0 w _ := hb.trans (hbx.mono (by omega))
      have N5 := hN.later hbx
      have HFN : Hid (x.blk = b → foundN l b = x.nd ∧ (findI l b).isSome = true) := hid (fun e => by unfold foundN; rw [HIT.out e]; exact ⟨rfl, rfl⟩)
      obtain ⟨bk, ⟨lf, ps, pv, ks, bf⟩, ⟨a1, c1, a2, c2, a3, c3, a4, c4⟩⟩ := x
      obtain ⟨d0, d1, d2, d3, d4, d5⟩ := h6
      dsimp only [nv] at *
      clear h7 hxi hxs hN hb hbx HIT
      have HB5 := hid hb5
      have HO : Hid (Calls Try.prog 23 #[.agg #[.bool lf, .slice a1 ps.length c1, .slice a2 pv.length c2, .slice a3 ks.length c3, .slice a4 bf.length c4]] (wr.alloc (.cells #[.int .u32 bk, .bool lf, .slice a1 ps.length c1, .slice a2 pv.length c2, .slice a3 ks.length c3, .slice a4 bf.length c4] 47)) _) := HC
      clear hb5 HC
      obtain ⟨x0, x1, x2, x3, x4, x5⟩ := X5.c
      clear X5
      by_cases hbk : bk = b
      · have hbk' : (bk == b) = true := by simpa using hbk
        obtain ⟨HF1, HF2⟩ := HFN.out hbk
        replace HF1 := hid HF1
        replace HF2 := hid HF2
        clear hbk HFN NXT
        generalize ps.length = n1 at *
        generalize pv.length = n2 at *
        generalize ks.length = n3 at *
        generalize bf.length = n4 at *
        go_wp2_with fail
        refine HO.out.mono ?_
        rintro e w1 ⟨y1, y2, y3, y4, rfl, ho, hb1⟩
        obtain ⟨b1, m1, t1, rfl⟩ := row_slice ho.o1
        obtain ⟨b2, m2, t2, rfl⟩ := row_slice ho.o2
        obtain ⟨b3, m3, t3, rfl⟩ := row_slice ho.o3
        obtain ⟨b4, m4, t4, rfl⟩ := row_slice ho.o4
        have hb6 := HB5.out.trans (hb1.mono (by simp; omega))
        have N6 := N5.later hb1
        have M2 := N6.put (.bool lf) (.slice b1 m1 t1) (.slice b2 m2 t2) (.slice b3 m3 t3) (.slice b4 m4 t4)
        have hb7 := below_five' hb6 (Nat.le_refl k0) (.bool lf) (.slice b1 m1 t1) (.slice b2 m2 t2) (.slice b3 m3 t3) (.slice b4 m4 t4)
        have hkB : k0 < (wr.alloc (.cells #[.int .u32 bk, .bool lf, .slice a1 n1 c1, .slice a2 n2 c2, .slice a3 n3 c3, .slice a4 n4 c4] 47)).heap.size + 1 + 1 := by simp; omega
        have O5 : Owns (((((w1.setCell ⟨k0, 0, none⟩ (.bool lf)).setCell ⟨k0, 1, none⟩ (.slice b1 m1 t1)).setCell ⟨k0, 2, none⟩ (.slice b2 m2 t2)).setCell ⟨k0, 3, none⟩ (.slice b3 m3 t3)).setCell ⟨k0, 4, none⟩ (.slice b4 m4 t4)) _ ⟨lf, ps, pv, ks, bf⟩ (.slice b1 m1 t1) (.slice b2 m2 t2) (.slice b3 m3 t3) (.slice b4 m4 t4) :=
          ⟨row_five ho.o1 hkB, row_five ho.o2 hkB, row_five ho.o3 hkB, row_five ho.o4 hkB⟩
        obtain ⟨q, e1, e2, e3, e4, hq⟩ := O5.lies
        replace e1 := hid e1
        replace e2 := hid e2
        replace e3 := hid e3
        replace e4 := hid e4
        replace hq := hid hq
        obtain ⟨z0, z1, z2, z3, z4⟩ := N6.cells
        have f0 := N6.free 0
        have f1 := N6.free 1
        have f2 := N6.free 2
        have f3 := N6.free 3
        have f4 := N6.free 4
        clear ho O5 hkB N6 N5 hb6
        go_wp2_with fail
        obtain ⟨v0, v1, v2, v3, v4⟩ := M2.cells
        refine bodyPost_ret (v := .tuple #[.agg #[.bool lf, .slice b1 m1 t1, .slice b2 m2 t2, .slice b3 m3 t3, .slice b4 m4 t4], .bool true]) (by simp [results, Try.results9, go_sem, v0, v1, v2, v3, v4]) rfl ⟨⟨⟨lf, ps, pv, ks, bf⟩, q, ?_, HF1.out.symm, ?_⟩, ?_⟩
        · rw [HF2.out]
          dsimp only [nv]
          rw [← e1.out, ← e2.out, ← e3.out, ← e4.out]
        · first | exact hq.out.1 | exact hq.out
        · first | exact hb7 | (rw [hk0]; exact hb7)
      · have hbk' : (bk == b) = false := by simpa using hbk
        have NX := hid (NXT.out hbk)
        clear hbk HFN HO
        generalize ps.length = n1 at *
        generalize pv.length = n2 at *
        generalize ks.length = n3 at *
        generalize bf.length = n4 at *
        go_wp2_with fail
        go_roundw
        case rel => exact ⟨j + 1, by omega, by go_num, NX, N5, HB5.out⟩
        case measure => simp [intOf]; omega
    · obtain rfl : j = n := by omega
      have HF : Hid (findI l b = none) := hid (by have := hjn.out; rw [← HN.out, List.take_length] at this; exact this)
      have M2 := hN.put (.bool false) (.slice none 0 0) (.slice none 0 0) (.slice none 0 0) (.slice none 0 0)
      have hb7 := below_five' hb (Nat.le_refl k0) (.bool false) (.slice none 0 0) (.slice none 0 0) (.slice none 0 0) (.slice none 0 0)
      obtain ⟨z0, z1, z2, z3, z4⟩ := hN.cells
      have f0 := hN.free 0
      have f1 := hN.free 1
      have f2 := hN.free 2
      have f3 := hN.free 3
      have f4 := hN.free 4
      clear hN hb hjn
      go_wp2_with fail
      obtain ⟨v0, v1, v2, v3, v4⟩ := M2.cells
      refine bodyPost_ret (v := .tuple #[.agg #[.bool false, .slice none 0 0, .slice none 0 0, .slice none 0 0, .slice none 0 0], .bool false]) (by simp [results, Try.results9, go_sem, v0, v1, v2, v3, v4]) rfl ⟨⟨zeroN, ⟨none, 0, none, 0, none, 0, none, 0⟩, ?_, ?_, ?_⟩, ?_⟩
      · rw [HF.out]; rfl
      · unfold foundN; rw [HF.out]; rfl
      · exact ⟨.inl rfl, .inl rfl, .inl rfl, .inl rfl⟩
      · first | exact hb7 | (rw [hk0]; exact hb7)
end Go.Proofs.Ytfladpnphkoeiaa.Key
