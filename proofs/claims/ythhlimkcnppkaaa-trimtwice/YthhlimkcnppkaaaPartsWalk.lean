/-
  The walk of the statement TrimParts.
-/
import Derived.Test.YthhlimkcnppkaaaTAwake
namespace Go.Proofs.Ythhlimkcnppkaaa.Key
open Go.RowKit Draw
open Go.Op (bytesLess)
set_option linter.unusedVariables false
set_option linter.unusedSimpArgs false

/-- two boxes of what comes in: a node, a range -/
theorem in_boxes (w : World) (v0 v1 v2 v3 v4 r0 r1 r2 : Value) :
    NBox ((w.alloc (.cells #[v0, v1, v2, v3, v4] 27)).alloc (.cells #[r0, r1, r2] 29)) w.heap.size v0 v1 v2 v3 v4 ∧ Box ((w.alloc (.cells #[v0, v1, v2, v3, v4] 27)).alloc (.cells #[r0, r1, r2] 29)) (w.heap.size + 1) r0 r1 r2 ∧
    Below w.heap.size w ((w.alloc (.cells #[v0, v1, v2, v3, v4] 27)).alloc (.cells #[r0, r1, r2] 29)) := by
  have h1 := Box.new (w.alloc (.cells #[v0, v1, v2, v3, v4] 27)) r0 r1 r2
  rw [show (w.alloc (.cells #[v0, v1, v2, v3, v4] 27)).heap.size = w.heap.size + 1 by simp] at h1
  exact ⟨(NBox.new w v0 v1 v2 v3 v4).alloc _, h1, (below_box w _).alloc (by simp) _⟩
/-- the size of what is trimmed -/
theorem trim_few {n : Nd} (hf : Few n) (r : Rng) (a : ByteArray) : Few (trimA n r a) := by
  unfold trimA
  split
  · unfold trimN
    split
    · exact ⟨Nat.le_trans (psT_le _ _ _) hf.l1, Nat.zero_le _, Nat.zero_le _, Nat.zero_le _⟩
    · exact ⟨Nat.zero_le _, Nat.le_trans (pvT_le _ _ _ _) hf.l3, Nat.le_trans (ksT_le _ _ _ _) hf.l3, Nat.le_trans (trim_length _ _ _) hf.l4⟩
  · exact ⟨Nat.zero_le _, Nat.zero_le _, Nat.zero_le _, Nat.zero_le _⟩
theorem short_deep (m : M) (a : ByteArray) : (shortM m a).deep = m.deep ∨ (shortM m a).deep = 0 := by
  unfold shortM
  split
  · exact .inl rfl
  · split
    · exact .inl rfl
    · exact .inr rfl
theorem trim_deep {n : Nd} (hd : ∀ m ∈ n.bf, 0 ≤ m.deep ∧ m.deep ≤ 65535) (r : Rng) (a : ByteArray) : ∀ m ∈ (trimA n r a).bf, 0 ≤ m.deep ∧ m.deep ≤ 65535 := by
  unfold trimA
  split
  · unfold trimN
    split
    · intro m hm; cases hm
    · intro m hm
      have hm' : m ∈ trimL n.bf r a := hm
      obtain ⟨x, hx, rfl⟩ := List.mem_map.1 hm'
      have h0 := hd x (List.mem_filter.1 hx).1
      rcases short_deep x a with h | h
      · rw [h]; exact h0
      · rw [h]; omega
  · intro m hm; cases hm

set_option maxRecDepth 100000 in
set_option maxHeartbeats 4000000 in
theorem trimParts3 (n : Nd) (p : Pl) (lo hi : ByteArray) (e : Bool) (a : ByteArray) (w : World) (hn : n.In) (h : Lies w n p) (hlo : lo.size ≤ maxLen) (hhi : hi.size ≤ maxLen) (ha : a.size ≤ maxLen) :
    Calls Try.prog 3 #[nv n p, av lo hi e, .string a] w fun e w' => e = .returned (.bool true) ∧ Below w.heap.size w w' := by
  obtain ⟨A0, R0, hb0⟩ := in_boxes w (.bool n.leaf) (.slice p.a1 n.ps.length p.c1) (.slice p.a2 n.pv.length p.c2) (.slice p.a3 n.ks.length p.c3) (.slice p.a4 n.bf.length p.c4) (.string lo) (.string hi) (.bool e)
  have HG := hid (great7 n p _ hn.long (h.later hb0))
  have HS := hid (fun g => @small_of n g hn)
  have HR := hid (great9 lo hi e)
  have hh := hid (fun (wr : World) (hb : Below w.heap.size w wr) => h.later hb)
  clear hn h
  cases g1 : greatN n
  case true =>
    rw [g1] at HG
    clear HS hh g1 HR
    obtain ⟨lB, ps, pv, ks, bf⟩ := n
    obtain ⟨a1, c1, a2, c2, a3, c3, a4, c4⟩ := p
    dsimp only [nv] at *
    generalize ps.length = n1 at *
    generalize pv.length = n2 at *
    generalize ks.length = n3 at *
    generalize bf.length = n4 at *
    go_enter Try.func3, Try.ntmps3
    obtain ⟨cA0, cA1, cA2, cA3, cA4⟩ := A0.cells
    have cAl := A0.lt
    obtain ⟨cR0, cR1, cR2⟩ := R0.cells
    have cRl := R0.lt
    go_wp2_with fail
    refine (HG.out).mono ?_
    rintro x w1 ⟨rfl, hb1⟩
    clear cA0 cA1 cA2 cA3 cA4 cAl cR0 cR1 cR2 cRl
    have Ah1 := A0.later hb1
    have Rh1 := R0.later hb1
    replace hb1 := hb0.trans (hb1.mono hb0.size)
    obtain ⟨cA0, cA1, cA2, cA3, cA4⟩ := Ah1.cells
    have cAl := Ah1.lt
    obtain ⟨cR0, cR1, cR2⟩ := Rh1.cells
    have cRl := Rh1.lt
    go_wp2_with fail
    refine (awake9 _).mono ?_
    rintro x w2 ⟨rfl, hb2⟩
    clear cA0 cA1 cA2 cA3 cA4 cAl cR0 cR1 cR2 cRl
    have Ah2 := Ah1.later hb2
    have Rh2 := Rh1.later hb2
    replace hb2 := hb1.trans (hb2.mono hb1.size)
    go_wp2_with fail
    go_ret
    exact ⟨rfl, hb2⟩
  case false =>
  rw [g1] at HG
  have hsm := HS.out g1
  clear HS g1
  cases g2 : (decide (300 < lo.size) || decide (300 < hi.size))
  case true =>
    rw [g2] at HR
    clear hh hsm g2
    obtain ⟨lB, ps, pv, ks, bf⟩ := n
    obtain ⟨a1, c1, a2, c2, a3, c3, a4, c4⟩ := p
    dsimp only [nv] at *
    generalize ps.length = n1 at *
    generalize pv.length = n2 at *
    generalize ks.length = n3 at *
    generalize bf.length = n4 at *
    go_enter Try.func3, Try.ntmps3
    obtain ⟨cA0, cA1, cA2, cA3, cA4⟩ := A0.cells
    have cAl := A0.lt
    obtain ⟨cR0, cR1, cR2⟩ := R0.cells
    have cRl := R0.lt
    go_wp2_with fail
    refine (HG.out).mono ?_
    rintro x w1 ⟨rfl, hb1⟩
    clear cA0 cA1 cA2 cA3 cA4 cAl cR0 cR1 cR2 cRl
    have Ah1 := A0.later hb1
    have Rh1 := R0.later hb1
    replace hb1 := hb0.trans (hb1.mono hb0.size)
    obtain ⟨cA0, cA1, cA2, cA3, cA4⟩ := Ah1.cells
    have cAl := Ah1.lt
    obtain ⟨cR0, cR1, cR2⟩ := Rh1.cells
    have cRl := Rh1.lt
    go_wp2_with fail
    refine (HR.out _).mono ?_
    rintro x w2 ⟨rfl, hb2⟩
    clear cA0 cA1 cA2 cA3 cA4 cAl cR0 cR1 cR2 cRl
    have Ah2 := Ah1.later hb2
    have Rh2 := Rh1.later hb2
    replace hb2 := hb1.trans (hb2.mono hb1.size)
    obtain ⟨cA0, cA1, cA2, cA3, cA4⟩ := Ah2.cells
    have cAl := Ah2.lt
    obtain ⟨cR0, cR1, cR2⟩ := Rh2.cells
    have cRl := Rh2.lt
    go_wp2_with fail
    refine (awake9 _).mono ?_
    rintro x w3 ⟨rfl, hb3⟩
    clear cA0 cA1 cA2 cA3 cA4 cAl cR0 cR1 cR2 cRl
    have Ah3 := Ah2.later hb3
    have Rh3 := Rh2.later hb3
    replace hb3 := hb2.trans (hb3.mono hb2.size)
    go_wp2_with fail
    go_ret
    exact ⟨rfl, hb3⟩
  case false =>
  rw [g2] at HR
  have hlr : lo.size ≤ 300 ∧ hi.size ≤ 300 := by simp at g2; omega
  clear g2
  cases g3 : decide ((100 : Int) < (a.size : Int))
  case true =>
    clear hh hsm
    obtain ⟨lB, ps, pv, ks, bf⟩ := n
    obtain ⟨a1, c1, a2, c2, a3, c3, a4, c4⟩ := p
    dsimp only [nv] at *
    generalize ps.length = n1 at *
    generalize pv.length = n2 at *
    generalize ks.length = n3 at *
    generalize bf.length = n4 at *
    go_enter Try.func3, Try.ntmps3
    obtain ⟨cA0, cA1, cA2, cA3, cA4⟩ := A0.cells
    have cAl := A0.lt
    obtain ⟨cR0, cR1, cR2⟩ := R0.cells
    have cRl := R0.lt
    go_wp2_with fail
    refine (HG.out).mono ?_
    rintro x w1 ⟨rfl, hb1⟩
    clear cA0 cA1 cA2 cA3 cA4 cAl cR0 cR1 cR2 cRl
    have Ah1 := A0.later hb1
    have Rh1 := R0.later hb1
    replace hb1 := hb0.trans (hb1.mono hb0.size)
    obtain ⟨cA0, cA1, cA2, cA3, cA4⟩ := Ah1.cells
    have cAl := Ah1.lt
    obtain ⟨cR0, cR1, cR2⟩ := Rh1.cells
    have cRl := Rh1.lt
    go_wp2_with fail
    refine (HR.out _).mono ?_
    rintro x w2 ⟨rfl, hb2⟩
    clear cA0 cA1 cA2 cA3 cA4 cAl cR0 cR1 cR2 cRl
    have Ah2 := Ah1.later hb2
    have Rh2 := Rh1.later hb2
    replace hb2 := hb1.trans (hb2.mono hb1.size)
    obtain ⟨cA0, cA1, cA2, cA3, cA4⟩ := Ah2.cells
    have cAl := Ah2.lt
    obtain ⟨cR0, cR1, cR2⟩ := Rh2.cells
    have cRl := Rh2.lt
    go_wp2_with fail
    refine (awake9 _).mono ?_
    rintro x w3 ⟨rfl, hb3⟩
    clear cA0 cA1 cA2 cA3 cA4 cAl cR0 cR1 cR2 cRl
    have Ah3 := Ah2.later hb3
    have Rh3 := Rh2.later hb3
    replace hb3 := hb2.trans (hb3.mono hb2.size)
    go_wp2_with fail
    go_ret
    exact ⟨rfl, hb3⟩
  case false =>
  have hla : a.size ≤ 100 := by simp at g3; omega
  have T1 := hid (fun wr hb => trim10 n p lo hi e a wr hsm.few (hh.out wr hb) (by omega) (by omega) (by omega))
  have T2 := hid (fun wr hb => trim11 n p lo hi e a wr hsm.few (hh.out wr hb) (fun m hm => (hsm.db m hm).1) (by omega) (by omega) (by omega))
  have HF := trim_few hsm.few (rg lo hi e) a
  have HD := trim_deep hsm.db (rg lo hi e) a
  have HM := hid (fun q (wr : World) (hq : Lies wr (trimA n (rg lo hi e) a) q) => may13 (trimA n (rg lo hi e) a) q wr HF hq (fun m hm => (HD m hm).1))
  have HE := hid (fun q q' (wr : World) (hq : Lies wr (trimA n (rg lo hi e) a) q) (hq' : Lies wr (trimA n (rg lo hi e) a) q') => same10 (trimA n (rg lo hi e) a) (trimA n (rg lo hi e) a) q q' wr HF HF hq hq')
  have HZ := hid (fun h0 => (show mayI (trimA n (rg lo hi e) a) = 0 from by rw [(trim_zero h0).2.2.1]; exact may_trim h0))
  unfold TrimSay at T1 T2
  clear HF HD hh hsm
  generalize trimA n (rg lo hi e) a = m at *
  generalize trimE n (rg lo hi e) a = z at *
  clear hlo hhi ha hlr
  obtain ⟨lB, ps, pv, ks, bf⟩ := n
  obtain ⟨a1, c1, a2, c2, a3, c3, a4, c4⟩ := p
  dsimp only [nv] at *
  generalize ps.length = n1 at *
  generalize pv.length = n2 at *
  generalize ks.length = n3 at *
  generalize bf.length = n4 at *
  obtain ⟨lm, ps', pv', ks', bf'⟩ := m
  dsimp only at *
  go_enter Try.func3, Try.ntmps3
  obtain ⟨cA0, cA1, cA2, cA3, cA4⟩ := A0.cells
  have cAl := A0.lt
  obtain ⟨cR0, cR1, cR2⟩ := R0.cells
  have cRl := R0.lt
  go_wp2_with fail
  refine (HG.out).mono ?_
  rintro x w1 ⟨rfl, hb1⟩
  clear cA0 cA1 cA2 cA3 cA4 cAl cR0 cR1 cR2 cRl
  have Ah1 := A0.later hb1
  have Rh1 := R0.later hb1
  replace hb1 := hb0.trans (hb1.mono hb0.size)
  obtain ⟨cA0, cA1, cA2, cA3, cA4⟩ := Ah1.cells
  have cAl := Ah1.lt
  obtain ⟨cR0, cR1, cR2⟩ := Rh1.cells
  have cRl := Rh1.lt
  go_wp2_with fail
  refine (HR.out _).mono ?_
  rintro x w2 ⟨rfl, hb2⟩
  clear cA0 cA1 cA2 cA3 cA4 cAl cR0 cR1 cR2 cRl
  have Ah2 := Ah1.later hb2
  have Rh2 := Rh1.later hb2
  replace hb2 := hb1.trans (hb2.mono hb1.size)
  clear HG HR
  obtain ⟨cA0, cA1, cA2, cA3, cA4⟩ := Ah2.cells
  have cAl := Ah2.lt
  obtain ⟨cR0, cR1, cR2⟩ := Rh2.cells
  have cRl := Rh2.lt
  go_wp2_with fail
  refine (T1.out _ hb2).mono ?_
  rintro x w3 ⟨⟨x1, x2, x3, x4, rfl, hO⟩, hb3⟩
  clear cA0 cA1 cA2 cA3 cA4 cAl cR0 cR1 cR2 cRl
  have Ah3 := Ah2.later hb3
  have Rh3 := Rh2.later hb3
  replace hb3 := hb2.trans (hb3.mono hb2.size)
  obtain ⟨q, rfl, rfl, rfl, rfl, L1⟩ := hO.lies
  clear hO
  have Xh4 := NBox.new w3 (.bool lm) (.slice q.a1 ps'.length q.c1) (.slice q.a2 pv'.length q.c2) (.slice q.a3 ks'.length q.c3) (.slice q.a4 bf'.length q.c4)
  have Ah4 := Ah3.alloc (.cells #[.bool lm, .slice q.a1 ps'.length q.c1, .slice q.a2 pv'.length q.c2, .slice q.a3 ks'.length q.c3, .slice q.a4 bf'.length q.c4] 27)
  have Rh4 := Rh3.alloc (.cells #[.bool lm, .slice q.a1 ps'.length q.c1, .slice q.a2 pv'.length q.c2, .slice q.a3 ks'.length q.c3, .slice q.a4 bf'.length q.c4] 27)
  have Ph4 := L1.alloc (.cells #[.bool lm, .slice q.a1 ps'.length q.c1, .slice q.a2 pv'.length q.c2, .slice q.a3 ks'.length q.c3, .slice q.a4 bf'.length q.c4] 27)
  have hb4 := hb3.alloc hb3.size (.cells #[.bool lm, .slice q.a1 ps'.length q.c1, .slice q.a2 pv'.length q.c2, .slice q.a3 ks'.length q.c3, .slice q.a4 bf'.length q.c4] 27)
  go_upto_region 4 with fail
  generalize hkX : w3.heap.size = kX at *
  clear hkX
  generalize w3.alloc (.cells #[.bool lm, .slice q.a1 ps'.length q.c1, .slice q.a2 pv'.length q.c2, .slice q.a3 ks'.length q.c3, .slice q.a4 bf'.length q.c4] 27) = w4 at *
  obtain ⟨cA0, cA1, cA2, cA3, cA4⟩ := Ah4.cells
  have cAl := Ah4.lt
  obtain ⟨cR0, cR1, cR2⟩ := Rh4.cells
  have cRl := Rh4.lt
  obtain ⟨cX0, cX1, cX2, cX3, cX4⟩ := Xh4.cells
  have cXl := Xh4.lt
  go_wp2_with fail
  refine (T2.out _ hb4).mono ?_
  rintro x w5 ⟨⟨y1, y2, y3, y4, rfl, hO⟩, hb5⟩
  clear cA0 cA1 cA2 cA3 cA4 cAl cR0 cR1 cR2 cRl cX0 cX1 cX2 cX3 cX4 cXl
  have Ah5 := Ah4.later hb5
  have Rh5 := Rh4.later hb5
  have Ph5 := Ph4.later hb5
  have Xh5 := Xh4.later hb5
  replace hb5 := hb4.trans (hb5.mono hb4.size)
  obtain ⟨q', rfl, rfl, rfl, rfl, M1⟩ := hO.lies
  clear hO
  have Yh6 := NBox.new w5 (.bool lm) (.slice q'.a1 ps'.length q'.c1) (.slice q'.a2 pv'.length q'.c2) (.slice q'.a3 ks'.length q'.c3) (.slice q'.a4 bf'.length q'.c4)
  have Ah6 := Ah5.alloc (.cells #[.bool lm, .slice q'.a1 ps'.length q'.c1, .slice q'.a2 pv'.length q'.c2, .slice q'.a3 ks'.length q'.c3, .slice q'.a4 bf'.length q'.c4] 27)
  have Rh6 := Rh5.alloc (.cells #[.bool lm, .slice q'.a1 ps'.length q'.c1, .slice q'.a2 pv'.length q'.c2, .slice q'.a3 ks'.length q'.c3, .slice q'.a4 bf'.length q'.c4] 27)
  have Ph6 := Ph5.alloc (.cells #[.bool lm, .slice q'.a1 ps'.length q'.c1, .slice q'.a2 pv'.length q'.c2, .slice q'.a3 ks'.length q'.c3, .slice q'.a4 bf'.length q'.c4] 27)
  have Xh6 := Xh5.alloc (.cells #[.bool lm, .slice q'.a1 ps'.length q'.c1, .slice q'.a2 pv'.length q'.c2, .slice q'.a3 ks'.length q'.c3, .slice q'.a4 bf'.length q'.c4] 27)
  have Qh6 := M1.alloc (.cells #[.bool lm, .slice q'.a1 ps'.length q'.c1, .slice q'.a2 pv'.length q'.c2, .slice q'.a3 ks'.length q'.c3, .slice q'.a4 bf'.length q'.c4] 27)
  have hb6 := hb5.alloc hb5.size (.cells #[.bool lm, .slice q'.a1 ps'.length q'.c1, .slice q'.a2 pv'.length q'.c2, .slice q'.a3 ks'.length q'.c3, .slice q'.a4 bf'.length q'.c4] 27)
  go_upto_region 5 with fail
  generalize hkY : w5.heap.size = kY at *
  clear hkY
  generalize w5.alloc (.cells #[.bool lm, .slice q'.a1 ps'.length q'.c1, .slice q'.a2 pv'.length q'.c2, .slice q'.a3 ks'.length q'.c3, .slice q'.a4 bf'.length q'.c4] 27) = w6 at *
  obtain ⟨cA0, cA1, cA2, cA3, cA4⟩ := Ah6.cells
  have cAl := Ah6.lt
  obtain ⟨cR0, cR1, cR2⟩ := Rh6.cells
  have cRl := Rh6.lt
  obtain ⟨cX0, cX1, cX2, cX3, cX4⟩ := Xh6.cells
  have cXl := Xh6.lt
  obtain ⟨cY0, cY1, cY2, cY3, cY4⟩ := Yh6.cells
  have cYl := Yh6.lt
  go_wp2_with fail
  refine (HE.out q q' _ Ph6 Qh6).mono ?_
  rintro x w7 ⟨⟨b, rfl, hbb⟩, hb7⟩
  clear cA0 cA1 cA2 cA3 cA4 cAl cR0 cR1 cR2 cRl cX0 cX1 cX2 cX3 cX4 cXl cY0 cY1 cY2 cY3 cY4 cYl
  have Ah7 := Ah6.later hb7
  have Rh7 := Rh6.later hb7
  have Ph7 := Ph6.later hb7
  have Xh7 := Xh6.later hb7
  have Qh7 := Qh6.later hb7
  have Yh7 := Yh6.later hb7
  replace hb7 := hb6.trans (hb7.mono hb6.size)
  obtain rfl := hbb.2 (by first | rfl | trivial)
  clear hbb
  by_cases hz : z = 0
  case pos =>
    have hm0 := HZ.out hz
    rw [hm0] at HM
    subst hz
    clear HZ HE T1 T2 hm0
    obtain ⟨cA0, cA1, cA2, cA3, cA4⟩ := Ah7.cells
    have cAl := Ah7.lt
    obtain ⟨cR0, cR1, cR2⟩ := Rh7.cells
    have cRl := Rh7.lt
    obtain ⟨cX0, cX1, cX2, cX3, cX4⟩ := Xh7.cells
    have cXl := Xh7.lt
    obtain ⟨cY0, cY1, cY2, cY3, cY4⟩ := Yh7.cells
    have cYl := Yh7.lt
    go_wp2_with fail
    refine (HM.out q _ Ph7).mono ?_
    rintro x w8 ⟨rfl, hb8⟩
    clear cA0 cA1 cA2 cA3 cA4 cAl cR0 cR1 cR2 cRl cX0 cX1 cX2 cX3 cX4 cXl cY0 cY1 cY2 cY3 cY4 cYl
    have Ah8 := Ah7.later hb8
    have Rh8 := Rh7.later hb8
    have Ph8 := Ph7.later hb8
    have Xh8 := Xh7.later hb8
    have Qh8 := Qh7.later hb8
    have Yh8 := Yh7.later hb8
    replace hb8 := hb7.trans (hb8.mono hb7.size)
    obtain ⟨cA0, cA1, cA2, cA3, cA4⟩ := Ah8.cells
    have cAl := Ah8.lt
    obtain ⟨cR0, cR1, cR2⟩ := Rh8.cells
    have cRl := Rh8.lt
    obtain ⟨cX0, cX1, cX2, cX3, cX4⟩ := Xh8.cells
    have cXl := Xh8.lt
    obtain ⟨cY0, cY1, cY2, cY3, cY4⟩ := Yh8.cells
    have cYl := Yh8.lt
    go_wp2_with fail
    refine (awake9 _).mono ?_
    rintro x w9 ⟨rfl, hb9⟩
    clear cA0 cA1 cA2 cA3 cA4 cAl cR0 cR1 cR2 cRl cX0 cX1 cX2 cX3 cX4 cXl cY0 cY1 cY2 cY3 cY4 cYl
    have Ah9 := Ah8.later hb9
    have Rh9 := Rh8.later hb9
    have Ph9 := Ph8.later hb9
    have Xh9 := Xh8.later hb9
    have Qh9 := Qh8.later hb9
    have Yh9 := Yh8.later hb9
    replace hb9 := hb8.trans (hb9.mono hb8.size)
    go_wp2_with fail
    go_ret
    exact ⟨rfl, hb9⟩
  case neg =>
    have hz' : (z == 0) = false := by simpa using hz
    have hzz : z ≠ 0 := hz
    obtain ⟨cA0, cA1, cA2, cA3, cA4⟩ := Ah7.cells
    have cAl := Ah7.lt
    obtain ⟨cR0, cR1, cR2⟩ := Rh7.cells
    have cRl := Rh7.lt
    obtain ⟨cX0, cX1, cX2, cX3, cX4⟩ := Xh7.cells
    have cXl := Xh7.lt
    obtain ⟨cY0, cY1, cY2, cY3, cY4⟩ := Yh7.cells
    have cYl := Yh7.lt
    go_wp2_with fail
    refine (awake9 _).mono ?_
    rintro x w8 ⟨rfl, hb8⟩
    clear cA0 cA1 cA2 cA3 cA4 cAl cR0 cR1 cR2 cRl cX0 cX1 cX2 cX3 cX4 cXl cY0 cY1 cY2 cY3 cY4 cYl
    have Ah8 := Ah7.later hb8
    have Rh8 := Rh7.later hb8
    have Ph8 := Ph7.later hb8
    have Xh8 := Xh7.later hb8
    have Qh8 := Qh7.later hb8
    have Yh8 := Yh7.later hb8
    replace hb8 := hb7.trans (hb8.mono hb7.size)
    go_wp2_with fail
    go_ret
    exact ⟨rfl, hb8⟩
end Go.Proofs.Ythhlimkcnppkaaa.Key
