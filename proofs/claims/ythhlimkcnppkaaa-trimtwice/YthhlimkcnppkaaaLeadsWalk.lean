/-
  The walk of the statement TrimLeads.
-/
import Derived.Test.YthhlimkcnppkaaaPartsWalk
namespace Go.Proofs.Ythhlimkcnppkaaa.Key
open Go.RowKit Draw
open Go.Op (bytesLess)
set_option linter.unusedVariables false
set_option linter.unusedSimpArgs false

/-- the sizes of what is trimmed -/
theorem trim_small {n : Nd} (hs : Small n) {r : Rng} {a : ByteArray} (h : trimE n r a = 0) : Small (trimA n r a) := by
  have hm := may_trim h
  have he := (trim_zero h).2.2.1
  have hd := trim_deep hs.db r a
  have hf := trim_few hs.few r a
  obtain ⟨z1, z2⟩ := may_sizes hm
  rw [he] at hd hf ⊢
  refine ⟨hf, fun m hx => (z2 m hx).1, fun m hx => Nat.le_trans (z2 m hx).2 (by decide), fun x hx => Nat.le_trans (z1 x hx).2 (by decide), hd, ?_⟩
  unfold trimN
  split
  · intro x hx; cases hx
  · intro x hx
    have hx' : x ∈ ksT n r a n.ks.length := hx
    unfold ksT at hx'
    obtain ⟨i, hi, rfl⟩ := List.mem_map.1 hx'
    obtain ⟨hij, _⟩ := mem_picks.1 hi
    rw [getD_at hij]
    have hq := hs.de _ (List.getElem_mem hij)
    exact ⟨hq.1, hq.2⟩

set_option maxRecDepth 100000 in
set_option maxHeartbeats 4000000 in
theorem trimLeads4 (n : Nd) (p : Pl) (lo hi : ByteArray) (e : Bool) (a k : ByteArray) (w : World) (hn : n.In) (h : Lies w n p) (hlo : lo.size ≤ maxLen) (hhi : hi.size ≤ maxLen) (ha : a.size ≤ maxLen) (hk : k.size ≤ maxLen) :
    Calls Try.prog 4 #[nv n p, av lo hi e, .string a, .string k] w fun e w' => e = .returned (.bool true) ∧ Below w.heap.size w w' := by
  obtain ⟨A0, R0, hb0⟩ := in_boxes w (.bool n.leaf) (.slice p.a1 n.ps.length p.c1) (.slice p.a2 n.pv.length p.c2) (.slice p.a3 n.ks.length p.c3) (.slice p.a4 n.bf.length p.c4) (.string lo) (.string hi) (.bool e)
  have HG := hid (great7 n p _ hn.long (h.later hb0))
  have HS := hid (fun g => @small_of n g hn)
  have HR := hid (great9 lo hi e)
  have hh := hid (fun (wr : World) (hb : Below w.heap.size w wr) => h.later hb)
  clear hn h
  cases g1 : greatN n
  case true =>
    rw [g1] at HG
    clear HS hh g1 HR
    obtain ⟨lB, ps, pv, ks, bf⟩ := n
    obtain ⟨a1, c1, a2, c2, a3, c3, a4, c4⟩ := p
    dsimp only [nv] at *
    generalize ps.length = n1 at *
    generalize pv.length = n2 at *
    generalize ks.length = n3 at *
    generalize bf.length = n4 at *
    go_enter Try.func4, Try.ntmps4
    obtain ⟨cA0, cA1, cA2, cA3, cA4⟩ := A0.cells
    have cAl := A0.lt
    obtain ⟨cR0, cR1, cR2⟩ := R0.cells
    have cRl := R0.lt
    go_wp2_with fail
    refine (HG.out).mono ?_
    rintro x w1 ⟨rfl, hb1⟩
    clear cA0 cA1 cA2 cA3 cA4 cAl cR0 cR1 cR2 cRl
    have Ah1 := A0.later hb1
    have Rh1 := R0.later hb1
    replace hb1 := hb0.trans (hb1.mono hb0.size)
    obtain ⟨cA0, cA1, cA2, cA3, cA4⟩ := Ah1.cells
    have cAl := Ah1.lt
    obtain ⟨cR0, cR1, cR2⟩ := Rh1.cells
    have cRl := Rh1.lt
    go_wp2_with fail
    refine (awake9 _).mono ?_
    rintro x w2 ⟨rfl, hb2⟩
    clear cA0 cA1 cA2 cA3 cA4 cAl cR0 cR1 cR2 cRl
    have Ah2 := Ah1.later hb2
    have Rh2 := Rh1.later hb2
    replace hb2 := hb1.trans (hb2.mono hb1.size)
    go_wp2_with fail
    go_ret
    exact ⟨rfl, hb2⟩
  case false =>
  rw [g1] at HG
  have hsm := HS.out g1
  clear HS g1
  cases g2 : (decide (300 < lo.size) || decide (300 < hi.size))
  case true =>
    rw [g2] at HR
    clear hh hsm g2
    obtain ⟨lB, ps, pv, ks, bf⟩ := n
    obtain ⟨a1, c1, a2, c2, a3, c3, a4, c4⟩ := p
    dsimp only [nv] at *
    generalize ps.length = n1 at *
    generalize pv.length = n2 at *
    generalize ks.length = n3 at *
    generalize bf.length = n4 at *
    go_enter Try.func4, Try.ntmps4
    obtain ⟨cA0, cA1, cA2, cA3, cA4⟩ := A0.cells
    have cAl := A0.lt
    obtain ⟨cR0, cR1, cR2⟩ := R0.cells
    have cRl := R0.lt
    go_wp2_with fail
    refine (HG.out).mono ?_
    rintro x w1 ⟨rfl, hb1⟩
    clear cA0 cA1 cA2 cA3 cA4 cAl cR0 cR1 cR2 cRl
    have Ah1 := A0.later hb1
    have Rh1 := R0.later hb1
    replace hb1 := hb0.trans (hb1.mono hb0.size)
    obtain ⟨cA0, cA1, cA2, cA3, cA4⟩ := Ah1.cells
    have cAl := Ah1.lt
    obtain ⟨cR0, cR1, cR2⟩ := Rh1.cells
    have cRl := Rh1.lt
    go_wp2_with fail
    refine (HR.out _).mono ?_
    rintro x w2 ⟨rfl, hb2⟩
    clear cA0 cA1 cA2 cA3 cA4 cAl cR0 cR1 cR2 cRl
    have Ah2 := Ah1.later hb2
    have Rh2 := Rh1.later hb2
    replace hb2 := hb1.trans (hb2.mono hb1.size)
    obtain ⟨cA0, cA1, cA2, cA3, cA4⟩ := Ah2.cells
    have cAl := Ah2.lt
    obtain ⟨cR0, cR1, cR2⟩ := Rh2.cells
    have cRl := Rh2.lt
    go_wp2_with fail
    refine (awake9 _).mono ?_
    rintro x w3 ⟨rfl, hb3⟩
    clear cA0 cA1 cA2 cA3 cA4 cAl cR0 cR1 cR2 cRl
    have Ah3 := Ah2.later hb3
    have Rh3 := Rh2.later hb3
    replace hb3 := hb2.trans (hb3.mono hb2.size)
    go_wp2_with fail
    go_ret
    exact ⟨rfl, hb3⟩
  case false =>
  rw [g2] at HR
  have hlr : lo.size ≤ 300 ∧ hi.size ≤ 300 := by simp at g2; omega
  clear g2
  cases g3 : decide ((100 : Int) < (a.size : Int))
  case true =>
    clear hh hsm
    obtain ⟨lB, ps, pv, ks, bf⟩ := n
    obtain ⟨a1, c1, a2, c2, a3, c3, a4, c4⟩ := p
    dsimp only [nv] at *
    generalize ps.length = n1 at *
    generalize pv.length = n2 at *
    generalize ks.length = n3 at *
    generalize bf.length = n4 at *
    go_enter Try.func4, Try.ntmps4
    obtain ⟨cA0, cA1, cA2, cA3, cA4⟩ := A0.cells
    have cAl := A0.lt
    obtain ⟨cR0, cR1, cR2⟩ := R0.cells
    have cRl := R0.lt
    go_wp2_with fail
    refine (HG.out).mono ?_
    rintro x w1 ⟨rfl, hb1⟩
    clear cA0 cA1 cA2 cA3 cA4 cAl cR0 cR1 cR2 cRl
    have Ah1 := A0.later hb1
    have Rh1 := R0.later hb1
    replace hb1 := hb0.trans (hb1.mono hb0.size)
    obtain ⟨cA0, cA1, cA2, cA3, cA4⟩ := Ah1.cells
    have cAl := Ah1.lt
    obtain ⟨cR0, cR1, cR2⟩ := Rh1.cells
    have cRl := Rh1.lt
    go_wp2_with fail
    refine (HR.out _).mono ?_
    rintro x w2 ⟨rfl, hb2⟩
    clear cA0 cA1 cA2 cA3 cA4 cAl cR0 cR1 cR2 cRl
    have Ah2 := Ah1.later hb2
    have Rh2 := Rh1.later hb2
    replace hb2 := hb1.trans (hb2.mono hb1.size)
    obtain ⟨cA0, cA1, cA2, cA3, cA4⟩ := Ah2.cells
    have cAl := Ah2.lt
    obtain ⟨cR0, cR1, cR2⟩ := Rh2.cells
    have cRl := Rh2.lt
    go_wp2_with fail
    refine (awake9 _).mono ?_
    rintro x w3 ⟨rfl, hb3⟩
    clear cA0 cA1 cA2 cA3 cA4 cAl cR0 cR1 cR2 cRl
    have Ah3 := Ah2.later hb3
    have Rh3 := Rh2.later hb3
    replace hb3 := hb2.trans (hb3.mono hb2.size)
    go_wp2_with fail
    go_ret
    exact ⟨rfl, hb3⟩
  case false =>
  have hla : a.size ≤ 100 := by simp at g3; omega
  cases g4 : decide ((100 : Int) < (k.size : Int))
  case true =>
    clear hh hsm
    obtain ⟨lB, ps, pv, ks, bf⟩ := n
    obtain ⟨a1, c1, a2, c2, a3, c3, a4, c4⟩ := p
    dsimp only [nv] at *
    generalize ps.length = n1 at *
    generalize pv.length = n2 at *
    generalize ks.length = n3 at *
    generalize bf.length = n4 at *
    go_enter Try.func4, Try.ntmps4
    obtain ⟨cA0, cA1, cA2, cA3, cA4⟩ := A0.cells
    have cAl := A0.lt
    obtain ⟨cR0, cR1, cR2⟩ := R0.cells
    have cRl := R0.lt
    go_wp2_with fail
    refine (HG.out).mono ?_
    rintro x w1 ⟨rfl, hb1⟩
    clear cA0 cA1 cA2 cA3 cA4 cAl cR0 cR1 cR2 cRl
    have Ah1 := A0.later hb1
    have Rh1 := R0.later hb1
    replace hb1 := hb0.trans (hb1.mono hb0.size)
    obtain ⟨cA0, cA1, cA2, cA3, cA4⟩ := Ah1.cells
    have cAl := Ah1.lt
    obtain ⟨cR0, cR1, cR2⟩ := Rh1.cells
    have cRl := Rh1.lt
    go_wp2_with fail
    refine (HR.out _).mono ?_
    rintro x w2 ⟨rfl, hb2⟩
    clear cA0 cA1 cA2 cA3 cA4 cAl cR0 cR1 cR2 cRl
    have Ah2 := Ah1.later hb2
    have Rh2 := Rh1.later hb2
    replace hb2 := hb1.trans (hb2.mono hb1.size)
    obtain ⟨cA0, cA1, cA2, cA3, cA4⟩ := Ah2.cells
    have cAl := Ah2.lt
    obtain ⟨cR0, cR1, cR2⟩ := Rh2.cells
    have cRl := Rh2.lt
    go_wp2_with fail
    refine (awake9 _).mono ?_
    rintro x w3 ⟨rfl, hb3⟩
    clear cA0 cA1 cA2 cA3 cA4 cAl cR0 cR1 cR2 cRl
    have Ah3 := Ah2.later hb3
    have Rh3 := Rh2.later hb3
    replace hb3 := hb2.trans (hb3.mono hb2.size)
    go_wp2_with fail
    go_ret
    exact ⟨rfl, hb3⟩
  case false =>
  have hlk : k.size ≤ 100 := by simp at g4; omega
  have hsum : ¬ 9223372036854775807 < a.size + k.size := by omega
  have hsz : (a ++ k).size ≤ 1000 := by rw [ByteArray.size_append]; omega
  have HI := hid (fun wr => in20 lo hi (a ++ k) e wr)
  rw [app_data] at HI
  cases g5 : inR (rg lo hi e) (a.data.toList ++ k.data.toList)
  case false =>
    rw [g5] at HI
    clear hh hsm g5 hsz
    obtain ⟨lB, ps, pv, ks, bf⟩ := n
    obtain ⟨a1, c1, a2, c2, a3, c3, a4, c4⟩ := p
    dsimp only [nv] at *
    generalize ps.length = n1 at *
    generalize pv.length = n2 at *
    generalize ks.length = n3 at *
    generalize bf.length = n4 at *
    go_enter Try.func4, Try.ntmps4
    obtain ⟨cA0, cA1, cA2, cA3, cA4⟩ := A0.cells
    have cAl := A0.lt
    obtain ⟨cR0, cR1, cR2⟩ := R0.cells
    have cRl := R0.lt
    go_wp2_with fail
    refine (HG.out).mono ?_
    rintro x w1 ⟨rfl, hb1⟩
    clear cA0 cA1 cA2 cA3 cA4 cAl cR0 cR1 cR2 cRl
    have Ah1 := A0.later hb1
    have Rh1 := R0.later hb1
    replace hb1 := hb0.trans (hb1.mono hb0.size)
    obtain ⟨cA0, cA1, cA2, cA3, cA4⟩ := Ah1.cells
    have cAl := Ah1.lt
    obtain ⟨cR0, cR1, cR2⟩ := Rh1.cells
    have cRl := Rh1.lt
    go_wp2_with fail
    refine (HR.out _).mono ?_
    rintro x w2 ⟨rfl, hb2⟩
    clear cA0 cA1 cA2 cA3 cA4 cAl cR0 cR1 cR2 cRl
    have Ah2 := Ah1.later hb2
    have Rh2 := Rh1.later hb2
    replace hb2 := hb1.trans (hb2.mono hb1.size)
    obtain ⟨cA0, cA1, cA2, cA3, cA4⟩ := Ah2.cells
    have cAl := Ah2.lt
    obtain ⟨cR0, cR1, cR2⟩ := Rh2.cells
    have cRl := Rh2.lt
    go_wp2_with fail
    refine (HI.out _).mono ?_
    rintro x w3 ⟨rfl, hb3⟩
    clear cA0 cA1 cA2 cA3 cA4 cAl cR0 cR1 cR2 cRl
    have Ah3 := Ah2.later hb3
    have Rh3 := Rh2.later hb3
    replace hb3 := hb2.trans (hb3.mono hb2.size)
    obtain ⟨cA0, cA1, cA2, cA3, cA4⟩ := Ah3.cells
    have cAl := Ah3.lt
    obtain ⟨cR0, cR1, cR2⟩ := Rh3.cells
    have cRl := Rh3.lt
    go_wp2_with fail
    refine (awake9 _).mono ?_
    rintro x w4 ⟨rfl, hb4⟩
    clear cA0 cA1 cA2 cA3 cA4 cAl cR0 cR1 cR2 cRl
    have Ah4 := Ah3.later hb4
    have Rh4 := Rh3.later hb4
    replace hb4 := hb3.trans (hb4.mono hb3.size)
    go_wp2_with fail
    go_ret
    exact ⟨rfl, hb4⟩
  case true =>
  rw [g5] at HI
  have T1 := hid (fun wr hb => trim10 n p lo hi e a wr hsm.few (hh.out wr hb) (by omega) (by omega) (by omega))
  unfold TrimSay at T1
  by_cases hz : trimE n (rg lo hi e) a = 0
  case neg =>
    generalize trimA n (rg lo hi e) a = m at *
    generalize trimE n (rg lo hi e) a = z at *
    have hzz : (z == 0) = false := by simpa using hz
    clear hh hsm g5 hsz
    obtain ⟨lB, ps, pv, ks, bf⟩ := n
    obtain ⟨a1, c1, a2, c2, a3, c3, a4, c4⟩ := p
    dsimp only [nv] at *
    generalize ps.length = n1 at *
    generalize pv.length = n2 at *
    generalize ks.length = n3 at *
    generalize bf.length = n4 at *
    obtain ⟨lm, ps', pv', ks', bf'⟩ := m
    dsimp only at *
    go_enter Try.func4, Try.ntmps4
    obtain ⟨cA0, cA1, cA2, cA3, cA4⟩ := A0.cells
    have cAl := A0.lt
    obtain ⟨cR0, cR1, cR2⟩ := R0.cells
    have cRl := R0.lt
    go_wp2_with fail
    refine (HG.out).mono ?_
    rintro x w1 ⟨rfl, hb1⟩
    clear cA0 cA1 cA2 cA3 cA4 cAl cR0 cR1 cR2 cRl
    have Ah1 := A0.later hb1
    have Rh1 := R0.later hb1
    replace hb1 := hb0.trans (hb1.mono hb0.size)
    obtain ⟨cA0, cA1, cA2, cA3, cA4⟩ := Ah1.cells
    have cAl := Ah1.lt
    obtain ⟨cR0, cR1, cR2⟩ := Rh1.cells
    have cRl := Rh1.lt
    go_wp2_with fail
    refine (HR.out _).mono ?_
    rintro x w2 ⟨rfl, hb2⟩
    clear cA0 cA1 cA2 cA3 cA4 cAl cR0 cR1 cR2 cRl
    have Ah2 := Ah1.later hb2
    have Rh2 := Rh1.later hb2
    replace hb2 := hb1.trans (hb2.mono hb1.size)
    obtain ⟨cA0, cA1, cA2, cA3, cA4⟩ := Ah2.cells
    have cAl := Ah2.lt
    obtain ⟨cR0, cR1, cR2⟩ := Rh2.cells
    have cRl := Rh2.lt
    go_wp2_with fail
    refine (HI.out _).mono ?_
    rintro x w3 ⟨rfl, hb3⟩
    clear cA0 cA1 cA2 cA3 cA4 cAl cR0 cR1 cR2 cRl
    have Ah3 := Ah2.later hb3
    have Rh3 := Rh2.later hb3
    replace hb3 := hb2.trans (hb3.mono hb2.size)
    clear HG HR HI
    obtain ⟨cA0, cA1, cA2, cA3, cA4⟩ := Ah3.cells
    have cAl := Ah3.lt
    obtain ⟨cR0, cR1, cR2⟩ := Rh3.cells
    have cRl := Rh3.lt
    go_wp2_with fail
    refine (T1.out _ hb3).mono ?_
    rintro x w4 ⟨⟨x1, x2, x3, x4, rfl, hO⟩, hb4⟩
    clear cA0 cA1 cA2 cA3 cA4 cAl cR0 cR1 cR2 cRl
    have Ah4 := Ah3.later hb4
    have Rh4 := Rh3.later hb4
    replace hb4 := hb3.trans (hb4.mono hb3.size)
    obtain ⟨q, rfl, rfl, rfl, rfl, L1⟩ := hO.lies
    clear hO
    have Xh5 := NBox.new w4 (.bool lm) (.slice q.a1 ps'.length q.c1) (.slice q.a2 pv'.length q.c2) (.slice q.a3 ks'.length q.c3) (.slice q.a4 bf'.length q.c4)
    have Ah5 := Ah4.alloc (.cells #[.bool lm, .slice q.a1 ps'.length q.c1, .slice q.a2 pv'.length q.c2, .slice q.a3 ks'.length q.c3, .slice q.a4 bf'.length q.c4] 27)
    have Rh5 := Rh4.alloc (.cells #[.bool lm, .slice q.a1 ps'.length q.c1, .slice q.a2 pv'.length q.c2, .slice q.a3 ks'.length q.c3, .slice q.a4 bf'.length q.c4] 27)
    have Ph5 := L1.alloc (.cells #[.bool lm, .slice q.a1 ps'.length q.c1, .slice q.a2 pv'.length q.c2, .slice q.a3 ks'.length q.c3, .slice q.a4 bf'.length q.c4] 27)
    have hb5 := hb4.alloc hb4.size (.cells #[.bool lm, .slice q.a1 ps'.length q.c1, .slice q.a2 pv'.length q.c2, .slice q.a3 ks'.length q.c3, .slice q.a4 bf'.length q.c4] 27)
    go_upto_region 4 with fail
    generalize hkX : w4.heap.size = kX at *
    clear hkX
    generalize w4.alloc (.cells #[.bool lm, .slice q.a1 ps'.length q.c1, .slice q.a2 pv'.length q.c2, .slice q.a3 ks'.length q.c3, .slice q.a4 bf'.length q.c4] 27) = w5 at *
    obtain ⟨cA0, cA1, cA2, cA3, cA4⟩ := Ah5.cells
    have cAl := Ah5.lt
    obtain ⟨cR0, cR1, cR2⟩ := Rh5.cells
    have cRl := Rh5.lt
    obtain ⟨cX0, cX1, cX2, cX3, cX4⟩ := Xh5.cells
    have cXl := Xh5.lt
    go_wp2_with fail
    refine (awake9 _).mono ?_
    rintro x w6 ⟨rfl, hb6⟩
    clear cA0 cA1 cA2 cA3 cA4 cAl cR0 cR1 cR2 cRl cX0 cX1 cX2 cX3 cX4 cXl
    have Ah6 := Ah5.later hb6
    have Rh6 := Rh5.later hb6
    have Ph6 := Ph5.later hb6
    have Xh6 := Xh5.later hb6
    replace hb6 := hb5.trans (hb6.mono hb5.size)
    go_wp2_with fail
    go_ret
    exact ⟨rfl, hb6⟩
  case pos =>
  have hts := trim_small hsm hz
  have hlead := trim_leads hz g5
  rw [← (trim_zero hz).2.2.1] at hlead
  have S2 := hid (fun wr (hb : Below w.heap.size w wr) => step20 n p (a ++ k) wr hsm hsz (hh.out wr hb))
  rw [app_data] at S2
  have S1 := hid (fun q (wr : World) (hq : Lies wr (trimA n (rg lo hi e) a) q) => step20 (trimA n (rg lo hi e) a) q k wr hts (by omega) hq)
  rw [hlead] at S1
  rw [hz] at T1
  clear hts hlead hz g5 hh hsm hsz
  generalize stepW n (a.data.toList ++ k.data.toList) = y at *
  generalize trimA n (rg lo hi e) a = m at *
  obtain ⟨yk, yv, yb, yd, yy⟩ := y
  obtain ⟨lB, ps, pv, ks, bf⟩ := n
  obtain ⟨a1, c1, a2, c2, a3, c3, a4, c4⟩ := p
  dsimp only [nv] at *
  generalize ps.length = n1 at *
  generalize pv.length = n2 at *
  generalize ks.length = n3 at *
  generalize bf.length = n4 at *
  obtain ⟨lm, ps', pv', ks', bf'⟩ := m
  dsimp only at *
  go_enter Try.func4, Try.ntmps4
  obtain ⟨cA0, cA1, cA2, cA3, cA4⟩ := A0.cells
  have cAl := A0.lt
  obtain ⟨cR0, cR1, cR2⟩ := R0.cells
  have cRl := R0.lt
  go_wp2_with fail
  refine (HG.out).mono ?_
  rintro x w1 ⟨rfl, hb1⟩
  clear cA0 cA1 cA2 cA3 cA4 cAl cR0 cR1 cR2 cRl
  have Ah1 := A0.later hb1
  have Rh1 := R0.later hb1
  replace hb1 := hb0.trans (hb1.mono hb0.size)
  obtain ⟨cA0, cA1, cA2, cA3, cA4⟩ := Ah1.cells
  have cAl := Ah1.lt
  obtain ⟨cR0, cR1, cR2⟩ := Rh1.cells
  have cRl := Rh1.lt
  go_wp2_with fail
  refine (HR.out _).mono ?_
  rintro x w2 ⟨rfl, hb2⟩
  clear cA0 cA1 cA2 cA3 cA4 cAl cR0 cR1 cR2 cRl
  have Ah2 := Ah1.later hb2
  have Rh2 := Rh1.later hb2
  replace hb2 := hb1.trans (hb2.mono hb1.size)
  obtain ⟨cA0, cA1, cA2, cA3, cA4⟩ := Ah2.cells
  have cAl := Ah2.lt
  obtain ⟨cR0, cR1, cR2⟩ := Rh2.cells
  have cRl := Rh2.lt
  go_wp2_with fail
  refine (HI.out _).mono ?_
  rintro x w3 ⟨rfl, hb3⟩
  clear cA0 cA1 cA2 cA3 cA4 cAl cR0 cR1 cR2 cRl
  have Ah3 := Ah2.later hb3
  have Rh3 := Rh2.later hb3
  replace hb3 := hb2.trans (hb3.mono hb2.size)
  clear HG HR HI
  obtain ⟨cA0, cA1, cA2, cA3, cA4⟩ := Ah3.cells
  have cAl := Ah3.lt
  obtain ⟨cR0, cR1, cR2⟩ := Rh3.cells
  have cRl := Rh3.lt
  go_wp2_with fail
  refine (T1.out _ hb3).mono ?_
  rintro x w4 ⟨⟨x1, x2, x3, x4, rfl, hO⟩, hb4⟩
  clear cA0 cA1 cA2 cA3 cA4 cAl cR0 cR1 cR2 cRl
  have Ah4 := Ah3.later hb4
  have Rh4 := Rh3.later hb4
  replace hb4 := hb3.trans (hb4.mono hb3.size)
  obtain ⟨q, rfl, rfl, rfl, rfl, L1⟩ := hO.lies
  clear hO
  have Xh5 := NBox.new w4 (.bool lm) (.slice q.a1 ps'.length q.c1) (.slice q.a2 pv'.length q.c2) (.slice q.a3 ks'.length q.c3) (.slice q.a4 bf'.length q.c4)
  have Ah5 := Ah4.alloc (.cells #[.bool lm, .slice q.a1 ps'.length q.c1, .slice q.a2 pv'.length q.c2, .slice q.a3 ks'.length q.c3, .slice q.a4 bf'.length q.c4] 27)
  have Rh5 := Rh4.alloc (.cells #[.bool lm, .slice q.a1 ps'.length q.c1, .slice q.a2 pv'.length q.c2, .slice q.a3 ks'.length q.c3, .slice q.a4 bf'.length q.c4] 27)
  have Ph5 := L1.alloc (.cells #[.bool lm, .slice q.a1 ps'.length q.c1, .slice q.a2 pv'.length q.c2, .slice q.a3 ks'.length q.c3, .slice q.a4 bf'.length q.c4] 27)
  have hb5 := hb4.alloc hb4.size (.cells #[.bool lm, .slice q.a1 ps'.length q.c1, .slice q.a2 pv'.length q.c2, .slice q.a3 ks'.length q.c3, .slice q.a4 bf'.length q.c4] 27)
  go_upto_region 4 with fail
  generalize hkX : w4.heap.size = kX at *
  clear hkX
  generalize w4.alloc (.cells #[.bool lm, .slice q.a1 ps'.length q.c1, .slice q.a2 pv'.length q.c2, .slice q.a3 ks'.length q.c3, .slice q.a4 bf'.length q.c4] 27) = w5 at *
  go_upto_region 6 with fail
  have hs8 := hb5.size
  refine wp_region_quiet (C := fun u => Below w5.heap.size w5 u) (by kernel_rfl) (by kernel_rfl) (Below.refl _ w5).drew ?_
  change wpQuiet _ _ _ _ (_ :: _) _
  repeat
    first
      | go_big_quiet_skip
      | go_big_quiet_want
        first
          | refine quiet_v ?_ ?_ ?_
            rotate_left
            · intro u hu
              obtain ⟨m0, m1, m2, m3, m4⟩ := (Ah5.later hu).cells
              obtain ⟨z0, z1, z2, z3, z4⟩ := (Xh5.later hu).cells
              go_simp
              with_reducible rfl
          | refine quiet_c (wv ⟨yk, yv, yb, yd, yy⟩) 15 #[.agg #[.bool lm, .slice q.a1 ps'.length q.c1, .slice q.a2 pv'.length q.c2, .slice q.a3 ks'.length q.c3, .slice q.a4 bf'.length q.c4], .string k] ?_ (fun u hu => (S1.out q u (Ph5.later hu)).mono fun x u' h => ⟨h.1, hu.trans (h.2.mono hu.size)⟩) ?_
            · intro u hu
              go_simp
              done
          | refine quiet_c (wv ⟨yk, yv, yb, yd, yy⟩) 15 #[.agg #[.bool lB, .slice a1 n1 c1, .slice a2 n2 c2, .slice a3 n3 c3, .slice a4 n4 c4], .string (a ++ k)] ?_ (fun u hu => (S2.out u (hb5.trans (hu.mono (by omega)))).mono fun x u' h => ⟨h.1, hu.trans (h.2.mono hu.size)⟩) ?_
            · intro u hu
              go_simp
              done
          | refine quiet_c (.bool true) 9 #[] ?_ (fun u hu => (awake9 u).mono fun x u' h => ⟨h.1, hu.trans (h.2.mono hu.size)⟩) ?_
            · intro u hu
              go_simp
              done
        go_simp
        go_big_quiet_on
  refine wpQuiet_nil (fun u hu => ?_)
  go_wp2_with fail
  go_ret
  exact ⟨rfl, hb5.trans (hu.mono (by omega))⟩
end Go.Proofs.Ythhlimkcnppkaaa.Key
