/-
  The walk of the statement TrimTwice.
-/
import Derived.Test.YthhlimkcnppkaaaLeadsWalk
namespace Go.Proofs.Ythhlimkcnppkaaa.Key
open Go.RowKit Draw
open Go.Op (bytesLess)
set_option linter.unusedVariables false
set_option linter.unusedSimpArgs false

theorem in_boxes3 (w : World) (v0 v1 v2 v3 v4 r0 r1 r2 s0 s1 s2 : Value) :
    NBox (((w.alloc (.cells #[v0, v1, v2, v3, v4] 27)).alloc (.cells #[r0, r1, r2] 29)).alloc (.cells #[s0, s1, s2] 29)) w.heap.size v0 v1 v2 v3 v4 ∧
    Box (((w.alloc (.cells #[v0, v1, v2, v3, v4] 27)).alloc (.cells #[r0, r1, r2] 29)).alloc (.cells #[s0, s1, s2] 29)) (w.heap.size + 1) r0 r1 r2 ∧
    Box (((w.alloc (.cells #[v0, v1, v2, v3, v4] 27)).alloc (.cells #[r0, r1, r2] 29)).alloc (.cells #[s0, s1, s2] 29)) (w.heap.size + 1 + 1) s0 s1 s2 ∧
    Below w.heap.size w (((w.alloc (.cells #[v0, v1, v2, v3, v4] 27)).alloc (.cells #[r0, r1, r2] 29)).alloc (.cells #[s0, s1, s2] 29)) := by
  obtain ⟨h0, h1, hb⟩ := in_boxes w v0 v1 v2 v3 v4 r0 r1 r2
  have h2 := Box.new ((w.alloc (.cells #[v0, v1, v2, v3, v4] 27)).alloc (.cells #[r0, r1, r2] 29)) s0 s1 s2
  rw [show ((w.alloc (.cells #[v0, v1, v2, v3, v4] 27)).alloc (.cells #[r0, r1, r2] 29)).heap.size = w.heap.size + 1 + 1 by simp] at h2
  exact ⟨h0.alloc _, h1.alloc _, h2, hb.alloc hb.size _⟩
theorem over_len {l : Lft} {r : Rng} {n : Nat} (h1 : r.lo.length ≤ n) (h2 : r.hi.length ≤ n) (h3 : l.strip.length ≤ n) : (overR l r).lo.length ≤ l.add.length + n ∧ (overR l r).hi.length ≤ l.add.length + n := by
  obtain ⟨c1, c2⟩ := cut_len (a := r) (b := ofR l.strip) h1 h2 h3 (Nat.le_trans (ofR_len _) h3)
  have hs := ofR_len l.add
  unfold overR
  split
  · exact ⟨Nat.zero_le _, Nat.zero_le _⟩
  · split
    · simp only [List.length_append, List.length_drop]
      omega
    · simp only [List.length_append, List.length_drop]
      omega

set_option maxRecDepth 100000 in
set_option maxHeartbeats 8000000 in
theorem trimTwice5 (n : Nd) (p : Pl) (lo hi : ByteArray) (e : Bool) (lo' hi' : ByteArray) (e' : Bool) (a b : ByteArray) (w : World) (hn : n.In) (h : Lies w n p) (hlo : lo.size ≤ maxLen) (hhi : hi.size ≤ maxLen) (hlo' : lo'.size ≤ maxLen) (hhi' : hi'.size ≤ maxLen) (ha : a.size ≤ maxLen) (hb : b.size ≤ maxLen) :
    Calls Try.prog 5 #[nv n p, av lo hi e, av lo' hi' e', .string a, .string b] w fun e w' => e = .returned (.bool true) ∧ Below w.heap.size w w' := by
  obtain ⟨A0, R0, S0, hb0⟩ := in_boxes3 w (.bool n.leaf) (.slice p.a1 n.ps.length p.c1) (.slice p.a2 n.pv.length p.c2) (.slice p.a3 n.ks.length p.c3) (.slice p.a4 n.bf.length p.c4) (.string lo) (.string hi) (.bool e) (.string lo') (.string hi') (.bool e')
  have HG := hid (great7 n p _ hn.long (h.later hb0))
  have HS := hid (fun g => @small_of n g hn)
  have HR := hid (great9 lo hi e)
  have HR' := hid (great9 lo' hi' e')
  have hh := hid (fun (wr : World) (hb : Below w.heap.size w wr) => h.later hb)
  clear hn h hlo hhi hlo' hhi' ha hb
  cases g1 : greatN n
  case true =>
    rw [g1] at HG
    clear HS hh g1 HR HR'
    obtain ⟨lB, ps, pv, ks, bf⟩ := n
    obtain ⟨a1, c1, a2, c2, a3, c3, a4, c4⟩ := p
    dsimp only [nv] at *
    generalize ps.length = n1 at *
    generalize pv.length = n2 at *
    generalize ks.length = n3 at *
    generalize bf.length = n4 at *
    go_enter Try.func5, Try.ntmps5
    obtain ⟨cA0, cA1, cA2, cA3, cA4⟩ := A0.cells
    have cAl := A0.lt
    obtain ⟨cR0, cR1, cR2⟩ := R0.cells
    have cRl := R0.lt
    obtain ⟨cS0, cS1, cS2⟩ := S0.cells
    have cSl := S0.lt
    go_wp2_with fail
    refine (HG.out).mono ?_
    rintro x w1 ⟨rfl, hb1⟩
    clear cA0 cA1 cA2 cA3 cA4 cAl cR0 cR1 cR2 cRl cS0 cS1 cS2 cSl
    have Ah1 := A0.later hb1
    have Rh1 := R0.later hb1
    have Sh1 := S0.later hb1
    replace hb1 := hb0.trans (hb1.mono hb0.size)
    obtain ⟨cA0, cA1, cA2, cA3, cA4⟩ := Ah1.cells
    have cAl := Ah1.lt
    obtain ⟨cR0, cR1, cR2⟩ := Rh1.cells
    have cRl := Rh1.lt
    obtain ⟨cS0, cS1, cS2⟩ := Sh1.cells
    have cSl := Sh1.lt
    go_wp2_with fail
    refine (awake9 _).mono ?_
    rintro x w2 ⟨rfl, hb2⟩
    clear cA0 cA1 cA2 cA3 cA4 cAl cR0 cR1 cR2 cRl cS0 cS1 cS2 cSl
    have Ah2 := Ah1.later hb2
    have Rh2 := Rh1.later hb2
    have Sh2 := Sh1.later hb2
    replace hb2 := hb1.trans (hb2.mono hb1.size)
    go_wp2_with fail
    go_ret
    exact ⟨rfl, hb2⟩
  case false =>
  rw [g1] at HG
  have hsm := HS.out g1
  clear HS g1
  cases g2 : (decide (300 < lo.size) || decide (300 < hi.size))
  case true =>
    rw [g2] at HR
    clear hh hsm g2 HR'
    obtain ⟨lB, ps, pv, ks, bf⟩ := n
    obtain ⟨a1, c1, a2, c2, a3, c3, a4, c4⟩ := p
    dsimp only [nv] at *
    generalize ps.length = n1 at *
    generalize pv.length = n2 at *
    generalize ks.length = n3 at *
    generalize bf.length = n4 at *
    go_enter Try.func5, Try.ntmps5
    obtain ⟨cA0, cA1, cA2, cA3, cA4⟩ := A0.cells
    have cAl := A0.lt
    obtain ⟨cR0, cR1, cR2⟩ := R0.cells
    have cRl := R0.lt
    obtain ⟨cS0, cS1, cS2⟩ := S0.cells
    have cSl := S0.lt
    go_wp2_with fail
    refine (HG.out).mono ?_
    rintro x w1 ⟨rfl, hb1⟩
    clear cA0 cA1 cA2 cA3 cA4 cAl cR0 cR1 cR2 cRl cS0 cS1 cS2 cSl
    have Ah1 := A0.later hb1
    have Rh1 := R0.later hb1
    have Sh1 := S0.later hb1
    replace hb1 := hb0.trans (hb1.mono hb0.size)
    obtain ⟨cA0, cA1, cA2, cA3, cA4⟩ := Ah1.cells
    have cAl := Ah1.lt
    obtain ⟨cR0, cR1, cR2⟩ := Rh1.cells
    have cRl := Rh1.lt
    obtain ⟨cS0, cS1, cS2⟩ := Sh1.cells
    have cSl := Sh1.lt
    go_wp2_with fail
    refine (HR.out _).mono ?_
    rintro x w2 ⟨rfl, hb2⟩
    clear cA0 cA1 cA2 cA3 cA4 cAl cR0 cR1 cR2 cRl cS0 cS1 cS2 cSl
    have Ah2 := Ah1.later hb2
    have Rh2 := Rh1.later hb2
    have Sh2 := Sh1.later hb2
    replace hb2 := hb1.trans (hb2.mono hb1.size)
    obtain ⟨cA0, cA1, cA2, cA3, cA4⟩ := Ah2.cells
    have cAl := Ah2.lt
    obtain ⟨cR0, cR1, cR2⟩ := Rh2.cells
    have cRl := Rh2.lt
    obtain ⟨cS0, cS1, cS2⟩ := Sh2.cells
    have cSl := Sh2.lt
    go_wp2_with fail
    refine (awake9 _).mono ?_
    rintro x w3 ⟨rfl, hb3⟩
    clear cA0 cA1 cA2 cA3 cA4 cAl cR0 cR1 cR2 cRl cS0 cS1 cS2 cSl
    have Ah3 := Ah2.later hb3
    have Rh3 := Rh2.later hb3
    have Sh3 := Sh2.later hb3
    replace hb3 := hb2.trans (hb3.mono hb2.size)
    go_wp2_with fail
    go_ret
    exact ⟨rfl, hb3⟩
  case false =>
  rw [g2] at HR
  have hlr : lo.size ≤ 300 ∧ hi.size ≤ 300 := by simp at g2; omega
  clear g2
  cases g2 : (decide (300 < lo'.size) || decide (300 < hi'.size))
  case true =>
    rw [g2] at HR'
    clear hh hsm g2
    obtain ⟨lB, ps, pv, ks, bf⟩ := n
    obtain ⟨a1, c1, a2, c2, a3, c3, a4, c4⟩ := p
    dsimp only [nv] at *
    generalize ps.length = n1 at *
    generalize pv.length = n2 at *
    generalize ks.length = n3 at *
    generalize bf.length = n4 at *
    go_enter Try.func5, Try.ntmps5
    obtain ⟨cA0, cA1, cA2, cA3, cA4⟩ := A0.cells
    have cAl := A0.lt
    obtain ⟨cR0, cR1, cR2⟩ := R0.cells
    have cRl := R0.lt
    obtain ⟨cS0, cS1, cS2⟩ := S0.cells
    have cSl := S0.lt
    go_wp2_with fail
    refine (HG.out).mono ?_
    rintro x w1 ⟨rfl, hb1⟩
    clear cA0 cA1 cA2 cA3 cA4 cAl cR0 cR1 cR2 cRl cS0 cS1 cS2 cSl
    have Ah1 := A0.later hb1
    have Rh1 := R0.later hb1
    have Sh1 := S0.later hb1
    replace hb1 := hb0.trans (hb1.mono hb0.size)
    obtain ⟨cA0, cA1, cA2, cA3, cA4⟩ := Ah1.cells
    have cAl := Ah1.lt
    obtain ⟨cR0, cR1, cR2⟩ := Rh1.cells
    have cRl := Rh1.lt
    obtain ⟨cS0, cS1, cS2⟩ := Sh1.cells
    have cSl := Sh1.lt
    go_wp2_with fail
    refine (HR.out _).mono ?_
    rintro x w2 ⟨rfl, hb2⟩
    clear cA0 cA1 cA2 cA3 cA4 cAl cR0 cR1 cR2 cRl cS0 cS1 cS2 cSl
    have Ah2 := Ah1.later hb2
    have Rh2 := Rh1.later hb2
    have Sh2 := Sh1.later hb2
    replace hb2 := hb1.trans (hb2.mono hb1.size)
    obtain ⟨cA0, cA1, cA2, cA3, cA4⟩ := Ah2.cells
    have cAl := Ah2.lt
    obtain ⟨cR0, cR1, cR2⟩ := Rh2.cells
    have cRl := Rh2.lt
    obtain ⟨cS0, cS1, cS2⟩ := Sh2.cells
    have cSl := Sh2.lt
    go_wp2_with fail
    refine (HR'.out _).mono ?_
    rintro x w3 ⟨rfl, hb3⟩
    clear cA0 cA1 cA2 cA3 cA4 cAl cR0 cR1 cR2 cRl cS0 cS1 cS2 cSl
    have Ah3 := Ah2.later hb3
    have Rh3 := Rh2.later hb3
    have Sh3 := Sh2.later hb3
    replace hb3 := hb2.trans (hb3.mono hb2.size)
    obtain ⟨cA0, cA1, cA2, cA3, cA4⟩ := Ah3.cells
    have cAl := Ah3.lt
    obtain ⟨cR0, cR1, cR2⟩ := Rh3.cells
    have cRl := Rh3.lt
    obtain ⟨cS0, cS1, cS2⟩ := Sh3.cells
    have cSl := Sh3.lt
    go_wp2_with fail
    refine (awake9 _).mono ?_
    rintro x w4 ⟨rfl, hb4⟩
    clear cA0 cA1 cA2 cA3 cA4 cAl cR0 cR1 cR2 cRl cS0 cS1 cS2 cSl
    have Ah4 := Ah3.later hb4
    have Rh4 := Rh3.later hb4
    have Sh4 := Sh3.later hb4
    replace hb4 := hb3.trans (hb4.mono hb3.size)
    go_wp2_with fail
    go_ret
    exact ⟨rfl, hb4⟩
  case false =>
  rw [g2] at HR'
  have hlr' : lo'.size ≤ 300 ∧ hi'.size ≤ 300 := by simp at g2; omega
  clear g2
  cases g3 : decide ((100 : Int) < (a.size : Int))
  case true =>
    clear hh hsm
    obtain ⟨lB, ps, pv, ks, bf⟩ := n
    obtain ⟨a1, c1, a2, c2, a3, c3, a4, c4⟩ := p
    dsimp only [nv] at *
    generalize ps.length = n1 at *
    generalize pv.length = n2 at *
    generalize ks.length = n3 at *
    generalize bf.length = n4 at *
    go_enter Try.func5, Try.ntmps5
    obtain ⟨cA0, cA1, cA2, cA3, cA4⟩ := A0.cells
    have cAl := A0.lt
    obtain ⟨cR0, cR1, cR2⟩ := R0.cells
    have cRl := R0.lt
    obtain ⟨cS0, cS1, cS2⟩ := S0.cells
    have cSl := S0.lt
    go_wp2_with fail
    refine (HG.out).mono ?_
    rintro x w1 ⟨rfl, hb1⟩
    clear cA0 cA1 cA2 cA3 cA4 cAl cR0 cR1 cR2 cRl cS0 cS1 cS2 cSl
    have Ah1 := A0.later hb1
    have Rh1 := R0.later hb1
    have Sh1 := S0.later hb1
    replace hb1 := hb0.trans (hb1.mono hb0.size)
    obtain ⟨cA0, cA1, cA2, cA3, cA4⟩ := Ah1.cells
    have cAl := Ah1.lt
    obtain ⟨cR0, cR1, cR2⟩ := Rh1.cells
    have cRl := Rh1.lt
    obtain ⟨cS0, cS1, cS2⟩ := Sh1.cells
    have cSl := Sh1.lt
    go_wp2_with fail
    refine (HR.out _).mono ?_
    rintro x w2 ⟨rfl, hb2⟩
    clear cA0 cA1 cA2 cA3 cA4 cAl cR0 cR1 cR2 cRl cS0 cS1 cS2 cSl
    have Ah2 := Ah1.later hb2
    have Rh2 := Rh1.later hb2
    have Sh2 := Sh1.later hb2
    replace hb2 := hb1.trans (hb2.mono hb1.size)
    obtain ⟨cA0, cA1, cA2, cA3, cA4⟩ := Ah2.cells
    have cAl := Ah2.lt
    obtain ⟨cR0, cR1, cR2⟩ := Rh2.cells
    have cRl := Rh2.lt
    obtain ⟨cS0, cS1, cS2⟩ := Sh2.cells
    have cSl := Sh2.lt
    go_wp2_with fail
    refine (HR'.out _).mono ?_
    rintro x w3 ⟨rfl, hb3⟩
    clear cA0 cA1 cA2 cA3 cA4 cAl cR0 cR1 cR2 cRl cS0 cS1 cS2 cSl
    have Ah3 := Ah2.later hb3
    have Rh3 := Rh2.later hb3
    have Sh3 := Sh2.later hb3
    replace hb3 := hb2.trans (hb3.mono hb2.size)
    obtain ⟨cA0, cA1, cA2, cA3, cA4⟩ := Ah3.cells
    have cAl := Ah3.lt
    obtain ⟨cR0, cR1, cR2⟩ := Rh3.cells
    have cRl := Rh3.lt
    obtain ⟨cS0, cS1, cS2⟩ := Sh3.cells
    have cSl := Sh3.lt
    go_wp2_with fail
    refine (awake9 _).mono ?_
    rintro x w4 ⟨rfl, hb4⟩
    clear cA0 cA1 cA2 cA3 cA4 cAl cR0 cR1 cR2 cRl cS0 cS1 cS2 cSl
    have Ah4 := Ah3.later hb4
    have Rh4 := Rh3.later hb4
    have Sh4 := Sh3.later hb4
    replace hb4 := hb3.trans (hb4.mono hb3.size)
    go_wp2_with fail
    go_ret
    exact ⟨rfl, hb4⟩
  case false =>
  have hla : a.size ≤ 100 := by simp at g3; omega
  cases g4 : decide ((100 : Int) < (b.size : Int))
  case true =>
    clear hh hsm
    obtain ⟨lB, ps, pv, ks, bf⟩ := n
    obtain ⟨a1, c1, a2, c2, a3, c3, a4, c4⟩ := p
    dsimp only [nv] at *
    generalize ps.length = n1 at *
    generalize pv.length = n2 at *
    generalize ks.length = n3 at *
    generalize bf.length = n4 at *
    go_enter Try.func5, Try.ntmps5
    obtain ⟨cA0, cA1, cA2, cA3, cA4⟩ := A0.cells
    have cAl := A0.lt
    obtain ⟨cR0, cR1, cR2⟩ := R0.cells
    have cRl := R0.lt
    obtain ⟨cS0, cS1, cS2⟩ := S0.cells
    have cSl := S0.lt
    go_wp2_with fail
    refine (HG.out).mono ?_
    rintro x w1 ⟨rfl, hb1⟩
    clear cA0 cA1 cA2 cA3 cA4 cAl cR0 cR1 cR2 cRl cS0 cS1 cS2 cSl
    have Ah1 := A0.later hb1
    have Rh1 := R0.later hb1
    have Sh1 := S0.later hb1
    replace hb1 := hb0.trans (hb1.mono hb0.size)
    obtain ⟨cA0, cA1, cA2, cA3, cA4⟩ := Ah1.cells
    have cAl := Ah1.lt
    obtain ⟨cR0, cR1, cR2⟩ := Rh1.cells
    have cRl := Rh1.lt
    obtain ⟨cS0, cS1, cS2⟩ := Sh1.cells
    have cSl := Sh1.lt
    go_wp2_with fail
    refine (HR.out _).mono ?_
    rintro x w2 ⟨rfl, hb2⟩
    clear cA0 cA1 cA2 cA3 cA4 cAl cR0 cR1 cR2 cRl cS0 cS1 cS2 cSl
    have Ah2 := Ah1.later hb2
    have Rh2 := Rh1.later hb2
    have Sh2 := Sh1.later hb2
    replace hb2 := hb1.trans (hb2.mono hb1.size)
    obtain ⟨cA0, cA1, cA2, cA3, cA4⟩ := Ah2.cells
    have cAl := Ah2.lt
    obtain ⟨cR0, cR1, cR2⟩ := Rh2.cells
    have cRl := Rh2.lt
    obtain ⟨cS0, cS1, cS2⟩ := Sh2.cells
    have cSl := Sh2.lt
    go_wp2_with fail
    refine (HR'.out _).mono ?_
    rintro x w3 ⟨rfl, hb3⟩
    clear cA0 cA1 cA2 cA3 cA4 cAl cR0 cR1 cR2 cRl cS0 cS1 cS2 cSl
    have Ah3 := Ah2.later hb3
    have Rh3 := Rh2.later hb3
    have Sh3 := Sh2.later hb3
    replace hb3 := hb2.trans (hb3.mono hb2.size)
    obtain ⟨cA0, cA1, cA2, cA3, cA4⟩ := Ah3.cells
    have cAl := Ah3.lt
    obtain ⟨cR0, cR1, cR2⟩ := Rh3.cells
    have cRl := Rh3.lt
    obtain ⟨cS0, cS1, cS2⟩ := Sh3.cells
    have cSl := Sh3.lt
    go_wp2_with fail
    refine (awake9 _).mono ?_
    rintro x w4 ⟨rfl, hb4⟩
    clear cA0 cA1 cA2 cA3 cA4 cAl cR0 cR1 cR2 cRl cS0 cS1 cS2 cSl
    have Ah4 := Ah3.later hb4
    have Rh4 := Rh3.later hb4
    have Sh4 := Sh3.later hb4
    replace hb4 := hb3.trans (hb4.mono hb3.size)
    go_wp2_with fail
    go_ret
    exact ⟨rfl, hb4⟩
  case false =>
  have hlb : b.size ≤ 100 := by simp at g4; omega
  have hsum : ¬ 9223372036854775807 < a.size + b.size := by omega
  have T1 := hid (fun wr hb => trim10 n p lo hi e a wr hsm.few (hh.out wr hb) (by omega) (by omega) (by omega))
  unfold TrimSay at T1
  by_cases hz : trimE n (rg lo hi e) a = 0
  case neg =>
    generalize trimA n (rg lo hi e) a = m at *
    generalize trimE n (rg lo hi e) a = z at *
    have hzz : (z == 0) = false := by simpa using hz
    clear hh hsm
    obtain ⟨lB, ps, pv, ks, bf⟩ := n
    obtain ⟨a1, c1, a2, c2, a3, c3, a4, c4⟩ := p
    dsimp only [nv] at *
    generalize ps.length = n1 at *
    generalize pv.length = n2 at *
    generalize ks.length = n3 at *
    generalize bf.length = n4 at *
    obtain ⟨lm, ps', pv', ks', bf'⟩ := m
    dsimp only at *
    go_enter Try.func5, Try.ntmps5
    obtain ⟨cA0, cA1, cA2, cA3, cA4⟩ := A0.cells
    have cAl := A0.lt
    obtain ⟨cR0, cR1, cR2⟩ := R0.cells
    have cRl := R0.lt
    obtain ⟨cS0, cS1, cS2⟩ := S0.cells
    have cSl := S0.lt
    go_wp2_with fail
    refine (HG.out).mono ?_
    rintro x w1 ⟨rfl, hb1⟩
    clear cA0 cA1 cA2 cA3 cA4 cAl cR0 cR1 cR2 cRl cS0 cS1 cS2 cSl
    have Ah1 := A0.later hb1
    have Rh1 := R0.later hb1
    have Sh1 := S0.later hb1
    replace hb1 := hb0.trans (hb1.mono hb0.size)
    obtain ⟨cA0, cA1, cA2, cA3, cA4⟩ := Ah1.cells
    have cAl := Ah1.lt
    obtain ⟨cR0, cR1, cR2⟩ := Rh1.cells
    have cRl := Rh1.lt
    obtain ⟨cS0, cS1, cS2⟩ := Sh1.cells
    have cSl := Sh1.lt
    go_wp2_with fail
    refine (HR.out _).mono ?_
    rintro x w2 ⟨rfl, hb2⟩
    clear cA0 cA1 cA2 cA3 cA4 cAl cR0 cR1 cR2 cRl cS0 cS1 cS2 cSl
    have Ah2 := Ah1.later hb2
    have Rh2 := Rh1.later hb2
    have Sh2 := Sh1.later hb2
    replace hb2 := hb1.trans (hb2.mono hb1.size)
    obtain ⟨cA0, cA1, cA2, cA3, cA4⟩ := Ah2.cells
    have cAl := Ah2.lt
    obtain ⟨cR0, cR1, cR2⟩ := Rh2.cells
    have cRl := Rh2.lt
    obtain ⟨cS0, cS1, cS2⟩ := Sh2.cells
    have cSl := Sh2.lt
    go_wp2_with fail
    refine (HR'.out _).mono ?_
    rintro x w3 ⟨rfl, hb3⟩
    clear cA0 cA1 cA2 cA3 cA4 cAl cR0 cR1 cR2 cRl cS0 cS1 cS2 cSl
    have Ah3 := Ah2.later hb3
    have Rh3 := Rh2.later hb3
    have Sh3 := Sh2.later hb3
    replace hb3 := hb2.trans (hb3.mono hb2.size)
    clear HG HR HR'
    obtain ⟨cA0, cA1, cA2, cA3, cA4⟩ := Ah3.cells
    have cAl := Ah3.lt
    obtain ⟨cR0, cR1, cR2⟩ := Rh3.cells
    have cRl := Rh3.lt
    obtain ⟨cS0, cS1, cS2⟩ := Sh3.cells
    have cSl := Sh3.lt
    go_wp2_with fail
    refine (T1.out _ hb3).mono ?_
    rintro x w4 ⟨⟨x1, x2, x3, x4, rfl, hO⟩, hb4⟩
    clear cA0 cA1 cA2 cA3 cA4 cAl cR0 cR1 cR2 cRl cS0 cS1 cS2 cSl
    have Ah4 := Ah3.later hb4
    have Rh4 := Rh3.later hb4
    have Sh4 := Sh3.later hb4
    replace hb4 := hb3.trans (hb4.mono hb3.size)
    obtain ⟨q, rfl, rfl, rfl, rfl, L1⟩ := hO.lies
    clear hO
    have Xh5 := NBox.new w4 (.bool lm) (.slice q.a1 ps'.length q.c1) (.slice q.a2 pv'.length q.c2) (.slice q.a3 ks'.length q.c3) (.slice q.a4 bf'.length q.c4)
    have Ah5 := Ah4.alloc (.cells #[.bool lm, .slice q.a1 ps'.length q.c1, .slice q.a2 pv'.length q.c2, .slice q.a3 ks'.length q.c3, .slice q.a4 bf'.length q.c4] 27)
    have Rh5 := Rh4.alloc (.cells #[.bool lm, .slice q.a1 ps'.length q.c1, .slice q.a2 pv'.length q.c2, .slice q.a3 ks'.length q.c3, .slice q.a4 bf'.length q.c4] 27)
    have Sh5 := Sh4.alloc (.cells #[.bool lm, .slice q.a1 ps'.length q.c1, .slice q.a2 pv'.length q.c2, .slice q.a3 ks'.length q.c3, .slice q.a4 bf'.length q.c4] 27)
    have Ph5 := L1.alloc (.cells #[.bool lm, .slice q.a1 ps'.length q.c1, .slice q.a2 pv'.length q.c2, .slice q.a3 ks'.length q.c3, .slice q.a4 bf'.length q.c4] 27)
    have hb5 := hb4.alloc hb4.size (.cells #[.bool lm, .slice q.a1 ps'.length q.c1, .slice q.a2 pv'.length q.c2, .slice q.a3 ks'.length q.c3, .slice q.a4 bf'.length q.c4] 27)
    go_upto_region 4 with fail
    generalize hkX : w4.heap.size = kX at *
    clear hkX
    generalize w4.alloc (.cells #[.bool lm, .slice q.a1 ps'.length q.c1, .slice q.a2 pv'.length q.c2, .slice q.a3 ks'.length q.c3, .slice q.a4 bf'.length q.c4] 27) = w5 at *
    obtain ⟨cA0, cA1, cA2, cA3, cA4⟩ := Ah5.cells
    have cAl := Ah5.lt
    obtain ⟨cR0, cR1, cR2⟩ := Rh5.cells
    have cRl := Rh5.lt
    obtain ⟨cS0, cS1, cS2⟩ := Sh5.cells
    have cSl := Sh5.lt
    obtain ⟨cX0, cX1, cX2, cX3, cX4⟩ := Xh5.cells
    have cXl := Xh5.lt
    go_wp2_with fail
    refine (awake9 _).mono ?_
    rintro x w6 ⟨rfl, hb6⟩
    clear cA0 cA1 cA2 cA3 cA4 cAl cR0 cR1 cR2 cRl cS0 cS1 cS2 cSl cX0 cX1 cX2 cX3 cX4 cXl
    have Ah6 := Ah5.later hb6
    have Rh6 := Rh5.later hb6
    have Sh6 := Sh5.later hb6
    have Ph6 := Ph5.later hb6
    have Xh6 := Xh5.later hb6
    replace hb6 := hb5.trans (hb6.mono hb5.size)
    go_wp2_with fail
    go_ret
    exact ⟨rfl, hb6⟩
  case pos =>
  rw [hz] at T1
  -- the smaller range
  have HO := hid (fun wr => over16 ⟨#[]⟩ a lo' hi' e' wr (by decide) (by omega) (by omega) (by omega))
  have hol := over_len (l := lf ⟨#[]⟩ a) (r := rg lo' hi' e') (n := 300) (by rw [show (rg lo' hi' e').lo = lo'.data.toList from rfl, ← Lib.size_eq]; omega) (by rw [show (rg lo' hi' e').hi = hi'.data.toList from rfl, ← Lib.size_eq]; omega) (Nat.zero_le _)
  rw [show (lf ⟨#[]⟩ a).add = a.data.toList from rfl, ← Lib.size_eq, ← str_size, ← str_size] at hol
  obtain ⟨OV, hOV⟩ : ∃ r, overR (lf ⟨#[]⟩ a) (rg lo' hi' e') = r := ⟨_, rfl⟩
  rw [hOV] at HO hol
  have hOr : rg (str OV.lo) (str OV.hi) OV.e = OV := rfl
  unfold rv at HO
  have HI := hid (fun wr => inside31 (str OV.lo) (str OV.hi) lo hi OV.e e wr)
  have T3 := hid (fun wr hb => trim10 n p (str OV.lo) (str OV.hi) OV.e (a ++ b) wr hsm.few (hh.out wr hb) (by omega) (by omega) (by rw [ByteArray.size_append]; omega))
  rw [hOr] at HI T3
  unfold TrimSay at T3
  have hf1 := trim_few hsm.few (rg lo hi e) a
  have hf3 := trim_few hsm.few OV (a ++ b)
  have H12 := hid (fun hin h' => trim_twice (n := n) (r := rg lo hi e) (s := rg lo' hi' e') (a := a) (b := b) hz hin h')
  rw [hOV] at H12
  rw [← (trim_zero hz).2.2.1] at H12
  clear hsm hOr hOV
  have T2 := hid (fun q (wr : World) (hq : Lies wr (trimA n (rg lo hi e) a) q) => trim10 (trimA n (rg lo hi e) a) q lo' hi' e' b wr hf1 hq (by omega) (by omega) (by omega))
  unfold TrimSay at T2
  have HE := hid (fun m (hm : trimA n OV (a ++ b) = m) q q' (wr : World) (hq : Lies wr m q) (hq' : Lies wr m q') => same10 m m q q' wr (hm ▸ hf3) (hm ▸ hf3) hq hq')
  clear hf1 hf3 hh hlr hlr' hz
  generalize trimA n (rg lo hi e) a = m at *
  generalize str OV.lo = V0 at *
  generalize str OV.hi = V1 at *
  cases g5 : insideR OV (rg lo hi e)
  case false =>
    rw [g5] at HI
    generalize OV.e = V2 at *
    clear H12 g5 T3 HE
    obtain ⟨lB, ps, pv, ks, bf⟩ := n
    obtain ⟨a1, c1, a2, c2, a3, c3, a4, c4⟩ := p
    dsimp only [nv] at *
    generalize ps.length = n1 at *
    generalize pv.length = n2 at *
    generalize ks.length = n3 at *
    generalize bf.length = n4 at *
    obtain ⟨lm, ps', pv', ks', bf'⟩ := m
    dsimp only at *
    go_enter Try.func5, Try.ntmps5
    obtain ⟨cA0, cA1, cA2, cA3, cA4⟩ := A0.cells
    have cAl := A0.lt
    obtain ⟨cR0, cR1, cR2⟩ := R0.cells
    have cRl := R0.lt
    obtain ⟨cS0, cS1, cS2⟩ := S0.cells
    have cSl := S0.lt
    go_wp2_with fail
    refine (HG.out).mono ?_
    rintro x w1 ⟨rfl, hb1⟩
    clear cA0 cA1 cA2 cA3 cA4 cAl cR0 cR1 cR2 cRl cS0 cS1 cS2 cSl
    have Ah1 := A0.later hb1
    have Rh1 := R0.later hb1
    have Sh1 := S0.later hb1
    replace hb1 := hb0.trans (hb1.mono hb0.size)
    obtain ⟨cA0, cA1, cA2, cA3, cA4⟩ := Ah1.cells
    have cAl := Ah1.lt
    obtain ⟨cR0, cR1, cR2⟩ := Rh1.cells
    have cRl := Rh1.lt
    obtain ⟨cS0, cS1, cS2⟩ := Sh1.cells
    have cSl := Sh1.lt
    go_wp2_with fail
    refine (HR.out _).mono ?_
    rintro x w2 ⟨rfl, hb2⟩
    clear cA0 cA1 cA2 cA3 cA4 cAl cR0 cR1 cR2 cRl cS0 cS1 cS2 cSl
    have Ah2 := Ah1.later hb2
    have Rh2 := Rh1.later hb2
    have Sh2 := Sh1.later hb2
    replace hb2 := hb1.trans (hb2.mono hb1.size)
    obtain ⟨cA0, cA1, cA2, cA3, cA4⟩ := Ah2.cells
    have cAl := Ah2.lt
    obtain ⟨cR0, cR1, cR2⟩ := Rh2.cells
    have cRl := Rh2.lt
    obtain ⟨cS0, cS1, cS2⟩ := Sh2.cells
    have cSl := Sh2.lt
    go_wp2_with fail
    refine (HR'.out _).mono ?_
    rintro x w3 ⟨rfl, hb3⟩
    clear cA0 cA1 cA2 cA3 cA4 cAl cR0 cR1 cR2 cRl cS0 cS1 cS2 cSl
    have Ah3 := Ah2.later hb3
    have Rh3 := Rh2.later hb3
    have Sh3 := Sh2.later hb3
    replace hb3 := hb2.trans (hb3.mono hb2.size)
    clear HG HR HR'
    obtain ⟨cA0, cA1, cA2, cA3, cA4⟩ := Ah3.cells
    have cAl := Ah3.lt
    obtain ⟨cR0, cR1, cR2⟩ := Rh3.cells
    have cRl := Rh3.lt
    obtain ⟨cS0, cS1, cS2⟩ := Sh3.cells
    have cSl := Sh3.lt
    go_wp2_with fail
    refine (T1.out _ hb3).mono ?_
    rintro x w4 ⟨⟨x1, x2, x3, x4, rfl, hO⟩, hb4⟩
    clear cA0 cA1 cA2 cA3 cA4 cAl cR0 cR1 cR2 cRl cS0 cS1 cS2 cSl
    have Ah4 := Ah3.later hb4
    have Rh4 := Rh3.later hb4
    have Sh4 := Sh3.later hb4
    replace hb4 := hb3.trans (hb4.mono hb3.size)
    obtain ⟨q, rfl, rfl, rfl, rfl, L1⟩ := hO.lies
    clear hO
    have Xh5 := NBox.new w4 (.bool lm) (.slice q.a1 ps'.length q.c1) (.slice q.a2 pv'.length q.c2) (.slice q.a3 ks'.length q.c3) (.slice q.a4 bf'.length q.c4)
    have Ah5 := Ah4.alloc (.cells #[.bool lm, .slice q.a1 ps'.length q.c1, .slice q.a2 pv'.length q.c2, .slice q.a3 ks'.length q.c3, .slice q.a4 bf'.length q.c4] 27)
    have Rh5 := Rh4.alloc (.cells #[.bool lm, .slice q.a1 ps'.length q.c1, .slice q.a2 pv'.length q.c2, .slice q.a3 ks'.length q.c3, .slice q.a4 bf'.length q.c4] 27)
    have Sh5 := Sh4.alloc (.cells #[.bool lm, .slice q.a1 ps'.length q.c1, .slice q.a2 pv'.length q.c2, .slice q.a3 ks'.length q.c3, .slice q.a4 bf'.length q.c4] 27)
    have Ph5 := L1.alloc (.cells #[.bool lm, .slice q.a1 ps'.length q.c1, .slice q.a2 pv'.length q.c2, .slice q.a3 ks'.length q.c3, .slice q.a4 bf'.length q.c4] 27)
    have hb5 := hb4.alloc hb4.size (.cells #[.bool lm, .slice q.a1 ps'.length q.c1, .slice q.a2 pv'.length q.c2, .slice q.a3 ks'.length q.c3, .slice q.a4 bf'.length q.c4] 27)
    go_upto_region 4 with fail
    generalize hkX : w4.heap.size = kX at *
    clear hkX
    generalize w4.alloc (.cells #[.bool lm, .slice q.a1 ps'.length q.c1, .slice q.a2 pv'.length q.c2, .slice q.a3 ks'.length q.c3, .slice q.a4 bf'.length q.c4] 27) = w5 at *
    clear T1
    obtain ⟨cA0, cA1, cA2, cA3, cA4⟩ := Ah5.cells
    have cAl := Ah5.lt
    obtain ⟨cR0, cR1, cR2⟩ := Rh5.cells
    have cRl := Rh5.lt
    obtain ⟨cS0, cS1, cS2⟩ := Sh5.cells
    have cSl := Sh5.lt
    obtain ⟨cX0, cX1, cX2, cX3, cX4⟩ := Xh5.cells
    have cXl := Xh5.lt
    go_wp2_with fail
    refine (HO.out _).mono ?_
    rintro x w6 ⟨rfl, hb6⟩
    clear cA0 cA1 cA2 cA3 cA4 cAl cR0 cR1 cR2 cRl cS0 cS1 cS2 cSl cX0 cX1 cX2 cX3 cX4 cXl
    have Ah6 := Ah5.later hb6
    have Rh6 := Rh5.later hb6
    have Sh6 := Sh5.later hb6
    have Ph6 := Ph5.later hb6
    have Xh6 := Xh5.later hb6
    replace hb6 := hb5.trans (hb6.mono hb5.size)
    have Vh7 := Box.new w6 (.string V0) (.string V1) (.bool V2)
    have Ah7 := Ah6.alloc (.cells #[.string V0, .string V1, .bool V2] 29)
    have Rh7 := Rh6.alloc (.cells #[.string V0, .string V1, .bool V2] 29)
    have Sh7 := Sh6.alloc (.cells #[.string V0, .string V1, .bool V2] 29)
    have Ph7 := Ph6.alloc (.cells #[.string V0, .string V1, .bool V2] 29)
    have Xh7 := Xh6.alloc (.cells #[.string V0, .string V1, .bool V2] 29)
    have hb7 := hb6.alloc hb6.size (.cells #[.string V0, .string V1, .bool V2] 29)
    go_upto_region 7 with fail
    generalize hkV : w6.heap.size = kV at *
    clear hkV
    generalize w6.alloc (.cells #[.string V0, .string V1, .bool V2] 29) = w7 at *
    obtain ⟨cA0, cA1, cA2, cA3, cA4⟩ := Ah7.cells
    have cAl := Ah7.lt
    obtain ⟨cR0, cR1, cR2⟩ := Rh7.cells
    have cRl := Rh7.lt
    obtain ⟨cS0, cS1, cS2⟩ := Sh7.cells
    have cSl := Sh7.lt
    obtain ⟨cX0, cX1, cX2, cX3, cX4⟩ := Xh7.cells
    have cXl := Xh7.lt
    obtain ⟨cV0, cV1, cV2⟩ := Vh7.cells
    have cVl := Vh7.lt
    go_wp2_with fail
    refine (HI.out _).mono ?_
    rintro x w8 ⟨rfl, hb8⟩
    clear cA0 cA1 cA2 cA3 cA4 cAl cR0 cR1 cR2 cRl cS0 cS1 cS2 cSl cX0 cX1 cX2 cX3 cX4 cXl cV0 cV1 cV2 cVl
    have Ah8 := Ah7.later hb8
    have Rh8 := Rh7.later hb8
    have Sh8 := Sh7.later hb8
    have Ph8 := Ph7.later hb8
    have Xh8 := Xh7.later hb8
    have Vh8 := Vh7.later hb8
    replace hb8 := hb7.trans (hb8.mono hb7.size)
    clear HO HI
    obtain ⟨cA0, cA1, cA2, cA3, cA4⟩ := Ah8.cells
    have cAl := Ah8.lt
    obtain ⟨cR0, cR1, cR2⟩ := Rh8.cells
    have cRl := Rh8.lt
    obtain ⟨cS0, cS1, cS2⟩ := Sh8.cells
    have cSl := Sh8.lt
    obtain ⟨cX0, cX1, cX2, cX3, cX4⟩ := Xh8.cells
    have cXl := Xh8.lt
    obtain ⟨cV0, cV1, cV2⟩ := Vh8.cells
    have cVl := Vh8.lt
    go_wp2_with fail
    refine (awake9 _).mono ?_
    rintro x w9 ⟨rfl, hb9⟩
    clear cA0 cA1 cA2 cA3 cA4 cAl cR0 cR1 cR2 cRl cS0 cS1 cS2 cSl cX0 cX1 cX2 cX3 cX4 cXl cV0 cV1 cV2 cVl
    have Ah9 := Ah8.later hb9
    have Rh9 := Rh8.later hb9
    have Sh9 := Sh8.later hb9
    have Ph9 := Ph8.later hb9
    have Xh9 := Xh8.later hb9
    have Vh9 := Vh8.later hb9
    replace hb9 := hb8.trans (hb9.mono hb8.size)
    go_wp2_with fail
    go_ret
    exact ⟨rfl, hb9⟩
  case true =>
  rw [g5] at HI
  by_cases hz2 : trimE m (rg lo' hi' e') b = 0
  case neg =>
    generalize trimA m (rg lo' hi' e') b = m2 at *
    generalize trimE m (rg lo' hi' e') b = z at *
    have hzz : (z == 0) = false := by simpa using hz2
    generalize OV.e = V2 at *
    clear H12 g5 T3 HE
    obtain ⟨lB, ps, pv, ks, bf⟩ := n
    obtain ⟨a1, c1, a2, c2, a3, c3, a4, c4⟩ := p
    dsimp only [nv] at *
    generalize ps.length = n1 at *
    generalize pv.length = n2 at *
    generalize ks.length = n3 at *
    generalize bf.length = n4 at *
    obtain ⟨lm, ps', pv', ks', bf'⟩ := m
    obtain ⟨lm2, ps2, pv2, ks2, bf2⟩ := m2
    dsimp only at *
    go_enter Try.func5, Try.ntmps5
    obtain ⟨cA0, cA1, cA2, cA3, cA4⟩ := A0.cells
    have cAl := A0.lt
    obtain ⟨cR0, cR1, cR2⟩ := R0.cells
    have cRl := R0.lt
    obtain ⟨cS0, cS1, cS2⟩ := S0.cells
    have cSl := S0.lt
    go_wp2_with fail
    refine (HG.out).mono ?_
    rintro x w1 ⟨rfl, hb1⟩
    clear cA0 cA1 cA2 cA3 cA4 cAl cR0 cR1 cR2 cRl cS0 cS1 cS2 cSl
    have Ah1 := A0.later hb1
    have Rh1 := R0.later hb1
    have Sh1 := S0.later hb1
    replace hb1 := hb0.trans (hb1.mono hb0.size)
    obtain ⟨cA0, cA1, cA2, cA3, cA4⟩ := Ah1.cells
    have cAl := Ah1.lt
    obtain ⟨cR0, cR1, cR2⟩ := Rh1.cells
    have cRl := Rh1.lt
    obtain ⟨cS0, cS1, cS2⟩ := Sh1.cells
    have cSl := Sh1.lt
    go_wp2_with fail
    refine (HR.out _).mono ?_
    rintro x w2 ⟨rfl, hb2⟩
    clear cA0 cA1 cA2 cA3 cA4 cAl cR0 cR1 cR2 cRl cS0 cS1 cS2 cSl
    have Ah2 := Ah1.later hb2
    have Rh2 := Rh1.later hb2
    have Sh2 := Sh1.later hb2
    replace hb2 := hb1.trans (hb2.mono hb1.size)
    obtain ⟨cA0, cA1, cA2, cA3, cA4⟩ := Ah2.cells
    have cAl := Ah2.lt
    obtain ⟨cR0, cR1, cR2⟩ := Rh2.cells
    have cRl := Rh2.lt
    obtain ⟨cS0, cS1, cS2⟩ := Sh2.cells
    have cSl := Sh2.lt
    go_wp2_with fail
    refine (HR'.out _).mono ?_
    rintro x w3 ⟨rfl, hb3⟩
    clear cA0 cA1 cA2 cA3 cA4 cAl cR0 cR1 cR2 cRl cS0 cS1 cS2 cSl
    have Ah3 := Ah2.later hb3
    have Rh3 := Rh2.later hb3
    have Sh3 := Sh2.later hb3
    replace hb3 := hb2.trans (hb3.mono hb2.size)
    clear HG HR HR'
    obtain ⟨cA0, cA1, cA2, cA3, cA4⟩ := Ah3.cells
    have cAl := Ah3.lt
    obtain ⟨cR0, cR1, cR2⟩ := Rh3.cells
    have cRl := Rh3.lt
    obtain ⟨cS0, cS1, cS2⟩ := Sh3.cells
    have cSl := Sh3.lt
    go_wp2_with fail
    refine (T1.out _ hb3).mono ?_
    rintro x w4 ⟨⟨x1, x2, x3, x4, rfl, hO⟩, hb4⟩
    clear cA0 cA1 cA2 cA3 cA4 cAl cR0 cR1 cR2 cRl cS0 cS1 cS2 cSl
    have Ah4 := Ah3.later hb4
    have Rh4 := Rh3.later hb4
    have Sh4 := Sh3.later hb4
    replace hb4 := hb3.trans (hb4.mono hb3.size)
    obtain ⟨q, rfl, rfl, rfl, rfl, L1⟩ := hO.lies
    clear hO
    have Xh5 := NBox.new w4 (.bool lm) (.slice q.a1 ps'.length q.c1) (.slice q.a2 pv'.length q.c2) (.slice q.a3 ks'.length q.c3) (.slice q.a4 bf'.length q.c4)
    have Ah5 := Ah4.alloc (.cells #[.bool lm, .slice q.a1 ps'.length q.c1, .slice q.a2 pv'.length q.c2, .slice q.a3 ks'.length q.c3, .slice q.a4 bf'.length q.c4] 27)
    have Rh5 := Rh4.alloc (.cells #[.bool lm, .slice q.a1 ps'.length q.c1, .slice q.a2 pv'.length q.c2, .slice q.a3 ks'.length q.c3, .slice q.a4 bf'.length q.c4] 27)
    have Sh5 := Sh4.alloc (.cells #[.bool lm, .slice q.a1 ps'.length q.c1, .slice q.a2 pv'.length q.c2, .slice q.a3 ks'.length q.c3, .slice q.a4 bf'.length q.c4] 27)
    have Ph5 := L1.alloc (.cells #[.bool lm, .slice q.a1 ps'.length q.c1, .slice q.a2 pv'.length q.c2, .slice q.a3 ks'.length q.c3, .slice q.a4 bf'.length q.c4] 27)
    have hb5 := hb4.alloc hb4.size (.cells #[.bool lm, .slice q.a1 ps'.length q.c1, .slice q.a2 pv'.length q.c2, .slice q.a3 ks'.length q.c3, .slice q.a4 bf'.length q.c4] 27)
    go_upto_region 4 with fail
    generalize hkX : w4.heap.size = kX at *
    clear hkX
    generalize w4.alloc (.cells #[.bool lm, .slice q.a1 ps'.length q.c1, .slice q.a2 pv'.length q.c2, .slice q.a3 ks'.length q.c3, .slice q.a4 bf'.length q.c4] 27) = w5 at *
    clear T1
    obtain ⟨cA0, cA1, cA2, cA3, cA4⟩ := Ah5.cells
    have cAl := Ah5.lt
    obtain ⟨cR0, cR1, cR2⟩ := Rh5.cells
    have cRl := Rh5.lt
    obtain ⟨cS0, cS1, cS2⟩ := Sh5.cells
    have cSl := Sh5.lt
    obtain ⟨cX0, cX1, cX2, cX3, cX4⟩ := Xh5.cells
    have cXl := Xh5.lt
    go_wp2_with fail
    refine (HO.out _).mono ?_
    rintro x w6 ⟨rfl, hb6⟩
    clear cA0 cA1 cA2 cA3 cA4 cAl cR0 cR1 cR2 cRl cS0 cS1 cS2 cSl cX0 cX1 cX2 cX3 cX4 cXl
    have Ah6 := Ah5.later hb6
    have Rh6 := Rh5.later hb6
    have Sh6 := Sh5.later hb6
    have Ph6 := Ph5.later hb6
    have Xh6 := Xh5.later hb6
    replace hb6 := hb5.trans (hb6.mono hb5.size)
    have Vh7 := Box.new w6 (.string V0) (.string V1) (.bool V2)
    have Ah7 := Ah6.alloc (.cells #[.string V0, .string V1, .bool V2] 29)
    have Rh7 := Rh6.alloc (.cells #[.string V0, .string V1, .bool V2] 29)
    have Sh7 := Sh6.alloc (.cells #[.string V0, .string V1, .bool V2] 29)
    have Ph7 := Ph6.alloc (.cells #[.string V0, .string V1, .bool V2] 29)
    have Xh7 := Xh6.alloc (.cells #[.string V0, .string V1, .bool V2] 29)
    have hb7 := hb6.alloc hb6.size (.cells #[.string V0, .string V1, .bool V2] 29)
    go_upto_region 7 with fail
    generalize hkV : w6.heap.size = kV at *
    clear hkV
    generalize w6.alloc (.cells #[.string V0, .string V1, .bool V2] 29) = w7 at *
    obtain ⟨cA0, cA1, cA2, cA3, cA4⟩ := Ah7.cells
    have cAl := Ah7.lt
    obtain ⟨cR0, cR1, cR2⟩ := Rh7.cells
    have cRl := Rh7.lt
    obtain ⟨cS0, cS1, cS2⟩ := Sh7.cells
    have cSl := Sh7.lt
    obtain ⟨cX0, cX1, cX2, cX3, cX4⟩ := Xh7.cells
    have cXl := Xh7.lt
    obtain ⟨cV0, cV1, cV2⟩ := Vh7.cells
    have cVl := Vh7.lt
    go_wp2_with fail
    refine (HI.out _).mono ?_
    rintro x w8 ⟨rfl, hb8⟩
    clear cA0 cA1 cA2 cA3 cA4 cAl cR0 cR1 cR2 cRl cS0 cS1 cS2 cSl cX0 cX1 cX2 cX3 cX4 cXl cV0 cV1 cV2 cVl
    have Ah8 := Ah7.later hb8
    have Rh8 := Rh7.later hb8
    have Sh8 := Sh7.later hb8
    have Ph8 := Ph7.later hb8
    have Xh8 := Xh7.later hb8
    have Vh8 := Vh7.later hb8
    replace hb8 := hb7.trans (hb8.mono hb7.size)
    clear HO HI
    obtain ⟨cA0, cA1, cA2, cA3, cA4⟩ := Ah8.cells
    have cAl := Ah8.lt
    obtain ⟨cR0, cR1, cR2⟩ := Rh8.cells
    have cRl := Rh8.lt
    obtain ⟨cS0, cS1, cS2⟩ := Sh8.cells
    have cSl := Sh8.lt
    obtain ⟨cX0, cX1, cX2, cX3, cX4⟩ := Xh8.cells
    have cXl := Xh8.lt
    obtain ⟨cV0, cV1, cV2⟩ := Vh8.cells
    have cVl := Vh8.lt
    go_wp2_with fail
    refine (T2.out q _ Ph8).mono ?_
    rintro x w9 ⟨⟨x1, x2, x3, x4, rfl, hO⟩, hb9⟩
    clear cA0 cA1 cA2 cA3 cA4 cAl cR0 cR1 cR2 cRl cS0 cS1 cS2 cSl cX0 cX1 cX2 cX3 cX4 cXl cV0 cV1 cV2 cVl
    have Ah9 := Ah8.later hb9
    have Rh9 := Rh8.later hb9
    have Sh9 := Sh8.later hb9
    have Ph9 := Ph8.later hb9
    have Xh9 := Xh8.later hb9
    have Vh9 := Vh8.later hb9
    replace hb9 := hb8.trans (hb9.mono hb8.size)
    obtain ⟨q2, rfl, rfl, rfl, rfl, L2⟩ := hO.lies
    clear hO T2
    have Yh10 := NBox.new w9 (.bool lm2) (.slice q2.a1 ps2.length q2.c1) (.slice q2.a2 pv2.length q2.c2) (.slice q2.a3 ks2.length q2.c3) (.slice q2.a4 bf2.length q2.c4)
    have Ah10 := Ah9.alloc (.cells #[.bool lm2, .slice q2.a1 ps2.length q2.c1, .slice q2.a2 pv2.length q2.c2, .slice q2.a3 ks2.length q2.c3, .slice q2.a4 bf2.length q2.c4] 27)
    have Rh10 := Rh9.alloc (.cells #[.bool lm2, .slice q2.a1 ps2.length q2.c1, .slice q2.a2 pv2.length q2.c2, .slice q2.a3 ks2.length q2.c3, .slice q2.a4 bf2.length q2.c4] 27)
    have Sh10 := Sh9.alloc (.cells #[.bool lm2, .slice q2.a1 ps2.length q2.c1, .slice q2.a2 pv2.length q2.c2, .slice q2.a3 ks2.length q2.c3, .slice q2.a4 bf2.length q2.c4] 27)
    have Ph10 := Ph9.alloc (.cells #[.bool lm2, .slice q2.a1 ps2.length q2.c1, .slice q2.a2 pv2.length q2.c2, .slice q2.a3 ks2.length q2.c3, .slice q2.a4 bf2.length q2.c4] 27)
    have Xh10 := Xh9.alloc (.cells #[.bool lm2, .slice q2.a1 ps2.length q2.c1, .slice q2.a2 pv2.length q2.c2, .slice q2.a3 ks2.length q2.c3, .slice q2.a4 bf2.length q2.c4] 27)
    have Vh10 := Vh9.alloc (.cells #[.bool lm2, .slice q2.a1 ps2.length q2.c1, .slice q2.a2 pv2.length q2.c2, .slice q2.a3 ks2.length q2.c3, .slice q2.a4 bf2.length q2.c4] 27)
    have Qh10 := L2.alloc (.cells #[.bool lm2, .slice q2.a1 ps2.length q2.c1, .slice q2.a2 pv2.length q2.c2, .slice q2.a3 ks2.length q2.c3, .slice q2.a4 bf2.length q2.c4] 27)
    have hb10 := hb9.alloc hb9.size (.cells #[.bool lm2, .slice q2.a1 ps2.length q2.c1, .slice q2.a2 pv2.length q2.c2, .slice q2.a3 ks2.length q2.c3, .slice q2.a4 bf2.length q2.c4] 27)
    go_upto_region 10 with fail
    generalize hkY : w9.heap.size = kY at *
    clear hkY
    generalize w9.alloc (.cells #[.bool lm2, .slice q2.a1 ps2.length q2.c1, .slice q2.a2 pv2.length q2.c2, .slice q2.a3 ks2.length q2.c3, .slice q2.a4 bf2.length q2.c4] 27) = w10 at *
    obtain ⟨cA0, cA1, cA2, cA3, cA4⟩ := Ah10.cells
    have cAl := Ah10.lt
    obtain ⟨cR0, cR1, cR2⟩ := Rh10.cells
    have cRl := Rh10.lt
    obtain ⟨cS0, cS1, cS2⟩ := Sh10.cells
    have cSl := Sh10.lt
    obtain ⟨cX0, cX1, cX2, cX3, cX4⟩ := Xh10.cells
    have cXl := Xh10.lt
    obtain ⟨cV0, cV1, cV2⟩ := Vh10.cells
    have cVl := Vh10.lt
    obtain ⟨cY0, cY1, cY2, cY3, cY4⟩ := Yh10.cells
    have cYl := Yh10.lt
    go_wp2_with fail
    refine (awake9 _).mono ?_
    rintro x w11 ⟨rfl, hb11⟩
    clear cA0 cA1 cA2 cA3 cA4 cAl cR0 cR1 cR2 cRl cS0 cS1 cS2 cSl cX0 cX1 cX2 cX3 cX4 cXl cV0 cV1 cV2 cVl cY0 cY1 cY2 cY3 cY4 cYl
    have Ah11 := Ah10.later hb11
    have Rh11 := Rh10.later hb11
    have Sh11 := Sh10.later hb11
    have Ph11 := Ph10.later hb11
    have Xh11 := Xh10.later hb11
    have Vh11 := Vh10.later hb11
    have Qh11 := Qh10.later hb11
    have Yh11 := Yh10.later hb11
    replace hb11 := hb10.trans (hb11.mono hb10.size)
    go_wp2_with fail
    go_ret
    exact ⟨rfl, hb11⟩
  case pos =>
  obtain ⟨h3, h4⟩ := H12.out g5 hz2
  have h5 : trimA n OV (a ++ b) = trimA m (rg lo' hi' e') b := by rw [(trim_zero h3).2.2.1, (trim_zero hz2).2.2.1, h4]
  have HE2 := hid (HE.out _ h5)
  rw [hz2] at T2
  rw [h3, h5] at T3
  clear H12 g5 HE h3 h4 h5 hz2
  generalize trimA m (rg lo' hi' e') b = m2 at *
  generalize OV.e = V2 at *
  obtain ⟨lB, ps, pv, ks, bf⟩ := n
  obtain ⟨a1, c1, a2, c2, a3, c3, a4, c4⟩ := p
  dsimp only [nv] at *
  generalize ps.length = n1 at *
  generalize pv.length = n2 at *
  generalize ks.length = n3 at *
  generalize bf.length = n4 at *
  obtain ⟨lm, ps', pv', ks', bf'⟩ := m
  obtain ⟨lm2, ps2, pv2, ks2, bf2⟩ := m2
  dsimp only at *
  go_enter Try.func5, Try.ntmps5
  obtain ⟨cA0, cA1, cA2, cA3, cA4⟩ := A0.cells
  have cAl := A0.lt
  obtain ⟨cR0, cR1, cR2⟩ := R0.cells
  have cRl := R0.lt
  obtain ⟨cS0, cS1, cS2⟩ := S0.cells
  have cSl := S0.lt
  go_wp2_with fail
  refine (HG.out).mono ?_
  rintro x w1 ⟨rfl, hb1⟩
  clear cA0 cA1 cA2 cA3 cA4 cAl cR0 cR1 cR2 cRl cS0 cS1 cS2 cSl
  have Ah1 := A0.later hb1
  have Rh1 := R0.later hb1
  have Sh1 := S0.later hb1
  replace hb1 := hb0.trans (hb1.mono hb0.size)
  obtain ⟨cA0, cA1, cA2, cA3, cA4⟩ := Ah1.cells
  have cAl := Ah1.lt
  obtain ⟨cR0, cR1, cR2⟩ := Rh1.cells
  have cRl := Rh1.lt
  obtain ⟨cS0, cS1, cS2⟩ := Sh1.cells
  have cSl := Sh1.lt
  go_wp2_with fail
  refine (HR.out _).mono ?_
  rintro x w2 ⟨rfl, hb2⟩
  clear cA0 cA1 cA2 cA3 cA4 cAl cR0 cR1 cR2 cRl cS0 cS1 cS2 cSl
  have Ah2 := Ah1.later hb2
  have Rh2 := Rh1.later hb2
  have Sh2 := Sh1.later hb2
  replace hb2 := hb1.trans (hb2.mono hb1.size)
  obtain ⟨cA0, cA1, cA2, cA3, cA4⟩ := Ah2.cells
  have cAl := Ah2.lt
  obtain ⟨cR0, cR1, cR2⟩ := Rh2.cells
  have cRl := Rh2.lt
  obtain ⟨cS0, cS1, cS2⟩ := Sh2.cells
  have cSl := Sh2.lt
  go_wp2_with fail
  refine (HR'.out _).mono ?_
  rintro x w3 ⟨rfl, hb3⟩
  clear cA0 cA1 cA2 cA3 cA4 cAl cR0 cR1 cR2 cRl cS0 cS1 cS2 cSl
  have Ah3 := Ah2.later hb3
  have Rh3 := Rh2.later hb3
  have Sh3 := Sh2.later hb3
  replace hb3 := hb2.trans (hb3.mono hb2.size)
  clear HG HR HR'
  obtain ⟨cA0, cA1, cA2, cA3, cA4⟩ := Ah3.cells
  have cAl := Ah3.lt
  obtain ⟨cR0, cR1, cR2⟩ := Rh3.cells
  have cRl := Rh3.lt
  obtain ⟨cS0, cS1, cS2⟩ := Sh3.cells
  have cSl := Sh3.lt
  go_wp2_with fail
  refine (T1.out _ hb3).mono ?_
  rintro x w4 ⟨⟨x1, x2, x3, x4, rfl, hO⟩, hb4⟩
  clear cA0 cA1 cA2 cA3 cA4 cAl cR0 cR1 cR2 cRl cS0 cS1 cS2 cSl
  have Ah4 := Ah3.later hb4
  have Rh4 := Rh3.later hb4
  have Sh4 := Sh3.later hb4
  replace hb4 := hb3.trans (hb4.mono hb3.size)
  obtain ⟨q, rfl, rfl, rfl, rfl, L1⟩ := hO.lies
  clear hO
  have Xh5 := NBox.new w4 (.bool lm) (.slice q.a1 ps'.length q.c1) (.slice q.a2 pv'.length q.c2) (.slice q.a3 ks'.length q.c3) (.slice q.a4 bf'.length q.c4)
  have Ah5 := Ah4.alloc (.cells #[.bool lm, .slice q.a1 ps'.length q.c1, .slice q.a2 pv'.length q.c2, .slice q.a3 ks'.length q.c3, .slice q.a4 bf'.length q.c4] 27)
  have Rh5 := Rh4.alloc (.cells #[.bool lm, .slice q.a1 ps'.length q.c1, .slice q.a2 pv'.length q.c2, .slice q.a3 ks'.length q.c3, .slice q.a4 bf'.length q.c4] 27)
  have Sh5 := Sh4.alloc (.cells #[.bool lm, .slice q.a1 ps'.length q.c1, .slice q.a2 pv'.length q.c2, .slice q.a3 ks'.length q.c3, .slice q.a4 bf'.length q.c4] 27)
  have Ph5 := L1.alloc (.cells #[.bool lm, .slice q.a1 ps'.length q.c1, .slice q.a2 pv'.length q.c2, .slice q.a3 ks'.length q.c3, .slice q.a4 bf'.length q.c4] 27)
  have hb5 := hb4.alloc hb4.size (.cells #[.bool lm, .slice q.a1 ps'.length q.c1, .slice q.a2 pv'.length q.c2, .slice q.a3 ks'.length q.c3, .slice q.a4 bf'.length q.c4] 27)
  go_upto_region 4 with fail
  generalize hkX : w4.heap.size = kX at *
  clear hkX
  generalize w4.alloc (.cells #[.bool lm, .slice q.a1 ps'.length q.c1, .slice q.a2 pv'.length q.c2, .slice q.a3 ks'.length q.c3, .slice q.a4 bf'.length q.c4] 27) = w5 at *
  clear T1
  obtain ⟨cA0, cA1, cA2, cA3, cA4⟩ := Ah5.cells
  have cAl := Ah5.lt
  obtain ⟨cR0, cR1, cR2⟩ := Rh5.cells
  have cRl := Rh5.lt
  obtain ⟨cS0, cS1, cS2⟩ := Sh5.cells
  have cSl := Sh5.lt
  obtain ⟨cX0, cX1, cX2, cX3, cX4⟩ := Xh5.cells
  have cXl := Xh5.lt
  go_wp2_with fail
  refine (HO.out _).mono ?_
  rintro x w6 ⟨rfl, hb6⟩
  clear cA0 cA1 cA2 cA3 cA4 cAl cR0 cR1 cR2 cRl cS0 cS1 cS2 cSl cX0 cX1 cX2 cX3 cX4 cXl
  have Ah6 := Ah5.later hb6
  have Rh6 := Rh5.later hb6
  have Sh6 := Sh5.later hb6
  have Ph6 := Ph5.later hb6
  have Xh6 := Xh5.later hb6
  replace hb6 := hb5.trans (hb6.mono hb5.size)
  have Vh7 := Box.new w6 (.string V0) (.string V1) (.bool V2)
  have Ah7 := Ah6.alloc (.cells #[.string V0, .string V1, .bool V2] 29)
  have Rh7 := Rh6.alloc (.cells #[.string V0, .string V1, .bool V2] 29)
  have Sh7 := Sh6.alloc (.cells #[.string V0, .string V1, .bool V2] 29)
  have Ph7 := Ph6.alloc (.cells #[.string V0, .string V1, .bool V2] 29)
  have Xh7 := Xh6.alloc (.cells #[.string V0, .string V1, .bool V2] 29)
  have hb7 := hb6.alloc hb6.size (.cells #[.string V0, .string V1, .bool V2] 29)
  go_upto_region 7 with fail
  generalize hkV : w6.heap.size = kV at *
  clear hkV
  generalize w6.alloc (.cells #[.string V0, .string V1, .bool V2] 29) = w7 at *
  obtain ⟨cA0, cA1, cA2, cA3, cA4⟩ := Ah7.cells
  have cAl := Ah7.lt
  obtain ⟨cR0, cR1, cR2⟩ := Rh7.cells
  have cRl := Rh7.lt
  obtain ⟨cS0, cS1, cS2⟩ := Sh7.cells
  have cSl := Sh7.lt
  obtain ⟨cX0, cX1, cX2, cX3, cX4⟩ := Xh7.cells
  have cXl := Xh7.lt
  obtain ⟨cV0, cV1, cV2⟩ := Vh7.cells
  have cVl := Vh7.lt
  go_wp2_with fail
  refine (HI.out _).mono ?_
  rintro x w8 ⟨rfl, hb8⟩
  clear cA0 cA1 cA2 cA3 cA4 cAl cR0 cR1 cR2 cRl cS0 cS1 cS2 cSl cX0 cX1 cX2 cX3 cX4 cXl cV0 cV1 cV2 cVl
  have Ah8 := Ah7.later hb8
  have Rh8 := Rh7.later hb8
  have Sh8 := Sh7.later hb8
  have Ph8 := Ph7.later hb8
  have Xh8 := Xh7.later hb8
  have Vh8 := Vh7.later hb8
  replace hb8 := hb7.trans (hb8.mono hb7.size)
  clear HO HI
  obtain ⟨cA0, cA1, cA2, cA3, cA4⟩ := Ah8.cells
  have cAl := Ah8.lt
  obtain ⟨cR0, cR1, cR2⟩ := Rh8.cells
  have cRl := Rh8.lt
  obtain ⟨cS0, cS1, cS2⟩ := Sh8.cells
  have cSl := Sh8.lt
  obtain ⟨cX0, cX1, cX2, cX3, cX4⟩ := Xh8.cells
  have cXl := Xh8.lt
  obtain ⟨cV0, cV1, cV2⟩ := Vh8.cells
  have cVl := Vh8.lt
  go_wp2_with fail
  refine (T2.out q _ Ph8).mono ?_
  rintro x w9 ⟨⟨x1, x2, x3, x4, rfl, hO⟩, hb9⟩
  clear cA0 cA1 cA2 cA3 cA4 cAl cR0 cR1 cR2 cRl cS0 cS1 cS2 cSl cX0 cX1 cX2 cX3 cX4 cXl cV0 cV1 cV2 cVl
  have Ah9 := Ah8.later hb9
  have Rh9 := Rh8.later hb9
  have Sh9 := Sh8.later hb9
  have Ph9 := Ph8.later hb9
  have Xh9 := Xh8.later hb9
  have Vh9 := Vh8.later hb9
  replace hb9 := hb8.trans (hb9.mono hb8.size)
  obtain ⟨q2, rfl, rfl, rfl, rfl, L2⟩ := hO.lies
  clear hO T2
  have Yh10 := NBox.new w9 (.bool lm2) (.slice q2.a1 ps2.length q2.c1) (.slice q2.a2 pv2.length q2.c2) (.slice q2.a3 ks2.length q2.c3) (.slice q2.a4 bf2.length q2.c4)
  have Ah10 := Ah9.alloc (.cells #[.bool lm2, .slice q2.a1 ps2.length q2.c1, .slice q2.a2 pv2.length q2.c2, .slice q2.a3 ks2.length q2.c3, .slice q2.a4 bf2.length q2.c4] 27)
  have Rh10 := Rh9.alloc (.cells #[.bool lm2, .slice q2.a1 ps2.length q2.c1, .slice q2.a2 pv2.length q2.c2, .slice q2.a3 ks2.length q2.c3, .slice q2.a4 bf2.length q2.c4] 27)
  have Sh10 := Sh9.alloc (.cells #[.bool lm2, .slice q2.a1 ps2.length q2.c1, .slice q2.a2 pv2.length q2.c2, .slice q2.a3 ks2.length q2.c3, .slice q2.a4 bf2.length q2.c4] 27)
  have Ph10 := Ph9.alloc (.cells #[.bool lm2, .slice q2.a1 ps2.length q2.c1, .slice q2.a2 pv2.length q2.c2, .slice q2.a3 ks2.length q2.c3, .slice q2.a4 bf2.length q2.c4] 27)
  have Xh10 := Xh9.alloc (.cells #[.bool lm2, .slice q2.a1 ps2.length q2.c1, .slice q2.a2 pv2.length q2.c2, .slice q2.a3 ks2.length q2.c3, .slice q2.a4 bf2.length q2.c4] 27)
  have Vh10 := Vh9.alloc (.cells #[.bool lm2, .slice q2.a1 ps2.length q2.c1, .slice q2.a2 pv2.length q2.c2, .slice q2.a3 ks2.length q2.c3, .slice q2.a4 bf2.length q2.c4] 27)
  have Qh10 := L2.alloc (.cells #[.bool lm2, .slice q2.a1 ps2.length q2.c1, .slice q2.a2 pv2.length q2.c2, .slice q2.a3 ks2.length q2.c3, .slice q2.a4 bf2.length q2.c4] 27)
  have hb10 := hb9.alloc hb9.size (.cells #[.bool lm2, .slice q2.a1 ps2.length q2.c1, .slice q2.a2 pv2.length q2.c2, .slice q2.a3 ks2.length q2.c3, .slice q2.a4 bf2.length q2.c4] 27)
  go_upto_region 10 with fail
  generalize hkY : w9.heap.size = kY at *
  clear hkY
  generalize w9.alloc (.cells #[.bool lm2, .slice q2.a1 ps2.length q2.c1, .slice q2.a2 pv2.length q2.c2, .slice q2.a3 ks2.length q2.c3, .slice q2.a4 bf2.length q2.c4] 27) = w10 at *
  obtain ⟨cA0, cA1, cA2, cA3, cA4⟩ := Ah10.cells
  have cAl := Ah10.lt
  obtain ⟨cR0, cR1, cR2⟩ := Rh10.cells
  have cRl := Rh10.lt
  obtain ⟨cS0, cS1, cS2⟩ := Sh10.cells
  have cSl := Sh10.lt
  obtain ⟨cX0, cX1, cX2, cX3, cX4⟩ := Xh10.cells
  have cXl := Xh10.lt
  obtain ⟨cV0, cV1, cV2⟩ := Vh10.cells
  have cVl := Vh10.lt
  obtain ⟨cY0, cY1, cY2, cY3, cY4⟩ := Yh10.cells
  have cYl := Yh10.lt
  go_wp2_with fail
  refine (T3.out _ hb10).mono ?_
  rintro x w11 ⟨⟨x1, x2, x3, x4, rfl, hO⟩, hb11⟩
  clear cA0 cA1 cA2 cA3 cA4 cAl cR0 cR1 cR2 cRl cS0 cS1 cS2 cSl cX0 cX1 cX2 cX3 cX4 cXl cV0 cV1 cV2 cVl cY0 cY1 cY2 cY3 cY4 cYl
  have Ah11 := Ah10.later hb11
  have Rh11 := Rh10.later hb11
  have Sh11 := Sh10.later hb11
  have Ph11 := Ph10.later hb11
  have Xh11 := Xh10.later hb11
  have Vh11 := Vh10.later hb11
  have Qh11 := Qh10.later hb11
  have Yh11 := Yh10.later hb11
  replace hb11 := hb10.trans (hb11.mono hb10.size)
  obtain ⟨q3, rfl, rfl, rfl, rfl, L3⟩ := hO.lies
  clear hO T3
  have Zh12 := NBox.new w11 (.bool lm2) (.slice q3.a1 ps2.length q3.c1) (.slice q3.a2 pv2.length q3.c2) (.slice q3.a3 ks2.length q3.c3) (.slice q3.a4 bf2.length q3.c4)
  have Ah12 := Ah11.alloc (.cells #[.bool lm2, .slice q3.a1 ps2.length q3.c1, .slice q3.a2 pv2.length q3.c2, .slice q3.a3 ks2.length q3.c3, .slice q3.a4 bf2.length q3.c4] 27)
  have Rh12 := Rh11.alloc (.cells #[.bool lm2, .slice q3.a1 ps2.length q3.c1, .slice q3.a2 pv2.length q3.c2, .slice q3.a3 ks2.length q3.c3, .slice q3.a4 bf2.length q3.c4] 27)
  have Sh12 := Sh11.alloc (.cells #[.bool lm2, .slice q3.a1 ps2.length q3.c1, .slice q3.a2 pv2.length q3.c2, .slice q3.a3 ks2.length q3.c3, .slice q3.a4 bf2.length q3.c4] 27)
  have Ph12 := Ph11.alloc (.cells #[.bool lm2, .slice q3.a1 ps2.length q3.c1, .slice q3.a2 pv2.length q3.c2, .slice q3.a3 ks2.length q3.c3, .slice q3.a4 bf2.length q3.c4] 27)
  have Xh12 := Xh11.alloc (.cells #[.bool lm2, .slice q3.a1 ps2.length q3.c1, .slice q3.a2 pv2.length q3.c2, .slice q3.a3 ks2.length q3.c3, .slice q3.a4 bf2.length q3.c4] 27)
  have Vh12 := Vh11.alloc (.cells #[.bool lm2, .slice q3.a1 ps2.length q3.c1, .slice q3.a2 pv2.length q3.c2, .slice q3.a3 ks2.length q3.c3, .slice q3.a4 bf2.length q3.c4] 27)
  have Qh12 := Qh11.alloc (.cells #[.bool lm2, .slice q3.a1 ps2.length q3.c1, .slice q3.a2 pv2.length q3.c2, .slice q3.a3 ks2.length q3.c3, .slice q3.a4 bf2.length q3.c4] 27)
  have Yh12 := Yh11.alloc (.cells #[.bool lm2, .slice q3.a1 ps2.length q3.c1, .slice q3.a2 pv2.length q3.c2, .slice q3.a3 ks2.length q3.c3, .slice q3.a4 bf2.length q3.c4] 27)
  have Uh12 := L3.alloc (.cells #[.bool lm2, .slice q3.a1 ps2.length q3.c1, .slice q3.a2 pv2.length q3.c2, .slice q3.a3 ks2.length q3.c3, .slice q3.a4 bf2.length q3.c4] 27)
  have hb12 := hb11.alloc hb11.size (.cells #[.bool lm2, .slice q3.a1 ps2.length q3.c1, .slice q3.a2 pv2.length q3.c2, .slice q3.a3 ks2.length q3.c3, .slice q3.a4 bf2.length q3.c4] 27)
  go_upto_region 13 with fail
  generalize hkZ : w11.heap.size = kZ at *
  clear hkZ
  generalize w11.alloc (.cells #[.bool lm2, .slice q3.a1 ps2.length q3.c1, .slice q3.a2 pv2.length q3.c2, .slice q3.a3 ks2.length q3.c3, .slice q3.a4 bf2.length q3.c4] 27) = w12 at *
  obtain ⟨cA0, cA1, cA2, cA3, cA4⟩ := Ah12.cells
  have cAl := Ah12.lt
  obtain ⟨cR0, cR1, cR2⟩ := Rh12.cells
  have cRl := Rh12.lt
  obtain ⟨cS0, cS1, cS2⟩ := Sh12.cells
  have cSl := Sh12.lt
  obtain ⟨cX0, cX1, cX2, cX3, cX4⟩ := Xh12.cells
  have cXl := Xh12.lt
  obtain ⟨cV0, cV1, cV2⟩ := Vh12.cells
  have cVl := Vh12.lt
  obtain ⟨cY0, cY1, cY2, cY3, cY4⟩ := Yh12.cells
  have cYl := Yh12.lt
  obtain ⟨cZ0, cZ1, cZ2, cZ3, cZ4⟩ := Zh12.cells
  have cZl := Zh12.lt
  go_wp2_with fail
  refine (HE2.out q2 q3 _ Qh12 Uh12).mono ?_
  rintro x w13 ⟨⟨bb, rfl, hbb⟩, hb13⟩
  clear cA0 cA1 cA2 cA3 cA4 cAl cR0 cR1 cR2 cRl cS0 cS1 cS2 cSl cX0 cX1 cX2 cX3 cX4 cXl cV0 cV1 cV2 cVl cY0 cY1 cY2 cY3 cY4 cYl cZ0 cZ1 cZ2 cZ3 cZ4 cZl
  have Ah13 := Ah12.later hb13
  have Rh13 := Rh12.later hb13
  have Sh13 := Sh12.later hb13
  have Ph13 := Ph12.later hb13
  have Xh13 := Xh12.later hb13
  have Vh13 := Vh12.later hb13
  have Qh13 := Qh12.later hb13
  have Yh13 := Yh12.later hb13
  have Uh13 := Uh12.later hb13
  have Zh13 := Zh12.later hb13
  replace hb13 := hb12.trans (hb13.mono hb12.size)
  obtain rfl := hbb.2 (by first | rfl | trivial)
  clear hbb
  obtain ⟨cA0, cA1, cA2, cA3, cA4⟩ := Ah13.cells
  have cAl := Ah13.lt
  obtain ⟨cR0, cR1, cR2⟩ := Rh13.cells
  have cRl := Rh13.lt
  obtain ⟨cS0, cS1, cS2⟩ := Sh13.cells
  have cSl := Sh13.lt
  obtain ⟨cX0, cX1, cX2, cX3, cX4⟩ := Xh13.cells
  have cXl := Xh13.lt
  obtain ⟨cV0, cV1, cV2⟩ := Vh13.cells
  have cVl := Vh13.lt
  obtain ⟨cY0, cY1, cY2, cY3, cY4⟩ := Yh13.cells
  have cYl := Yh13.lt
  obtain ⟨cZ0, cZ1, cZ2, cZ3, cZ4⟩ := Zh13.cells
  have cZl := Zh13.lt
  go_wp2_with fail
  refine (awake9 _).mono ?_
  rintro x w14 ⟨rfl, hb14⟩
  clear cA0 cA1 cA2 cA3 cA4 cAl cR0 cR1 cR2 cRl cS0 cS1 cS2 cSl cX0 cX1 cX2 cX3 cX4 cXl cV0 cV1 cV2 cVl cY0 cY1 cY2 cY3 cY4 cYl cZ0 cZ1 cZ2 cZ3 cZ4 cZl
  have Ah14 := Ah13.later hb14
  have Rh14 := Rh13.later hb14
  have Sh14 := Sh13.later hb14
  have Ph14 := Ph13.later hb14
  have Xh14 := Xh13.later hb14
  have Vh14 := Vh13.later hb14
  have Qh14 := Qh13.later hb14
  have Yh14 := Yh13.later hb14
  have Uh14 := Uh13.later hb14
  have Zh14 := Zh13.later hb14
  replace hb14 := hb13.trans (hb14.mono hb13.size)
  go_wp2_with fail
  go_ret
  exact ⟨rfl, hb14⟩
end Go.Proofs.Ythhlimkcnppkaaa.Key
