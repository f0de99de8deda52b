/-
  A step of both disks: 'does'.
-/
import Derived.Test.YtklfpoojpfomeaaDs
namespace Go.Proofs.Ytklfpoojpfomeaa.Key
open Go.RowKit Draw Go.Maps
set_option linter.unusedVariables false
set_option linter.unusedSimpArgs false
/-- a disk's sizes -/
structure Fine (d : Dk) (m : Nat) : Prop where
  len : d.kept.length + d.waits.length ≤ m
  falls : 0 ≤ d.falls ∧ d.falls ≤ m
  ok : d.Ok
  fuse : (Lit.int .i64 d.fuse).wf = true
/-- what a step leaves -/
def Does (p : Nat) (d : Dk) (m B : Nat) (ka wa : Option Addr) (kc wc : Nat) (x : St) (w : World) : Prop :=
  Calls Try.prog 10 #[ptr p, dv d ka wa kc wc, sv x] w fun e w' => ∃ ka' kc' wa' wc', e = .returned (.tuple #[.bool true, dv (stepD d x) ka' wa' kc' wc']) ∧ DLies w' (stepD d x) ka' wa' ∧ (wa' = none → wc' = 0) ∧ Dsk w' B p p (stepD d x) (m + 1) ∧ Soft5 B w w'
set_option maxRecDepth 100000 in
set_option maxHeartbeats 4000000 in
theorem does_write (p : Nat) (d : Dk) (m : Nat) (B : Nat) (ka wa : Option Addr) (kc wc : Nat) (x : St) (w : World) (hd0 : Dsk w B p p d m) (hm : m < 80000) (hF : Fine d m) (hlies : DLies w d ka wa) (hwz : wa = none → wc = 0) (hin : x.In) (h3 : x.b.length ≤ 3000) (hby : ∀ u, Below B w u → Bytes u x.ab (nums (str x.b))) (hbo : ∀ u, Below B w u → Bools u x.ak x.keep) (hk : x.kind = 0) : Does p d m B ka wa kc wc x w := by
  unfold Does
  obtain ⟨hFl, hFf, hFo, hFw⟩ := hF
  obtain ⟨nn, kp, wt, dn, fl, fu⟩ := d
  obtain ⟨kd, ix, ab, cb, bb, ak, ck, kk, tn⟩ := x
  dsimp only [dv, sv] at *
  obtain ⟨hkw, hww⟩ := hlies
  dsimp only at hkw hww
  have hBw := hd0.size
  subst hk
  dsimp only [stepD]
  simp only [if_true]
  have hW23 := hid (fun (u : World) (hu : Soft5 B w u) => write23 ⟨nn, kp, wt, dn, fl, fu⟩ ix bb ab cb ka wa kc wc u (by dsimp only; omega) ⟨hkw.five hu, hww.five hu⟩ hwz (hby u hu.below) hin.bn hin.bl (by dsimp only; omega) hFw)
  have hDW := hid (fun (u : World) (Z : Nat) (oa : Option Addr) (oc : Nat) (hD : Dsk u B Z p ⟨nn, kp, wt, dn, fl, fu⟩ m) (hb : Bytes u oa (nums (str bb))) (hn : oa = none → bb.length = 0 ∧ oc = 0) (hZ : Z < u.heap.size) => disk_write hD (by omega) ix hin.ix bb oa oc hb hn hin.bl hZ)
  generalize writeD ⟨nn, kp, wt, dn, fl, fu⟩ ix bb = W2 at *
  obtain ⟨r2, d2⟩ := W2
  obtain ⟨n2, kp2, wt2, dn2, fl2, fu2⟩ := d2
  dsimp only [dv] at *
  go_enter Try.func10, Try.ntmps10
  go_upto_region 1 with fail
  obtain ⟨TD, TS, TR, hb1⟩ := boxes3 w nn (.slice ka kp.length kc) (.slice wa wt.length wc) dn fl fu 0 ix (.slice ab bb.length cb) (.slice ak kk.length ck) tn
  have hd1 := hd0.later hb1
  have hL1 : DLies (((w.alloc (.cells #[.int .i64 nn, .slice ka kp.length kc, .slice wa wt.length wc, .bool dn, .int .i64 fl, .int .i64 fu] 31)).alloc (.cells #[.int .i64 0, .int .i64 ix, .slice ab bb.length cb, .slice ak kk.length ck, .int .i64 tn] 37)).alloc (.cells #[.int .i64 0, .slice none 0 0, .slice none 0 0, .bool false, .int .i64 0, .int .i64 0] 31)) ⟨nn, kp, wt, dn, fl, fu⟩ ka wa := ⟨hkw.later hb1, hww.later hb1⟩
  have hS1 := Soft5.new hb1 hBw
  clear hkw hww hd0 hb1
  generalize ((w.alloc (.cells #[.int .i64 nn, .slice ka kp.length kc, .slice wa wt.length wc, .bool dn, .int .i64 fl, .int .i64 fu] 31)).alloc (.cells #[.int .i64 0, .int .i64 ix, .slice ab bb.length cb, .slice ak kk.length ck, .int .i64 tn] 37)).alloc (.cells #[.int .i64 0, .slice none 0 0, .slice none 0 0, .bool false, .int .i64 0, .int .i64 0] 31) = w1 at *
  obtain ⟨b4, e4⟩ : ∃ b4, w.heap.size = b4 := ⟨_, rfl⟩
  obtain ⟨b5, e5⟩ : ∃ b5, w.heap.size + 1 = b5 := ⟨_, rfl⟩
  obtain ⟨b7, e7⟩ : ∃ b7, w.heap.size + 1 + 1 = b7 := ⟨_, rfl⟩
  have hb7 : w.heap.size ≤ b7 := by omega
  have hne4 : b4 ≠ b7 := by omega
  have hb4 : w.heap.size ≤ b4 := by omega
  rw [e7] at TR ⊢
  rw [e5] at TS ⊢
  rw [e4] at TD ⊢
  clear e4 e5 e7
  have hB1 := hd1.size
  have HZ := hid hwz
  obtain ⟨s0, s1, s2, s3, s4⟩ := TS.cells
  obtain ⟨c0, c1, c2, c3, c4, c5⟩ := TD.cells

  clear c0 c1 c2 c3 c4 c5
  have HBN := hid hin.bn
  have HB3 := hid h3
  have HBY := hid hby
  clear hin hbo hwz
  go_upto_region 3 with fail
  clear s0 s1 s2 s3 s4
  have bx2 := below_box w1 (.cells #[] 5)
  have o2 := Own.made w1
  obtain ⟨s0, s1, s2, s3, s4⟩ := (TS.later bx2).cells
  have hyb := HBY.out _ (hS1.below.trans (bx2.mono hB1))
  obtain ⟨bl, hbl⟩ : ∃ bl, bb.length = bl := ⟨_, rfl⟩
  have HBL := hid hbl
  have hlen : (nums (str bb)).length = bl := by rw [nums_length, str_size]; exact hbl
  have hbn0 := HBN.out
  rw [hbl] at s2 hbn0 hDW h3 TS hW23 ⊢
  clear hbl
  go_upto_region 5 with (first | (at_builtin; refine app rfl _ _ rfl w1.heap.size _ [] rfl o2 ab bl cb (nums (str bb)) rfl hbn0 hlen hyb (by simp; omega) (by rw [World.size_alloc]; omega) ?_; intro v3 w3 o3 hg3) | fail)
  have hb13 := o2.below bx2 (Nat.le_refl _) (by rw [World.size_alloc]; omega) hg3
  rw [List.nil_append] at o3
  have hsz3 : w1.heap.size < w3.heap.size := by have := hg3.size; rw [World.size_alloc] at this; omega
  obtain ⟨oa, oc, Z, hv3, hby3, hn3, hz1, hz2, hz3⟩ := own_z o3 hsz3
  rw [hlen] at hv3 hn3 hz3
  subst hv3
  have hd3 := (hd1.other hz1).later hb13
  have HW := hDW.out w3 Z oa oc hd3 hby3 hn3 hz2
  have TS3 := TS.later hb13
  have HT := hid (And.intro TD (And.intro TS (And.intro TR hL1)))
  clear o2 o3 hg3 s0 s1 s2 s3 s4 hyb bx2 hd1 hDW hby3 hd3 TS TD TR hL1
  obtain ⟨s0, s1, s2, s3, s4⟩ := TS3.cells
  go_wp2_with fail
  refine HW.mono ?_
  rintro e w4 ⟨rfl, hd4, hs4⟩
  have hS14 : Soft5 B w1 w4 := (Soft5.new hb13 hB1).trans hs4.five
  have hz4 : bl = 0 ∨ (oa = some ⟨Z, 0, none⟩ ∧ ∃ cur : Array Value, w4.heap[Z]? = some (.cells cur 5 (0, 0)) ∧ bl ≤ cur.size) := by
    rcases hz3 with h0 | ⟨ha, cur, hc, hl⟩
    · exact .inl h0
    · exact .inr ⟨ha, cur, hs4.old Z cur 5 (0, 0) hc (by decide) (by decide), hl⟩
  have HQ := hid (And.intro hd4 (And.intro hS14 hz4))
  have hBZ : B ≤ Z := by omega
  clear s0 s1 s2 s3 s4 HW TS3 hd4 hs4 hS14 hz4 hz3 hz2 hb13 hn3 hz1 hsz3
  go_wp2_with fail
  go_loopw [10] (fun i wr => ∃ (j : Nat), j ≤ bl ∧ i = .int .i64 j ∧ Dsk wr B Z p ⟨n2, kp2, wt2, dn2, fl2, fu2⟩ (m + 1) ∧ Soft5 B w1 wr ∧ (bl = 0 ∨ (oa = some ⟨Z, 0, none⟩ ∧ ∃ cur : Array Value, wr.heap[Z]? = some (.cells cur 5 (0, 0)) ∧ bl ≤ cur.size))) (fun i _ => bl - (intOf i).toNat)
  case atStart => exact ⟨0, Nat.zero_le _, rfl, HQ.out.1, HQ.out.2.1, HQ.out.2.2⟩
  case round =>
    obtain ⟨j, hj, rfl, hDr, hSr, hzr⟩ := hrel
    clear HQ
    by_cases hlt : j < bl
    · rcases hzr with h0 | ⟨ha, cur, hc, hl⟩
      · omega
      · subst ha
        obtain ⟨v, hv⟩ : ∃ v, cur[j]? = some v := ⟨_, Array.getElem?_eq_getElem (by omega)⟩
        have x0 : wr.cell? ⟨Z, j, none⟩ = some v := (cell_of_row wr Z j cur 5 _ hc).trans hv
        have f0 := frozen_of_row wr Z j cur 5 hc
        have hg := grown_set wr Z j (.int .u8 99)
        have q1 := hDr.grown hg (fun k hk => by cases hk; exact ⟨rfl, cur, hc⟩)
        have q2 := hSr.trans (Soft5.bytes hg hDr.size hBZ hc)
        have q3 := heap_setCell_same wr Z j cur 5 (.int .u8 99) hc
        have q4 : bl ≤ (cur.setIfInBounds j (.int .u8 99)).size := by simp; exact hl
        have HF := hid (And.intro q1 (And.intro q2 (And.intro q3 q4)))
        clear q1 q2 q3 q4 hg hDr hSr hc hv hl
        go_wp2_with fail
        go_roundw
        case rel => exact ⟨j + 1, by omega, by go_num, HF.out.1, HF.out.2.1, .inr ⟨trivial, _, HF.out.2.2.1, HF.out.2.2.2⟩⟩
        case measure => simp [intOf]; omega
    · obtain rfl : j = bl := by omega
      obtain ⟨TD, TS, TR, hL1⟩ := HT.out
      have hSw := hS1.trans hSr
      have HWR := hW23.out wr hSw
      have TDr := TD.five hSr
      have TSr := TS.five hSr
      obtain ⟨c0, c1, c2, c3, c4, c5⟩ := TDr.cells
      obtain ⟨s0, s1, s2, s3, s4⟩ := TSr.cells
      have HR := hid (And.intro (TR.five hSr) (And.intro hDr.toP hSw))
      clear HT TD TS TR hL1 TDr TSr hSr hSw hDr hzr hlt hW23
      go_wp2_with fail
      refine HWR.mono ?_
      rintro e w5 ⟨⟨wa2, wc2, rfl, hl5, hz5⟩, hb5⟩
      clear c0 c1 c2 c3 c4 c5 s0 s1 s2 s3 s4 HWR
      have bx := below_box w5 (.cells #[.int .i64 n2, .slice ka kp2.length kc, .slice wa2 wt2.length wc2, .bool dn2, .int .i64 fl2, .int .i64 fu2] 31)
      have T12 : DB (w5.alloc (.cells #[.int .i64 n2, .slice ka kp2.length kc, .slice wa2 wt2.length wc2, .bool dn2, .int .i64 fl2, .int .i64 fu2] 31)) w5.heap.size n2 (.slice ka kp2.length kc) (.slice wa2 wt2.length wc2) dn2 fl2 fu2 := Go.heap_alloc_new _ _
      obtain ⟨r1, r2', r3⟩ := HR.out
      have hbb := hb5.trans (bx.mono hb5.size)
      have RB := r1.later hbb
      have hD := r2'.later hbb
      have hL := hl5.later bx
      have hS := r3.later hbb r2'.size
      have HZ := hid hz5
      have HE := hid (And.intro RB (And.intro hD (And.intro hL (And.intro hS T12))))
      clear r1 r2' r3 hbb RB hD hL hS HR hl5 hz5 hb5 bx T12
      go_upto_region 11 with fail
      generalize (w5.alloc (.cells #[.int .i64 n2, .slice ka kp2.length kc, .slice wa2 wt2.length wc2, .bool dn2, .int .i64 fl2, .int .i64 fu2] 31)) = w6 at *
      obtain ⟨RB, hD, hL, hS, T12⟩ := HE.out
      obtain ⟨c0, c1, c2, c3, c4, c5⟩ := T12.cells
      clear T12 HE
      obtain ⟨z0, z1, z2, z3, z4, z5⟩ := RB.cells
      have f0 := RB.free 0
      have f1 := RB.free 1
      have f2 := RB.free 2
      have f3 := RB.free 3
      have f4 := RB.free 4
      have f5 := RB.free 5
      obtain ⟨q5, q6⟩ := RB.fill (n' := n2) (k' := .slice ka kp2.length kc) (wv' := .slice wa2 wt2.length wc2) (dn' := dn2) (fl' := fl2) (fu' := fu2)
      have HC9 := hid ((q5.later (Below.refl _ _).drew).cells)
      have HD9 := hid ((hD.side RB q6).drew)
      have HL9 := hid ((hL.beside RB q6).later (Below.refl _ _).drew)
      have HS9 := hid ((hS.at hBw hb7 q6).drew)
      clear q5 q6 RB hD hL hS
      go_region
      go_wp2_with fail
      refine bodyPost_ret (v := .tuple #[.bool true, .agg #[.int .i64 n2, .slice ka kp2.length kc, .slice wa2 wt2.length wc2, .bool dn2, .int .i64 fl2, .int .i64 fu2]]) ?_ rfl ?_
      · obtain ⟨e0, e1, e2, e3, e4, e5⟩ := HC9.out
        simp [results, Try.results10, go_sem, e0, e1, e2, e3, e4, e5]
      · exact ⟨_, _, _, _, rfl, HL9.out, HZ.out, HD9.out, HS9.out⟩
set_option maxRecDepth 100000 in
set_option maxHeartbeats 4000000 in
theorem does_barrier (p : Nat) (d : Dk) (m : Nat) (B : Nat) (ka wa : Option Addr) (kc wc : Nat) (x : St) (w : World) (hd0 : Dsk w B p p d m) (hm : m < 80000) (hF : Fine d m) (hlies : DLies w d ka wa) (hwz : wa = none → wc = 0) (hin : x.In) (h3 : x.b.length ≤ 3000) (hby : ∀ u, Below B w u → Bytes u x.ab (nums (str x.b))) (hbo : ∀ u, Below B w u → Bools u x.ak x.keep) (hk : x.kind = 1) : Does p d m B ka wa kc wc x w := by
  unfold Does
  obtain ⟨hFl, hFf, hFo, hFw⟩ := hF
  obtain ⟨nn, kp, wt, dn, fl, fu⟩ := d
  obtain ⟨kd, ix, ab, cb, bb, ak, ck, kk, tn⟩ := x
  dsimp only [dv, sv] at *
  obtain ⟨hkw, hww⟩ := hlies
  dsimp only at hkw hww
  have hBw := hd0.size
  subst hk
  dsimp only [stepD]
  simp only [if_neg (show ¬ (1 : Int) = 0 by decide), if_true]
  have HBA := hid (fun (u : World) (hu : DLies u ⟨nn, kp, wt, dn, fl, fu⟩ ka wa) => barrier24 ⟨nn, kp, wt, dn, fl, fu⟩ ka wa kc wc u (by dsimp only; omega) hu)
  have HDB := hid (fun (u : World) (hu : Dsk u B p p ⟨nn, kp, wt, dn, fl, fu⟩ m) => disk_barrier hu (by omega))
  clear hin hby hbo
  cases dn
  · simp only [if_neg (show ¬ false = true by decide)] at HDB ⊢
    generalize barrierD ⟨nn, kp, wt, false, fl, fu⟩ = d2 at *
    obtain ⟨n2, kp2, wt2, dn2, fl2, fu2⟩ := d2
    dsimp only [dv] at *
    go_enter Try.func10, Try.ntmps10
    go_upto_region 1 with fail
    obtain ⟨TD, TS, TR, hb1⟩ := boxes3 w nn (.slice ka kp.length kc) (.slice wa wt.length wc) false fl fu 1 ix (.slice ab bb.length cb) (.slice ak kk.length ck) tn
    have hd1 := hd0.later hb1
    have hL1 : DLies (((w.alloc (.cells #[.int .i64 nn, .slice ka kp.length kc, .slice wa wt.length wc, .bool false, .int .i64 fl, .int .i64 fu] 31)).alloc (.cells #[.int .i64 1, .int .i64 ix, .slice ab bb.length cb, .slice ak kk.length ck, .int .i64 tn] 37)).alloc (.cells #[.int .i64 0, .slice none 0 0, .slice none 0 0, .bool false, .int .i64 0, .int .i64 0] 31)) ⟨nn, kp, wt, false, fl, fu⟩ ka wa := ⟨hkw.later hb1, hww.later hb1⟩
    have hS1 := Soft5.new hb1 hBw
    clear hkw hww hd0 hb1
    generalize ((w.alloc (.cells #[.int .i64 nn, .slice ka kp.length kc, .slice wa wt.length wc, .bool false, .int .i64 fl, .int .i64 fu] 31)).alloc (.cells #[.int .i64 1, .int .i64 ix, .slice ab bb.length cb, .slice ak kk.length ck, .int .i64 tn] 37)).alloc (.cells #[.int .i64 0, .slice none 0 0, .slice none 0 0, .bool false, .int .i64 0, .int .i64 0] 31) = w1 at *
    obtain ⟨b4, e4⟩ : ∃ b4, w.heap.size = b4 := ⟨_, rfl⟩
    obtain ⟨b5, e5⟩ : ∃ b5, w.heap.size + 1 = b5 := ⟨_, rfl⟩
    obtain ⟨b7, e7⟩ : ∃ b7, w.heap.size + 1 + 1 = b7 := ⟨_, rfl⟩
    have hb7 : w.heap.size ≤ b7 := by omega
    have hne4 : b4 ≠ b7 := by omega
    have hb4 : w.heap.size ≤ b4 := by omega
    rw [e7] at TR ⊢
    rw [e5] at TS ⊢
    rw [e4] at TD ⊢
    clear e4 e5 e7
    have hB1 := hd1.size
    have HZ := hid hwz
    obtain ⟨s0, s1, s2, s3, s4⟩ := TS.cells
    obtain ⟨c0, c1, c2, c3, c4, c5⟩ := TD.cells

    have HDC := HDB.out w1 hd1
    clear HDB
    go_wp2_with fail
    refine HDC.mono ?_
    rintro e w2 ⟨rfl, hd2, hs2⟩
    have hS2 := hS1.trans hs2.five
    have TD2 := TD.five hs2.five
    have TS2 := TS.five hs2.five
    have TR2 := TR.five hs2.five
    have hL2 := hL1.five hs2.five
    clear c0 c1 c2 c3 c4 c5 s0 s1 s2 s3 s4 HDC hd1 hs2 hS1 TD TS TR hL1
    obtain ⟨s0, s1, s2, s3, s4⟩ := TS2.cells
    obtain ⟨c0, c1, c2, c3, c4, c5⟩ := TD2.cells
    have HBC := HBA.out w2 hL2
    have HH := hid (And.intro TR2 (And.intro hd2 hS2))
    clear TR2 hd2 hS2 TD2 TS2 HBA hL2
    go_wp2_with fail
    refine HBC.mono ?_
    rintro e w3 ⟨⟨ka2, kc2, wa2, wc2, rfl, hL, hz⟩, hb3⟩
    have HZ := hid hz
    have RB := HH.out.1.later hb3
    have hD := (HH.out.2.1.later hb3).mono (Nat.le_succ m)
    have hS := HH.out.2.2.later hb3 HH.out.2.1.size
    clear HBC HH hz hb3 c0 c1 c2 c3 c4 c5 s0 s1 s2 s3 s4
    obtain ⟨z0, z1, z2, z3, z4, z5⟩ := RB.cells
    have f0 := RB.free 0
    have f1 := RB.free 1
    have f2 := RB.free 2
    have f3 := RB.free 3
    have f4 := RB.free 4
    have f5 := RB.free 5
    obtain ⟨q5, q6⟩ := RB.fill (n' := n2) (k' := .slice ka2 kp2.length kc2) (wv' := .slice wa2 wt2.length wc2) (dn' := dn2) (fl' := fl2) (fu' := fu2)
    have HC9 := hid ((q5).cells)
    have HD9 := hid ((hD.side RB q6))
    have HL9 := hid ((hL.beside RB q6))
    have HS9 := hid ((hS.at hBw hb7 q6))
    clear q5 q6 RB hD hL hS

    go_wp2_with fail
    refine bodyPost_ret (v := .tuple #[.bool true, .agg #[.int .i64 n2, .slice ka2 kp2.length kc2, .slice wa2 wt2.length wc2, .bool dn2, .int .i64 fl2, .int .i64 fu2]]) ?_ rfl ?_
    · obtain ⟨e0, e1, e2, e3, e4, e5⟩ := HC9.out
      simp [results, Try.results10, go_sem, e0, e1, e2, e3, e4, e5]
    · exact ⟨_, _, _, _, rfl, HL9.out, HZ.out, HD9.out, HS9.out⟩
  · simp only [if_true] at HDB ⊢
    go_enter Try.func10, Try.ntmps10
    go_upto_region 1 with fail
    obtain ⟨TD, TS, TR, hb1⟩ := boxes3 w nn (.slice ka kp.length kc) (.slice wa wt.length wc) true fl fu 1 ix (.slice ab bb.length cb) (.slice ak kk.length ck) tn
    have hd1 := hd0.later hb1
    have hL1 : DLies (((w.alloc (.cells #[.int .i64 nn, .slice ka kp.length kc, .slice wa wt.length wc, .bool true, .int .i64 fl, .int .i64 fu] 31)).alloc (.cells #[.int .i64 1, .int .i64 ix, .slice ab bb.length cb, .slice ak kk.length ck, .int .i64 tn] 37)).alloc (.cells #[.int .i64 0, .slice none 0 0, .slice none 0 0, .bool false, .int .i64 0, .int .i64 0] 31)) ⟨nn, kp, wt, true, fl, fu⟩ ka wa := ⟨hkw.later hb1, hww.later hb1⟩
    have hS1 := Soft5.new hb1 hBw
    clear hkw hww hd0 hb1
    generalize ((w.alloc (.cells #[.int .i64 nn, .slice ka kp.length kc, .slice wa wt.length wc, .bool true, .int .i64 fl, .int .i64 fu] 31)).alloc (.cells #[.int .i64 1, .int .i64 ix, .slice ab bb.length cb, .slice ak kk.length ck, .int .i64 tn] 37)).alloc (.cells #[.int .i64 0, .slice none 0 0, .slice none 0 0, .bool false, .int .i64 0, .int .i64 0] 31) = w1 at *
    obtain ⟨b4, e4⟩ : ∃ b4, w.heap.size = b4 := ⟨_, rfl⟩
    obtain ⟨b5, e5⟩ : ∃ b5, w.heap.size + 1 = b5 := ⟨_, rfl⟩
    obtain ⟨b7, e7⟩ : ∃ b7, w.heap.size + 1 + 1 = b7 := ⟨_, rfl⟩
    have hb7 : w.heap.size ≤ b7 := by omega
    have hne4 : b4 ≠ b7 := by omega
    have hb4 : w.heap.size ≤ b4 := by omega
    rw [e7] at TR ⊢
    rw [e5] at TS ⊢
    rw [e4] at TD ⊢
    clear e4 e5 e7
    have hB1 := hd1.size
    have HZ := hid hwz
    obtain ⟨s0, s1, s2, s3, s4⟩ := TS.cells
    obtain ⟨c0, c1, c2, c3, c4, c5⟩ := TD.cells

    have HDC := HDB.out w1 hd1
    clear HDB HBA
    go_wp2_with fail
    refine HDC.mono ?_
    rintro e w2 ⟨rfl, hd2, hs2⟩
    have hS2 := hS1.trans hs2.five
    have TD2 := TD.five hs2.five
    have TS2 := TS.five hs2.five
    have TR2 := TR.five hs2.five
    have hL2 := hL1.five hs2.five
    clear c0 c1 c2 c3 c4 c5 s0 s1 s2 s3 s4 HDC hd1 hs2 hS1 TD TS TR hL1
    obtain ⟨s0, s1, s2, s3, s4⟩ := TS2.cells
    obtain ⟨c0, c1, c2, c3, c4, c5⟩ := TD2.cells
    have RB := TR2
    have hD := hd2.mono (Nat.le_succ m)
    have hL := hL2
    have hS := hS2
    clear TR2 hd2 hS2 hL2 TD2 TS2
    go_upto_region 15 with fail
    obtain ⟨z0, z1, z2, z3, z4, z5⟩ := RB.cells
    have f0 := RB.free 0
    have f1 := RB.free 1
    have f2 := RB.free 2
    have f3 := RB.free 3
    have f4 := RB.free 4
    have f5 := RB.free 5
    obtain ⟨q5, q6⟩ := RB.fill (n' := nn) (k' := .slice ka kp.length kc) (wv' := .slice wa wt.length wc) (dn' := true) (fl' := fl) (fu' := fu)
    have HC9 := hid ((q5.later (Below.refl _ _).drew).cells)
    have HD9 := hid ((hD.side RB q6).drew)
    have HL9 := hid ((hL.beside RB q6).later (Below.refl _ _).drew)
    have HS9 := hid ((hS.at hBw hb7 q6).drew)
    clear q5 q6 RB hD hL hS
    go_region
    go_wp2_with fail
    refine bodyPost_ret (v := .tuple #[.bool true, .agg #[.int .i64 nn, .slice ka kp.length kc, .slice wa wt.length wc, .bool true, .int .i64 fl, .int .i64 fu]]) ?_ rfl ?_
    · obtain ⟨e0, e1, e2, e3, e4, e5⟩ := HC9.out
      simp [results, Try.results10, go_sem, e0, e1, e2, e3, e4, e5]
    · exact ⟨_, _, _, _, rfl, HL9.out, HZ.out, HD9.out, HS9.out⟩
set_option maxRecDepth 100000 in
set_option maxHeartbeats 4000000 in
theorem does_fuse (p : Nat) (d : Dk) (m : Nat) (B : Nat) (ka wa : Option Addr) (kc wc : Nat) (x : St) (w : World) (hd0 : Dsk w B p p d m) (hm : m < 80000) (hF : Fine d m) (hlies : DLies w d ka wa) (hwz : wa = none → wc = 0) (hin : x.In) (h3 : x.b.length ≤ 3000) (hby : ∀ u, Below B w u → Bytes u x.ab (nums (str x.b))) (hbo : ∀ u, Below B w u → Bools u x.ak x.keep) (hk : x.kind = 2) : Does p d m B ka wa kc wc x w := by
  unfold Does
  obtain ⟨hFl, hFf, hFo, hFw⟩ := hF
  obtain ⟨nn, kp, wt, dn, fl, fu⟩ := d
  obtain ⟨kd, ix, ab, cb, bb, ak, ck, kk, tn⟩ := x
  dsimp only [dv, sv] at *
  obtain ⟨hkw, hww⟩ := hlies
  dsimp only at hkw hww
  have hBw := hd0.size
  subst hk
  have hDF := disk_fuse hd0 ix hin.ix
  have HD5 := hid (fun (u : World) (hu : Below w.heap.size w u) => disk_fuse (hd0.later hu) ix hin.ix)
  clear hDF
  dsimp only [stepD]
  simp only [if_neg (show ¬ (2 : Int) = 0 by decide), if_neg (show ¬ (2 : Int) = 1 by decide), if_true]
  have hbw0 := Below.refl w.heap.size w
  have HIX := hid hin
  clear hin hby hbo
  go_enter Try.func10, Try.ntmps10
  go_upto_region 1 with fail
  obtain ⟨TD, TS, TR, hb1⟩ := boxes3 w nn (.slice ka kp.length kc) (.slice wa wt.length wc) dn fl fu 2 ix (.slice ab bb.length cb) (.slice ak kk.length ck) tn
  have hd1 := hd0.later hb1
  have hL1 : DLies (((w.alloc (.cells #[.int .i64 nn, .slice ka kp.length kc, .slice wa wt.length wc, .bool dn, .int .i64 fl, .int .i64 fu] 31)).alloc (.cells #[.int .i64 2, .int .i64 ix, .slice ab bb.length cb, .slice ak kk.length ck, .int .i64 tn] 37)).alloc (.cells #[.int .i64 0, .slice none 0 0, .slice none 0 0, .bool false, .int .i64 0, .int .i64 0] 31)) ⟨nn, kp, wt, dn, fl, fu⟩ ka wa := ⟨hkw.later hb1, hww.later hb1⟩
  have hS1 := Soft5.new hb1 hBw
  clear hkw hww hd0 hb1
  generalize ((w.alloc (.cells #[.int .i64 nn, .slice ka kp.length kc, .slice wa wt.length wc, .bool dn, .int .i64 fl, .int .i64 fu] 31)).alloc (.cells #[.int .i64 2, .int .i64 ix, .slice ab bb.length cb, .slice ak kk.length ck, .int .i64 tn] 37)).alloc (.cells #[.int .i64 0, .slice none 0 0, .slice none 0 0, .bool false, .int .i64 0, .int .i64 0] 31) = w1 at *
  obtain ⟨b4, e4⟩ : ∃ b4, w.heap.size = b4 := ⟨_, rfl⟩
  obtain ⟨b5, e5⟩ : ∃ b5, w.heap.size + 1 = b5 := ⟨_, rfl⟩
  obtain ⟨b7, e7⟩ : ∃ b7, w.heap.size + 1 + 1 = b7 := ⟨_, rfl⟩
  have hb7 : w.heap.size ≤ b7 := by omega
  have hne4 : b4 ≠ b7 := by omega
  have hb4 : w.heap.size ≤ b4 := by omega
  rw [e7] at TR ⊢
  rw [e5] at TS ⊢
  rw [e4] at TD ⊢
  clear e4 e5 e7
  have hB1 := hd1.size
  have HZ := hid hwz
  obtain ⟨s0, s1, s2, s3, s4⟩ := TS.cells
  obtain ⟨c0, c1, c2, c3, c4, c5⟩ := TD.cells

  have HDC := disk_fuse hd1 ix HIX.out.ix
  go_wp2_with fail
  refine HDC.mono ?_
  rintro e w2 ⟨rfl, hd2, hs2⟩
  have hS2 := hS1.trans hs2.five
  have TD2 := TD.five hs2.five
  have TS2 := TS.five hs2.five
  have TR2 := TR.five hs2.five
  have hL2 := hL1.five hs2.five
  clear c0 c1 c2 c3 c4 c5 s0 s1 s2 s3 s4 HDC hd1 hs2 hS1 TD TS TR hL1 HD5
  obtain ⟨s0, s1, s2, s3, s4⟩ := TS2.cells
  obtain ⟨c0, c1, c2, c3, c4, c5⟩ := TD2.cells
  have f5 := TD2.free 5
  have g5 := grown_set w2 b4 5 (.int .i64 (max ix 0))
  have HE := hid (And.intro (TD2.set5 (max ix 0)) (And.intro (TR2.other (fun e => hne4 e.symm) 5 (.int .i64 (max ix 0))) (And.intro ((hd2.side TD2 g5).mono (Nat.le_succ m)) (And.intro (hL2.beside TD2 g5) (hS2.at hBw hb4 g5)))))
  clear g5 hd2 hS2 TD2 TS2 TR2 hL2
  go_upto_region 20 with fail
  generalize w2.setCell ⟨b4, 5, none⟩ (.int .i64 (max ix 0)) = w6 at *
  obtain ⟨T12, RB, hD, hL, hS⟩ := HE.out
  clear c0 c1 c2 c3 c4 c5 s0 s1 s2 s3 s4 f5 HE
  obtain ⟨c0, c1, c2, c3, c4, c5⟩ := T12.cells
  clear T12
  obtain ⟨z0, z1, z2, z3, z4, z5⟩ := RB.cells
  have f0 := RB.free 0
  have f1 := RB.free 1
  have f2 := RB.free 2
  have f3 := RB.free 3
  have f4 := RB.free 4
  have f5 := RB.free 5
  obtain ⟨q5, q6⟩ := RB.fill (n' := nn) (k' := .slice ka kp.length kc) (wv' := .slice wa wt.length wc) (dn' := dn) (fl' := fl) (fu' := (max ix 0))
  have HC9 := hid ((q5.later (Below.refl _ _).drew).cells)
  have HD9 := hid ((hD.side RB q6).drew)
  have HL9 := hid ((hL.beside RB q6).later (Below.refl _ _).drew)
  have HS9 := hid ((hS.at hBw hb7 q6).drew)
  clear q5 q6 RB hD hL hS
  go_region
  go_wp2_with fail
  refine bodyPost_ret (v := .tuple #[.bool true, .agg #[.int .i64 nn, .slice ka kp.length kc, .slice wa wt.length wc, .bool dn, .int .i64 fl, .int .i64 (max ix 0)]]) ?_ rfl ?_
  · obtain ⟨e0, e1, e2, e3, e4, e5⟩ := HC9.out
    simp [results, Try.results10, go_sem, e0, e1, e2, e3, e4, e5]
  · exact ⟨_, _, _, _, rfl, HL9.out, HZ.out, HD9.out, HS9.out⟩
set_option maxRecDepth 100000 in
set_option maxHeartbeats 4000000 in
theorem does_down (p : Nat) (d : Dk) (m : Nat) (B : Nat) (ka wa : Option Addr) (kc wc : Nat) (x : St) (w : World) (hd0 : Dsk w B p p d m) (hm : m < 80000) (hF : Fine d m) (hlies : DLies w d ka wa) (hwz : wa = none → wc = 0) (hin : x.In) (h3 : x.b.length ≤ 3000) (hby : ∀ u, Below B w u → Bytes u x.ab (nums (str x.b))) (hbo : ∀ u, Below B w u → Bools u x.ak x.keep) (hk : x.kind = 3) : Does p d m B ka wa kc wc x w := by
  unfold Does
  obtain ⟨hFl, hFf, hFo, hFw⟩ := hF
  obtain ⟨nn, kp, wt, dn, fl, fu⟩ := d
  obtain ⟨kd, ix, ab, cb, bb, ak, ck, kk, tn⟩ := x
  dsimp only [dv, sv] at *
  obtain ⟨hkw, hww⟩ := hlies
  dsimp only at hkw hww
  have hBw := hd0.size
  subst hk
  dsimp only [stepD]
  simp only [if_neg (show ¬ (3 : Int) = 0 by decide), if_neg (show ¬ (3 : Int) = 1 by decide), if_neg (show ¬ (3 : Int) = 2 by decide), if_true]
  have HBA := hid (fun (u : World) (hu : DLies u ⟨nn, kp, wt, dn, fl, fu⟩ ka wa) => fall25 ⟨nn, kp, wt, dn, fl, fu⟩ ka wa kc wc u (by dsimp only; omega) hu)
  have HDB := hid (fun (u : World) (hu : Dsk u B p p ⟨nn, kp, wt, dn, fl, fu⟩ m) => disk_down hu (by omega))
  have HLF := hid (fun (u : World) (hu : DLies u ⟨nn, kp, wt, dn, fl, fu⟩ ka wa) => show DLies u (fallD ⟨nn, kp, wt, dn, fl, fu⟩) ka wa by
    obtain ⟨_, h2, h3, _⟩ := fallD_more ⟨nn, kp, wt, dn, fl, fu⟩
    unfold DLies
    rw [h2, h3]
    exact hu)
  clear hin hby hbo
  generalize fallD ⟨nn, kp, wt, dn, fl, fu⟩ = d2 at *
  obtain ⟨n2, kp2, wt2, dn2, fl2, fu2⟩ := d2
  dsimp only [dv] at *
  go_enter Try.func10, Try.ntmps10
  go_upto_region 1 with fail
  obtain ⟨TD, TS, TR, hb1⟩ := boxes3 w nn (.slice ka kp.length kc) (.slice wa wt.length wc) dn fl fu 3 ix (.slice ab bb.length cb) (.slice ak kk.length ck) tn
  have hd1 := hd0.later hb1
  have hL1 : DLies (((w.alloc (.cells #[.int .i64 nn, .slice ka kp.length kc, .slice wa wt.length wc, .bool dn, .int .i64 fl, .int .i64 fu] 31)).alloc (.cells #[.int .i64 3, .int .i64 ix, .slice ab bb.length cb, .slice ak kk.length ck, .int .i64 tn] 37)).alloc (.cells #[.int .i64 0, .slice none 0 0, .slice none 0 0, .bool false, .int .i64 0, .int .i64 0] 31)) ⟨nn, kp, wt, dn, fl, fu⟩ ka wa := ⟨hkw.later hb1, hww.later hb1⟩
  have hS1 := Soft5.new hb1 hBw
  clear hkw hww hd0 hb1
  generalize ((w.alloc (.cells #[.int .i64 nn, .slice ka kp.length kc, .slice wa wt.length wc, .bool dn, .int .i64 fl, .int .i64 fu] 31)).alloc (.cells #[.int .i64 3, .int .i64 ix, .slice ab bb.length cb, .slice ak kk.length ck, .int .i64 tn] 37)).alloc (.cells #[.int .i64 0, .slice none 0 0, .slice none 0 0, .bool false, .int .i64 0, .int .i64 0] 31) = w1 at *
  obtain ⟨b4, e4⟩ : ∃ b4, w.heap.size = b4 := ⟨_, rfl⟩
  obtain ⟨b5, e5⟩ : ∃ b5, w.heap.size + 1 = b5 := ⟨_, rfl⟩
  obtain ⟨b7, e7⟩ : ∃ b7, w.heap.size + 1 + 1 = b7 := ⟨_, rfl⟩
  have hb7 : w.heap.size ≤ b7 := by omega
  have hne4 : b4 ≠ b7 := by omega
  have hb4 : w.heap.size ≤ b4 := by omega
  rw [e7] at TR ⊢
  rw [e5] at TS ⊢
  rw [e4] at TD ⊢
  clear e4 e5 e7
  have hB1 := hd1.size
  have HZ := hid hwz
  obtain ⟨s0, s1, s2, s3, s4⟩ := TS.cells
  obtain ⟨c0, c1, c2, c3, c4, c5⟩ := TD.cells

  have HDC := HDB.out w1 hd1
  clear HDB
  go_wp2_with fail
  refine HDC.mono ?_
  rintro e w2 ⟨rfl, hd2, hs2⟩
  have hS2 := hS1.trans hs2.five
  have TD2 := TD.five hs2.five
  have TS2 := TS.five hs2.five
  have TR2 := TR.five hs2.five
  have hL2 := hL1.five hs2.five
  clear c0 c1 c2 c3 c4 c5 s0 s1 s2 s3 s4 HDC hd1 hs2 hS1 TD TS TR hL1
  obtain ⟨s0, s1, s2, s3, s4⟩ := TS2.cells
  obtain ⟨c0, c1, c2, c3, c4, c5⟩ := TD2.cells
  have HBC := HBA.out w2 hL2
  have HH := hid (And.intro TR2 (And.intro hd2 (And.intro hS2 (HLF.out w2 hL2))))
  clear TR2 hd2 hS2 TD2 TS2 HBA hL2 HLF
  go_wp2_with fail
  refine HBC.mono ?_
  rintro e w3 ⟨rfl, hb3⟩
  have RB := HH.out.1.later hb3
  have hD := HH.out.2.1.later hb3
  have hS := HH.out.2.2.1.later hb3 HH.out.2.1.size
  have hL := HH.out.2.2.2.later hb3
  clear HBC HH hb3 c0 c1 c2 c3 c4 c5 s0 s1 s2 s3 s4
  obtain ⟨z0, z1, z2, z3, z4, z5⟩ := RB.cells
  have f0 := RB.free 0
  have f1 := RB.free 1
  have f2 := RB.free 2
  have f3 := RB.free 3
  have f4 := RB.free 4
  have f5 := RB.free 5
  obtain ⟨q5, q6⟩ := RB.fill (n' := n2) (k' := .slice ka kp2.length kc) (wv' := .slice wa wt2.length wc) (dn' := dn2) (fl' := fl2) (fu' := fu2)
  have HC9 := hid ((q5).cells)
  have HD9 := hid ((hD.side RB q6))
  have HL9 := hid ((hL.beside RB q6))
  have HS9 := hid ((hS.at hBw hb7 q6))
  clear q5 q6 RB hD hL hS

  go_wp2_with fail
  refine bodyPost_ret (v := .tuple #[.bool true, .agg #[.int .i64 n2, .slice ka kp2.length kc, .slice wa wt2.length wc, .bool dn2, .int .i64 fl2, .int .i64 fu2]]) ?_ rfl ?_
  · obtain ⟨e0, e1, e2, e3, e4, e5⟩ := HC9.out
    simp [results, Try.results10, go_sem, e0, e1, e2, e3, e4, e5]
  · exact ⟨_, _, _, _, rfl, HL9.out, HZ.out, HD9.out, HS9.out⟩
set_option maxRecDepth 100000 in
set_option maxHeartbeats 4000000 in
theorem does_back (p : Nat) (d : Dk) (m : Nat) (B : Nat) (ka wa : Option Addr) (kc wc : Nat) (x : St) (w : World) (hd0 : Dsk w B p p d m) (hm : m < 80000) (hF : Fine d m) (hlies : DLies w d ka wa) (hwz : wa = none → wc = 0) (hin : x.In) (h3 : x.b.length ≤ 3000) (hby : ∀ u, Below B w u → Bytes u x.ab (nums (str x.b))) (hbo : ∀ u, Below B w u → Bools u x.ak x.keep) (hk : x.kind = 4) : Does p d m B ka wa kc wc x w := by
  unfold Does
  obtain ⟨hFl, hFf, hFo, hFw⟩ := hF
  obtain ⟨nn, kp, wt, dn, fl, fu⟩ := d
  obtain ⟨kd, ix, ab, cb, bb, ak, ck, kk, tn⟩ := x
  dsimp only [dv, sv] at *
  obtain ⟨hkw, hww⟩ := hlies
  dsimp only at hkw hww
  have hBw := hd0.size
  subst hk
  dsimp only [stepD]
  simp only [if_neg (show ¬ (4 : Int) = 0 by decide), if_neg (show ¬ (4 : Int) = 1 by decide), if_neg (show ¬ (4 : Int) = 2 by decide), if_neg (show ¬ (4 : Int) = 3 by decide), if_true]
  have HBA := hid (fun (u : World) (hu : DLies u ⟨nn, kp, wt, dn, fl, fu⟩ ka wa) (hb : Below B w u) (hs : B ≤ u.heap.size) => back26 ⟨nn, kp, wt, dn, fl, fu⟩ ka wa kc wc u (by dsimp only; omega) hu hFo (by dsimp only; omega) kk ak ck (fun v hv => hbo v (hb.trans (hv.mono hs))) hin.kl tn ix)
  have HDB := hid (fun (u : World) (hu : Dsk u B p p ⟨nn, kp, wt, dn, fl, fu⟩ m) (hb : Below B w u) => disk_back hu (by omega) hu.lt kk ak ck (fun v hv => hbo v (hb.trans hv.below)) hin.kl tn ix)
  clear hin hby hbo
  generalize backD ⟨nn, kp, wt, dn, fl, fu⟩ kk tn ix = d2 at *
  obtain ⟨n2, kp2, wt2, dn2, fl2, fu2⟩ := d2
  dsimp only [dv] at *
  go_enter Try.func10, Try.ntmps10
  go_upto_region 1 with fail
  obtain ⟨TD, TS, TR, hb1⟩ := boxes3 w nn (.slice ka kp.length kc) (.slice wa wt.length wc) dn fl fu 4 ix (.slice ab bb.length cb) (.slice ak kk.length ck) tn
  have hd1 := hd0.later hb1
  have hL1 : DLies (((w.alloc (.cells #[.int .i64 nn, .slice ka kp.length kc, .slice wa wt.length wc, .bool dn, .int .i64 fl, .int .i64 fu] 31)).alloc (.cells #[.int .i64 4, .int .i64 ix, .slice ab bb.length cb, .slice ak kk.length ck, .int .i64 tn] 37)).alloc (.cells #[.int .i64 0, .slice none 0 0, .slice none 0 0, .bool false, .int .i64 0, .int .i64 0] 31)) ⟨nn, kp, wt, dn, fl, fu⟩ ka wa := ⟨hkw.later hb1, hww.later hb1⟩
  have hS1 := Soft5.new hb1 hBw
  clear hkw hww hd0 hb1
  generalize ((w.alloc (.cells #[.int .i64 nn, .slice ka kp.length kc, .slice wa wt.length wc, .bool dn, .int .i64 fl, .int .i64 fu] 31)).alloc (.cells #[.int .i64 4, .int .i64 ix, .slice ab bb.length cb, .slice ak kk.length ck, .int .i64 tn] 37)).alloc (.cells #[.int .i64 0, .slice none 0 0, .slice none 0 0, .bool false, .int .i64 0, .int .i64 0] 31) = w1 at *
  obtain ⟨b4, e4⟩ : ∃ b4, w.heap.size = b4 := ⟨_, rfl⟩
  obtain ⟨b5, e5⟩ : ∃ b5, w.heap.size + 1 = b5 := ⟨_, rfl⟩
  obtain ⟨b7, e7⟩ : ∃ b7, w.heap.size + 1 + 1 = b7 := ⟨_, rfl⟩
  have hb7 : w.heap.size ≤ b7 := by omega
  have hne4 : b4 ≠ b7 := by omega
  have hb4 : w.heap.size ≤ b4 := by omega
  rw [e7] at TR ⊢
  rw [e5] at TS ⊢
  rw [e4] at TD ⊢
  clear e4 e5 e7
  have hB1 := hd1.size
  have HZ := hid hwz
  obtain ⟨s0, s1, s2, s3, s4⟩ := TS.cells
  obtain ⟨c0, c1, c2, c3, c4, c5⟩ := TD.cells

  have HDC := HDB.out w1 hd1 hS1.below
  clear HDB
  go_wp2_with fail
  refine HDC.mono ?_
  rintro e w2 ⟨rfl, hd2, hs2⟩
  have hS2 := hS1.trans hs2.five
  have TD2 := TD.five hs2.five
  have TS2 := TS.five hs2.five
  have TR2 := TR.five hs2.five
  have hL2 := hL1.five hs2.five
  clear c0 c1 c2 c3 c4 c5 s0 s1 s2 s3 s4 HDC hd1 hs2 hS1 TD TS TR hL1
  obtain ⟨s0, s1, s2, s3, s4⟩ := TS2.cells
  obtain ⟨c0, c1, c2, c3, c4, c5⟩ := TD2.cells
  have HBC := HBA.out w2 hL2 hS2.below hd2.size
  have HH := hid (And.intro TR2 (And.intro hd2 hS2))
  clear TR2 hd2 hS2 TD2 TS2 HBA hL2
  go_wp2_with fail
  refine HBC.mono ?_
  rintro e w3 ⟨⟨ka2, kc2, wa2, wc2, rfl, hL, hz⟩, hb3⟩
  have HZ := hid hz
  have RB := HH.out.1.later hb3
  have hD := HH.out.2.1.later hb3
  have hS := HH.out.2.2.later hb3 HH.out.2.1.size
  clear HBC HH hz hb3 c0 c1 c2 c3 c4 c5 s0 s1 s2 s3 s4
  obtain ⟨z0, z1, z2, z3, z4, z5⟩ := RB.cells
  have f0 := RB.free 0
  have f1 := RB.free 1
  have f2 := RB.free 2
  have f3 := RB.free 3
  have f4 := RB.free 4
  have f5 := RB.free 5
  obtain ⟨q5, q6⟩ := RB.fill (n' := n2) (k' := .slice ka2 kp2.length kc2) (wv' := .slice wa2 wt2.length wc2) (dn' := dn2) (fl' := fl2) (fu' := fu2)
  have HC9 := hid ((q5).cells)
  have HD9 := hid ((hD.side RB q6))
  have HL9 := hid ((hL.beside RB q6))
  have HS9 := hid ((hS.at hBw hb7 q6))
  clear q5 q6 RB hD hL hS

  go_wp2_with fail
  refine bodyPost_ret (v := .tuple #[.bool true, .agg #[.int .i64 n2, .slice ka2 kp2.length kc2, .slice wa2 wt2.length wc2, .bool dn2, .int .i64 fl2, .int .i64 fu2]]) ?_ rfl ?_
  · obtain ⟨e0, e1, e2, e3, e4, e5⟩ := HC9.out
    simp [results, Try.results10, go_sem, e0, e1, e2, e3, e4, e5]
  · exact ⟨_, _, _, _, rfl, HL9.out, HZ.out, HD9.out, HS9.out⟩
set_option maxRecDepth 100000 in
set_option maxHeartbeats 4000000 in
theorem does_read (p : Nat) (d : Dk) (m : Nat) (B : Nat) (ka wa : Option Addr) (kc wc : Nat) (x : St) (w : World) (hd0 : Dsk w B p p d m) (hm : m < 80000) (hF : Fine d m) (hlies : DLies w d ka wa) (hwz : wa = none → wc = 0) (hin : x.In) (h3 : x.b.length ≤ 3000) (hby : ∀ u, Below B w u → Bytes u x.ab (nums (str x.b))) (hbo : ∀ u, Below B w u → Bools u x.ak x.keep) (h0 : ¬ x.kind = 0) (h1 : ¬ x.kind = 1) (h2 : ¬ x.kind = 2) (h3' : ¬ x.kind = 3) (h4 : ¬ x.kind = 4) : Does p d m B ka wa kc wc x w := by
  unfold Does
  obtain ⟨hFl, hFf, hFo, hFw⟩ := hF
  obtain ⟨nn, kp, wt, dn, fl, fu⟩ := d
  obtain ⟨kd, ix, ab, cb, bb, ak, ck, kk, tn⟩ := x
  dsimp only [dv, sv] at *
  obtain ⟨hkw, hww⟩ := hlies
  dsimp only at hkw hww
  have hBw := hd0.size
  dsimp only [stepD]
  rw [if_neg h0, if_neg h1, if_neg h2, if_neg h3', if_neg h4]
  have g0 : decide (kd = 0) = false := decide_eq_false h0
  have g1 : decide (kd = 1) = false := decide_eq_false h1
  have g2 : decide (kd = 2) = false := decide_eq_false h2
  have g3 : decide (kd = 3) = false := decide_eq_false h3'
  have g4 : decide (kd = 4) = false := decide_eq_false h4
  have HBA := hid (fun (u : World) (hu : DLies u ⟨nn, kp, wt, dn, fl, fu⟩ ka wa) => read16 ⟨nn, kp, wt, dn, fl, fu⟩ ix ka wa kc wc u (by unfold maxLen; dsimp only; omega) hu)
  have HDB := hid (fun (u : World) (hu : Dsk u B p p ⟨nn, kp, wt, dn, fl, fu⟩ m) => disk_read hu ix hin.ix)
  clear hin hby hbo
  generalize readD ⟨nn, kp, wt, dn, fl, fu⟩ ix = RD at *
  obtain ⟨rs, re⟩ := RD
  dsimp only [dv] at *
  obtain ⟨rn, hrn⟩ : ∃ rn, rs.length = rn := ⟨_, rfl⟩
  have HRN := hid hrn
  rw [hrn] at HDB
  clear hrn
  go_enter Try.func10, Try.ntmps10
  go_upto_region 1 with fail
  obtain ⟨TD, TS, TR, hb1⟩ := boxes3 w nn (.slice ka kp.length kc) (.slice wa wt.length wc) dn fl fu kd ix (.slice ab bb.length cb) (.slice ak kk.length ck) tn
  have hd1 := hd0.later hb1
  have hL1 : DLies (((w.alloc (.cells #[.int .i64 nn, .slice ka kp.length kc, .slice wa wt.length wc, .bool dn, .int .i64 fl, .int .i64 fu] 31)).alloc (.cells #[.int .i64 kd, .int .i64 ix, .slice ab bb.length cb, .slice ak kk.length ck, .int .i64 tn] 37)).alloc (.cells #[.int .i64 0, .slice none 0 0, .slice none 0 0, .bool false, .int .i64 0, .int .i64 0] 31)) ⟨nn, kp, wt, dn, fl, fu⟩ ka wa := ⟨hkw.later hb1, hww.later hb1⟩
  have hS1 := Soft5.new hb1 hBw
  clear hkw hww hd0 hb1
  generalize ((w.alloc (.cells #[.int .i64 nn, .slice ka kp.length kc, .slice wa wt.length wc, .bool dn, .int .i64 fl, .int .i64 fu] 31)).alloc (.cells #[.int .i64 kd, .int .i64 ix, .slice ab bb.length cb, .slice ak kk.length ck, .int .i64 tn] 37)).alloc (.cells #[.int .i64 0, .slice none 0 0, .slice none 0 0, .bool false, .int .i64 0, .int .i64 0] 31) = w1 at *
  obtain ⟨b4, e4⟩ : ∃ b4, w.heap.size = b4 := ⟨_, rfl⟩
  obtain ⟨b5, e5⟩ : ∃ b5, w.heap.size + 1 = b5 := ⟨_, rfl⟩
  obtain ⟨b7, e7⟩ : ∃ b7, w.heap.size + 1 + 1 = b7 := ⟨_, rfl⟩
  have hb7 : w.heap.size ≤ b7 := by omega
  have hne4 : b4 ≠ b7 := by omega
  have hb4 : w.heap.size ≤ b4 := by omega
  rw [e7] at TR ⊢
  rw [e5] at TS ⊢
  rw [e4] at TD ⊢
  clear e4 e5 e7
  have hB1 := hd1.size
  have HZ := hid hwz
  obtain ⟨s0, s1, s2, s3, s4⟩ := TS.cells
  obtain ⟨c0, c1, c2, c3, c4, c5⟩ := TD.cells

  have HDC := HDB.out w1 hd1
  clear HDB
  go_wp2_with fail
  refine HDC.mono ?_
  rintro e w2 ⟨⟨ra, rc, rfl, hby, hbn⟩, hb2⟩
  have hS2 := hS1.later hb2 hB1
  have TD2 := TD.later hb2
  have TS2 := TS.later hb2
  have TR2 := TR.later hb2
  have hL2 := hL1.later hb2
  have hd2 := hd1.later hb2
  have HBY := hid hby
  have HBN := hid hbn
  clear c0 c1 c2 c3 c4 c5 s0 s1 s2 s3 s4 HDC hd1 hb2 hS1 TD TS TR hL1 hby hbn
  obtain ⟨s0, s1, s2, s3, s4⟩ := TS2.cells
  obtain ⟨c0, c1, c2, c3, c4, c5⟩ := TD2.cells
  have HBC := HBA.out w2 hL2
  have HH := hid (And.intro TR2 (And.intro hd2 (And.intro hS2 (And.intro hL2 TD2))))
  clear TR2 hd2 hS2 TD2 TS2 HBA hL2
  go_wp2_with fail
  refine HBC.mono ?_
  rintro e w3 ⟨rfl, hb3⟩
  have RB := HH.out.1.later hb3
  have hD := (HH.out.2.1.later hb3).mono (Nat.le_succ m)
  have hS := HH.out.2.2.1.later hb3 HH.out.2.1.size
  have hL := HH.out.2.2.2.1.later hb3
  have TD3 := HH.out.2.2.2.2.later hb3
  have hcv := conv_str (HBY.out.later hb3) rn rc (by rw [nums_length, str_size]; exact HRN.out) HBN.out
  have hcv' := conv_str ((HBY.out.later hb3).drew) rn rc (by rw [nums_length, str_size]; exact HRN.out) HBN.out
  rw [str_nums] at hcv hcv'
  clear HBC HH hb3 c0 c1 c2 c3 c4 c5 s0 s1 s2 s3 s4
  obtain ⟨c0, c1, c2, c3, c4, c5⟩ := TD3.cells
  clear TD3
  go_upto_region 29 with fail
  obtain ⟨z0, z1, z2, z3, z4, z5⟩ := RB.cells
  have f0 := RB.free 0
  have f1 := RB.free 1
  have f2 := RB.free 2
  have f3 := RB.free 3
  have f4 := RB.free 4
  have f5 := RB.free 5
  obtain ⟨q5, q6⟩ := RB.fill (n' := nn) (k' := .slice ka kp.length kc) (wv' := .slice wa wt.length wc) (dn' := dn) (fl' := fl) (fu' := fu)
  have HC9 := hid ((q5.later (Below.refl _ _).drew).cells)
  have HD9 := hid ((hD.side RB q6).drew)
  have HL9 := hid ((hL.beside RB q6).later (Below.refl _ _).drew)
  have HS9 := hid ((hS.at hBw hb7 q6).drew)
  clear q5 q6 RB hD hL hS
  go_region
  go_wp2_with fail
  refine bodyPost_ret (v := .tuple #[.bool true, .agg #[.int .i64 nn, .slice ka kp.length kc, .slice wa wt.length wc, .bool dn, .int .i64 fl, .int .i64 fu]]) ?_ rfl ?_
  · obtain ⟨e0, e1, e2, e3, e4, e5⟩ := HC9.out
    simp [results, Try.results10, go_sem, e0, e1, e2, e3, e4, e5]
  · exact ⟨_, _, _, _, rfl, HL9.out, HZ.out, HD9.out, HS9.out⟩
theorem does10 (p : Nat) (d : Dk) (m : Nat) (B : Nat) (ka wa : Option Addr) (kc wc : Nat) (x : St) (w : World) (hd0 : Dsk w B p p d m) (hm : m < 80000) (hF : Fine d m) (hlies : DLies w d ka wa) (hwz : wa = none → wc = 0) (hin : x.In) (h3 : x.b.length ≤ 3000) (hby : ∀ u, Below B w u → Bytes u x.ab (nums (str x.b))) (hbo : ∀ u, Below B w u → Bools u x.ak x.keep) : Does p d m B ka wa kc wc x w := by
  by_cases h0 : x.kind = 0
  · exact does_write p d m B ka wa kc wc x w hd0 hm hF hlies hwz hin h3 hby hbo h0
  by_cases h1 : x.kind = 1
  · exact does_barrier p d m B ka wa kc wc x w hd0 hm hF hlies hwz hin h3 hby hbo h1
  by_cases h2 : x.kind = 2
  · exact does_fuse p d m B ka wa kc wc x w hd0 hm hF hlies hwz hin h3 hby hbo h2
  by_cases h3' : x.kind = 3
  · exact does_down p d m B ka wa kc wc x w hd0 hm hF hlies hwz hin h3 hby hbo h3'
  by_cases h4 : x.kind = 4
  · exact does_back p d m B ka wa kc wc x w hd0 hm hF hlies hwz hin h3 hby hbo h4
  exact does_read p d m B ka wa kc wc x w hd0 hm hF hlies hwz hin h3 hby hbo h0 h1 h2 h3' h4
end Go.Proofs.Ytklfpoojpfomeaa.Key
