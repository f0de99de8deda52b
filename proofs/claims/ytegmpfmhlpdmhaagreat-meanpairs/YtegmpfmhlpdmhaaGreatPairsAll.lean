/-
  The walk of MeanPairs.
  Proved: the call of the statement MeanPairs returns true for every slice of items, every block, range and number (the pairs of a range are what the document says that they are, where the graph is small), and they read afterwards as they read before. No condition.
  The frame of the row's step was written by the guide's proof-skeleton.mjs, turned; the walk is this text's own.
-/
import Derived.Test.YtegmpfmhlpdmhaaGreatJ7
import Derived.Test.YtegmpfmhlpdmhaaGreatJ6
import Derived.Test.YtegmpfmhlpdmhaaGreatAwake
import Derived.WalkKit
import Derived.ProofKit
import Derived.OpenShut
import Derived.ShutString
import Derived.ChangeOld
import Derived.Below
import Derived.Carry
import Derived.Lib.SmallJoins
namespace Go.Proofs.YtegmpfmhlpdmhaaGreat.Key
open Go.RowKit Draw
open Go.Op (bytesLess)
set_option linter.unusedVariables false
set_option linter.unusedSimpArgs false

theorem small_ways {l : List It} {root : Int} (h : smallB l root = true) (hr : rightB l = true) : waysF l 65535 root ≤ 100 := by
  unfold smallB at h
  simp only [Bool.and_eq_true, decide_eq_true_eq] at h
  have h2 := h.2
  unfold waysR at h2
  rw [if_pos hr] at h2
  unfold waysM M30 at h2
  omega
theorem small_tot {l : List It} {root : Int} (h : smallB l root = true) (r : Rng) : (totL l root r).length ≤ 1600 := by
  unfold totL
  cases hs : seenI l root with
  | none => simp
  | some x =>
    have hr := (seen_some hs).1
    have h1 := small_ways h hr
    have h2 := cont_len hr 65535 root
    have h3 := rest_len (contL l root) r
    show (restL (contL l root) r).length ≤ 1600
    unfold contL at h3 ⊢
    omega
theorem pairs_few {l : List It} {root : Int} (h : smallB l root = true) (r : Rng) (most : Int) : (pairsL l root r most).length ≤ 1600 := by
  unfold pairsL
  split
  · rename_i hr
    have h1 := small_ways h hr
    have h2 := cont_len hr 65535 root
    have h3 := rest_len (contF l 65535 root) r
    have h4 := firstL_le most (restL (contF l 65535 root) r)
    omega
  · exact Nat.zero_le _

set_option maxRecDepth 100000 in
set_option maxHeartbeats 2000000 in
theorem meanPairs3 (a : Option Addr) (c : Nat) (l : List It) (root most : Int) (lo hi : ByteArray) (e : Bool) (w : World) (wl : Items w a l) (wn : l.length ≤ maxLen) (wm : ∀ m ∈ l, It.In m) (hwf : (Lit.int .u32 root).wf = true) :
    Calls Tryz.prog 3 #[.slice a l.length c, .int .u32 root, av lo hi e, .int .i64 most] w fun x w' => x = .returned (.bool true) ∧ Below w.heap.size w w' := by
  have R0 := Box.new w (.string lo) (.string hi) (.bool e)
  have b0 := below_box w (.cells #[.string lo, .string hi, .bool e] 25)
  have HSm := hid (small12 a c l root (w.alloc (.cells #[.string lo, .string hi, .bool e] 25)) (wl.later b0) wn wm)
  have HGr := hid (fun u => rgreat13 lo hi e u)
  cases hsm : smallB l root
  case false =>
    rw [hsm] at HSm
    clear HGr wl
    generalize l.length = n at *
    go_enter Tryz.func3, Tryz.ntmps3
    go_wp2_with fail
    refine HSm.out.mono ?_
    rintro x w1 ⟨rfl, hb1⟩
    replace hb1 := b0.trans (hb1.mono b0.size)
    clear HSm R0 b0
    go_wp2_with fail
    refine (awake7 _).mono ?_
    rintro x w2 ⟨rfl, hb2⟩
    go_wp2_with fail
    go_ret
    exact ⟨rfl, hb1.trans (hb2.mono hb1.size)⟩
  case true =>
    rw [hsm] at HSm
    cases hgr : greatB lo hi
    case true =>
      rw [hgr] at HGr
      clear wl
      generalize l.length = n at *
      go_enter Tryz.func3, Tryz.ntmps3
      go_wp2_with fail
      refine HSm.out.mono ?_
      rintro x w1 ⟨rfl, hb1⟩
      have R1 := R0.later hb1
      replace hb1 := b0.trans (hb1.mono b0.size)
      clear HSm R0 b0
      obtain ⟨r0, r1, r2⟩ := R1.cells
      go_wp2_with fail
      refine (HGr.out _).mono ?_
      rintro x w2 ⟨rfl, hb2⟩
      replace hb2 := hb1.trans (hb2.mono hb1.size)
      clear r0 r1 r2 R1
      go_wp2_with fail
      refine (awake7 _).mono ?_
      rintro x w3 ⟨rfl, hb3⟩
      go_wp2_with fail
      go_ret
      exact ⟨rfl, hb2.trans (hb3.mono hb2.size)⟩
    case false =>
      rw [hgr] at HGr
      have hg : greatI l = false := by
        unfold smallB at hsm
        simp only [Bool.and_eq_true, Bool.not_eq_true'] at hsm
        exact hsm.1
      obtain ⟨hf, h30⟩ := fine_of hg wm
      have hsz : lo.size ≤ 300 ∧ hi.size ≤ 300 := by
        unfold greatB at hgr
        simp only [Bool.or_eq_false_iff, decide_eq_false_iff_not] at hgr
        omega
      have HP := hid (fun (u : World) (hu : Below w.heap.size w u) => (pairs14 a c l root most lo hi e u hf (by omega) hwf (by omega) (by omega) (by have := small_tot hsm (rg lo hi e); omega) (wl.later hu)).mono fun x w' hx => (show (∃ a3 c3, x = .returned (.slice a3 (pairsL l root (rg lo hi e) most).length c3) ∧ Prs w' a3 (pairsL l root (rg lo hi e) most)) ∧ Below u.heap.size u w' from by
        obtain ⟨v, rfl, h1, h2⟩ := hx
        obtain ⟨a3, c3, rfl, h3⟩ := row_prs h1
        exact ⟨⟨a3, c3, rfl, h3⟩, h2⟩))
      have HQ := hid (fun (u : World) (hu : Below w.heap.size w u) => (rpairs9 a c l root most lo hi e u hf (fun hr => by have := small_ways hsm hr; omega) (wl.later hu)).mono fun x w' (hx : PrsOut w' x (pairsL l root (rg lo hi e) most) ∧ Below u.heap.size u w') => (show (∃ a3 c3, x = .returned (.slice a3 (pairsL l root (rg lo hi e) most).length c3) ∧ Prs w' a3 (pairsL l root (rg lo hi e) most)) ∧ Below u.heap.size u w' from hx))
      have hpl := pairs_few hsm (rg lo hi e) most
      have HS := hid (fun (a3 a4 : Option Addr) (c3 c4 : Nat) (u : World) (p1 : Prs u a3 (pairsL l root (rg lo hi e) most)) (p2 : Prs u a4 (pairsL l root (rg lo hi e) most)) => (same28 a3 a4 c3 c4 _ _ u (by unfold maxLen; omega) (by unfold maxLen; omega) p1 p2).mono fun x w' (hx : Tells x (pairsL l root (rg lo hi e) most = pairsL l root (rg lo hi e) most) ∧ Below u.heap.size u w') => (show x = .returned (.bool true) ∧ Below u.heap.size u w' from by
        obtain ⟨⟨b, hx, hb⟩, hbw⟩ := hx
        have : b = true := hb.2 rfl
        exact ⟨by rw [hx, this], hbw⟩))
      generalize pairsL l root (rg lo hi e) most = PL at *
      clear wl hf h30 hg hsz hsm hgr wm
      generalize l.length = n at *
      go_enter Tryz.func3, Tryz.ntmps3
      go_wp2_with fail
      refine HSm.out.mono ?_
      rintro x w0 ⟨rfl, hb0⟩
      have Rx := R0.later hb0
      replace hb0 := b0.trans (hb0.mono b0.size)
      clear HSm R0 b0
      obtain ⟨r0, r1, r2⟩ := Rx.cells
      have hs0 := hb0.size
      go_upto_region 3 with (first | (go_at_call 5; refine (HGr.out _).mono ?_; rintro x w1 ⟨rfl, hb1⟩) | fail)
      have R1 := Rx.later hb1
      replace hb1 := hb0.trans (hb1.mono hs0)
      have hs1 := hb1.size
      clear r0 r1 r2 Rx hb0 HGr
      refine wp_region_put [(some 18, [], false), (some 19, [], false), (some 20, [], false), (some 21, [], false), (some 22, [(0, 18), (1, 19), (2, 20), (3, 21)], false), (some 23, [], false), (some 24, [], false), (some 25, [], false), (some 26, [], false), (some 27, [(5, 23), (6, 24), (7, 25), (8, 26)], false), (some 28, [(4, 22), (9, 27)], false), (some 29, [(10, 28)], false), (some 30, [(11, 29)], false), (some 31, [(11, 29), (12, 30)], true), (some 8, [(13, 31)], false)]
        (fun u => Below w1.heap.size w1 u) (fun _ u u' => Below u.heap.size u u')
        (fun i v u => match i with | 0 => v = .slice a n c | 1 => v = .int .u32 root | 2 => v = .agg #[.string lo, .string hi, .bool e] | 3 => v = .int .i64 most | 4 => ∃ a3 c3, v = .slice a3 PL.length c3 ∧ Prs u a3 PL | 5 => v = .slice a n c | 6 => v = .int .u32 root | 7 => v = .agg #[.string lo, .string hi, .bool e] | 8 => v = .int .i64 most | 9 => ∃ a3 c3, v = .slice a3 PL.length c3 ∧ Prs u a3 PL | 10 => v = .bool true | 11 => v = .bool true | 12 => v = .bool true | 13 => v = .bool true | _ => True)
        (by kernel_rfl) 14 (by kernel_rfl) (Below.refl _ _).drew (fun i u u' h h' => h.trans (h'.mono h.size)) (fun i j v u u' hn h h' hv => ?_) [(some 18, [], false), (some 19, [], false), (some 20, [], false), (some 21, [], false), (some 22, [(0, 18), (1, 19), (2, 20), (3, 21)], false), (some 23, [], false), (some 24, [], false), (some 25, [], false), (some 26, [], false), (some 27, [(5, 23), (6, 24), (7, 25), (8, 26)], false), (some 28, [(4, 22), (9, 27)], false), (some 29, [(10, 28)], false), (some 30, [(11, 29)], false), (some 31, [(11, 29), (12, 30)], true)] rfl _ rfl rfl (by kernel_rfl) ⟨?_, ?_, ?_, ?_, ?_, ?_, ?_, ?_, ?_, ?_, ?_, ?_, ?_, ?_, trivial⟩ ?_
      · match j with
        | 0 => exact hv
        | 1 => exact hv
        | 2 => exact hv
        | 3 => exact hv
        | 4 => obtain ⟨a3, c3, e1, e2⟩ := hv; exact ⟨a3, c3, e1, e2.later h'⟩
        | 5 => exact hv
        | 6 => exact hv
        | 7 => exact hv
        | 8 => exact hv
        | 9 => obtain ⟨a3, c3, e1, e2⟩ := hv; exact ⟨a3, c3, e1, e2.later h'⟩
        | 10 => exact hv
        | 11 => exact hv
        | 12 => exact hv
        | 13 => exact hv
        | _ + 14 => trivial
      · rintro u hu
        replace hu : Below w1.heap.size w1 u := hu
        exact opYields_val _ (by kernel_rfl) (by go_simp) ⟨Below.refl _ _, rfl⟩
      · rintro u hu
        replace hu : Below w1.heap.size w1 u := hu
        exact opYields_val _ (by kernel_rfl) (by go_simp) ⟨Below.refl _ _, rfl⟩
      · rintro u hu
        replace hu : Below w1.heap.size w1 u := hu
        obtain ⟨r0, r1, r2⟩ := (R1.later hu).cells
        exact opYields_val (.agg #[.string lo, .string hi, .bool e]) (by kernel_rfl) (by go_simp) ⟨Below.refl _ _, rfl⟩
      · rintro u hu
        replace hu : Below w1.heap.size w1 u := hu
        exact opYields_val _ (by kernel_rfl) (by go_simp) ⟨Below.refl _ _, rfl⟩
      · rintro u hu _ rfl _ rfl _ rfl _ rfl
        replace hu : Below w1.heap.size w1 u := hu
        exact opYields_call 8 #[.slice a n c, .int .u32 root, .agg #[.string lo, .string hi, .bool e], .int .i64 most] (by kernel_rfl) (by go_simp) ((HP.out u (hb1.trans (hu.mono hs1))).mono fun x u' ⟨⟨a3, c3, h1, h2⟩, h3⟩ => ⟨_, h1, h3, a3, c3, rfl, h2⟩)
      · rintro u hu
        replace hu : Below w1.heap.size w1 u := hu
        exact opYields_val _ (by kernel_rfl) (by go_simp) ⟨Below.refl _ _, rfl⟩
      · rintro u hu
        replace hu : Below w1.heap.size w1 u := hu
        exact opYields_val _ (by kernel_rfl) (by go_simp) ⟨Below.refl _ _, rfl⟩
      · rintro u hu
        replace hu : Below w1.heap.size w1 u := hu
        obtain ⟨r0, r1, r2⟩ := (R1.later hu).cells
        exact opYields_val (.agg #[.string lo, .string hi, .bool e]) (by kernel_rfl) (by go_simp) ⟨Below.refl _ _, rfl⟩
      · rintro u hu
        replace hu : Below w1.heap.size w1 u := hu
        exact opYields_val _ (by kernel_rfl) (by go_simp) ⟨Below.refl _ _, rfl⟩
      · rintro u hu _ rfl _ rfl _ rfl _ rfl
        replace hu : Below w1.heap.size w1 u := hu
        exact opYields_call 9 #[.slice a n c, .int .u32 root, .agg #[.string lo, .string hi, .bool e], .int .i64 most] (by kernel_rfl) (by go_simp) ((HQ.out u (hb1.trans (hu.mono hs1))).mono fun x u' ⟨⟨a3, c3, h1, h2⟩, h3⟩ => ⟨_, h1, h3, a3, c3, rfl, h2⟩)
      · rintro u hu _ ⟨a3, c3, rfl, p1⟩ _ ⟨a4, c4, rfl, p2⟩
        replace hu : Below w1.heap.size w1 u := hu
        exact opYields_call 7 #[.slice a3 PL.length c3, .slice a4 PL.length c4] (by kernel_rfl) (by go_simp) ((HS.out a3 a4 c3 c4 u p1 p2).mono fun x u' ⟨h1, h2⟩ => ⟨_, h1, h2, rfl⟩)
      · rintro u hu _ rfl
        replace hu : Below w1.heap.size w1 u := hu
        exact opYields_val (.bool true) (by kernel_rfl) (by go_simp) ⟨Below.refl _ _, rfl⟩
      · rintro u hu _ rfl
        replace hu : Below w1.heap.size w1 u := hu
        exact opYields_call 6 #[] (by kernel_rfl) (by go_simp) ((awake7 u).mono fun x u' ⟨h1, h2⟩ => ⟨_, h1, h2, rfl⟩)
      · rintro u hu _ rfl _ rfl
        replace hu : Below w1.heap.size w1 u := hu
        exact opYields_val (.bool true) (by kernel_rfl) (by go_simp) ⟨Below.refl _ _, rfl⟩
      · rintro u hu _ _ _ _ _ _ _ _ _ _ _ _ _ v hv
        replace hu : Below w1.heap.size w1 u := hu
        replace hv : v = .bool true := hv
        subst hv
        have hb3 := hb1.trans (hu.mono hs1)
        simp only [Act.put, List.setIfInBounds_toArray, List.set_cons_zero, List.set_cons_succ, List.getElem_toArray, List.getElem_cons_succ, List.getElem_cons_zero]
        refine opYields_val (.bool true) (by kernel_rfl) (by go_simp; rfl) ?_
        simp only [Act.put, List.setIfInBounds_toArray, List.set_cons_zero, List.set_cons_succ]
        go_wp2_with fail
        go_ret
        exact ⟨rfl, hb3⟩
end Go.Proofs.YtegmpfmhlpdmhaaGreat.Key

namespace Go.Proofs.YtegmpfmhlpdmhaaGreat.meanPairs
open Go.ChangeShapes Go.WideShapes Go.ChangeAt Go.RowKit Go.Joins
open Go.Op (bytesLess)
set_option linter.unusedVariables false

theorem own : ownKnob Tryz.prog.godebug = none := by kernel_rfl
theorem laidOut : laidOutB Tryz.prog = true := by kernel_rfl
theorem cells25 : Tryz.prog.cellsOf 25 = 3 := by kernel_rfl

set_option maxRecDepth 100000 in
set_option maxHeartbeats 4000000 in
theorem walk (a0 : Option Addr) (c0 : Nat) (l0 : List Key.It) (n1 : Int) (lo2 hi2 : ByteArray) (e2 : Bool) (n3 : Int) (w : World) (wl0 : Key.Items w a0 l0) (wn0 : l0.length ≤ c0) (wc0 : c0 ≤ maxLen) (wz0 : a0 = none → l0.length = 0 ∧ c0 = 0) (wm0 : ∀ m ∈ l0, Key.It.In m) (wi1 : (Lit.int .u32 n1).wf = true) (wlo2 : lo2.size ≤ maxLen) (whi2 : hi2.size ≤ maxLen) (wi3 : (Lit.int .i64 n3).wf = true) :
    Calls Tryz.prog 3 #[.slice a0 l0.length c0, .int .u32 n1, Key.av lo2 hi2 e2, .int .i64 n3] w fun e w' => e = .returned (.bool true) ∧ Below w.heap.size w w' := by
  exact Key.meanPairs3 a0 c0 l0 n1 n3 lo2 hi2 e2 w wl0 (by omega) wm0 wi1

set_option maxRecDepth 100000 in
theorem lifted (os : Os) (started : os.Started) (H : Type) (enc : TypeId × Value → H) :
    ReturnsInHanded {} Tryz.checked os 3 .any (Rows.meanPairsSpec.pre6 enc Tryz.prog Tryz.f3 Rows.meanPairsRow.domain false) (Rows.meanPairsSpec.post enc Tryz.prog Tryz.f3 false true false false) := by
  refine returnsInHanded_of_change (C := Tryz.checked) own started (by kernel_rfl) Tryz.func3
    (ChangeSpec.witness6 (enc := enc) (C := Tryz.checked) false ⟨#[], #[.slice none 0 0, .int .u32 0, .agg #[.string ByteArray.empty, .string ByteArray.empty, .bool false], .int .i64 0], []⟩ 8 (by kernel_rfl) (by kernel_rfl) (by kernel_rfl) (by kernel_rfl)) ?_
  intro W base args ds gs before hval0 hW hcnd _
  have hval : ∀ (j : Nat) t v, Tryz.f3.params[j]? = some t → args[j]? = some v → Value.okWide Tryz.prog W .any base t v := hval0
  have hW' := hW
  obtain ⟨p, q, hA0, hV, rfl, hfz, hnd⟩ := hW
  have hA : DataW.TrodAll enc Tryz.prog W 0 (fun _ => true) true Tryz.f3.params.toList args.toList ds p := hA0
  rw [Tryz.params3] at hA hval
  obtain ⟨v0, vs0, d0, ds0, pp0, qq0, hargs, rfl, rfl, g0, r0⟩ := trodAll_cons hA
  obtain ⟨v1, vs1, d1, ds1, pp1, qq1, rfl, rfl, rfl, g1, r1⟩ := trodAll_cons r0
  obtain ⟨v2, vs2, d2, ds2, pp2, qq2, rfl, rfl, rfl, g2, r2⟩ := trodAll_cons r1
  obtain ⟨v3, vs3, d3, ds3, pp3, qq3, rfl, rfl, rfl, g3, r3⟩ := trodAll_cons r2
  obtain ⟨rfl, rfl, rfl⟩ := trodAll_nil r3
  obtain rfl : args = #[v0, v1, v2, v3] := by cases args; simp_all
  obtain ⟨rfl, rfl⟩ := trodVars_none hV
  have k0 := g0
  have lt0 : ∀ x ∈ pp0, x.block < W.heap.size := by obtain ⟨m, hm⟩ := k0; exact DataW.trod_lt m _ _ _ hm
  obtain ⟨a0, len0, c0, rfl⟩ := okWide_slice Tryz.underlying22 (hval 0 22 v0 rfl rfl)
  obtain ⟨l0, wl0, rfl, wn0, wc0, wz0, wm0⟩ := Key.opened_items g0
  have k1 := g1
  have lt1 : ∀ x ∈ pp1, x.block < W.heap.size := by obtain ⟨m, hm⟩ := k1; exact DataW.trod_lt m _ _ _ hm
  obtain ⟨n1, rfl, rfl, rfl, wi1⟩ := open_int Tryz.underlying23 (hval 1 23 v1 rfl rfl) g1
  have k2 := g2
  have lt2 : ∀ x ∈ pp2, x.block < W.heap.size := by obtain ⟨m, hm⟩ := k2; exact DataW.trod_lt m _ _ _ hm
  obtain ⟨x2, y2, z2, dx2, dy2, dz2, mm2, rfl, rfl, rfl, hx2, hy2, hz2⟩ := open_agg3 Tryz.underlying25 (by kernel_rfl) cells25 (hval 2 25 v2 rfl rfl) g2
  obtain ⟨lo2, el2, rfl, wlo2⟩ := DataW.trod_string Tryz.underlying9 hx2
  obtain ⟨hi2, eh2, rfl, whi2⟩ := DataW.trod_string Tryz.underlying9 hy2
  obtain ⟨e2, ee2, rfl⟩ := DataW.trod_bool Tryz.underlying4 hz2
  simp at el2 eh2 ee2
  subst el2 eh2 ee2
  have k3 := g3
  have lt3 : ∀ x ∈ pp3, x.block < W.heap.size := by obtain ⟨m, hm⟩ := k3; exact DataW.trod_lt m _ _ _ hm
  obtain ⟨n3, rfl, rfl, rfl, wi3⟩ := open_int Tryz.underlying3 (hval 3 3 v3 rfl rfl) g3
  clear hA0 hval0
  refine (walk a0 c0 l0 n1 lo2 hi2 e2 n3 W wl0 wn0 wc0 wz0 wm0 wi1 wlo2 whi2 wi3).mono fun e W' ⟨he, bel⟩ => ?_
  subst he
  exact ⟨_, rfl, _, _, _, [], _, [], hW', trodAll_mk1 (shut_bool Tryz.underlying4 _), (trodAll_cons_mk (Below.trod laidOut (by kernel_rfl) (of_decide_eq_true (by kernel_rfl)) k0 bel lt0) (trodAll_cons_mk (Below.trod laidOut (by kernel_rfl) (of_decide_eq_true (by kernel_rfl)) k1 bel lt1) (trodAll_cons_mk (Below.trod laidOut (by kernel_rfl) (of_decide_eq_true (by kernel_rfl)) k2 bel lt2) (trodAll_cons_mk (Below.trod laidOut (by kernel_rfl) (of_decide_eq_true (by kernel_rfl)) k3 bel lt3) trodAll_mk0)))), rfl, bel.frame _, fun h => by cases h⟩

theorem over : Rows.meanPairsRow.holds Tryz.pinned (OpenSpec.ofChange Rows.meanPairsSpec) :=
  OpenClaim.holds_of_wide 3 Tryz.f3 rfl rfl rfl rfl rfl rfl rfl ⟨rfl, rfl, rfl, rfl, rfl⟩ rfl rfl rfl rfl rfl (by kernel_rfl) Tryz.func3 (by kernel_rfl)
    (of_decide_eq_true (by kernel_rfl)) (by unfold Func.isWrapper; first | (rw [if_pos (by decide +kernel)]; kernel_rfl) | (rw [if_neg (by decide +kernel)]; exact ⟨rfl, rfl⟩))
    (fun os started H enc _ => lifted os started H enc)

/-- the statement -/
theorem proved : Rows.MeanPairsSaid := over
#print axioms proved
end Go.Proofs.YtegmpfmhlpdmhaaGreat.meanPairs
