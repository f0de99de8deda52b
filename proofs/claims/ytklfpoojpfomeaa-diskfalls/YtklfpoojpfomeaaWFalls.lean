/-
  The walk of DiskFalls.
-/
import Derived.Test.YtklfpoojpfomeaaWPlays
namespace Go.Proofs.Ytklfpoojpfomeaa.Key
open Go.RowKit Draw
set_option linter.unusedVariables false
set_option linter.unusedSimpArgs false
theorem eq_str (a b : List UInt8) : ((str a).toList == (str b).toList) = decide (a = b) := by
  rw [Lib.toList_data, Lib.toList_data, str_data, str_data]
  by_cases h : a = b
  · rw [h]; simp
  · simp [h]
/-- what is found along a row -/
def scanB (c : Nat → Wr → Bool) (l : List Wr) (b : Bool) : Nat → Bool
  | 0 => b
  | j + 1 => scanB c l b j || (match l[j]? with | some x => c j x | none => false)
theorem scanB_succ {c : Nat → Wr → Bool} {l : List Wr} {b : Bool} {j : Nat} {x : Wr} (h : l[j]? = some x) : scanB c l b (j + 1) = (scanB c l b j || c j x) := by rw [scanB, h]
theorem scanB_start {c : Nat → Wr → Bool} {l : List Wr} {b : Bool} (h : b = true) : ∀ n, scanB c l b n = true
  | 0 => h
  | n + 1 => by rw [scanB, scanB_start h n]; rfl
theorem scanB_hit {c : Nat → Wr → Bool} {l : List Wr} {b : Bool} {i : Nat} {x : Wr} (h : l[i]? = some x) (hc : c i x = true) : ∀ n, i < n → scanB c l b n = true
  | 0, hn => absurd hn (by omega)
  | n + 1, hn => by
    by_cases e : i = n
    · subst e
      rw [scanB_succ h, hc, Bool.or_true]
    · rw [scanB, scanB_hit h hc n (by omega)]; rfl
def cF (V : List UInt8) (k : Int) (_ : Nat) (x : Wr) : Bool := decide (x.ix = k) && decide (V = x.b)
def cH (V : List UInt8) (k t : Int) (n : Nat) (i : Nat) (x : Wr) : Bool := decide (x.ix = k) && (decide ((i : Int) = t) && decide (V.take n = x.b.take n))
def cT (V : List UInt8) (k : Int) (n : Nat) (_ : Nat) (x : Wr) : Bool := decide (x.ix = k) && decide (V.drop n = x.b.drop n)
/-- P14.3, as it is looked for -/
theorem falls_found (l : List Wr) (hl : Whl l) (k t : Int) (n : Nat) (hn : n ≤ 2048) (old V : List UInt8) (h : OldD l k old V ∨ TornD l k t n old V) :
    scanB (cF V k) l (decide (V = old)) l.length = true ∨ (scanB (cH V k t n) l (decide (V.take n = old.take n)) l.length = true ∧ scanB (cT V k n) l (decide (V.drop n = old.drop n)) l.length = true) := by
  have at_ : ∀ x ∈ l, ∃ i, l[i]? = some x ∧ i < l.length := fun x hx => by
    obtain ⟨i, hi, e⟩ := List.getElem_of_mem hx
    exact ⟨i, by rw [List.getElem?_eq_getElem hi, e], hi⟩
  rcases h with (h | ⟨x, hx, h1, h2⟩) | ⟨i, x, u, h1, h2, h3, h4, h5⟩
  · exact .inl (scanB_start (by simp [h]) _)
  · obtain ⟨i, hi, hlt⟩ := at_ x hx
    exact .inl (scanB_hit hi (by simp [cF, h1, h2]) _ hlt)
  · refine .inr ⟨?_, ?_⟩
    · have hx := hl x (List.mem_of_getElem? h1)
      refine scanB_hit h1 ?_ _ (List.getElem?_eq_some_iff.1 h1).1
      have e : V.take n = x.b.take n := by
        rw [h5, List.take_append_of_le_length (by rw [List.length_take]; omega), List.take_take, Nat.min_self]
      simp [cH, h2, h3, e]
    · have hx := hl x (List.mem_of_getElem? h1)
      have e : V.drop n = u.drop n := by
        rw [h5, List.drop_append_of_le_length (by rw [List.length_take]; omega), List.drop_take, Nat.sub_self, List.take_zero, List.nil_append]
      rcases h4 with h4 | ⟨y, hy, h6, h7⟩
      · exact scanB_start (by rw [e, h4]; simp) _
      · obtain ⟨i2, hi2, hlt⟩ := at_ y hy
        refine scanB_hit hi2 ?_ _ hlt
        simp [cT, h6, e, h7]
set_option maxRecDepth 100000 in
set_option maxHeartbeats 16000000 in
theorem diskFalls5 (a0 : Option Addr) (c0' : Nat) (l : List St) (ba : Option Addr) (bc : Nat) (keep : List Bool) (torn at_ : Int) (w : World) (hst : Steps w a0 l) (hll : l.length ≤ maxLen) (hin : ∀ m ∈ l, m.In) (hkp : Bools w ba keep) (hkl : keep.length ≤ maxLen) (ht : (Lit.int .i64 torn).wf = true) (ha : (Lit.int .i64 at_).wf = true) :
    Calls Try.prog 5 #[.slice a0 l.length c0', .slice ba keep.length bc, .int .i64 torn, .int .i64 at_] w fun x w' => x = .returned (.bool true) ∧ Below w.heap.size w w' := by
  have HX := hid (fun (u : World) (hu : Below w.heap.size w u) => hst.later hu)
  have HG := hid (fun (u : World) (hu : Below w.heap.size w u) => great9 a0 c0' l u (hst.later hu) hll)
  have HKP := hid (fun (u : World) (hu : Below w.heap.size w u) => hkp.later hu)
  have HKL := hid hkl
  have HIN := hid hin
  unfold maxLen at hll hkl
  clear hst hin hkp ht ha
  have HN := disk_new 4 w (by omega) (by omega)
  by_cases hg : greatS l = true
  · rw [hg] at HG
    generalize l.length = n at *
    generalize keep.length = kl at *
    go_enter Try.func5, Try.ntmps5
    go_wp2_with fail
    refine HN.mono ?_
    rintro e w1 ⟨p, rfl, hd0, hb1⟩
    have HG1 := HG.out w1 hb1
    have HB1 := hid hb1
    clear HN HG hd0 hb1
    go_wp2_with fail
    refine HG1.mono ?_
    rintro e w2 ⟨rfl, hb2⟩
    have HB2 := hid (HB1.out.trans (hb2.mono HB1.out.size))
    clear HG1 hb2
    go_wp2_with fail
    refine (awake8 w2).mono ?_
    rintro e w3 ⟨rfl, hb3⟩
    have HB3 := hid (HB2.out.trans (hb3.mono HB2.out.size))
    clear hb3
    go_wp2_with fail
    go_ret
    exact ⟨rfl, HB3.out⟩
  · have hg' : greatS l = false := by simpa using hg
    rw [hg'] at HG
    have HGS := hid hg'
    have hl60 : l.length ≤ 60 := by
      unfold greatS at hg'
      simp at hg'
      exact hg'.1
    clear hg hg'
    by_cases hk100 : 100 < keep.length
    · have hdk : decide ((100 : Int) < (keep.length : Int)) = true := decide_eq_true (by omega)
      generalize l.length = n at *
      generalize keep.length = kl at *
      go_enter Try.func5, Try.ntmps5
      go_wp2_with fail
      refine HN.mono ?_
      rintro e w1 ⟨p, rfl, hd0, hb1⟩
      have HG1 := HG.out w1 hb1
      have HB1 := hid hb1
      clear HN HG hd0 hb1
      go_wp2_with fail
      refine HG1.mono ?_
      rintro e w2 ⟨rfl, hb2⟩
      have HB2 := hid (HB1.out.trans (hb2.mono HB1.out.size))
      clear HG1 hb2
      go_wp2_with fail
      refine (awake8 w2).mono ?_
      rintro e w3 ⟨rfl, hb3⟩
      have HB3 := hid (HB2.out.trans (hb3.mono HB2.out.size))
      clear hb3
      go_wp2_with fail
      go_ret
      exact ⟨rfl, HB3.out⟩
    · have hdk : decide ((100 : Int) < (keep.length : Int)) = false := decide_eq_false (by omega)
      obtain ⟨n, hnl⟩ : ∃ n, l.length = n := ⟨_, rfl⟩
      rw [hnl] at hll hl60 HG ⊢
      have HNL := hid hnl
      have HBK := hid (fun (u : World) (p : Nat) (d : Dk) (m : Nat) (hu : Dsk u w.heap.size p p d m) (hb : Below w.heap.size w u) (hm : m < 90000) => disk_back hu hm hu.lt keep ba bc (fun v hv => HKP.out v (hb.trans hv.below)) HKL.out torn at_)
      generalize keep.length = kl at *
      clear hnl
      obtain ⟨M, hM⟩ : ∃ M, min (max at_ 0) 2048 = M := ⟨_, rfl⟩
      have hM0 : 0 ≤ M := by omega
      have hM2 : M ≤ ((2048 : Nat) : Int) := by omega
      obtain ⟨nb, hnb⟩ : ∃ nb, byD at_ = nb := ⟨_, rfl⟩
      have hMn : M.toNat = nb := by rw [← hnb, ← hM]; rfl
      have hnb2 : nb ≤ 2048 := by omega
      have HNB := hid hnb
      clear hnb
      go_enter Try.func5, Try.ntmps5
      go_wp2_with fail
      refine HN.mono ?_
      rintro e w1 ⟨p, rfl, hd0, hb1⟩
      have HG1 := HG.out w1 hb1
      have HB1 := hid hb1
      have HD0 := hid (hd0 p)
      clear HN HG hd0 hb1
      go_wp2_with fail
      refine HG1.mono ?_
      rintro e w2 ⟨rfl, hbg⟩
      have Bx := below_box w2 (.cells #[.int .i64 4, .slice none 0 0, .slice none 0 0, .bool false, .int .i64 0, .int .i64 (-1)] 31)
      have TM : DB (w2.alloc (.cells #[.int .i64 4, .slice none 0 0, .slice none 0 0, .bool false, .int .i64 0, .int .i64 (-1)] 31)) w2.heap.size 4 (.slice none 0 0) (.slice none 0 0) false 0 (-1) := Go.heap_alloc_new _ _
      have hb2 := HB1.out.trans (hbg.mono HB1.out.size)
      have HQ := hid (And.intro TM (And.intro ((HD0.out.later hbg).later Bx) (And.intro (hb2.trans (Bx.mono hb2.size)) hb2.size)))
      clear HG1 hbg HB1 HD0 TM Bx hb2
      go_upto_region 5 with fail
      generalize w2.alloc (.cells #[.int .i64 4, .slice none 0 0, .slice none 0 0, .bool false, .int .i64 0, .int .i64 (-1)] 31) = w3 at *
      obtain ⟨bm, hbme⟩ : ∃ bm, w2.heap.size = bm := ⟨_, rfl⟩
      rw [hbme] at HQ ⊢
      have hBm := HQ.out.2.2.2
      clear hbme
      go_wp2_with fail
      go_loopw [12] (fun i wr => ∃ (j : Nat), j ≤ n ∧ i = .int .i64 j ∧ ∃ (d : Dk) (m : Nat) (ka wa : Option Addr) (kc wc : Nat), Dsk wr w.heap.size p p d m ∧ m ≤ j ∧ Fine d m ∧ DB wr bm d.n (.slice ka d.kept.length kc) (.slice wa d.waits.length wc) d.down d.falls d.fuse ∧ DLies wr d ka wa ∧ (wa = none → wc = 0) ∧ d.n = 4 ∧ Below w.heap.size w wr) (fun i _ => n - (intOf i).toNat)
      case atStart =>
        obtain ⟨q1, q2, q3, q4⟩ := HQ.out
        exact ⟨0, Nat.zero_le _, rfl, ⟨4, [], [], false, 0, -1⟩, 0, none, none, 0, 0, q2, Nat.le_refl _, ⟨Nat.le_refl _, ⟨Int.le_refl _, Int.le_refl _⟩, ⟨fun x hx => absurd hx (by simp), fun x hx => absurd hx (by simp)⟩, (by show (Lit.int .i64 (-1)).wf = true; decide)⟩, q1, ⟨.inl rfl, .inl rfl⟩, fun _ => rfl, rfl, q3⟩
      case round =>
        obtain ⟨j, hj, rfl, d, m, ka, wa, kc, wc, hD, hm, hF, hM, hL, hz, hnn, hb⟩ := hrel
        clear HQ
        have hBw := hD.size
        have hbm := hM.lt
        by_cases hlt : j < n
        · skip
          have hlt' : j < l.length := by rw [HNL.out]; exact hlt
          obtain ⟨b7, o7, hA, hC⟩ := (HX.out wr hb).at hlt'
          have hXA : ∀ u, Below w.heap.size w u → ∃ b off, a0 = some ⟨b, off, none⟩ ∧ StC u b (off + j * 5) l[j] := fun u hu => (HX.out u hu).at hlt'
          subst hA
          obtain ⟨x, hx⟩ : ∃ x, l[j]? = some x := ⟨_, List.getElem?_eq_getElem hlt'⟩
          have hxe : l[j] = x := by rw [List.getElem?_eq_getElem hlt'] at hx; exact Option.some.inj hx
          have hxm := List.mem_of_getElem? hx
          have hin := HIN.out x hxm
          have h3 := small_at HGS.out hxm
          have HFS := hid (hF.step hin)
          have HNS := hid (stepD_n d x)
          have HXC := hid (fun u (hu : Below w.heap.size w u) => show StC u b7 (o7 + j * 5) x by
            obtain ⟨b', o', e, hc⟩ := hXA u hu
            cases e
            rw [hxe] at hc
            exact hc)
          have HDO := hid (fun (u : World) (hS : Soft5 w.heap.size wr u) (hDu : Dsk u w.heap.size p p d m) => does10 p d m w.heap.size ka wa kc wc x u hDu (by omega) hF (hL.five hS) hz hin h3 (fun v hv => (HXC.out v (hb.trans (hS.below.trans hv))).hb) (fun v hv => (HXC.out v (hb.trans (hS.below.trans hv))).hk))
          unfold Does at HDO
          clear hx hxe hxm hXA hC hin h3 hF hlt'
          generalize stepD d x = d2 at *
          obtain ⟨nn, kp, wt, dn, fl, fu⟩ := d
          obtain ⟨n2, kp2, wt2, dn2, fl2, fu2⟩ := d2
          obtain ⟨kd, ix, ab, cb, bb, ak, ck, kk, tn⟩ := x
          dsimp only [dv, sv] at *

          go_upto_region 8 with fail
          refine region_put3 [(some 60, [], false), (some 61, [], false), (some 62, [], false), (some 63, [], false), (some 64, [(2, 62), (3, 63)], false), (some 65, [(4, 64)], false), (some 66, [(0, 60), (1, 61), (5, 65)], false), (some 59, [(6, 66)], false), (some 67, [(7, 59)], false), (some 68, [(7, 59)], true), (some 14, [], true), (some 13, [(8, 67)], true), (none, [(10, 14), (9, 68)], false)]
            (fun i u => if i = 6 then Soft5 w.heap.size wr u ∧ Dsk u w.heap.size p p ⟨nn, kp, wt, dn, fl, fu⟩ m else Soft5 w.heap.size wr u) (fun i u u' => if i = 6 then Soft5 w.heap.size u u' else Below u.heap.size u u')
            (fun i Y u => match i with | 0 => Y = ptr p | 1 => Y = .agg #[.int .i64 nn, .slice ka kp.length kc, .slice wa wt.length wc, .bool dn, .int .i64 fl, .int .i64 fu] | 2 => Y = .slice (some ⟨b7, o7, none⟩) n c0' | 3 => Y = .int .i64 j | 4 => Y = .pointer (some ⟨b7, o7 + j * 5, none⟩) | 5 => Y = .agg #[.int .i64 kd, .int .i64 ix, .slice ab bb.length cb, .slice ak kk.length ck, .int .i64 tn] | 6 => ∃ ka2 kc2 wa2 wc2, Y = .tuple #[.bool true, .agg #[.int .i64 n2, .slice ka2 kp2.length kc2, .slice wa2 wt2.length wc2, .bool dn2, .int .i64 fl2, .int .i64 fu2]] ∧ DLies u ⟨n2, kp2, wt2, dn2, fl2, fu2⟩ ka2 wa2 ∧ (wa2 = none → wc2 = 0) ∧ Dsk u w.heap.size p p ⟨n2, kp2, wt2, dn2, fl2, fu2⟩ (m + 1) | 7 => ∃ ka2 kc2 wa2 wc2, Y = .tuple #[.bool true, .agg #[.int .i64 n2, .slice ka2 kp2.length kc2, .slice wa2 wt2.length wc2, .bool dn2, .int .i64 fl2, .int .i64 fu2]] ∧ DLies u ⟨n2, kp2, wt2, dn2, fl2, fu2⟩ ka2 wa2 ∧ (wa2 = none → wc2 = 0) ∧ Dsk u w.heap.size p p ⟨n2, kp2, wt2, dn2, fl2, fu2⟩ (m + 1) | 8 => Y = .bool true | 9 => ∃ ka2 kc2 wa2 wc2, Y = .agg #[.int .i64 n2, .slice ka2 kp2.length kc2, .slice wa2 wt2.length wc2, .bool dn2, .int .i64 fl2, .int .i64 fu2] ∧ DLies u ⟨n2, kp2, wt2, dn2, fl2, fu2⟩ ka2 wa2 ∧ (wa2 = none → wc2 = 0) ∧ Dsk u w.heap.size p p ⟨n2, kp2, wt2, dn2, fl2, fu2⟩ (m + 1) | 10 => ∃ k, Y = .pointer (some ⟨k, 0, none⟩) ∧ DB u k 0 (.slice none 0 0) (.slice none 0 0) false 0 0 ∧ wr.heap.size ≤ k | 11 => Y = .bool true | _ => True)
            (by kernel_rfl) 12 (by kernel_rfl) (fun j => ?_) (fun i j u u' hl hi hj hr => ?_) (fun i j v u u' hn h h' hv => ?_) [(some 60, [], false), (some 61, [], false), (some 62, [], false), (some 63, [], false), (some 64, [(2, 62), (3, 63)], false), (some 65, [(4, 64)], false), (some 66, [(0, 60), (1, 61), (5, 65)], false), (some 59, [(6, 66)], false), (some 67, [(7, 59)], false), (some 68, [(7, 59)], true), (some 14, [], true), (some 13, [(8, 67)], true)] rfl _ rfl rfl rfl (by kernel_rfl) ⟨?_, ?_, ?_, ?_, ?_, ?_, ?_, ?_, ?_, ?_, ?_, ?_, trivial⟩ ?_
          · split
            · exact ⟨(Soft5.refl w.heap.size wr).drew, hD.drew⟩
            · exact (Soft5.refl w.heap.size wr).drew
          · by_cases hia : i = 6
            · subst hia
              have hj2 : ¬ j = 6 := by
                intro e
                subst e
                exact absurd hl (by decide)
              rw [if_pos rfl] at hi hr
              rw [if_neg hj2] at hj ⊢
              exact hj.trans hr
            · rw [if_neg hia] at hr
              by_cases hj6 : j = 6
              · rw [if_pos hj6] at hj ⊢
                exact ⟨hj.1.later hr (Nat.le_trans hBw hj.1.below.size), hj.2.later hr⟩
              · rw [if_neg hj6] at hj ⊢
                exact hj.later hr (Nat.le_trans hBw hj.below.size)
          · by_cases hia : i = 6
            · subst hia
              rw [if_pos rfl] at h'
              match j with
              | 0 => exact hv
              | 1 => exact hv
              | 2 => exact hv
              | 3 => exact hv
              | 4 => exact hv
              | 5 => exact hv
              | 6 => exact absurd hn (by decide)
              | 7 => exact absurd hn (by decide)
              | 8 => exact hv
              | 9 => exact absurd hn (by decide)
              | 10 => obtain ⟨k, e1, e2, e3⟩ := hv; exact ⟨k, e1, e2.five h', e3⟩
              | 11 => exact hv
              | _ + 12 => trivial
            · rw [if_neg hia] at h'
              match j with
              | 0 => exact hv
              | 1 => exact hv
              | 2 => exact hv
              | 3 => exact hv
              | 4 => exact hv
              | 5 => exact hv
              | 6 => obtain ⟨q1, q2, q3, q4, q5, q6, q7, q8⟩ := hv; exact ⟨q1, q2, q3, q4, q5, q6.later h', q7, q8.later h'⟩
              | 7 => obtain ⟨q1, q2, q3, q4, q5, q6, q7, q8⟩ := hv; exact ⟨q1, q2, q3, q4, q5, q6.later h', q7, q8.later h'⟩
              | 8 => exact hv
              | 9 => obtain ⟨q1, q2, q3, q4, q5, q6, q7, q8⟩ := hv; exact ⟨q1, q2, q3, q4, q5, q6.later h', q7, q8.later h'⟩
              | 10 => obtain ⟨k, e1, e2, e3⟩ := hv; exact ⟨k, e1, e2.later h', e3⟩
              | 11 => exact hv
              | _ + 12 => trivial
          · rintro u hu
            replace hu : Soft5 w.heap.size wr u := hu
            exact opYields_val (ptr p) (by kernel_rfl) (by go_simp) ⟨Below.refl _ _, rfl⟩
          · rintro u hu
            replace hu : Soft5 w.heap.size wr u := hu
            obtain ⟨c0, c1, c2, c3, c4, c5⟩ := (hM.five hu).cells
            exact opYields_val (.agg #[.int .i64 nn, .slice ka kp.length kc, .slice wa wt.length wc, .bool dn, .int .i64 fl, .int .i64 fu]) (by kernel_rfl) (by go_simp) ⟨Below.refl _ _, rfl⟩
          · rintro u hu
            replace hu : Soft5 w.heap.size wr u := hu
            exact opYields_val (.slice (some ⟨b7, o7, none⟩) n c0') (by kernel_rfl) (by go_simp) ⟨Below.refl _ _, rfl⟩
          · rintro u hu
            replace hu : Soft5 w.heap.size wr u := hu
            exact opYields_val (.int .i64 j) (by kernel_rfl) (by go_simp) ⟨Below.refl _ _, rfl⟩
          · rintro u hu _ rfl _ rfl
            replace hu : Soft5 w.heap.size wr u := hu
            exact opYields_val (.pointer (some ⟨b7, o7 + j * 5, none⟩)) (by kernel_rfl) (by go_simp) ⟨Below.refl _ _, rfl⟩
          · rintro u hu _ rfl
            replace hu : Soft5 w.heap.size wr u := hu
            obtain ⟨s0, s1, s2, s3, s4, _, _⟩ := HXC.out u (hb.trans hu.below)
            exact opYields_val (.agg #[.int .i64 kd, .int .i64 ix, .slice ab bb.length cb, .slice ak kk.length ck, .int .i64 tn]) (by kernel_rfl) (by go_simp) ⟨Below.refl _ _, rfl⟩
          · rintro u hu _ rfl _ rfl _ rfl
            replace hu : Soft5 w.heap.size wr u ∧ Dsk u w.heap.size p p ⟨nn, kp, wt, dn, fl, fu⟩ m := hu
            refine opYields_call 10 #[ptr p, .agg #[.int .i64 nn, .slice ka kp.length kc, .slice wa wt.length wc, .bool dn, .int .i64 fl, .int .i64 fu], .agg #[.int .i64 kd, .int .i64 ix, .slice ab bb.length cb, .slice ak kk.length ck, .int .i64 tn]] (by kernel_rfl) (by go_simp) ((HDO.out u hu.1 hu.2).mono ?_)
            rintro e u1 ⟨ka2, kc2, wa2, wc2, rfl, hL2, hz2, hD2, hS2⟩
            exact ⟨_, rfl, hS2, ka2, kc2, wa2, wc2, rfl, hL2, hz2, hD2⟩
          · rintro u hu _ ⟨ka2, kc2, wa2, wc2, rfl, hL2, hz2, hD2⟩
            replace hu : Soft5 w.heap.size wr u := hu
            exact opYields_val (.tuple #[.bool true, .agg #[.int .i64 n2, .slice ka2 kp2.length kc2, .slice wa2 wt2.length wc2, .bool dn2, .int .i64 fl2, .int .i64 fu2]]) (by kernel_rfl) (by go_simp) ⟨Below.refl _ _, ka2, kc2, wa2, wc2, rfl, hL2, hz2, hD2⟩
          · rintro u hu _ ⟨ka2, kc2, wa2, wc2, rfl, hL2, hz2, hD2⟩
            replace hu : Soft5 w.heap.size wr u := hu
            exact opYields_val (.bool true) (by kernel_rfl) (by go_simp) ⟨Below.refl _ _, rfl⟩
          · rintro u hu _ ⟨ka2, kc2, wa2, wc2, rfl, hL2, hz2, hD2⟩
            replace hu : Soft5 w.heap.size wr u := hu
            exact opYields_val (.agg #[.int .i64 n2, .slice ka2 kp2.length kc2, .slice wa2 wt2.length wc2, .bool dn2, .int .i64 fl2, .int .i64 fu2]) (by kernel_rfl) (by go_simp) ⟨Below.refl _ _, ka2, kc2, wa2, wc2, rfl, hL2, hz2, hD2⟩
          · rintro u hu
            replace hu : Soft5 w.heap.size wr u := hu
            exact opYields_val (.pointer (some ⟨u.heap.size, 0, none⟩)) (u' := u.alloc (.cells (dcs 0 (.slice none 0 0) (.slice none 0 0) false 0 0) 31)) (by kernel_rfl) (by go_simp) ⟨below_box _ _, _, rfl, Go.heap_alloc_new _ _, hu.below.size⟩
          · rintro u hu _ rfl
            replace hu : Soft5 w.heap.size wr u := hu
            exact opYields_val (.bool true) (by kernel_rfl) (by go_simp) ⟨Below.refl _ _, rfl⟩
          · intro u hu x0 x1 x2 x3 x4 x5 x6 x7 x8 x9 e9 x10 e10 x11 e11
            change opYields Try.prog _ _ _ u _
            simp only [Act.put, List.setIfInBounds_toArray, List.set_cons_zero, List.set_cons_succ]
            obtain ⟨ka2, kc2, wa2, wc2, rfl, hL2, hz2, hD2⟩ : ∃ ka2 kc2 wa2 wc2, x9 = .agg #[.int .i64 n2, .slice ka2 kp2.length kc2, .slice wa2 wt2.length wc2, .bool dn2, .int .i64 fl2, .int .i64 fu2] ∧ DLies u ⟨n2, kp2, wt2, dn2, fl2, fu2⟩ ka2 wa2 ∧ (wa2 = none → wc2 = 0) ∧ Dsk u w.heap.size p p ⟨n2, kp2, wt2, dn2, fl2, fu2⟩ (m + 1) := e9
            obtain ⟨k10, rfl, hK10, hKB⟩ : ∃ k, x10 = .pointer (some ⟨k, 0, none⟩) ∧ DB u k 0 (.slice none 0 0) (.slice none 0 0) false 0 0 ∧ wr.heap.size ≤ k := e10
            obtain rfl : x11 = .bool true := e11
            replace hu : Soft5 w.heap.size wr u := hu
            obtain ⟨z0, z1, z2, z3, z4, z5⟩ := hK10.cells
            have f0 := hK10.free 0
            have f1 := hK10.free 1
            have f2 := hK10.free 2
            have f3 := hK10.free 3
            have f4 := hK10.free 4
            have f5 := hK10.free 5
            obtain ⟨q5, q6⟩ := hK10.fill (n' := n2) (k' := .slice ka2 kp2.length kc2) (wv' := .slice wa2 wt2.length wc2) (dn' := dn2) (fl' := fl2) (fu' := fu2)
            have hM' := hM.five hu
            have hMc : DB _ bm nn (.slice ka kp.length kc) (.slice wa wt.length wc) dn fl fu := (q6.block bm hM'.lt (fun e => by have := Option.some.inj e; omega)).trans hM'
            have hbu := hb.trans hu.below
            have hne10 : k10 ≠ bm := by omega
            have HF := hid (And.intro q5 (And.intro hMc (And.intro (hL2.beside hK10 q6) (And.intro (hD2.side hK10 q6) (hbu.grown q6 (Nat.le_trans hBw hu.below.size) (fun k hk => by cases hk; omega))))))
            have HZ2 := hid hz2
            clear q5 q6 hM' hMc hbu hL2 hD2 hK10 hz2
            refine opYields_put (u' := ((((((u.setCell ⟨k10, 0, none⟩ (.int .i64 n2)).setCell ⟨k10, 1, none⟩ (.slice ka2 kp2.length kc2)).setCell ⟨k10, 2, none⟩ (.slice wa2 wt2.length wc2)).setCell ⟨k10, 3, none⟩ (.bool dn2)).setCell ⟨k10, 4, none⟩ (.int .i64 fl2)).setCell ⟨k10, 5, none⟩ (.int .i64 fu2))) (by kernel_rfl) (by go_simp) ?_
            clear z0 z1 z2 z3 z4 z5 f0 f1 f2 f3 f4 f5
            generalize ((((((u.setCell ⟨k10, 0, none⟩ (.int .i64 n2)).setCell ⟨k10, 1, none⟩ (.slice ka2 kp2.length kc2)).setCell ⟨k10, 2, none⟩ (.slice wa2 wt2.length wc2)).setCell ⟨k10, 3, none⟩ (.bool dn2)).setCell ⟨k10, 4, none⟩ (.int .i64 fl2)).setCell ⟨k10, 5, none⟩ (.int .i64 fu2)) = w8 at *
            obtain ⟨r1, r2, r3, r4, r5⟩ := HF.out
            clear HF
            obtain ⟨c0, c1, c2, c3, c4, c5⟩ := r1.cells
            obtain ⟨z0, z1, z2, z3, z4, z5⟩ := r2.cells
            have f0 := r2.free 0
            have f1 := r2.free 1
            have f2 := r2.free 2
            have f3 := r2.free 3
            have f4 := r2.free 4
            have f5 := r2.free 5
            obtain ⟨q5, q6⟩ := r2.fill (n' := n2) (k' := .slice ka2 kp2.length kc2) (wv' := .slice wa2 wt2.length wc2) (dn' := dn2) (fl' := fl2) (fu' := fu2)
            have HG := hid (And.intro q5 (And.intro (r3.beside r2 q6) (And.intro (r4.side r2 q6) (r5.grown q6 r4.size (fun k hk => by cases hk; omega)))))
            clear q5 q6 r1 r2 r3 r4 r5
            go_wp2_with fail
            have HG9 := HG
            go_roundw
            case rel => exact ⟨j + 1, by omega, by go_num, ⟨n2, kp2, wt2, dn2, fl2, fu2⟩, m + 1, ka2, wa2, kc2, wc2, HG9.out.2.2.1, by omega, HFS.out, HG9.out.1, HG9.out.2.1, HZ2.out, HNS.out.trans hnn, HG9.out.2.2.2⟩
            case measure => simp [intOf]; omega
        · obtain rfl : j = n := by omega
          have HBC := HBK.out wr p d m hD hb (by omega)
          have hn4 : (backD d keep torn at_).n = 4 := (backD_n d keep torn at_).trans hnn
          have hdbd : (backD d keep torn at_).down = false := rfl
          have hdbw : (backD d keep torn at_).waits = [] := rfl
          have hOkB := hF.ok.back keep torn at_
          obtain ⟨VK, hVK⟩ : ∃ VK : Nat → List UInt8, ∀ kk : Nat, lastD (backD d keep torn at_).kept kk (wholeD []) = VK kk := ⟨_, fun _ => rfl⟩
          obtain ⟨OK, hOK⟩ : ∃ OK : Nat → List UInt8, ∀ kk : Nat, lastD d.kept kk (wholeD []) = OK kk := ⟨_, fun _ => rfl⟩
          have HRV := hid (fun (kk : Nat) (hk : kk < 4) => show readD (backD d keep torn at_) kk = (VK kk, 0) by
            unfold readD
            rw [if_neg (by rw [hdbd]; simp), if_neg (by rw [hn4]; omega), hdbw, ← hVK]
            rfl)
          have HRO := hid (fun (kk : Nat) (hk : kk < 4) => show readD ⟨4, d.kept, [], false, 0, -1⟩ kk = (OK kk, 0) by
            unfold readD
            rw [if_neg (by simp), if_neg (by dsimp only; omega), ← hOK]
            rfl)
          have HVL := hid (fun (kk : Nat) => show (VK kk).length = 2048 by rw [← hVK]; exact hOkB.1.last _ (wholeD_len []))
          have HOL := hid (fun (kk : Nat) => show (OK kk).length = 2048 by rw [← hOK]; exact hF.ok.1.last _ (wholeD_len []))
          have HFF := hid (fun (kk : Nat) => falls_found d.waits hF.ok.2 kk torn nb hnb2 (OK kk) (VK kk) (by rw [← hOK, ← hVK, ← HNB.out]; exact back_falls d keep torn at_ kk))
          have HOKw := hid hF.ok.2
          have hFl := hF.len
          clear hVK hOK hOkB hn4 hF
          generalize hDBe : backD d keep torn at_ = DB_ at *
          clear hDBe
          obtain ⟨nn, kp, wt, dn, fl, fu⟩ := d
          dsimp only at *
          obtain ⟨wn, hwn⟩ : ∃ wn, wt.length = wn := ⟨_, rfl⟩
          rw [hwn] at hM hFl HFF
          have HWN := hid hwn
          clear hwn
          have HQQ := hid (And.intro hM (And.intro hL hb))
          obtain ⟨mB, hmB⟩ : ∃ mB, m + 1 = mB := ⟨_, rfl⟩
          rw [hmB] at HBC
          clear hmB hM hL hb hD
          go_wp2_with fail
          refine HBC.mono ?_
          rintro e w5 ⟨rfl, hd5, hs5⟩
          have HQR := hid (And.intro (HQQ.out.2.2.trans hs5.below) (And.intro hd5 (And.intro (HQQ.out.1.five hs5.five) (HQQ.out.2.1.five hs5.five))))
          clear HBC hs5 hd5 HQQ
          go_wp2_with fail
          go_loopw [16] (fun q wr => ∃ (kk : Nat), kk ≤ 4 ∧ q = .int .i64 kk ∧ Below w.heap.size w wr ∧ Dsk wr w.heap.size p p DB_ mB ∧ DB wr bm nn (.slice ka kp.length kc) (.slice wa wn wc) dn fl fu ∧ DLies wr ⟨nn, kp, wt, dn, fl, fu⟩ ka wa) (fun q _ => 4 - (intOf q).toNat)
          case atStart => exact ⟨0, Nat.zero_le _, rfl, HQR.out⟩
          case round =>
            clear HQR
            obtain ⟨kk, hkk, rfl, hbr, hDr, hMr, hLr⟩ := hrel
            by_cases hk4 : kk < 4
            · have hkd : decide ((kk : Int) < 4) = true := decide_eq_true (by omega)
              have hV := HRV.out kk hk4
              have hO := HRO.out kk hk4
              have HFO := hid (HFF.out kk)
              have hVl := HVL.out kk
              have hOl := HOL.out kk
              have HRD := disk_read hDr kk (by unfold Lit.wf; simp [IntKind.max, IntKind.min, IntKind.bits, IntKind.signed]; omega)
              rw [hV] at HRD
              dsimp only at HRD
              rw [hVl] at HRD
              have HHr := hid (And.intro hMr (And.intro hLr (And.intro hDr hbr)))
              obtain ⟨V, hVe⟩ : ∃ V, VK kk = V := ⟨_, rfl⟩
              obtain ⟨old, hOe⟩ : ∃ old, OK kk = old := ⟨_, rfl⟩
              rw [hVe] at HFO hVl HRD
              rw [hOe] at HFO hO hOl
              clear hV hMr hLr hDr hbr hVe hOe
              go_wp2_with fail
              refine HRD.mono ?_
              rintro e w6 ⟨⟨ra, rc, rfl, hby, hbn⟩, hb6⟩
              have HBY := hid hby
              have HBN := hid hbn
              obtain ⟨g1, g2, g3, g4⟩ := HHr.out
              have hM6 := g1.later hb6
              obtain ⟨c0, c1, c2, c3, c4, c5⟩ := hM6.cells
              have Bx := below_box w6 (.cells #[.int .i64 4, .slice ka kp.length kc, .slice none 0 0, .bool false, .int .i64 0, .int .i64 (-1)] 31)
              have TW : DB (w6.alloc (.cells #[.int .i64 4, .slice ka kp.length kc, .slice none 0 0, .bool false, .int .i64 0, .int .i64 (-1)] 31)) w6.heap.size 4 (.slice ka kp.length kc) (.slice none 0 0) false 0 (-1) := Go.heap_alloc_new _ _
              have hL7 := (g2.later hb6).later Bx
              have hb67 := (g4.trans (hb6.mono g3.size)).trans (Bx.mono (by have := hb6.size; have := g3.size; omega))
              have HS7 := hid (And.intro (hM6.later Bx) (And.intro hL7 (And.intro ((g3.later hb6).later Bx) hb67)))
              have HBY7 := hid (HBY.out.later Bx)
              have HRR := read16 ⟨4, kp, [], false, 0, -1⟩ kk ka none kc 0 (w6.alloc (.cells #[.int .i64 4, .slice ka kp.length kc, .slice none 0 0, .bool false, .int .i64 0, .int .i64 (-1)] 31)) ⟨by dsimp only; unfold maxLen; omega, by unfold maxLen; simp⟩ ⟨hL7.1, .inl rfl⟩
              rw [hO] at HRR
              dsimp only [dv, List.length_nil] at HRR
              have HTW := hid TW
              clear g1 g2 g3 g4 hb6 hb67 hM6 Bx TW hL7 HRD HHr HBY hby hbn hO
              go_upto_region 19 with fail
              clear c0 c1 c2 c3 c4 c5
              generalize (w6.alloc (.cells #[.int .i64 4, .slice ka kp.length kc, .slice none 0 0, .bool false, .int .i64 0, .int .i64 (-1)] 31)) = w7 at *
              generalize w6.heap.size = k19 at *
              obtain ⟨c0, c1, c2, c3, c4, c5⟩ := HTW.out.cells
              clear HTW
              go_wp2_with fail
              refine HRR.mono ?_
              rintro e w8 ⟨rfl, hb8⟩
              clear c0 c1 c2 c3 c4 c5 HRR
              obtain ⟨g1, g2, g3, g4⟩ := HS7.out
              have HWd := hid (And.intro (g1.later hb8) (And.intro (g2.later hb8) (And.intro (g3.later hb8) (g4.trans (hb8.mono g3.size)))))
              have hcv := conv_str (HBY7.out.later hb8) 2048 rc (by rw [nums_length, str_size]; exact hVl) HBN.out
              rw [str_nums] at hcv
              clear g1 g2 g3 g4 hb8 HS7 HBY7
              have hE0 := eq_str V old
              have hE2 := eq_str (V.take nb) (old.take nb)
              have hE3 := eq_str (V.drop nb) (old.drop nb)
              have hs1 := fun u => slice_take V M nb hM0 (by rw [hVl]; exact hM2) hMn u
              have hs2 := fun u => slice_drop V M nb hM0 (by rw [hVl]; exact hM2) hMn u
              have hs3 := fun u => slice_take old M nb hM0 (by rw [hOl]; exact hM2) hMn u
              have hs4 := fun u => slice_drop old M nb hM0 (by rw [hOl]; exact hM2) hMn u
              obtain ⟨sF, hsF⟩ : ∃ sF : Nat → Bool, ∀ i, scanB (cF V kk) wt (decide (V = old)) i = sF i := ⟨_, fun _ => rfl⟩
              obtain ⟨sH, hsH⟩ : ∃ sH : Nat → Bool, ∀ i, scanB (cH V kk torn nb) wt (decide (V.take nb = old.take nb)) i = sH i := ⟨_, fun _ => rfl⟩
              obtain ⟨sT, hsT⟩ : ∃ sT : Nat → Bool, ∀ i, scanB (cT V kk nb) wt (decide (V.drop nb = old.drop nb)) i = sT i := ⟨_, fun _ => rfl⟩
              have HSF0 := hid (fun i x (hx : wt[i]? = some x) => show sF (i + 1) = (sF i || cF V kk i x) by rw [← hsF, ← hsF]; exact scanB_succ hx)
              have HSH0 := hid (fun i x (hx : wt[i]? = some x) => show sH (i + 1) = (sH i || cH V kk torn nb i x) by rw [← hsH, ← hsH]; exact scanB_succ hx)
              have HST0 := hid (fun i x (hx : wt[i]? = some x) => show sT (i + 1) = (sT i || cT V kk nb i x) by rw [← hsT, ← hsT]; exact scanB_succ hx)
              have h0F := hsF 0
              have h0H := hsH 0
              have h0T := hsT 0
              rw [scanB] at h0F h0H h0T
              rw [h0F] at hE0
              rw [h0H] at hE2
              rw [h0T] at hE3
              simp only [hsF, hsH, hsT] at HFO
              clear hsF hsH hsT h0F h0H h0T
              go_upto_region 22 with fail
              go_quiet (fail)
              have HWe := hid (And.intro (HWd.out.1.later (below_drew (Below.refl _ _) nq)) (And.intro (HWd.out.2.1.later (below_drew (Below.refl _ _) nq)) (And.intro (HWd.out.2.2.1.later (below_drew (Below.refl _ _) nq)) (below_drew HWd.out.2.2.2 nq))))
              clear HWd hcv hs3 hs4 hE0 hE2 hE3
              generalize w8.drewN nq = w9 at *
              go_wp2_with fail
              go_loopw [23, 24, 25, 26] (fun v1 v2 v3 q wr => ∃ (i : Nat), i ≤ wn ∧ q = .int .i64 i ∧ v1 = .bool (sF i) ∧ v2 = .bool (sH i) ∧ v3 = .bool (sT i) ∧ (DB wr bm nn (.slice ka kp.length kc) (.slice wa wn wc) dn fl fu ∧ DLies wr ⟨nn, kp, wt, dn, fl, fu⟩ ka wa ∧ Dsk wr w.heap.size p p DB_ mB ∧ Below w.heap.size w wr)) (fun _ _ _ q _ => wn - (intOf q).toNat)
              case atStart => exact ⟨0, Nat.zero_le _, rfl, rfl, rfl, rfl, HWe.out⟩
              case round =>
                obtain ⟨i, hi, rfl, rfl, rfl, rfl, hW⟩ := hrel
                clear HWe
                by_cases hlt : i < wn
                · have hlt' : i < wt.length := by rw [HWN.out]; exact hlt
                  obtain ⟨x, hx⟩ : ∃ x, wt[i]? = some x := ⟨_, List.getElem?_eq_getElem hlt'⟩
                  have hxe : wt[i] = x := by rw [List.getElem?_eq_getElem hlt'] at hx; exact Option.some.inj hx
                  have hxl : x.b.length = 2048 := HOKw.out x (List.mem_of_getElem? hx)
                  have HSF := hid (HSF0.out i x hx)
                  have HSH := hid (HSH0.out i x hx)
                  have HST := hid (HST0.out i x hx)
                  obtain ⟨b7, o7, hA, x0, x1⟩ := hW.2.1.2.at hlt'
                  have hA : wa = some ⟨b7, o7, none⟩ := hA
                  have x0' : wr.cell? ⟨b7, o7 + i * 2, none⟩ = some (.int .i64 x.ix) := by rw [← hxe]; exact x0
                  have x1' : wr.cell? ⟨b7, o7 + i * 2 + 1, none⟩ = some (.string (str x.b)) := by rw [← hxe]; exact x1
                  subst hA
                  clear x0 x1 hx hxe hlt'
                  obtain ⟨xi, xb⟩ := x
                  dsimp only at *
                  obtain ⟨c0, c1, c2, c3, c4, c5⟩ := hW.1.cells
                  have Bx := below_box wr (.cells #[.int .i64 xi, .string (str xb)] 51)
                  have TN : (wr.alloc (.cells #[.int .i64 xi, .string (str xb)] 51)).heap[wr.heap.size]? = some (.cells #[.int .i64 xi, .string (str xb)] 51 (0, 0)) := Go.heap_alloc_new _ _
                  have T0 := cell_of_row _ wr.heap.size 0 _ 51 _ TN
                  have T1 := cell_of_row _ wr.heap.size 1 _ 51 _ TN
                  simp only [List.getElem?_toArray, List.getElem?_cons_zero, List.getElem?_cons_succ] at T0 T1
                  have HTd := hid (And.intro T0 T1)
                  have HWd := hid (And.intro (hW.1.later Bx) (And.intro (hW.2.1.later Bx) (And.intro (hW.2.2.1.later Bx) (hW.2.2.2.trans (Bx.mono hW.2.2.1.size)))))
                  clear TN T0 T1 Bx hW
                  go_upto_region 27 with fail
                  clear c0 c1 c2 c3 c4 c5 x0' x1'
                  generalize (wr.alloc (.cells #[.int .i64 xi, .string (str xb)] 51)) = wa0 at *
                  generalize wr.heap.size = t27 at *
                  obtain ⟨t0, t1⟩ := HTd.out
                  by_cases hxk : xi = (kk : Int)
                  · have hdx : decide (xi = (kk : Int)) = true := decide_eq_true hxk
                    have HF1 := hid (HSF.out.trans (show (sF i || cF V kk i ⟨xi, xb⟩) = (sF i || decide (V = xb)) by unfold cF; simp [hxk]))
                    have HH1 := hid (HSH.out.trans (show (sH i || cH V kk torn nb i ⟨xi, xb⟩) = (sH i || (decide ((i : Int) = torn) && decide (V.take nb = xb.take nb))) by unfold cH; simp [hxk]))
                    have HT1 := hid (HST.out.trans (show (sT i || cT V kk nb i ⟨xi, xb⟩) = (sT i || decide (V.drop nb = xb.drop nb)) by unfold cT; simp [hxk]))
                    have hE1 := eq_str V xb
                    have hE2 := eq_str (V.take nb) (xb.take nb)
                    have hE3 := eq_str (V.drop nb) (xb.drop nb)
                    generalize decide (V = xb) = e1 at *
                    generalize decide (V.take nb = xb.take nb) = e2 at *
                    generalize decide (V.drop nb = xb.drop nb) = e3 at *
                    have hs3 := fun u => slice_take xb M nb hM0 (by rw [hxl]; exact hM2) hMn u
                    have hs4 := fun u => slice_drop xb M nb hM0 (by rw [hxl]; exact hM2) hMn u
                    clear HSF HSH HST
                    obtain ⟨fi, hfi⟩ : ∃ fi, sF i = fi := ⟨_, rfl⟩
                    obtain ⟨hi_, hhi⟩ : ∃ hi_, sH i = hi_ := ⟨_, rfl⟩
                    obtain ⟨ti, hti⟩ : ∃ ti, sT i = ti := ⟨_, rfl⟩
                    rw [hfi] at HF1 ⊢
                    rw [hhi] at HH1 ⊢
                    rw [hti] at HT1 ⊢
                    clear hfi hhi hti
                    subst hxk
                    cases fi
                    · have HF2 := hid (HF1.out.trans (show (false || e1) = e1 by simp))
                      cases hi_
                      · by_cases hit : (i : Int) = torn
                        · have HH2 := hid (HH1.out.trans (show (false || (decide ((i : Int) = torn) && e2)) = e2 by simp [hit]))
                          have hdi : decide ((i : Int) = torn) = true := decide_eq_true hit
                          clear HH1
                          subst hit
                          go_upto_region 29 with fail
                          go_quiet (fail)
                          have HWe := hid (And.intro (HWd.out.1.later (below_drew (Below.refl _ _) nq)) (And.intro (HWd.out.2.1.later (below_drew (Below.refl _ _) nq)) (And.intro (HWd.out.2.2.1.later (below_drew (Below.refl _ _) nq)) (below_drew HWd.out.2.2.2 nq))))
                          have HTe : Hid ((wa0.drewN nq).cell? ⟨t27, 0, none⟩ = some (.int .i64 (kk : Int)) ∧ (wa0.drewN nq).cell? ⟨t27, 1, none⟩ = some (.string (str xb))) := HTd
                          generalize wa0.drewN nq = wb at *
                          clear t0 t1
                          obtain ⟨t0, t1⟩ := HTe.out
                          clear HTd HWd
                          have HTd := HTe
                          have HWd := HWe
                          clear HTe HWe
                          cases ti
                          · have HT2 := hid (HT1.out.trans (show (false || e3) = e3 by simp))
                            go_upto_region 30 with fail
                            go_quiet (fail)
                            have HWe := hid (And.intro (HWd.out.1.later (below_drew (Below.refl _ _) nq)) (And.intro (HWd.out.2.1.later (below_drew (Below.refl _ _) nq)) (And.intro (HWd.out.2.2.1.later (below_drew (Below.refl _ _) nq)) (below_drew HWd.out.2.2.2 nq))))
                            have HTe : Hid ((wb.drewN nq).cell? ⟨t27, 0, none⟩ = some (.int .i64 (kk : Int)) ∧ (wb.drewN nq).cell? ⟨t27, 1, none⟩ = some (.string (str xb))) := HTd
                            generalize wb.drewN nq = wc at *
                            clear t0 t1
                            obtain ⟨t0, t1⟩ := HTe.out
                            clear HTd HWd
                            have HTd := HTe
                            have HWd := HWe
                            clear HTe HWe
                            go_wp2_with fail
                            go_roundw
                            case rel => exact ⟨i + 1, by omega, by go_num, by rw [HF2.out], by rw [HH2.out], by rw [HT2.out], HWd.out⟩
                            case measure => simp [intOf]; omega
                          · have HT2 := hid (HT1.out.trans (show (true || e3) = true by simp))
                            go_upto_region 30 with fail
                            go_quiet (fail)
                            have HWe := hid (And.intro (HWd.out.1.later (below_drew (Below.refl _ _) nq)) (And.intro (HWd.out.2.1.later (below_drew (Below.refl _ _) nq)) (And.intro (HWd.out.2.2.1.later (below_drew (Below.refl _ _) nq)) (below_drew HWd.out.2.2.2 nq))))
                            have HTe : Hid ((wb.drewN nq).cell? ⟨t27, 0, none⟩ = some (.int .i64 (kk : Int)) ∧ (wb.drewN nq).cell? ⟨t27, 1, none⟩ = some (.string (str xb))) := HTd
                            generalize wb.drewN nq = wc at *
                            clear t0 t1
                            obtain ⟨t0, t1⟩ := HTe.out
                            clear HTd HWd
                            have HTd := HTe
                            have HWd := HWe
                            clear HTe HWe
                            go_wp2_with fail
                            go_roundw
                            case rel => exact ⟨i + 1, by omega, by go_num, by rw [HF2.out], by rw [HH2.out], by rw [HT2.out], HWd.out⟩
                            case measure => simp [intOf]; omega
                        · have HH2 := hid (HH1.out.trans (show (false || (decide ((i : Int) = torn) && e2)) = false by simp [hit]))
                          have hdi : decide ((i : Int) = torn) = false := decide_eq_false hit
                          go_upto_region 29 with fail
                          go_quiet (fail)
                          have HWe := hid (And.intro (HWd.out.1.later (below_drew (Below.refl _ _) nq)) (And.intro (HWd.out.2.1.later (below_drew (Below.refl _ _) nq)) (And.intro (HWd.out.2.2.1.later (below_drew (Below.refl _ _) nq)) (below_drew HWd.out.2.2.2 nq))))
                          have HTe : Hid ((wa0.drewN nq).cell? ⟨t27, 0, none⟩ = some (.int .i64 (kk : Int)) ∧ (wa0.drewN nq).cell? ⟨t27, 1, none⟩ = some (.string (str xb))) := HTd
                          generalize wa0.drewN nq = wb at *
                          clear t0 t1
                          obtain ⟨t0, t1⟩ := HTe.out
                          clear HTd HWd
                          have HTd := HTe
                          have HWd := HWe
                          clear HTe HWe
                          cases ti
                          · have HT2 := hid (HT1.out.trans (show (false || e3) = e3 by simp))
                            go_upto_region 30 with fail
                            go_quiet (fail)
                            have HWe := hid (And.intro (HWd.out.1.later (below_drew (Below.refl _ _) nq)) (And.intro (HWd.out.2.1.later (below_drew (Below.refl _ _) nq)) (And.intro (HWd.out.2.2.1.later (below_drew (Below.refl _ _) nq)) (below_drew HWd.out.2.2.2 nq))))
                            have HTe : Hid ((wb.drewN nq).cell? ⟨t27, 0, none⟩ = some (.int .i64 (kk : Int)) ∧ (wb.drewN nq).cell? ⟨t27, 1, none⟩ = some (.string (str xb))) := HTd
                            generalize wb.drewN nq = wc at *
                            clear t0 t1
                            obtain ⟨t0, t1⟩ := HTe.out
                            clear HTd HWd
                            have HTd := HTe
                            have HWd := HWe
                            clear HTe HWe
                            go_wp2_with fail
                            go_roundw
                            case rel => exact ⟨i + 1, by omega, by go_num, by rw [HF2.out], by rw [HH2.out], by rw [HT2.out], HWd.out⟩
                            case measure => simp [intOf]; omega
                          · have HT2 := hid (HT1.out.trans (show (true || e3) = true by simp))
                            go_upto_region 30 with fail
                            go_quiet (fail)
                            have HWe := hid (And.intro (HWd.out.1.later (below_drew (Below.refl _ _) nq)) (And.intro (HWd.out.2.1.later (below_drew (Below.refl _ _) nq)) (And.intro (HWd.out.2.2.1.later (below_drew (Below.refl _ _) nq)) (below_drew HWd.out.2.2.2 nq))))
                            have HTe : Hid ((wb.drewN nq).cell? ⟨t27, 0, none⟩ = some (.int .i64 (kk : Int)) ∧ (wb.drewN nq).cell? ⟨t27, 1, none⟩ = some (.string (str xb))) := HTd
                            generalize wb.drewN nq = wc at *
                            clear t0 t1
                            obtain ⟨t0, t1⟩ := HTe.out
                            clear HTd HWd
                            have HTd := HTe
                            have HWd := HWe
                            clear HTe HWe
                            go_wp2_with fail
                            go_roundw
                            case rel => exact ⟨i + 1, by omega, by go_num, by rw [HF2.out], by rw [HH2.out], by rw [HT2.out], HWd.out⟩
                            case measure => simp [intOf]; omega
                      · have HH2 := hid (HH1.out.trans (show (true || (decide ((i : Int) = torn) && e2)) = true by simp))
                        go_upto_region 29 with fail
                        go_quiet (fail)
                        have HWe := hid (And.intro (HWd.out.1.later (below_drew (Below.refl _ _) nq)) (And.intro (HWd.out.2.1.later (below_drew (Below.refl _ _) nq)) (And.intro (HWd.out.2.2.1.later (below_drew (Below.refl _ _) nq)) (below_drew HWd.out.2.2.2 nq))))
                        have HTe : Hid ((wa0.drewN nq).cell? ⟨t27, 0, none⟩ = some (.int .i64 (kk : Int)) ∧ (wa0.drewN nq).cell? ⟨t27, 1, none⟩ = some (.string (str xb))) := HTd
                        generalize wa0.drewN nq = wb at *
                        clear t0 t1
                        obtain ⟨t0, t1⟩ := HTe.out
                        clear HTd HWd
                        have HTd := HTe
                        have HWd := HWe
                        clear HTe HWe
                        cases ti
                        · have HT2 := hid (HT1.out.trans (show (false || e3) = e3 by simp))
                          go_upto_region 30 with fail
                          go_quiet (fail)
                          have HWe := hid (And.intro (HWd.out.1.later (below_drew (Below.refl _ _) nq)) (And.intro (HWd.out.2.1.later (below_drew (Below.refl _ _) nq)) (And.intro (HWd.out.2.2.1.later (below_drew (Below.refl _ _) nq)) (below_drew HWd.out.2.2.2 nq))))
                          have HTe : Hid ((wb.drewN nq).cell? ⟨t27, 0, none⟩ = some (.int .i64 (kk : Int)) ∧ (wb.drewN nq).cell? ⟨t27, 1, none⟩ = some (.string (str xb))) := HTd
                          generalize wb.drewN nq = wc at *
                          clear t0 t1
                          obtain ⟨t0, t1⟩ := HTe.out
                          clear HTd HWd
                          have HTd := HTe
                          have HWd := HWe
                          clear HTe HWe
                          go_wp2_with fail
                          go_roundw
                          case rel => exact ⟨i + 1, by omega, by go_num, by rw [HF2.out], by rw [HH2.out], by rw [HT2.out], HWd.out⟩
                          case measure => simp [intOf]; omega
                        · have HT2 := hid (HT1.out.trans (show (true || e3) = true by simp))
                          go_upto_region 30 with fail
                          go_quiet (fail)
                          have HWe := hid (And.intro (HWd.out.1.later (below_drew (Below.refl _ _) nq)) (And.intro (HWd.out.2.1.later (below_drew (Below.refl _ _) nq)) (And.intro (HWd.out.2.2.1.later (below_drew (Below.refl _ _) nq)) (below_drew HWd.out.2.2.2 nq))))
                          have HTe : Hid ((wb.drewN nq).cell? ⟨t27, 0, none⟩ = some (.int .i64 (kk : Int)) ∧ (wb.drewN nq).cell? ⟨t27, 1, none⟩ = some (.string (str xb))) := HTd
                          generalize wb.drewN nq = wc at *
                          clear t0 t1
                          obtain ⟨t0, t1⟩ := HTe.out
                          clear HTd HWd
                          have HTd := HTe
                          have HWd := HWe
                          clear HTe HWe
                          go_wp2_with fail
                          go_roundw
                          case rel => exact ⟨i + 1, by omega, by go_num, by rw [HF2.out], by rw [HH2.out], by rw [HT2.out], HWd.out⟩
                          case measure => simp [intOf]; omega
                    · have HF2 := hid (HF1.out.trans (show (true || e1) = true by simp))
                      cases hi_
                      · by_cases hit : (i : Int) = torn
                        · have HH2 := hid (HH1.out.trans (show (false || (decide ((i : Int) = torn) && e2)) = e2 by simp [hit]))
                          have hdi : decide ((i : Int) = torn) = true := decide_eq_true hit
                          clear HH1
                          subst hit
                          go_upto_region 29 with fail
                          go_quiet (fail)
                          have HWe := hid (And.intro (HWd.out.1.later (below_drew (Below.refl _ _) nq)) (And.intro (HWd.out.2.1.later (below_drew (Below.refl _ _) nq)) (And.intro (HWd.out.2.2.1.later (below_drew (Below.refl _ _) nq)) (below_drew HWd.out.2.2.2 nq))))
                          have HTe : Hid ((wa0.drewN nq).cell? ⟨t27, 0, none⟩ = some (.int .i64 (kk : Int)) ∧ (wa0.drewN nq).cell? ⟨t27, 1, none⟩ = some (.string (str xb))) := HTd
                          generalize wa0.drewN nq = wb at *
                          clear t0 t1
                          obtain ⟨t0, t1⟩ := HTe.out
                          clear HTd HWd
                          have HTd := HTe
                          have HWd := HWe
                          clear HTe HWe
                          cases ti
                          · have HT2 := hid (HT1.out.trans (show (false || e3) = e3 by simp))
                            go_upto_region 30 with fail
                            go_quiet (fail)
                            have HWe := hid (And.intro (HWd.out.1.later (below_drew (Below.refl _ _) nq)) (And.intro (HWd.out.2.1.later (below_drew (Below.refl _ _) nq)) (And.intro (HWd.out.2.2.1.later (below_drew (Below.refl _ _) nq)) (below_drew HWd.out.2.2.2 nq))))
                            have HTe : Hid ((wb.drewN nq).cell? ⟨t27, 0, none⟩ = some (.int .i64 (kk : Int)) ∧ (wb.drewN nq).cell? ⟨t27, 1, none⟩ = some (.string (str xb))) := HTd
                            generalize wb.drewN nq = wc at *
                            clear t0 t1
                            obtain ⟨t0, t1⟩ := HTe.out
                            clear HTd HWd
                            have HTd := HTe
                            have HWd := HWe
                            clear HTe HWe
                            go_wp2_with fail
                            go_roundw
                            case rel => exact ⟨i + 1, by omega, by go_num, by rw [HF2.out], by rw [HH2.out], by rw [HT2.out], HWd.out⟩
                            case measure => simp [intOf]; omega
                          · have HT2 := hid (HT1.out.trans (show (true || e3) = true by simp))
                            go_upto_region 30 with fail
                            go_quiet (fail)
                            have HWe := hid (And.intro (HWd.out.1.later (below_drew (Below.refl _ _) nq)) (And.intro (HWd.out.2.1.later (below_drew (Below.refl _ _) nq)) (And.intro (HWd.out.2.2.1.later (below_drew (Below.refl _ _) nq)) (below_drew HWd.out.2.2.2 nq))))
                            have HTe : Hid ((wb.drewN nq).cell? ⟨t27, 0, none⟩ = some (.int .i64 (kk : Int)) ∧ (wb.drewN nq).cell? ⟨t27, 1, none⟩ = some (.string (str xb))) := HTd
                            generalize wb.drewN nq = wc at *
                            clear t0 t1
                            obtain ⟨t0, t1⟩ := HTe.out
                            clear HTd HWd
                            have HTd := HTe
                            have HWd := HWe
                            clear HTe HWe
                            go_wp2_with fail
                            go_roundw
                            case rel => exact ⟨i + 1, by omega, by go_num, by rw [HF2.out], by rw [HH2.out], by rw [HT2.out], HWd.out⟩
                            case measure => simp [intOf]; omega
                        · have HH2 := hid (HH1.out.trans (show (false || (decide ((i : Int) = torn) && e2)) = false by simp [hit]))
                          have hdi : decide ((i : Int) = torn) = false := decide_eq_false hit
                          go_upto_region 29 with fail
                          go_quiet (fail)
                          have HWe := hid (And.intro (HWd.out.1.later (below_drew (Below.refl _ _) nq)) (And.intro (HWd.out.2.1.later (below_drew (Below.refl _ _) nq)) (And.intro (HWd.out.2.2.1.later (below_drew (Below.refl _ _) nq)) (below_drew HWd.out.2.2.2 nq))))
                          have HTe : Hid ((wa0.drewN nq).cell? ⟨t27, 0, none⟩ = some (.int .i64 (kk : Int)) ∧ (wa0.drewN nq).cell? ⟨t27, 1, none⟩ = some (.string (str xb))) := HTd
                          generalize wa0.drewN nq = wb at *
                          clear t0 t1
                          obtain ⟨t0, t1⟩ := HTe.out
                          clear HTd HWd
                          have HTd := HTe
                          have HWd := HWe
                          clear HTe HWe
                          cases ti
                          · have HT2 := hid (HT1.out.trans (show (false || e3) = e3 by simp))
                            go_upto_region 30 with fail
                            go_quiet (fail)
                            have HWe := hid (And.intro (HWd.out.1.later (below_drew (Below.refl _ _) nq)) (And.intro (HWd.out.2.1.later (below_drew (Below.refl _ _) nq)) (And.intro (HWd.out.2.2.1.later (below_drew (Below.refl _ _) nq)) (below_drew HWd.out.2.2.2 nq))))
                            have HTe : Hid ((wb.drewN nq).cell? ⟨t27, 0, none⟩ = some (.int .i64 (kk : Int)) ∧ (wb.drewN nq).cell? ⟨t27, 1, none⟩ = some (.string (str xb))) := HTd
                            generalize wb.drewN nq = wc at *
                            clear t0 t1
                            obtain ⟨t0, t1⟩ := HTe.out
                            clear HTd HWd
                            have HTd := HTe
                            have HWd := HWe
                            clear HTe HWe
                            go_wp2_with fail
                            go_roundw
                            case rel => exact ⟨i + 1, by omega, by go_num, by rw [HF2.out], by rw [HH2.out], by rw [HT2.out], HWd.out⟩
                            case measure => simp [intOf]; omega
                          · have HT2 := hid (HT1.out.trans (show (true || e3) = true by simp))
                            go_upto_region 30 with fail
                            go_quiet (fail)
                            have HWe := hid (And.intro (HWd.out.1.later (below_drew (Below.refl _ _) nq)) (And.intro (HWd.out.2.1.later (below_drew (Below.refl _ _) nq)) (And.intro (HWd.out.2.2.1.later (below_drew (Below.refl _ _) nq)) (below_drew HWd.out.2.2.2 nq))))
                            have HTe : Hid ((wb.drewN nq).cell? ⟨t27, 0, none⟩ = some (.int .i64 (kk : Int)) ∧ (wb.drewN nq).cell? ⟨t27, 1, none⟩ = some (.string (str xb))) := HTd
                            generalize wb.drewN nq = wc at *
                            clear t0 t1
                            obtain ⟨t0, t1⟩ := HTe.out
                            clear HTd HWd
                            have HTd := HTe
                            have HWd := HWe
                            clear HTe HWe
                            go_wp2_with fail
                            go_roundw
                            case rel => exact ⟨i + 1, by omega, by go_num, by rw [HF2.out], by rw [HH2.out], by rw [HT2.out], HWd.out⟩
                            case measure => simp [intOf]; omega
                      · have HH2 := hid (HH1.out.trans (show (true || (decide ((i : Int) = torn) && e2)) = true by simp))
                        go_upto_region 29 with fail
                        go_quiet (fail)
                        have HWe := hid (And.intro (HWd.out.1.later (below_drew (Below.refl _ _) nq)) (And.intro (HWd.out.2.1.later (below_drew (Below.refl _ _) nq)) (And.intro (HWd.out.2.2.1.later (below_drew (Below.refl _ _) nq)) (below_drew HWd.out.2.2.2 nq))))
                        have HTe : Hid ((wa0.drewN nq).cell? ⟨t27, 0, none⟩ = some (.int .i64 (kk : Int)) ∧ (wa0.drewN nq).cell? ⟨t27, 1, none⟩ = some (.string (str xb))) := HTd
                        generalize wa0.drewN nq = wb at *
                        clear t0 t1
                        obtain ⟨t0, t1⟩ := HTe.out
                        clear HTd HWd
                        have HTd := HTe
                        have HWd := HWe
                        clear HTe HWe
                        cases ti
                        · have HT2 := hid (HT1.out.trans (show (false || e3) = e3 by simp))
                          go_upto_region 30 with fail
                          go_quiet (fail)
                          have HWe := hid (And.intro (HWd.out.1.later (below_drew (Below.refl _ _) nq)) (And.intro (HWd.out.2.1.later (below_drew (Below.refl _ _) nq)) (And.intro (HWd.out.2.2.1.later (below_drew (Below.refl _ _) nq)) (below_drew HWd.out.2.2.2 nq))))
                          have HTe : Hid ((wb.drewN nq).cell? ⟨t27, 0, none⟩ = some (.int .i64 (kk : Int)) ∧ (wb.drewN nq).cell? ⟨t27, 1, none⟩ = some (.string (str xb))) := HTd
                          generalize wb.drewN nq = wc at *
                          clear t0 t1
                          obtain ⟨t0, t1⟩ := HTe.out
                          clear HTd HWd
                          have HTd := HTe
                          have HWd := HWe
                          clear HTe HWe
                          go_wp2_with fail
                          go_roundw
                          case rel => exact ⟨i + 1, by omega, by go_num, by rw [HF2.out], by rw [HH2.out], by rw [HT2.out], HWd.out⟩
                          case measure => simp [intOf]; omega
                        · have HT2 := hid (HT1.out.trans (show (true || e3) = true by simp))
                          go_upto_region 30 with fail
                          go_quiet (fail)
                          have HWe := hid (And.intro (HWd.out.1.later (below_drew (Below.refl _ _) nq)) (And.intro (HWd.out.2.1.later (below_drew (Below.refl _ _) nq)) (And.intro (HWd.out.2.2.1.later (below_drew (Below.refl _ _) nq)) (below_drew HWd.out.2.2.2 nq))))
                          have HTe : Hid ((wb.drewN nq).cell? ⟨t27, 0, none⟩ = some (.int .i64 (kk : Int)) ∧ (wb.drewN nq).cell? ⟨t27, 1, none⟩ = some (.string (str xb))) := HTd
                          generalize wb.drewN nq = wc at *
                          clear t0 t1
                          obtain ⟨t0, t1⟩ := HTe.out
                          clear HTd HWd
                          have HTd := HTe
                          have HWd := HWe
                          clear HTe HWe
                          go_wp2_with fail
                          go_roundw
                          case rel => exact ⟨i + 1, by omega, by go_num, by rw [HF2.out], by rw [HH2.out], by rw [HT2.out], HWd.out⟩
                          case measure => simp [intOf]; omega
                  · have hdx : decide (xi = (kk : Int)) = false := decide_eq_false hxk
                    have HF1 := hid (HSF.out.trans (show (sF i || cF V kk i ⟨xi, xb⟩) = sF i by unfold cF; simp [hxk]))
                    have HH1 := hid (HSH.out.trans (show (sH i || cH V kk torn nb i ⟨xi, xb⟩) = sH i by unfold cH; simp [hxk]))
                    have HT1 := hid (HST.out.trans (show (sT i || cT V kk nb i ⟨xi, xb⟩) = sT i by unfold cT; simp [hxk]))
                    clear HSF HSH HST
                    go_wp2_with fail
                    go_roundw
                    case rel => exact ⟨i + 1, by omega, by go_num, by rw [HF1.out], by rw [HH1.out], by rw [HT1.out], HWd.out⟩
                    case measure => simp [intOf]; omega
                · obtain rfl : i = wn := by omega
                  obtain ⟨c0, c1, c2, c3, c4, c5⟩ := hW.1.cells
                  have HWf := hid hW
                  clear hW
                  have HFin := HFO.out
                  obtain ⟨vF, hvF⟩ : ∃ v, sF i = v := ⟨_, rfl⟩
                  obtain ⟨vH, hvH⟩ : ∃ v, sH i = v := ⟨_, rfl⟩
                  obtain ⟨vT, hvT⟩ : ∃ v, sT i = v := ⟨_, rfl⟩
                  rw [hvF, hvH, hvT] at HFin
                  rw [hvF, hvH, hvT]
                  clear hvF hvH hvT HFO
                  cases vF
                  · obtain ⟨e1, e2⟩ := HFin.resolve_left (by simp)
                    subst e1
                    subst e2
                    go_wp2_with fail
                    go_roundw
                    case rel => exact ⟨kk + 1, by omega, by go_num, HWf.out.2.2.2, HWf.out.2.2.1, HWf.out.1, HWf.out.2.1⟩
                    case measure => simp [intOf]; omega
                  · clear HFin
                    go_wp2_with fail
                    go_roundw
                    case rel => exact ⟨kk + 1, by omega, by go_num, HWf.out.2.2.2, HWf.out.2.2.1, HWf.out.1, HWf.out.2.1⟩
                    case measure => simp [intOf]; omega
            · obtain rfl : kk = 4 := by omega
              have HUP := disk_up hDr
              have HWT := hid (fun (u : World) (hu : Below wr.heap.size wr u) => disk_waits (hDr.later hu))
              rw [hdbd] at HUP
              rw [hdbw] at HWT
              have HB := hid hbr
              have hsz := hDr.size
              clear hbr hDr hMr hLr
              go_wp2_with fail
              refine HUP.mono ?_
              rintro e w6 ⟨rfl, hb6⟩
              have HW6 := HWT.out w6 hb6
              have HB6 := hid (HB.out.trans (hb6.mono hsz))
              have HZ6 := hid hb6.size
              clear HUP HWT hb6 HB
              go_wp2_with fail
              refine HW6.mono ?_
              rintro e w7 ⟨rfl, hb7⟩
              have HB7 := hid (HB6.out.trans (hb7.mono (Nat.le_trans hsz HZ6.out)))
              clear HW6 hb7 HB6
              go_wp2_with fail
              refine (awake8 w7).mono ?_
              rintro e w8 ⟨rfl, hb8⟩
              have HB8 := hid (HB7.out.trans (hb8.mono HB7.out.size))
              clear hb8 HB7
              go_wp2_with fail
              go_ret
              exact ⟨rfl, HB8.out⟩
end Go.Proofs.Ytklfpoojpfomeaa.Key
