/-
  Contract of Right, the program's.
-/
import Derived.Test.YtegmpfmhlpdmhaaGreatFits
import Derived.Test.YtegmpfmhlpdmhaaGreatKd
import Derived.Test.YtegmpfmhlpdmhaaGreatQu
namespace Go.Proofs.YtegmpfmhlpdmhaaGreat.Key
open Go.RowKit Go.Maps Draw
set_option linter.unusedVariables false
set_option linter.unusedSimpArgs false

theorem deepI_in {n : Nd} (h : Small n) : 0 ≤ deepI n ∧ deepI n ≤ 65535 := by
  have h1 := bufD_in (s := kidD n.ks n.ks.length) (kidD_in h.de _ (Nat.le_refl _)) h.db n.bf.length (Nat.le_refl _)
  unfold deepI
  split
  · omega
  · split
    · omega
    · unfold deepM at *
      omega
theorem wf_u16 {z : Int} (h : 0 ≤ z ∧ z ≤ 65535) : (Lit.int .u16 z).wf = true := by
  simp only [Lit.wf, Bool.and_eq_true, decide_eq_true_eq]
  have e1 : IntKind.u16.min = 0 := rfl
  have e2 : IntKind.u16.max = 65535 := by decide
  omega
/-- a block that holds an item -/
def I6 (w : World) (k : Nat) (v0 v1 v2 v3 v4 v5 : Value) : Prop := w.heap[k]? = some (.cells #[v0, v1, v2, v3, v4, v5] 48 (0, 0))
theorem I6.new (w : World) (v0 v1 v2 v3 v4 v5 : Value) : I6 (w.alloc (.cells #[v0, v1, v2, v3, v4, v5] 48)) w.heap.size v0 v1 v2 v3 v4 v5 := Go.heap_alloc_new _ _
theorem I6.later {w w' : World} {k : Nat} {v0 v1 v2 v3 v4 v5 : Value} (h : I6 w k v0 v1 v2 v3 v4 v5) (hb : Below w.heap.size w w') : I6 w' k v0 v1 v2 v3 v4 v5 := (hb.block k (Array.getElem?_eq_some_iff.1 h).1).trans h
theorem I6.c {w : World} {k : Nat} {v0 v1 v2 v3 v4 v5 : Value} (h : I6 w k v0 v1 v2 v3 v4 v5) : w.cell? ⟨k, 0, none⟩ = some v0 ∧ w.cell? ⟨k, 1, none⟩ = some v1 ∧ w.cell? ⟨k, 2, none⟩ = some v2 ∧ w.cell? ⟨k, 3, none⟩ = some v3 ∧ w.cell? ⟨k, 4, none⟩ = some v4 ∧ w.cell? ⟨k, 5, none⟩ = some v5 :=
  ⟨cell_of_row _ _ 0 _ _ _ h, cell_of_row _ _ 1 _ _ _ h, cell_of_row _ _ 2 _ _ _ h, cell_of_row _ _ 3 _ _ _ h, cell_of_row _ _ 4 _ _ _ h, cell_of_row _ _ 5 _ _ _ h⟩
/-- items that a call goes through -/
structure Fine (l : List It) : Prop where
  len : l.length ≤ 1000
  inn : ∀ x ∈ l, x.In
  sml : ∀ x ∈ l, Small x.nd
theorem last_next {l : List It} {j : Nat} (h : j < l.length) : lastD (l.take (j + 1)) = putF (lastD (l.take j)) l[j].blk (deepI l[j].nd) := by
  funext b
  rw [List.take_succ_eq_append_getElem h, lastD_snoc]
  rfl
theorem leads_last {l : List It} (hr : upTo (stepB l) l.length = true) (n : Nd) : leadsB l n = leadsF (lastD l) n := by
  have e : fitsB l = fitF (lastD l) := by
    funext b d
    rw [fits_last hr]
    rfl
  unfold leadsB leadsF
  rw [e]
  congr 1
  unfold gotoF
  congr 1
  funext m
  unfold gotoB
  rw [e]

set_option maxRecDepth 100000 in
set_option maxHeartbeats 1600000 in
theorem right11 (a : Option Addr) (c : Nat) (l : List It) (w : World) (hl : Fine l) (h : Items w a l) :
    Calls Tryz.prog 35 #[.slice a l.length c] w fun x w' => x = .returned (.bool (rightB l)) ∧ Below w.heap.size w w' := by
  have hmm := @run_makeMap Tryz.prog
  have HG := hid (show rightB l = (upTo (stepB l) l.length && l.all fun x => leadsB l x.nd) from rfl)
  have HL := hid (fun hr n => @leads_last l hr n)
  obtain ⟨hln, hin, hsm⟩ := hl
  generalize rightB l = G at *
  generalize hn : l.length = n at *
  have HN := hid hn
  clear hn
  have M0 := (GMap.made w 35 .u16).later (below_box _ (.cells #[.map (some w.heap.size)] 107))
  have hb0 : Below w.heap.size w ((w.alloc (.map #[] 0)).alloc (.cells #[.map (some w.heap.size)] 107)) := (below_box w _).alloc (by simp) _
  have hc0 := Go.heap_alloc_new (w.alloc (.map #[] 0)) (.cells #[.map (some w.heap.size)] 107)
  rw [World.size_alloc] at hc0
  have HI := hid h
  clear h
  go_enter Tryz.func35, Tryz.ntmps35
  go_wp2_with fail
  generalize (w.alloc (.map #[] 0)).alloc (.cells #[.map (some w.heap.size)] 107) = w0 at *
  generalize hk0 : w.heap.size = k0 at *
  go_loopw [12] (fun i wr => ∃ j : Nat, j ≤ n ∧ i = .int .i64 j ∧ Hid (upTo (stepB l) j = true) ∧ GMap wr 35 .u16 k0 j (lastD (l.take j)) ∧ wr.heap[k0 + 1]? = some (.cells #[.map (some k0)] 107 (0, 0)) ∧ Below k0 w wr) (fun i _ => n - (intOf i).toNat)
  case atStart => exact ⟨0, Nat.zero_le _, rfl, rfl, M0, hc0, hb0⟩
  case round =>
    obtain ⟨j, hj, rfl, hjn, hM, hC, hb⟩ := hrel
    have hbs : k0 ≤ wr.heap.size := by rw [← hk0]; exact hb.size
    by_cases hlt : j < n
    · have hlt' : j < l.length := by rw [HN.out]; exact hlt
      have hnx := hid (last_next hlt')
      have hxi := hin _ (List.getElem_mem hlt')
      have hxs := hsm _ (List.getElem_mem hlt')
      have hst : upTo (stepB l) (j + 1) = (upTo (stepB l) j && stepB l j) := rfl
      have hno := hid (fun hp => upTo_no (p := stepB l) (n := n) hlt hp)
      obtain ⟨q0, HQ⟩ : ∃ q, Hid (stepB l j = q) := ⟨_, hid rfl⟩
      have hsb : (j = 0 ∧ q0 = decide (mayI l[j].nd = 0)) ∨ ∃ i, j = i + 1 ∧ ∃ hi : i < l.length, q0 = (decide (l[i].blk < l[j].blk) && decide (mayI l[j].nd = 0)) := by
        cases j with
        | zero => exact .inl ⟨rfl, by rw [← HQ.out, stepB_zero hlt']⟩
        | succ i => exact .inr ⟨i, rfl, by omega, by rw [← HQ.out, stepB_at hlt']⟩
      rw [hjn.out, Bool.true_and, HQ.out] at hst
      rw [HQ.out] at hno
      replace hst := hid hst
      obtain ⟨b, off, rfl, h6, h7⟩ := (HI.out.later (by rw [hk0]; exact hb)).at hlt'
      obtain ⟨x, HX⟩ : ∃ m, Hid (l[j] = m) := ⟨_, hid rfl⟩
      rw [HX.out] at h6 h7 hsb hnx hxi hxs
      have HMY := hid (fun u (hu : Below k0 w u) => may12 x.nd x.pl u hxs.few (by
        obtain ⟨_, _, _, _, h8⟩ := (HI.out.later (by rw [hk0]; exact hu)).at hlt'
        rw [HX.out] at h8
        exact h8))
      have HDP := hid (fun u (hu : Below k0 w u) => deep14 x.nd x.pl u hxs (by
        obtain ⟨_, _, _, _, h8⟩ := (HI.out.later (by rw [hk0]; exact hu)).at hlt'
        rw [HX.out] at h8
        exact h8))
      have hwd := wf_u16 (deepI_in hxs)
      have hwb := hxi.blk
      have X5 := I6.new wr (.int .u32 x.blk) (.bool x.nd.leaf) (.slice x.pl.a1 x.nd.ps.length x.pl.c1) (.slice x.pl.a2 x.nd.pv.length x.pl.c2) (.slice x.pl.a3 x.nd.ks.length x.pl.c3) (.slice x.pl.a4 x.nd.bf.length x.pl.c4)
      have hbx : Below k0 w (wr.alloc (.cells #[.int .u32 x.blk, .bool x.nd.leaf, .slice x.pl.a1 x.nd.ps.length x.pl.c1, .slice x.pl.a2 x.nd.pv.length x.pl.c2, .slice x.pl.a3 x.nd.ks.length x.pl.c3, .slice x.pl.a4 x.nd.bf.length x.pl.c4] 48)) := hb.alloc hbs _
      have hM5 := hM.later (below_box wr (.cells #[.int .u32 x.blk, .bool x.nd.leaf, .slice x.pl.a1 x.nd.ps.length x.pl.c1, .slice x.pl.a2 x.nd.pv.length x.pl.c2, .slice x.pl.a3 x.nd.ks.length x.pl.c3, .slice x.pl.a4 x.nd.bf.length x.pl.c4] 48))
      have hC5 := ((below_box wr (.cells #[.int .u32 x.blk, .bool x.nd.leaf, .slice x.pl.a1 x.nd.ps.length x.pl.c1, .slice x.pl.a2 x.nd.pv.length x.pl.c2, .slice x.pl.a3 x.nd.ks.length x.pl.c3, .slice x.pl.a4 x.nd.bf.length x.pl.c4] 48)).block _ (Array.getElem?_eq_some_iff.1 hC).1).trans hC
      have hP : ∀ i, j = i + 1 → ∃ hi : i < l.length, (wr.alloc (.cells #[.int .u32 x.blk, .bool x.nd.leaf, .slice x.pl.a1 x.nd.ps.length x.pl.c1, .slice x.pl.a2 x.nd.pv.length x.pl.c2, .slice x.pl.a3 x.nd.ks.length x.pl.c3, .slice x.pl.a4 x.nd.bf.length x.pl.c4] 48)).cell? ⟨b, off + i * 6, none⟩ = some (.int .u32 l[i].blk) := fun i hi => by
        have hil : i < l.length := by omega
        obtain ⟨b', off', e, h9, _⟩ := (HI.out.later (by rw [hk0]; exact hbx)).at hil
        simp only [Option.some.injEq, Addr.mk.injEq, and_true] at e
        obtain ⟨rfl, rfl⟩ := e
        exact ⟨hil, h9.c0⟩
      obtain ⟨MI, HMI⟩ : ∃ m, Hid (mayI x.nd = m) := ⟨_, hid rfl⟩
      obtain ⟨DI, HDI⟩ : ∃ m, Hid (deepI x.nd = m) := ⟨_, hid rfl⟩
      rw [HMI.out] at HMY hsb
      rw [HDI.out] at HDP hwd hnx
      obtain ⟨bk, ⟨lf, ps, pv, ks, bf⟩, ⟨a1, c1, a2, c2, a3, c3, a4, c4⟩⟩ := x
      obtain ⟨d0, d1, d2, d3, d4, d5⟩ := h6
      dsimp only [nv] at *
      clear h7 hxi hxs hM hC
      have HB := hid hb
      have HSB := hid hsb
      clear hsb hb
      generalize ps.length = n1 at *
      generalize pv.length = n2 at *
      generalize ks.length = n3 at *
      generalize bf.length = n4 at *
      have HB5 := hid hbx
      clear hbx
      cases j with
      | zero =>
        have hq := hid (HSB.out.elim (·.2) (fun ⟨i, h, _⟩ => by omega))
        clear HSB hP
        simp only [Nat.zero_mul, Nat.add_zero] at d0 d1 d2 d3 d4 d5
        rw [show ((0 : Nat) : Int) = 0 from rfl]
        by_cases hm0 : MI = 0
        · have hm0' : (MI == 0) = true := by simpa using hm0
          have HQ1 : Hid (q0 = true) := hid (by rw [hq.out, decide_eq_true hm0])
          clear hm0 hq
          go_upto_region 5 with fail
          generalize (wr.alloc (.cells #[.int .u32 bk, .bool lf, .slice a1 n1 c1, .slice a2 n2 c2, .slice a3 n3 c3, .slice a4 n4 c4] 48)) = w5 at *
          generalize wr.heap.size = kx at *
          have hb5 := HB5.out
          have hs5 : k0 ≤ w5.heap.size := by rw [← hk0]; exact hb5.size
          refine wp_region_quiet (C := fun u => Below w5.heap.size w5 u) (by kernel_rfl) (by kernel_rfl) ⟨rfl, rfl, rfl, Nat.le_refl _, fun _ _ => rfl⟩ ?_
          change wpQuiet _ _ _ _ (_ :: _) _
          repeat
            first
              | go_big_quiet_skip
              | go_big_quiet_want
                first
                  | refine quiet_v ?_ ?_ ?_
                    rotate_left
                    · intro u hu
                      obtain ⟨x0, x1, x2, x3, x4, x5⟩ := (X5.later hu).c
                      go_simp
                      with_reducible rfl
                  | refine quiet_c (.int .i64 MI) 37 #[.agg #[.bool lf, .slice a1 n1 c1, .slice a2 n2 c2, .slice a3 n3 c3, .slice a4 n4 c4]] ?_ (fun u hu => (HMY.out u (hb5.trans (hu.mono hs5))).mono fun x u' h => ⟨h.1, hu.trans (h.2.mono hu.size)⟩) ?_
                    · intro u hu
                      obtain ⟨x0, x1, x2, x3, x4, x5⟩ := (X5.later hu).c
                      go_simp
                      done
                go_simp
                go_big_quiet_on
          refine wpQuiet_nil (fun u hu => ?_)
          go_upto_region 7 with fail
          have hM6 := hM5.later hu
          have hC6 := (hu.block _ (Array.getElem?_eq_some_iff.1 hC5).1).trans hC5
          have X6 := X5.later hu
          have hb6 := hb5.trans (hu.mono hs5)
          have hs6 : k0 ≤ u.heap.size := Nat.le_trans hs5 hu.size
          clear hM5 hC5 X5 hb5 hs5 hu
          have hlt6 : k0 + 1 < u.heap.size := (Array.getElem?_eq_some_iff.1 hC6).1
          refine wp_region_last [(some 36, [], true), (some 37, [], false), (some 38, [(1, 37)], true), (some 39, [], false), (some 40, [(3, 39)], false), (some 41, [(4, 40)], true), (none, [(0, 36), (2, 38), (5, 41)], false)]
            (fun v => Below u.heap.size u v) (fun _ v v' => Below v.heap.size v v')
            (fun i v _ => match i with | 0 => v = .map (some k0) | 1 => v = .pointer (some ⟨kx, 0, none⟩) | 2 => v = .int .u32 bk | 3 => v = .pointer (some ⟨kx, 1, none⟩) | 4 => v = .agg #[.bool lf, .slice a1 n1 c1, .slice a2 n2 c2, .slice a3 n3 c3, .slice a4 n4 c4] | 5 => v = .int .u16 DI | _ => True)
            (by kernel_rfl) (by kernel_rfl) (Below.refl _ _).drew (fun i u u' h h' => h.trans (h'.mono h.size)) (fun i j v u u' hn h h' hv => hv) [(some 36, [], true), (some 37, [], false), (some 38, [(1, 37)], true), (some 39, [], false), (some 40, [(3, 39)], false), (some 41, [(4, 40)], true)] 6 rfl _ rfl rfl (by kernel_rfl) (by kernel_rfl) ⟨?_, ?_, ?_, ?_, ?_, ?_, trivial⟩ ?_
          · rintro v hv
            have hcc := cell_of_row _ _ 0 _ _ _ ((hv.block _ hlt6).trans hC6)
            dsimp at hcc
            exact opYields_val (.map (some k0)) (by kernel_rfl) (by go_simp) ⟨Below.refl _ _, rfl⟩
          · rintro v hv
            exact opYields_val _ (by kernel_rfl) (by go_simp) ⟨Below.refl _ _, rfl⟩
          · rintro v hv _ rfl
            obtain ⟨x0, x1, x2, x3, x4, x5⟩ := (X6.later hv).c
            exact opYields_val (.int .u32 bk) (by kernel_rfl) (by go_simp) ⟨Below.refl _ _, rfl⟩
          · rintro v hv
            exact opYields_val _ (by kernel_rfl) (by go_simp) ⟨Below.refl _ _, rfl⟩
          · rintro v hv _ rfl
            obtain ⟨x0, x1, x2, x3, x4, x5⟩ := (X6.later hv).c
            exact opYields_val (.agg #[.bool lf, .slice a1 n1 c1, .slice a2 n2 c2, .slice a3 n3 c3, .slice a4 n4 c4]) (by kernel_rfl) (by go_simp) ⟨Below.refl _ _, rfl⟩
          · rintro v hv _ rfl
            exact opYields_call 52 #[.agg #[.bool lf, .slice a1 n1 c1, .slice a2 n2 c2, .slice a3 n3 c3, .slice a4 n4 c4]] (by kernel_rfl) (by go_simp) ((HDP.out v (hb6.trans (hv.mono hs6))).mono fun x u' ⟨h1, h3⟩ => ⟨.int .u16 DI, h1, h3, rfl⟩)
          · intro v hv x0 e0 x1 x2 e2 x3 x4 x5 e5
            replace e0 : x0 = .map (some k0) := e0
            replace e2 : x2 = .int .u32 bk := e2
            replace e5 : x5 = .int .u16 DI := e5
            subst e0 e2 e5
            obtain ⟨u', hrun, hM7, hg7⟩ := (hM6.later hv).store (t := 107) Tryz.underlying107 Tryz.underlying35 (by unfold maxLen; omega) bk DI hwb hwd
            refine Puts.mk u' (by kernel_rfl) (by simp [execOp, Act.eval, Act.put, hrun, Result.andThen]) ?_
            have hC7 := (hg7.block (k0 + 1) (Nat.lt_of_lt_of_le hlt6 hv.size) (by simp)).trans ((hv.block _ hlt6).trans hC6)
            have hb7 := (hb6.trans (hv.mono hs6)).grown hg7 (Nat.le_trans hs6 hv.size) (fun j hj => by cases hj; exact Nat.le_refl _)
            clear hrun hM6 hC6 X6
            simp only [Act.put, List.setIfInBounds_toArray, List.set_cons_zero, List.set_cons_succ]
            go_wp2_with fail
            go_roundw
            case rel => exact ⟨0 + 1, by omega, by go_num, hid (hst.out.trans HQ1.out), by rw [hnx.out]; exact hM7, hC7, hb7⟩
            case measure => simp [intOf]; omega
        · have hm0' : (MI == 0) = false := by simpa using hm0
          have HQ1 : Hid (q0 = false) := hid (by rw [hq.out, decide_eq_false hm0])
          clear hm0 hq
          go_upto_region 5 with fail
          generalize (wr.alloc (.cells #[.int .u32 bk, .bool lf, .slice a1 n1 c1, .slice a2 n2 c2, .slice a3 n3 c3, .slice a4 n4 c4] 48)) = w5 at *
          generalize wr.heap.size = kx at *
          have hb5 := HB5.out
          have hs5 : k0 ≤ w5.heap.size := by rw [← hk0]; exact hb5.size
          refine wp_region_quiet (C := fun u => Below w5.heap.size w5 u) (by kernel_rfl) (by kernel_rfl) ⟨rfl, rfl, rfl, Nat.le_refl _, fun _ _ => rfl⟩ ?_
          change wpQuiet _ _ _ _ (_ :: _) _
          repeat
            first
              | go_big_quiet_skip
              | go_big_quiet_want
                first
                  | refine quiet_v ?_ ?_ ?_
                    rotate_left
                    · intro u hu
                      obtain ⟨x0, x1, x2, x3, x4, x5⟩ := (X5.later hu).c
                      go_simp
                      with_reducible rfl
                  | refine quiet_c (.int .i64 MI) 37 #[.agg #[.bool lf, .slice a1 n1 c1, .slice a2 n2 c2, .slice a3 n3 c3, .slice a4 n4 c4]] ?_ (fun u hu => (HMY.out u (hb5.trans (hu.mono hs5))).mono fun x u' h => ⟨h.1, hu.trans (h.2.mono hu.size)⟩) ?_
                    · intro u hu
                      obtain ⟨x0, x1, x2, x3, x4, x5⟩ := (X5.later hu).c
                      go_simp
                      done
                go_simp
                go_big_quiet_on
          refine wpQuiet_nil (fun u hu => ?_)
          go_wp2_with fail
          go_ret
          refine ⟨ret_bool (by rw [HG.out, hno.out HQ1.out, Bool.false_and]), ?_⟩
          have hb6 := hb5.trans (hu.mono hs5)
          first | exact hb6 | (rw [hk0]; exact hb6)
      | succ i =>
        obtain ⟨hil, hpc⟩ := hP i rfl
        have hq : Hid (q0 = (decide (l[i].blk < bk) && decide (MI = 0))) := hid (by
          rcases HSB.out with ⟨h, _⟩ | ⟨i', h, hi', e⟩
          · omega
          · obtain rfl : i = i' := (by omega)
            exact e)
        clear HSB hP
        obtain ⟨yb, HYB⟩ : ∃ m, Hid (l[i].blk = m) := ⟨_, hid rfl⟩
        have hq : Hid (q0 = (decide (yb < bk) && decide (MI = 0))) := hid (by rw [← HYB.out, hq.out])
        rw [HYB.out] at hpc
        have hbk := World.block_lt_of_cell? _ _ hpc
        rw [show ((i + 1 : Nat) : Int) = (i : Int) + 1 from rfl]
        have hlti : ((i : Int) + 1) < (n : Int) := by omega
        have hwi : IntKind.i64.wrap (i : Int) = (i : Int) := by rw [IntKind.wrap_i64]; omega
        have hlt2 : (i : Int) < (n : Int) := by omega
        by_cases hle : bk ≤ yb
        · have hle' : decide (bk ≤ yb) = true := by simpa using hle
          have HQ1 : Hid (q0 = false) := hid (by rw [hq.out, decide_eq_false (by omega : ¬ yb < bk)]; rfl)
          clear hle hq
          go_upto_region 5 with fail
          generalize (wr.alloc (.cells #[.int .u32 bk, .bool lf, .slice a1 n1 c1, .slice a2 n2 c2, .slice a3 n3 c3, .slice a4 n4 c4] 48)) = w5 at *
          generalize wr.heap.size = kx at *
          have hb5 := HB5.out
          have hs5 : k0 ≤ w5.heap.size := by rw [← hk0]; exact hb5.size
          refine wp_region_quiet (C := fun u => Below w5.heap.size w5 u) (by kernel_rfl) (by kernel_rfl) ⟨rfl, rfl, rfl, Nat.le_refl _, fun _ _ => rfl⟩ ?_
          change wpQuiet _ _ _ _ (_ :: _) _
          repeat
            first
              | go_big_quiet_skip
              | go_big_quiet_want
                first
                  | refine quiet_v ?_ ?_ ?_
                    rotate_left
                    · intro u hu
                      obtain ⟨x0, x1, x2, x3, x4, x5⟩ := (X5.later hu).c
                      have hpu := (hu.cell (p := ⟨b, off + i * 6, none⟩) hbk).trans hpc
                      go_simp
                      with_reducible rfl
                  | refine quiet_c (.int .i64 MI) 37 #[.agg #[.bool lf, .slice a1 n1 c1, .slice a2 n2 c2, .slice a3 n3 c3, .slice a4 n4 c4]] ?_ (fun u hu => (HMY.out u (hb5.trans (hu.mono hs5))).mono fun x u' h => ⟨h.1, hu.trans (h.2.mono hu.size)⟩) ?_
                    · intro u hu
                      obtain ⟨x0, x1, x2, x3, x4, x5⟩ := (X5.later hu).c
                      go_simp
                      done
                go_simp
                go_big_quiet_on
          refine wpQuiet_nil (fun u hu => ?_)
          go_wp2_with fail
          go_ret
          refine ⟨ret_bool (by rw [HG.out, hno.out HQ1.out, Bool.false_and]), ?_⟩
          have hb6 := hb5.trans (hu.mono hs5)
          first | exact hb6 | (rw [hk0]; exact hb6)
        · have hle' : decide (bk ≤ yb) = false := by simpa using hle
          have hq : Hid (q0 = decide (MI = 0)) := hid (by rw [hq.out, decide_eq_true (by omega : yb < bk)]; rfl)
          clear hle
          by_cases hm0 : MI = 0
          · have hm0' : (MI == 0) = true := by simpa using hm0
            have HQ1 : Hid (q0 = true) := hid (by rw [hq.out, decide_eq_true hm0])
            clear hm0 hq
            go_upto_region 5 with fail
            generalize (wr.alloc (.cells #[.int .u32 bk, .bool lf, .slice a1 n1 c1, .slice a2 n2 c2, .slice a3 n3 c3, .slice a4 n4 c4] 48)) = w5 at *
            generalize wr.heap.size = kx at *
            have hb5 := HB5.out
            have hs5 : k0 ≤ w5.heap.size := by rw [← hk0]; exact hb5.size
            refine wp_region_quiet (C := fun u => Below w5.heap.size w5 u) (by kernel_rfl) (by kernel_rfl) ⟨rfl, rfl, rfl, Nat.le_refl _, fun _ _ => rfl⟩ ?_
            change wpQuiet _ _ _ _ (_ :: _) _
            repeat
              first
                | go_big_quiet_skip
                | go_big_quiet_want
                  first
                    | refine quiet_v ?_ ?_ ?_
                      rotate_left
                      · intro u hu
                        obtain ⟨x0, x1, x2, x3, x4, x5⟩ := (X5.later hu).c
                        have hpu := (hu.cell (p := ⟨b, off + i * 6, none⟩) hbk).trans hpc
                        go_simp
                        with_reducible rfl
                    | refine quiet_c (.int .i64 MI) 37 #[.agg #[.bool lf, .slice a1 n1 c1, .slice a2 n2 c2, .slice a3 n3 c3, .slice a4 n4 c4]] ?_ (fun u hu => (HMY.out u (hb5.trans (hu.mono hs5))).mono fun x u' h => ⟨h.1, hu.trans (h.2.mono hu.size)⟩) ?_
                      · intro u hu
                        obtain ⟨x0, x1, x2, x3, x4, x5⟩ := (X5.later hu).c
                        go_simp
                        done
                  go_simp
                  go_big_quiet_on
            refine wpQuiet_nil (fun u hu => ?_)
            go_upto_region 7 with fail
            have hM6 := hM5.later hu
            have hC6 := (hu.block _ (Array.getElem?_eq_some_iff.1 hC5).1).trans hC5
            have X6 := X5.later hu
            have hb6 := hb5.trans (hu.mono hs5)
            have hs6 : k0 ≤ u.heap.size := Nat.le_trans hs5 hu.size
            clear hM5 hC5 X5 hb5 hs5 hu
            have hlt6 : k0 + 1 < u.heap.size := (Array.getElem?_eq_some_iff.1 hC6).1
            refine wp_region_last [(some 36, [], true), (some 37, [], false), (some 38, [(1, 37)], true), (some 39, [], false), (some 40, [(3, 39)], false), (some 41, [(4, 40)], true), (none, [(0, 36), (2, 38), (5, 41)], false)]
              (fun v => Below u.heap.size u v) (fun _ v v' => Below v.heap.size v v')
              (fun i v _ => match i with | 0 => v = .map (some k0) | 1 => v = .pointer (some ⟨kx, 0, none⟩) | 2 => v = .int .u32 bk | 3 => v = .pointer (some ⟨kx, 1, none⟩) | 4 => v = .agg #[.bool lf, .slice a1 n1 c1, .slice a2 n2 c2, .slice a3 n3 c3, .slice a4 n4 c4] | 5 => v = .int .u16 DI | _ => True)
              (by kernel_rfl) (by kernel_rfl) (Below.refl _ _).drew (fun i u u' h h' => h.trans (h'.mono h.size)) (fun i j v u u' hn h h' hv => hv) [(some 36, [], true), (some 37, [], false), (some 38, [(1, 37)], true), (some 39, [], false), (some 40, [(3, 39)], false), (some 41, [(4, 40)], true)] 6 rfl _ rfl rfl (by kernel_rfl) (by kernel_rfl) ⟨?_, ?_, ?_, ?_, ?_, ?_, trivial⟩ ?_
            · rintro v hv
              have hcc := cell_of_row _ _ 0 _ _ _ ((hv.block _ hlt6).trans hC6)
              dsimp at hcc
              exact opYields_val (.map (some k0)) (by kernel_rfl) (by go_simp) ⟨Below.refl _ _, rfl⟩
            · rintro v hv
              exact opYields_val _ (by kernel_rfl) (by go_simp) ⟨Below.refl _ _, rfl⟩
            · rintro v hv _ rfl
              obtain ⟨x0, x1, x2, x3, x4, x5⟩ := (X6.later hv).c
              exact opYields_val (.int .u32 bk) (by kernel_rfl) (by go_simp) ⟨Below.refl _ _, rfl⟩
            · rintro v hv
              exact opYields_val _ (by kernel_rfl) (by go_simp) ⟨Below.refl _ _, rfl⟩
            · rintro v hv _ rfl
              obtain ⟨x0, x1, x2, x3, x4, x5⟩ := (X6.later hv).c
              exact opYields_val (.agg #[.bool lf, .slice a1 n1 c1, .slice a2 n2 c2, .slice a3 n3 c3, .slice a4 n4 c4]) (by kernel_rfl) (by go_simp) ⟨Below.refl _ _, rfl⟩
            · rintro v hv _ rfl
              exact opYields_call 52 #[.agg #[.bool lf, .slice a1 n1 c1, .slice a2 n2 c2, .slice a3 n3 c3, .slice a4 n4 c4]] (by kernel_rfl) (by go_simp) ((HDP.out v (hb6.trans (hv.mono hs6))).mono fun x u' ⟨h1, h3⟩ => ⟨.int .u16 DI, h1, h3, rfl⟩)
            · intro v hv x0 e0 x1 x2 e2 x3 x4 x5 e5
              replace e0 : x0 = .map (some k0) := e0
              replace e2 : x2 = .int .u32 bk := e2
              replace e5 : x5 = .int .u16 DI := e5
              subst e0 e2 e5
              obtain ⟨u', hrun, hM7, hg7⟩ := (hM6.later hv).store (t := 107) Tryz.underlying107 Tryz.underlying35 (by unfold maxLen; omega) bk DI hwb hwd
              refine Puts.mk u' (by kernel_rfl) (by simp [execOp, Act.eval, Act.put, hrun, Result.andThen]) ?_
              have hC7 := (hg7.block (k0 + 1) (Nat.lt_of_lt_of_le hlt6 hv.size) (by simp)).trans ((hv.block _ hlt6).trans hC6)
              have hb7 := (hb6.trans (hv.mono hs6)).grown hg7 (Nat.le_trans hs6 hv.size) (fun j hj => by cases hj; exact Nat.le_refl _)
              clear hrun hM6 hC6 X6
              simp only [Act.put, List.setIfInBounds_toArray, List.set_cons_zero, List.set_cons_succ]
              go_wp2_with fail
              go_roundw
              case rel => exact ⟨i + 1 + 1, by omega, by go_num, hid (hst.out.trans HQ1.out), by rw [hnx.out]; exact hM7, hC7, hb7⟩
              case measure => simp [intOf]; omega
          · have hm0' : (MI == 0) = false := by simpa using hm0
            have HQ1 : Hid (q0 = false) := hid (by rw [hq.out, decide_eq_false hm0])
            clear hm0 hq
            go_upto_region 5 with fail
            generalize (wr.alloc (.cells #[.int .u32 bk, .bool lf, .slice a1 n1 c1, .slice a2 n2 c2, .slice a3 n3 c3, .slice a4 n4 c4] 48)) = w5 at *
            generalize wr.heap.size = kx at *
            have hb5 := HB5.out
            have hs5 : k0 ≤ w5.heap.size := by rw [← hk0]; exact hb5.size
            refine wp_region_quiet (C := fun u => Below w5.heap.size w5 u) (by kernel_rfl) (by kernel_rfl) ⟨rfl, rfl, rfl, Nat.le_refl _, fun _ _ => rfl⟩ ?_
            change wpQuiet _ _ _ _ (_ :: _) _
            repeat
              first
                | go_big_quiet_skip
                | go_big_quiet_want
                  first
                    | refine quiet_v ?_ ?_ ?_
                      rotate_left
                      · intro u hu
                        obtain ⟨x0, x1, x2, x3, x4, x5⟩ := (X5.later hu).c
                        have hpu := (hu.cell (p := ⟨b, off + i * 6, none⟩) hbk).trans hpc
                        go_simp
                        with_reducible rfl
                    | refine quiet_c (.int .i64 MI) 37 #[.agg #[.bool lf, .slice a1 n1 c1, .slice a2 n2 c2, .slice a3 n3 c3, .slice a4 n4 c4]] ?_ (fun u hu => (HMY.out u (hb5.trans (hu.mono hs5))).mono fun x u' h => ⟨h.1, hu.trans (h.2.mono hu.size)⟩) ?_
                      · intro u hu
                        obtain ⟨x0, x1, x2, x3, x4, x5⟩ := (X5.later hu).c
                        go_simp
                        done
                  go_simp
                  go_big_quiet_on
            refine wpQuiet_nil (fun u hu => ?_)
            go_wp2_with fail
            go_ret
            refine ⟨ret_bool (by rw [HG.out, hno.out HQ1.out, Bool.false_and]), ?_⟩
            have hb6 := hb5.trans (hu.mono hs5)
            first | exact hb6 | (rw [hk0]; exact hb6)
    · obtain rfl : j = n := by omega
      have hall : l.take j = l := by rw [← HN.out, List.take_length]
      rw [hall] at hM
      have HL2 := hid (HL.out hjn.out)
      have HG2 : Hid (G = l.all fun x => leadsB l x.nd) := hid (by rw [HG.out, hjn.out]; rfl)
      generalize lastD l = f at *
      clear hall HL HG hjn hj hlt
      go_wp2_with fail
      go_loopw [46] (fun i wr => ∃ q : Nat, q ≤ j ∧ i = .int .i64 q ∧ Hid ((l.take q).all (fun x => leadsB l x.nd) = true) ∧ GMap wr 35 .u16 k0 j f ∧ wr.heap[k0 + 1]? = some (.cells #[.map (some k0)] 107 (0, 0)) ∧ Below k0 w wr) (fun i _ => j - (intOf i).toNat)
      case atStart => exact ⟨0, Nat.zero_le _, rfl, by simp [Hid], hM, hC, hb⟩
      case round =>
        clear hM hC hb hbs
        obtain ⟨q, hq, rfl, hqn, hM, hC, hb⟩ := hrel
        have hbs : k0 ≤ wr.heap.size := by rw [← hk0]; exact hb.size
        by_cases hlt : q < j
        · have hlt' : q < l.length := by rw [HN.out]; exact hlt
          obtain ⟨b, off, rfl, h6, h7⟩ := (HI.out.later (by rw [hk0]; exact hb)).at hlt'
          have hxi := hin _ (List.getElem_mem hlt')
          have hxs := hsm _ (List.getElem_mem hlt')
          have hst := all_take_succ l (fun x => leadsB l x.nd) hlt'
          have hno := hid (fun hp => all_not l (fun x => leadsB l x.nd) hlt' hp)
          obtain ⟨x, HX⟩ : ∃ m, Hid (l[q] = m) := ⟨_, hid rfl⟩
          rw [HX.out] at h6 h7 hxi hxs hst hno
          have HLX := hid (HL2.out x.nd)
          have hbx := below_box wr (.cells #[.int .u32 x.blk, .bool x.nd.leaf, .slice x.pl.a1 x.nd.ps.length x.pl.c1, .slice x.pl.a2 x.nd.pv.length x.pl.c2, .slice x.pl.a3 x.nd.ks.length x.pl.c3, .slice x.pl.a4 x.nd.bf.length x.pl.c4] 48)
          have hM5 := hM.later hbx
          have hC5 := (hbx.block _ (Array.getElem?_eq_some_iff.1 hC).1).trans hC
          have hc5 := cell_of_row _ _ 0 _ _ _ hC5
          dsimp at hc5
          have HC := leads27 (k0 + 1) k0 j f x.nd x.pl _ hxs.few hxi.nd (h7.later hbx) hc5 hM5
          have X5 := I6.new wr (.int .u32 x.blk) (.bool x.nd.leaf) (.slice x.pl.a1 x.nd.ps.length x.pl.c1) (.slice x.pl.a2 x.nd.pv.length x.pl.c2) (.slice x.pl.a3 x.nd.ks.length x.pl.c3) (.slice x.pl.a4 x.nd.bf.length x.pl.c4)
          have hb5 : Below k0 w _ := hb.trans (hbx.mono hbs)
          obtain ⟨G1, HG1⟩ : ∃ g, Hid (leadsF f x.nd = g) := ⟨_, hid rfl⟩
          rw [HG1.out] at HC HLX
          have HST := hid (show (l.take (q + 1)).all (fun x => leadsB l x.nd) = G1 by rw [hst, hqn.out, HLX.out]; rfl)
          have HNO : Hid (G1 = false → G = false) := hid (fun e => by rw [HG2.out]; exact hno.out (by rw [HLX.out]; exact e))
          clear hst hno HLX hqn
          obtain ⟨bk, ⟨lf, ps, pv, ks, bf⟩, ⟨a1, c1, a2, c2, a3, c3, a4, c4⟩⟩ := x
          obtain ⟨d0, d1, d2, d3, d4, d5⟩ := h6
          dsimp only [nv] at *
          clear h7 hxi hxs hM hC hb hbx
          generalize ps.length = n1 at *
          generalize pv.length = n2 at *
          generalize ks.length = n3 at *
          generalize bf.length = n4 at *
          obtain ⟨x0, x1, x2, x3, x4, x5⟩ := X5.c
          clear X5
          have HB5 := hid hb5
          clear hb5
          cases G1
          · go_wp2_with fail
            refine HC.mono ?_
            rintro e w1 ⟨rfl, hb1⟩
            have hb6 := HB5.out.trans (hb1.mono (by simp; omega))
            go_wp2_with fail
            go_ret
            exact ⟨ret_bool (HNO.out (by first | rfl | trivial)).symm, by first | exact hb6 | (rw [hk0]; exact hb6)⟩
          · go_wp2_with fail
            refine HC.mono ?_
            rintro e w1 ⟨rfl, hb1⟩
            have hb6 := HB5.out.trans (hb1.mono (by simp; omega))
            have hM6 := hM5.later hb1
            have hC6 := (hb1.block _ (Array.getElem?_eq_some_iff.1 hC5).1).trans hC5
            go_wp2_with fail
            go_roundw
            case rel => exact ⟨q + 1, by omega, by go_num, HST, hM6, hC6, hb6⟩
            case measure => simp [intOf]; omega
        · obtain rfl : q = j := by omega
          go_wp2_with fail
          go_ret
          refine ⟨ret_bool ?_, by first | exact hb | (rw [hk0]; exact hb)⟩
          rw [HG2.out, ← hqn.out, ← HN.out, List.take_length]
end Go.Proofs.YtegmpfmhlpdmhaaGreat.Key
