/-
  Contract of the document's Ways.
-/
import Derived.Test.YtegmpfmhlpdmhaaGreatKc
import Derived.Test.YtegmpfmhlpdmhaaGreatOwnRs
import Derived.Test.YtegmpfmhlpdmhaaGreatRightRef
namespace Go.Proofs.YtegmpfmhlpdmhaaGreat.Key
open Go.RowKit
open Draw
set_option linter.unusedVariables false
set_option linter.unusedSimpArgs false

theorem lev_len (l : List It) (d : Nat) : (lev l d).length ≤ l.length := List.length_filter_le _ _
theorem levs_len (l : List It) : ∀ D, (levs l D).length ≤ D * l.length
  | 0 => by simp [levs]
  | D + 1 => by
    rw [levs_succ, List.length_append, Nat.succ_mul]
    exact Nat.add_le_add (levs_len l D) (lev_len l _)
theorem waysM_le (l : List It) (b : Int) : waysM l b ≤ 1073741824 := by
  unfold waysM M30
  omega
theorem sumD_le {done : List Rf} {t : Int} : ∀ {s : Nat}, s ≤ 1073741824 → sumD done t s ≤ 1073741824 := by
  unfold sumD
  induction done with
  | nil => intro s h; exact h
  | cons r done ih =>
    intro s h
    rw [List.foldl_cons]
    refine ih ?_
    split
    · unfold M30; omega
    · exact h
theorem sumT_le {done : List Rf} {ts : List Int} : ∀ {s : Nat}, s ≤ 1073741824 → sumT done ts s ≤ 1073741824 := by
  unfold sumT
  induction ts with
  | nil => intro s h; exact h
  | cons t ts ih => intro s h; rw [List.foldl_cons]; exact ih (sumD_le h)
theorem sumD_at {done : List Rf} {t : Int} {s j : Nat} (h : j < done.length) : sumD (done.take (j + 1)) t s = if done[j].blk = t then min (sumD (done.take j) t s + done[j].n.toNat) 1073741824 else sumD (done.take j) t s := by
  unfold sumD
  rw [List.take_succ_eq_append_getElem h, List.foldl_append]
  rfl
theorem sumT_at {done : List Rf} {ts : List Int} {s k : Nat} (h : k < ts.length) : sumT done (ts.take (k + 1)) s = sumD done ts[k] (sumT done (ts.take k) s) := by
  unfold sumT
  rw [List.take_succ_eq_append_getElem h, List.foldl_append]
  rfl
set_option maxRecDepth 100000 in
set_option maxHeartbeats 1600000 in
theorem rways11 (a : Option Addr) (c : Nat) (l : List It) (root : Int) (w : World) (hl : Fine l) (hs : l.length ≤ 100) (h : Items w a l) :
    Calls Tryz.prog 11 #[.slice a l.length c, .int .u32 root] w fun x w' => x = .returned (.int .i64 ((waysR l root : Nat) : Int)) ∧ Below w.heap.size w w' := by
  have HR := hid (fun u (hu : Below w.heap.size w u) => right12 a c l u hl (h.later hu))
  have HW := hid (show rightB l = false → waysR l root = 0 from fun hr => by unfold waysR; rw [hr]; rfl)
  have HW1 := hid (show rightB l = true → waysR l root = waysM l root from fun hr => by unfold waysR; rw [if_pos hr])
  have HE := hid (fun hr => ways_end (l := l) hr root)
  generalize waysR l root = R at *
  generalize hG : rightB l = G at HR
  replace hG := hid hG
  generalize hn : l.length = n at *
  have HN := hid hn
  clear hn
  have HI := hid h
  clear h
  go_enter Tryz.func11, Tryz.ntmps11
  go_wp2_with fail
  refine (HR.out _ (Below.refl _ _)).mono ?_
  clear HR
  rintro x w1 ⟨rfl, hb1⟩
  cases G
  · go_wp2_with fail
    go_ret
    exact ⟨by rw [HW.out hG.out]; rfl, hb1⟩
  · clear HW
    go_wp2_with fail
    have O1 := OwnR.made w1
    have hb2 := below_box w1 (.cells #[] 66)
    have hB1 : w1.heap.size ≤ (w1.alloc (.cells #[] 66)).heap.size := by simp
    generalize hk0 : w.heap.size = k0 at *
    generalize w1.alloc (.cells #[] 66) = w2 at *
    generalize hB0 : w1.heap.size = B at *
    have hB : k0 ≤ B := by rw [← hk0, ← hB0]; exact hb1.size
    go_loopw [5, 6] (fun o d wr => ∃ D : Nat, D ≤ n ∧ d = .int .i64 ((D : Int) + 1) ∧ OwnR wr B o ((levs l D).map (wref l)) ∧ Below B w1 wr) (fun _ d _ => n + 2 - (intOf d).toNat)
    case atStart => exact ⟨0, Nat.zero_le _, rfl, O1, hb2⟩
    case round =>
      clear O1 hb2
      obtain ⟨D, hD, rfl, hO, hbB⟩ := hrel
      by_cases hlt : D < n
      · have hlt2 : (D : Int) + 1 ≤ (n : Int) := by omega
        go_wp2_with fail
        go_loopw [5, 25] (fun o i wr => ∃ j : Nat, j ≤ n ∧ i = .int .i64 j ∧ OwnR wr B o ((levs l D ++ lev (l.take j) (D + 1)).map (wref l)) ∧ Below B w1 wr) (fun _ i _ => n - (intOf i).toNat)
        case atStart => exact ⟨0, Nat.zero_le _, rfl, by simpa [lev] using hO, hbB⟩
        case round =>
          clear hO hbB
          obtain ⟨j, hj, rfl, hO, hbB⟩ := hrel
          have hb : Below k0 w wr := hb1.trans (hbB.mono hB)
          have hBs : B ≤ wr.heap.size := by rw [← hB0]; exact hbB.size
          have hbs : k0 ≤ wr.heap.size := by rw [← hk0]; exact hb.size
          by_cases hjn : j < n
          · have hjl : j < l.length := by rw [HN.out]; exact hjn
            have hls := hid (lev_step (d := D + 1) hjl)
            have hxm := List.getElem_mem hjl
            have hxs := hl.sml _ hxm
            have hxi := hl.inn _ hxm
            have hsi := hid (fun (hr : rightB l = true) => sum_is hr hxm D j)
            obtain ⟨b, off, rfl, h6, h7⟩ := (HI.out.later (by rw [hk0]; exact hb)).at hjl
            obtain ⟨x, HX⟩ : ∃ m, Hid (l[j] = m) := ⟨_, hid rfl⟩
            rw [HX.out] at h6 h7 hls hxs hxi hsi
            have HDP := hid (deep15 x.nd x.pl wr hxs h7)
            have HTG := hid (fun u (hu : Below wr.heap.size wr u) => targets18 x.nd x.pl u hxs.few (h7.later hu))
            obtain ⟨DI, HDI⟩ : ∃ m, Hid (deepI x.nd = m) := ⟨_, hid rfl⟩
            have hdi := deepI_in hxs
            obtain ⟨WM, HWM⟩ : ∃ m, Hid (wref l x = m) := ⟨_, hid rfl⟩
            rw [HDI.out] at HDP hls hsi hdi
            have hwx : IntKind.i64.wrap DI = DI := by rw [IntKind.wrap_i64]; omega
            have hin6 : ItC wr b (off + j * 6) x := h6
            obtain ⟨bk, ⟨lf, ps, pv, ks, bf⟩, ⟨a1, c1, a2, c2, a3, c3, a4, c4⟩⟩ := x
            obtain ⟨d0, d1, d2, d3, d4, d5⟩ := h6
            dsimp only [nv] at *
            clear h7
            have hlti : (j : Int) < (n : Int) := by omega
            by_cases hd : DI = (D : Int) + 1
            · have hd' : (DI == (D : Int) + 1) = true := by simpa using hd
              obtain ⟨DN, HDN⟩ : ∃ m, Hid ((levs l D ++ lev (l.take j) (D + 1)).map (wref l) = m) := ⟨_, hid rfl⟩
              have hdl : ((levs l D ++ lev (l.take j) (D + 1)).map (wref l)).length ≤ 100000 := by
                have g1 := levs_len l D
                have g2 := lev_len (l.take j) (D + 1)
                have g3 : (l.take j).length ≤ 100 := by rw [List.length_take, HN.out]; omega
                have g4 : D * l.length ≤ 100 * 100 := Nat.mul_le_mul (by omega) (by rw [HN.out]; exact hs)
                rw [List.length_map, List.length_append]
                omega
              have hdn0 : ∀ r ∈ (levs l D ++ lev (l.take j) (D + 1)).map (wref l), 0 ≤ r.n ∧ r.n ≤ 1073741824 := by
                intro r hr
                obtain ⟨y, _, rfl⟩ := List.mem_map.1 hr
                have := waysM_le l y.blk
                unfold wref
                dsimp only
                omega
              have hsi2 := hsi.out hG.out (by omega)
              rw [HDN.out] at hO hdl hdn0 hsi2
              obtain ⟨m2, hm2⟩ : ∃ m, DN.length = m := ⟨_, rfl⟩
              obtain ⟨ra, rc, rfl, hrf, hrz⟩ := hO.refs
              rw [hm2] at hO hdl hrz ⊢
              have HM2 := hid hm2
              clear hm2
              go_wp2_with fail
              refine HDP.out.mono ?_
              clear HDP
              rintro y w3 ⟨rfl, hb3⟩
              have hb4 := hb.trans (hb3.mono hbs)
              have hin7 : ItC w3 b (off + j * 6) _ := hin6.below hb3 hin6.lt
              obtain ⟨d0, d1, d2, d3, d4, d5⟩ := hin7
              dsimp only at d0 d1 d2 d3 d4 d5
              go_wp2_with fail
              refine (HTG.out w3 hb3).mono ?_
              clear HTG
              rintro y w4 ⟨v, rfl, hOU, hb5⟩
              have hb6 := hb4.trans (hb5.mono (Nat.le_trans hbs hb3.size))
              have hs4 : k0 ≤ w4.heap.size := Nat.le_trans (Nat.le_trans hbs hb3.size) hb5.size
              have hb7 := hb3.trans (hb5.mono hb3.size)
              have hB4 := hbB.trans (hb7.mono hBs)
              have hBs4 : B ≤ w4.heap.size := Nat.le_trans hBs hb7.size
              have hrf4 := hrf.later hb7
              have hO4 := OwnR.later hO hb7
              have hin8 : ItC w4 b (off + j * 6) _ := (hin6.below hb3 hin6.lt).below hb5 (hin6.below hb3 hin6.lt).lt
              clear d0 d1 d2 d3 d4 d5 hb4 hb5 hb3 hO hrf
              obtain ⟨ta, tc, rfl, hnu, _⟩ := hOU.nums
              obtain ⟨TL, HTL⟩ : ∃ m, Hid (targetsL ⟨lf, ps, pv, ks, bf⟩ = m) := ⟨_, hid rfl⟩
              rw [HTL.out] at hnu hsi2 ⊢
              obtain ⟨m1, hm1⟩ : ∃ m, TL.length = m := ⟨_, rfl⟩
              rw [hm1]
              have hm1b : m1 ≤ 2000 := by
                rw [← hm1, ← HTL.out]
                show (ks.map (·.blk) ++ blocksL bf).length ≤ 2000
                have g1 := blocks_len bf
                have g2 := hxs.few.l3
                have g3 := hxs.few.l4
                dsimp only at g2 g3
                rw [List.length_append, List.length_map]
                omega
              have HM1 := hid hm1
              clear hm1
              clear hin6
              go_wp2_with fail
              go_loopw [8, 45] (fun s k wq => ∃ t : Nat, t ≤ m1 ∧ k = .int .i64 t ∧ s = .int .i64 ((sumT DN (TL.take t) 1 : Nat) : Int) ∧ Below w4.heap.size w4 wq) (fun _ k _ => m1 - (intOf k).toNat)
              case atStart => exact ⟨0, Nat.zero_le _, rfl, rfl, Below.refl _ _⟩
              case round =>
                obtain ⟨t, ht, rfl, rfl, hq⟩ := hrel
                by_cases htm : t < m1
                · have htl : t < TL.length := by rw [HM1.out]; exact htm
                  have hst := hid (sumT_at (done := DN) (s := 1) htl)
                  have hsl := sumT_le (done := DN) (ts := TL.take t) (s := 1) (by omega)
                  generalize sumT DN (TL.take t) 1 = S0 at *
                  obtain ⟨tk, HTK⟩ : ∃ m, Hid (TL[t] = m) := ⟨_, hid rfl⟩
                  rw [HTK.out] at hst
                  have htmi : (t : Int) < (m1 : Int) := by omega
                  go_wp2_with fail
                  go_loopw [8, 50] (fun s q wv => ∃ r : Nat, r ≤ m2 ∧ q = .int .i64 r ∧ s = .int .i64 ((sumD (DN.take r) tk S0 : Nat) : Int) ∧ Below w4.heap.size w4 wv) (fun _ q _ => m2 - (intOf q).toNat)
                  case atStart => exact ⟨0, Nat.zero_le _, rfl, rfl, hq⟩
                  case round =>
                    clear hq
                    obtain ⟨r, hr, rfl, rfl, hq⟩ := hrel
                    by_cases hrm : r < m2
                    · have hrl : r < DN.length := by rw [HM2.out]; exact hrm
                      have hsd := hid (sumD_at (t := tk) (s := S0) hrl)
                      have hsl2 := sumD_le (done := DN.take r) (t := tk) hsl
                      generalize sumD (DN.take r) tk S0 = S1 at *
                      obtain ⟨b2, off2, rfl, hx2⟩ := (hrf4.later hq).one hrl
                      obtain ⟨b3, off3, rfl, hx3⟩ := (hnu.later hq).one htl
                      rw [HTK.out] at hx3
                      have hxn := hdn0 _ (List.getElem_mem hrl)
                      obtain ⟨y, HY⟩ : ∃ m, Hid (DN[r] = m) := ⟨_, hid rfl⟩
                      rw [HY.out] at hx2 hxn hsd
                      obtain ⟨xb, xn⟩ := y
                      obtain ⟨c0, c1⟩ := hx2
                      have c3 := hx3.c0
                      clear hx3
                      dsimp only at c0 c1 hxn hsd
                      have hrmi : (r : Int) < (m2 : Int) := by omega
                      by_cases e : xb = tk
                      · have e' : (xb == tk) = true := by simpa using e
                        rw [if_pos e] at hsd
                        have hwn : IntKind.i64.wrap xn = xn := by rw [IntKind.wrap_i64]; omega
                        have hws : IntKind.i64.wrap ((S1 : Int) + xn) = (S1 : Int) + xn := by rw [IntKind.wrap_i64]; omega
                        clear e
                        go_upto_region 19 with fail
                        go_quiet (fail)
                        go_wp2_with fail
                        refine ⟨⟨r + 1, hrm, by go_num, ?_, below_drew hq _⟩, by simp [intOf]; omega⟩
                        rw [hsd.out]
                        congr 1
                        split <;> omega
                      · have e' : (xb == tk) = false := by simpa using e
                        rw [if_neg e] at hsd
                        clear e
                        go_upto_region 19 with fail
                        go_quiet (fail)
                        go_wp2_with fail
                        go_roundw
                        case rel => exact ⟨r + 1, by omega, by go_num, by rw [hsd.out], below_drew hq _⟩
                        case measure => simp [intOf]; omega
                    · obtain rfl : r = m2 := by omega
                      have hdd : DN.take r = DN := by rw [← HM2.out, List.take_length]
                      rw [hdd]
                      have htm2 : t + 1 ≤ m1 := htm
                      have htm3 := hid htm
                      go_wp2_with fail
                      go_roundw
                      case rel => exact ⟨t + 1, htm3.out, by go_num, by rw [hst.out], hq⟩
                      case measure => have := htm3.out; simp [intOf]; omega
                · obtain rfl : t = m1 := by omega
                  have hdd : TL.take t = TL := by rw [← HM1.out, List.take_length]
                  have hBq := hB4.trans (hq.mono hBs4)
                  have hOq := OwnR.later hO4 hq
                  obtain ⟨d0, d1, d2, d3, d4, d5⟩ := hin8.below hq hin8.lt
                  dsimp only at d0 d1 d2 d3 d4 d5
                  have hsz : B ≤ wr.heap.size := by rw [← hB0]; exact hBq.size
                  rw [hdd, hsi2]
                  have hwm := waysM_le l bk
                  have hWM : wref l _ = _ := HWM.out
                  obtain ⟨WW, HWW⟩ : ∃ m, Hid (waysM l bk = m) := ⟨_, hid rfl⟩
                  rw [HWW.out] at hwm ⊢
                  have hmod : (WW : Int) % 4294967296 = (WW : Int) := by omega
                  have hdl2 : DN.length ≤ 100000 := by rw [HM2.out]; exact hdl
                  go_wp2_with (first | (at_builtin; go_loud (refine appR (w0 := w1) rfl _ _ rfl B _ DN rfl hOq bk (WW : Int) wr.heap.size rfl rfl hdl2 hsz hBq ?_); intro v' w7 h1 h2 _) | fail)
                  refine ⟨⟨j + 1, hjn, by go_num, ?_, h2⟩, by simp [intOf]; omega⟩
                  rw [hls.out, if_pos (by omega), ← List.append_assoc, List.map_append, HDN.out]
                  show OwnR w7 B v' (DN ++ [⟨bk, ((waysM l bk : Nat) : Int)⟩])
                  rw [HWW.out]
                  exact h1
            · have hd' : (DI == (D : Int) + 1) = false := by simpa using hd
              go_wp2_with fail
              refine HDP.out.mono ?_
              clear HDP
              rintro y w3 ⟨rfl, hb3⟩
              have hb4 := hb.trans (hb3.mono hbs)
              go_wp2_with fail
              go_roundw
              case rel => exact ⟨j + 1, by omega, by go_num, by rw [hls.out, if_neg (by omega), List.append_nil]; exact hO.later hb3, hbB.trans (hb3.mono hBs)⟩
              case measure => simp [intOf]; omega
          · have htl : l.take n = l := by rw [← HN.out, List.take_length]
            obtain rfl : j = n := by omega
            rw [htl] at hO
            go_wp2_with fail
            go_roundw
            case rel => exact ⟨D + 1, by omega, by go_num, by rw [levs_succ]; exact hO, hbB⟩
            case measure => simp [intOf]; omega
      · have hDD := hid hD
        obtain rfl : D = n := by omega
        have hng : ¬ (D : Int) + 1 ≤ (D : Int) := by omega
        have HE2 := HE.out hG.out
        have hR := HW1.out hG.out
        have hdn0 : ∀ r ∈ (levs l D).map (wref l), 0 ≤ r.n ∧ r.n ≤ 1073741824 := by
          intro r hr
          obtain ⟨y, _, rfl⟩ := List.mem_map.1 hr
          have := waysM_le l y.blk
          unfold wref
          dsimp only
          omega
        have hdl : ((levs l D).map (wref l)).length ≤ 100000 := by
          have g1 := levs_len l D
          have g4 : D * l.length ≤ 100 * 100 := Nat.mul_le_mul (by omega) (by rw [HN.out]; exact hs)
          rw [List.length_map]
          omega
        have hout := fun h => ways_out (l := l) (root := root) h
        obtain ⟨DN, HDN⟩ : ∃ m, Hid ((levs l D).map (wref l) = m) := ⟨_, hid rfl⟩
        rw [HDN.out] at hO HE2 hdn0 hdl
        obtain ⟨m2, hm2⟩ : ∃ m, DN.length = m := ⟨_, rfl⟩
        obtain ⟨ra, rc, rfl, hrf, hrz⟩ := hO.refs
        rw [hm2] at hO hrz hdl ⊢
        have HM2 := hid hm2
        clear hm2 HE hlt hO
        generalize waysM l root = WR at *
        go_wp2_with fail
        go_loopw [88] (fun i wq => ∃ q : Nat, q ≤ m2 ∧ i = .int .i64 q ∧ Hid ((DN.take q).any (fun r => r.blk == root) = false) ∧ Refs wq ra DN ∧ Below B w1 wq) (fun i _ => m2 - (intOf i).toNat)
        case atStart => exact ⟨0, Nat.zero_le _, rfl, hid (by simp), hrf, hbB⟩
        case round =>
          clear hrf hbB
          obtain ⟨q, hq, rfl, hno, hrf, hbB⟩ := hrel
          have hbk : Below k0 w wr := hb1.trans (hbB.mono hB)
          by_cases hqm : q < m2
          · have hql : q < DN.length := by rw [HM2.out]; exact hqm
            obtain ⟨b2, off2, rfl, hx2⟩ := hrf.one hql
            have hxn := hdn0 _ (List.getElem_mem hql)
            have hfa := hid (fun h => find_at (fun r : Rf => r.blk == root) DN q hql hno.out h)
            have hns := hid (any_take_succ DN (fun r : Rf => r.blk == root) hql)
            obtain ⟨y, HY⟩ : ∃ m, Hid (DN[q] = m) := ⟨_, hid rfl⟩
            rw [HY.out] at hx2 hxn hfa hns
            obtain ⟨xb, xn⟩ := y
            obtain ⟨c0, c1⟩ := hx2
            dsimp only at c0 c1 hxn hfa hns
            have hrmi : (q : Int) < (m2 : Int) := by omega
            have hwn : IntKind.i64.wrap xn = xn := by rw [IntKind.wrap_i64]; omega
            by_cases e : xb = root
            · have e' : (xb == root) = true := by simpa using e
              have hval : xn = (R : Int) := by
                rw [hfa.out e'] at HE2
                rw [hR]
                cases hf : (findI l root).isSome
                · rw [hf] at HE2; simp at HE2
                · rw [hf] at HE2; simpa using HE2
              subst hval
              clear e
              go_wp2_with fail
              go_ret
              exact ⟨by rw [hR]; rfl, by first | exact hbk | (rw [hk0]; exact hbk)⟩
            · have e' : (xb == root) = false := by simpa using e
              clear e
              go_wp2_with fail
              go_roundw
              case rel => exact ⟨q + 1, by omega, by go_num, hid (by rw [hns.out, hno.out, e']; rfl), hrf, hbB⟩
              case measure => simp [intOf]; omega
          · obtain rfl : q = m2 := by omega
            have hz : R = 0 := by
              rw [hR]
              have : DN.find? (fun r => r.blk == root) = none := find_no _ _ (by have := hno.out; rwa [show DN.take q = DN by rw [← HM2.out, List.take_length]] at this)
              rw [this] at HE2
              cases hf : findI l root with
              | none => exact hout hf
              | some x => rw [hf] at HE2; simp at HE2
            go_wp2_with fail
            go_ret
            exact ⟨by rw [hz]; rfl, by first | exact hbk | (rw [hk0]; exact hbk)⟩
end Go.Proofs.YtegmpfmhlpdmhaaGreat.Key
