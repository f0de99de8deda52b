/-
  Contract of nodesOf: the nodes of a right graph, by their blocks, with lists of the call's own.
-/
import Derived.Test.YtegmpfmhlpdmhaaGreatKv
import Derived.Test.YtegmpfmhlpdmhaaGreatRight
import Derived.Test.YtegmpfmhlpdmhaaGreatBump
namespace Go.Proofs.YtegmpfmhlpdmhaaGreat.Key
open Go.RowKit
open Draw
set_option linter.unusedVariables false
set_option linter.unusedSimpArgs false

/-- what is found in a right graph -/
def seenI (l : List It) (z : Int) : Option It := if rightB l then findI l z else none
theorem seen_end {l : List It} (h : rightB l = true) (z : Int) : lastX (l.take l.length) z = seenI l z := by
  unfold lastX seenI
  rw [List.take_length, if_pos h]
  have : upTo (stepB l) l.length = true := by
    unfold rightB at h
    rw [Bool.and_eq_true] at h
    exact h.1
  exact find_unique (rises this) z
set_option maxRecDepth 100000 in
set_option maxHeartbeats 1600000 in
theorem nodes21 (a : Option Addr) (c : Nat) (l : List It) (w : World) (hl : Fine l) (h : Items w a l) :
    Calls Tryz.prog 21 #[.slice a l.length c] w fun x w' => x = .returned (.map (some w.heap.size)) ∧ (∃ n, NMap w' w.heap.size n (seenI l)) ∧ Below w.heap.size w w' := by
  have hmm := @run_makeMap Tryz.prog
  have HR := hid (fun u (hu : Below w.heap.size w u) => right11 a c l u hl (h.later hu))
  obtain ⟨hln, hin, hsm⟩ := hl
  have hM0 := NMap.made w
  have hb0 : Below w.heap.size w (w.alloc (.map #[] 0)) := below_box w _
  have HE := hid (fun (hr : rightB l = true) => seen_end hr)
  have HF := hid (fun (hr : rightB l = false) (z : Int) => show seenI l z = none by unfold seenI; rw [hr]; rfl)
  generalize hG : rightB l = G at HR
  replace hG := hid hG
  generalize hn : l.length = n at *
  have HN := hid hn
  clear hn
  have HI := hid h
  clear h
  go_enter Tryz.func21, Tryz.ntmps21
  go_wp2_with fail
  refine (HR.out _ hb0).mono ?_
  clear HR
  rintro x w1 ⟨rfl, hb1⟩
  have hM1 := hM0.later hb1
  have hb2 : Below w.heap.size w w1 := hb0.trans (hb1.mono hb0.size)
  clear hM0 hb0 hb1 hmm
  generalize hk0 : w.heap.size = k0 at *
  cases G
  · go_wp2_with fail
    go_ret
    first
      | exact ⟨by rw [hk0]; rfl, ⟨0, by rw [hk0]; exact hM1.congr (fun z => (HF.out hG.out z).symm)⟩, by rw [hk0]; exact hb2⟩
      | exact ⟨rfl, ⟨0, hM1.congr (fun z => (HF.out hG.out z).symm)⟩, hb2⟩
  · go_wp2_with fail
    go_loopw [11] (fun i wr => ∃ j : Nat, j ≤ n ∧ i = .int .i64 j ∧ NMap wr k0 j (lastX (l.take j)) ∧ Below k0 w wr) (fun i _ => n - (intOf i).toNat)
    case atStart => exact ⟨0, Nat.zero_le _, rfl, hM1.congr (fun z => rfl), hb2⟩
    case round =>
      obtain ⟨j, hj, rfl, hM, hb⟩ := hrel
      have hbs : k0 ≤ wr.heap.size := by rw [← hk0]; exact hb.size
      by_cases hlt : j < n
      · have hlt' : j < l.length := by rw [HN.out]; exact hlt
        have hnx := hid (fun z => lastX_snoc hlt' z)
        have hxi := hin _ (List.getElem_mem hlt')
        have hxs := hsm _ (List.getElem_mem hlt')
        obtain ⟨b, off, rfl, h6, h7⟩ := (HI.out.later (by rw [hk0]; exact hb)).at hlt'
        obtain ⟨x, HX⟩ : ∃ m, Hid (l[j] = m) := ⟨_, hid rfl⟩
        rw [HX.out] at h6 h7 hnx hxi hxs
        have HOW := hid (fun u (hu : Below k0 w u) => own9 x.nd x.pl u hxs.few hxi.pl (by
          obtain ⟨_, _, _, _, h8⟩ := (HI.out.later (by rw [hk0]; exact hu)).at hlt'
          rw [HX.out] at h8
          exact h8))
        have hwb := hxi.blk
        have HQ := hid (fun (u : World) (m : Nat) (hm : NMap u k0 m (lastX (l.take j))) (hn : m < maxLen) (q : Pl) (hq : Lies u x.nd q) => hm.store hn x q hq hwb)
        have X5 := I6.new wr (.int .u32 x.blk) (.bool x.nd.leaf) (.slice x.pl.a1 x.nd.ps.length x.pl.c1) (.slice x.pl.a2 x.nd.pv.length x.pl.c2) (.slice x.pl.a3 x.nd.ks.length x.pl.c3) (.slice x.pl.a4 x.nd.bf.length x.pl.c4)
        have hbx : Below k0 w (wr.alloc (.cells #[.int .u32 x.blk, .bool x.nd.leaf, .slice x.pl.a1 x.nd.ps.length x.pl.c1, .slice x.pl.a2 x.nd.pv.length x.pl.c2, .slice x.pl.a3 x.nd.ks.length x.pl.c3, .slice x.pl.a4 x.nd.bf.length x.pl.c4] 48)) := hb.alloc hbs _
        have hM5 := hM.later (below_box wr (.cells #[.int .u32 x.blk, .bool x.nd.leaf, .slice x.pl.a1 x.nd.ps.length x.pl.c1, .slice x.pl.a2 x.nd.pv.length x.pl.c2, .slice x.pl.a3 x.nd.ks.length x.pl.c3, .slice x.pl.a4 x.nd.bf.length x.pl.c4] 48))
        obtain ⟨bk, nd, ⟨a1, c1, a2, c2, a3, c3, a4, c4⟩⟩ := x
        obtain ⟨d0, d1, d2, d3, d4, d5⟩ := h6
        dsimp only [nv] at *
        clear h7 hxi hxs hM hM1 hb2 HX
        generalize nd.leaf = lf at *
        go_upto_region 6 with fail
        have hlk : k0 < (wr.alloc (.cells #[.int .u32 bk, .bool lf, .slice a1 nd.ps.length c1, .slice a2 nd.pv.length c2, .slice a3 nd.ks.length c3, .slice a4 nd.bf.length c4] 48)).heap.size := hM5.lt
        generalize (wr.alloc (.cells #[.int .u32 bk, .bool lf, .slice a1 nd.ps.length c1, .slice a2 nd.pv.length c2, .slice a3 nd.ks.length c3, .slice a4 nd.bf.length c4] 48)) = u at *
        generalize wr.heap.size = kx at *
        have hbu := hid hbx
        have hus : k0 ≤ u.heap.size := Nat.le_of_lt hlk
        clear hbx hb d0 d1 d2 d3 d4 d5
        refine wp_region_last [(some 15, [], true), (some 16, [], false), (some 17, [(1, 16)], true), (some 18, [], false), (some 19, [(3, 18)], false), (some 20, [(4, 19)], true), (none, [(0, 15), (2, 17), (5, 20)], false)]
          (fun v => Below u.heap.size u v) (fun _ v v' => Below v.heap.size v v')
          (fun i v x => match i with | 0 => v = .map (some k0) | 1 => v = .pointer (some ⟨kx, 0, none⟩) | 2 => v = .int .u32 bk | 3 => v = .pointer (some ⟨kx, 1, none⟩) | 4 => v = .agg #[.bool lf, .slice a1 nd.ps.length c1, .slice a2 nd.pv.length c2, .slice a3 nd.ks.length c3, .slice a4 nd.bf.length c4] | 5 => ∃ q : Pl, v = .agg #[.bool lf, .slice q.a1 nd.ps.length q.c1, .slice q.a2 nd.pv.length q.c2, .slice q.a3 nd.ks.length q.c3, .slice q.a4 nd.bf.length q.c4] ∧ Lies x nd q | _ => True)
          (by kernel_rfl) (by kernel_rfl) (Below.refl _ _).drew (fun i u u' h h' => h.trans (h'.mono h.size)) (fun i j v u u' hn h h' hv => ?_) [(some 15, [], true), (some 16, [], false), (some 17, [(1, 16)], true), (some 18, [], false), (some 19, [(3, 18)], false), (some 20, [(4, 19)], true)] 6 rfl _ rfl rfl (by kernel_rfl) (by kernel_rfl) ⟨?_, ?_, ?_, ?_, ?_, ?_, trivial⟩ ?_
        · match j with
          | 0 => exact hv
          | 1 => exact hv
          | 2 => exact hv
          | 3 => exact hv
          | 4 => exact hv
          | 5 => obtain ⟨q, e, hq⟩ := hv; exact ⟨q, e, hq.later h'⟩
          | _ + 6 => trivial
        · rintro v hv
          exact opYields_val (.map (some k0)) (by kernel_rfl) (by go_simp) ⟨Below.refl _ _, rfl⟩
        · rintro v hv
          exact opYields_val _ (by kernel_rfl) (by go_simp) ⟨Below.refl _ _, rfl⟩
        · rintro v hv _ rfl
          obtain ⟨x0, x1, x2, x3, x4, x5⟩ := (X5.later hv).c
          exact opYields_val (.int .u32 bk) (by kernel_rfl) (by go_simp) ⟨Below.refl _ _, rfl⟩
        · rintro v hv
          exact opYields_val _ (by kernel_rfl) (by go_simp) ⟨Below.refl _ _, rfl⟩
        · rintro v hv _ rfl
          obtain ⟨x0, x1, x2, x3, x4, x5⟩ := (X5.later hv).c
          exact opYields_val (.agg #[.bool lf, .slice a1 nd.ps.length c1, .slice a2 nd.pv.length c2, .slice a3 nd.ks.length c3, .slice a4 nd.bf.length c4]) (by kernel_rfl) (by go_simp) ⟨Below.refl _ _, rfl⟩
        · rintro v hv _ rfl
          refine opYields_call 36 #[.agg #[.bool lf, .slice a1 nd.ps.length c1, .slice a2 nd.pv.length c2, .slice a3 nd.ks.length c3, .slice a4 nd.bf.length c4]] (by kernel_rfl) (by go_simp) ((HOW.out v (hbu.out.trans (hv.mono hus))).mono ?_)
          rintro x u' ⟨x1, x2, x3, x4, h1, h2, h3⟩
          obtain ⟨q, rfl, rfl, rfl, rfl, hq⟩ := h2.lies
          exact ⟨_, h1, h3, q, rfl, hq⟩
        · intro v hv x0 e0 x1 x2 e2 x3 x4 x5 e5
          replace e0 : x0 = .map (some k0) := e0
          replace e2 : x2 = .int .u32 bk := e2
          obtain ⟨q, e5, hq⟩ : ∃ q : Pl, x5 = .agg #[.bool lf, .slice q.a1 nd.ps.length q.c1, .slice q.a2 nd.pv.length q.c2, .slice q.a3 nd.ks.length q.c3, .slice q.a4 nd.bf.length q.c4] ∧ Lies v nd q := e5
          subst e0 e2 e5
          obtain ⟨u', hrun, hM7, hg7⟩ := HQ.out v j (hM5.later hv) (by unfold maxLen; omega) q hq
          refine Puts.mk u' (by kernel_rfl) (by simp [execOp, Act.eval, Act.put, hrun, Result.andThen]) ?_
          have hb7 := (hbu.out.trans (hv.mono hus)).grown hg7 (Nat.le_trans hus hv.size) (fun j hj => by cases hj; exact Nat.le_refl _)
          clear hrun hM5 X5
          simp only [Act.put, List.setIfInBounds_toArray, List.set_cons_zero, List.set_cons_succ]
          go_wp2_with fail
          go_roundw
          case rel => exact ⟨j + 1, by omega, by go_num, hM7.congr (fun z => (hnx.out z).symm), hb7⟩
          case measure => simp [intOf]; omega
      · obtain rfl : j = n := by omega
        go_wp2_with fail
        go_ret
        first
          | exact ⟨rfl, ⟨j, hM.congr (fun z => HE.out hG.out z)⟩, hb⟩
          | exact ⟨by rw [hk0]; rfl, ⟨j, by rw [hk0]; exact hM.congr (fun z => HE.out hG.out z)⟩, by rw [hk0]; exact hb⟩
end Go.Proofs.YtegmpfmhlpdmhaaGreat.Key
