/-
  Contract of the program's Ways.
-/
import Derived.Test.YtegmpfmhlpdmhaaKs
import Derived.Test.YtegmpfmhlpdmhaaKc
import Derived.Test.YtegmpfmhlpdmhaaKv
import Derived.Test.YtegmpfmhlpdmhaaRWays
namespace Go.Proofs.Ytegmpfmhlpdmhaa.Key
open Go.RowKit
set_option linter.unusedVariables false
set_option linter.unusedSimpArgs false

def wF (l S : List It) : Int → Option Value := fun z => if hasW S z then some (.int .i64 ((waysM l z : Nat) : Int)) else none
theorem wF_put {l S : List It} {j : Nat} (h : j < S.length) : putV (wF l (S.take j)) S[j].blk (.int .i64 ((waysM l S[j].blk : Nat) : Int)) = wF l (S.take (j + 1)) := by
  funext z
  unfold putV wF
  rw [hasW_snoc h]
  by_cases e : S[j].blk = z
  · subst e; simp
  · simp [e]
theorem wF_at {l S : List It} {z : Int} (h : hasW S z = true) : (wF l S z).getD (.int .i64 0) = .int .i64 ((waysM l z : Nat) : Int) := by
  unfold wF
  rw [if_pos h]
  rfl
theorem wF_end {l rl : List It} (hp : rl.Perm l) (hr : rightB l = true) (z : Int) : (wF l rl z).getD (.int .i64 0) = .int .i64 ((waysR l z : Nat) : Int) := by
  unfold wF
  rw [hasW_all hp]
  unfold waysR
  rw [if_pos hr]
  cases hf : findI l z with
  | none => rw [ways_out hf]; rfl
  | some x => rfl
set_option maxRecDepth 100000 in
set_option maxHeartbeats 1600000 in
theorem ways10 (a : Option Addr) (c : Nat) (l : List It) (root : Int) (w : World) (hl : Fine l) (hr : (Lit.int .u32 root).wf = true) (ha : a ≠ none) (hpos : 0 < l.length) (h : Items w a l) :
    Calls Try.prog 10 #[.slice a l.length c, .int .u32 root] w fun x w' => x = .returned (.int .i64 ((waysR l root : Nat) : Int)) ∧ Below w.heap.size w w' := by
  have hmm := @run_makeMap Try.prog
  have HR := hid (right11 a c l w hl h)
  have HC := hid (fun u (hu : Below w.heap.size w u) => clone27 a c l u hl.len ha (h.later hu))
  have HS := hid (fun u u' (hu : Below w.heap.size w u) (hu' : Below u.heap.size u u') v ho => sort28 l hl hpos u u' (fun x hx => by
    obtain ⟨i, hi, rfl⟩ := List.mem_iff_getElem.1 hx
    obtain ⟨_, _, _, _, h8⟩ := (h.later hu).at hi
    exact h8) hu' v ho)
  have HW := hid (show rightB l = false → waysR l root = 0 from fun hr => by unfold waysR; rw [hr]; rfl)
  have HE := hid (fun rl hp hr => wF_end (l := l) (rl := rl) hp hr root)
  generalize waysR l root = R at *
  generalize hG : rightB l = G at HR
  replace hG := hid hG
  have hnb := hl.len
  generalize hn : l.length = n at *
  have HN := hid hn
  clear hn h
  go_enter Try.func10, Try.ntmps10
  go_wp2_with fail
  refine HR.out.mono ?_
  clear HR
  rintro x w1 ⟨rfl, hb1⟩
  cases G
  · go_wp2_with fail
    go_ret
    exact ⟨by rw [HW.out hG.out]; rfl, hb1⟩
  · clear HW
    go_wp2_with fail
    refine (HC.out w1 hb1).mono ?_
    rintro x w2 ⟨v, rfl, ho, hb2⟩
    obtain ⟨blk, cap, rfl, hsort⟩ := HS.out w1 w2 hb1 hb2 v ho
    clear HC HS ho hb2
    go_wp2_with fail
    refine hsort.mono ?_
    clear hsort
    rintro x w3 ⟨rfl, rl, hp, hs, hI, hb3⟩
    have hb4 := hb1.trans (hb3.mono hb1.size)
    have hrn : rl.length = n := by rw [hp.length_eq, HN.out]
    have hM0 := VMap.made w3
    have hb5 := below_box w3 (.map #[] 0)
    clear hb1 hb3
    go_wp2_with fail
    go_loopw [22] (fun i wr => ∃ j : Nat, j ≤ n ∧ i = .int .i64 j ∧ VMap wr w3.heap.size j (wF l (rl.take j)) ∧ Below w3.heap.size w3 wr) (fun i _ => n - (intOf i).toNat)
    case atStart => exact ⟨0, Nat.zero_le _, rfl, by rw [show wF l (rl.take 0) = fun _ => none from rfl]; exact hM0, hb5⟩
    case round =>
      clear hM0 hb5
      obtain ⟨j, hj, rfl, hM, hb⟩ := hrel
      by_cases hjn : j < n
      · have hjl : j < rl.length := by rw [hrn]; exact hjn
        have hxm : rl[j] ∈ l := hp.mem_iff.1 (List.getElem_mem hjl)
        have hxs := hl.sml _ hxm
        have hxi := hl.inn _ hxm
        have hsw := hid (sumW_is hG.out hxm)
        have hta := hid (fun t ht => hasW_of (target_ahead hG.out hp hs hjl (t := t) ht))
        have hpu := hid (wF_put (l := l) hjl)
        obtain ⟨b, off, hbo, h6, h7⟩ := (hI.later hb).at hjl
        simp only [Option.some.injEq, Addr.mk.injEq, and_true] at hbo
        obtain ⟨rfl, rfl⟩ := hbo
        obtain ⟨x, HX⟩ : ∃ m, Hid (rl[j] = m) := ⟨_, hid rfl⟩
        rw [HX.out] at h6 h7 hxs hxi hsw hta hpu
        have hT := hid (fun u (hu : Below wr.heap.size wr u) => targets17 x.nd x.pl u hxs.few (h7.later hu))
        have hwb := hxi.blk
        have hTl : (targetsL x.nd).length ≤ 2000 := by
          unfold targetsL
          have g1 := blocks_len x.nd.bf
          have g2 := hxs.few.l3
          have g3 := hxs.few.l4
          rw [List.length_append, List.length_map]
          omega
        have hTw : ∀ t ∈ targetsL x.nd, (Lit.int .u32 t).wf = true := by
          intro t ht
          unfold targetsL at ht
          rcases List.mem_append.1 ht with ht | ht
          · obtain ⟨e, he, rfl⟩ := List.mem_map.1 ht
            exact (hxi.nd.ks e he).blk
          · unfold blocksL at ht
            obtain ⟨m, hm, rfl⟩ := List.mem_map.1 ht
            exact (hxi.nd.bf m (List.mem_filter.1 hm).1).blk
        have X5 := I6.new wr (.int .u32 x.blk) (.bool x.nd.leaf) (.slice x.pl.a1 x.nd.ps.length x.pl.c1) (.slice x.pl.a2 x.nd.pv.length x.pl.c2) (.slice x.pl.a3 x.nd.ks.length x.pl.c3) (.slice x.pl.a4 x.nd.bf.length x.pl.c4)
        have hbx := below_box wr (.cells #[.int .u32 x.blk, .bool x.nd.leaf, .slice x.pl.a1 x.nd.ps.length x.pl.c1, .slice x.pl.a2 x.nd.pv.length x.pl.c2, .slice x.pl.a3 x.nd.ks.length x.pl.c3, .slice x.pl.a4 x.nd.bf.length x.pl.c4] 52)
        obtain ⟨T, HT⟩ : ∃ m, Hid (targetsL x.nd = m) := ⟨_, hid rfl⟩
        rw [HT.out] at hsw hta hT hTl hTw
        obtain ⟨bk, ⟨lf, ps, pv, ks, bf⟩, ⟨a1, c1, a2, c2, a3, c3, a4, c4⟩⟩ := x
        obtain ⟨d0, d1, d2, d3, d4, d5⟩ := h6
        dsimp only [nv] at *
        simp only [Nat.zero_add] at d0 d1 d2 d3 d4 d5
        clear h7 hxs hxi
        obtain ⟨g0, g1, g2, g3, g4, g5⟩ := X5.c
        have hlti : (j : Int) < (n : Int) := by omega
        go_wp2_with fail
        refine (hT.out _ hbx).mono ?_
        clear hT
        rintro y w4 ⟨v, rfl, hOU, hb5⟩
        obtain ⟨ta, tc, rfl, hnu, _⟩ := hOU.nums
        have hb6 := hbx.trans (hb5.mono hbx.size)
        have hM4 := hM.later hb6
        have X6 := X5.later hb5
        clear d0 d1 d2 d3 d4 d5 g0 g1 g2 g3 g4 g5 hbx hb5 hM X5
        obtain ⟨m1, hm1⟩ : ∃ m, T.length = m := ⟨_, rfl⟩
        rw [hm1] at hTl ⊢
        have HM1 := hid hm1
        clear hm1
        go_wp2_with fail
        go_loopw [9, 30] (fun s i wq => ∃ t : Nat, t ≤ m1 ∧ i = .int .i64 t ∧ s = .int .i64 ((sumW l (T.take t) 1 : Nat) : Int) ∧ Below w4.heap.size w4 wq) (fun _ i _ => m1 - (intOf i).toNat)
        case atStart => exact ⟨0, Nat.zero_le _, rfl, rfl, Below.refl _ _⟩
        case round =>
          obtain ⟨t, ht, rfl, rfl, hq⟩ := hrel
          by_cases htm : t < m1
          · have htl : t < T.length := by rw [HM1.out]; exact htm
            have hst := hid (sumW_at (l := l) (s := 1) htl)
            have hsl := sumW_le (l := l) (ts := T.take t) (s := 1) (by omega)
            have hf := wF_at (l := l) (hta.out _ (List.getElem_mem htl))
            have hwt := hTw _ (List.getElem_mem htl)
            obtain ⟨b3, off3, rfl, hx3⟩ := (hnu.later hq).one htl
            obtain ⟨tk, HTK⟩ : ∃ m, Hid (T[t] = m) := ⟨_, hid rfl⟩
            rw [HTK.out] at hst hf hwt hx3
            have c3 := hx3.c0
            have hwm := waysM_le l tk
            have HF := hid hf
            clear hx3 hf
            generalize sumW l (T.take t) 1 = S0 at *
            generalize waysM l tk = WT at *
            have htmi : (t : Int) < (m1 : Int) := by omega
            have hMq := hM4.later hq
            have hw1 : IntKind.i64.wrap (1073741824 - (S0 : Int)) = 1073741824 - (S0 : Int) := by rw [IntKind.wrap_i64]; omega
            go_wp2_with (first | (at_lookup; refine lookV rfl _ _ 72 rfl 3 Try.underlying72 (zero3 _) w3.heap.size j (wF l (rl.take j)) rfl hMq tk rfl hwt ?_; rw [HF.out]) | fail)
            go_roundw
            case rel => exact ⟨t + 1, by omega, by go_num, by rw [hst.out]; congr 1; omega, hq⟩
            case measure => simp [intOf]; omega
          · obtain rfl : t = m1 := by omega
            have hdd : T.take t = T := by rw [← HM1.out, List.take_length]
            have hMq := hM4.later hq
            have hbq := hb6.trans (hq.mono hb6.size)
            obtain ⟨g0, g1, g2, g3, g4, g5⟩ := (X6.later hq).c
            rw [hdd, hsw.out]
            rw [HX.out] at *
            obtain ⟨u', hrun, hM7, hg7⟩ := hMq.store Try.underlying72 (by unfold maxLen; omega) bk (.int .i64 ((waysM l bk : Nat) : Int)) hwb
            have hb8 := hb.trans (hbq.mono hb.size)
            have hb7 := hb8.grown hg7 hb8.size (fun k hk => by cases hk; exact Nat.le_refl _)
            rw [hpu.out] at hM7
            clear hMq hM4
            go_wp2_with fail
            go_roundw
            case rel => exact ⟨j + 1, by omega, by go_num, hM7, hb7⟩
            case measure => simp [intOf]; omega
      · obtain rfl : j = n := by omega
        rw [show rl.take j = rl by rw [← hrn, List.take_length]] at hM
        have HF := hid (HE.out rl hp hG.out)
        have hbk := hb4.trans (hb.mono hb4.size)
        go_wp2_with (first | (at_lookup; refine lookV rfl _ _ 72 rfl 3 Try.underlying72 (zero3 _) w3.heap.size j (wF l rl) rfl hM root rfl hr ?_; rw [HF.out]) | fail)
        go_ret
        exact ⟨rfl, hbk⟩
end Go.Proofs.Ytegmpfmhlpdmhaa.Key
