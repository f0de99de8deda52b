/-
  Contract of Last, the program's: it goes back through a slice by the library's slices.Backward.
  Contracts of Up, the program's and the document's; blocks that hold a lift.
  Operations of a region that only reads, one by one. No program is named here.
-/
import Derived.Test.YtegmpfmhlpdmhaaGreatKt
import Derived.RangeFuncNested
import Derived.RangeFuncBound
import Derived.RangeFuncCalls
import Derived.RangeFuncLeaves
import Derived.Shelf.Abstract
import Derived.Shelf.RegionOpen
import Derived.OwnWalkIn
import Derived.TacticsInMore
import Derived.LoopNIn
import Derived.LoopIn
import Derived.Test.YtegmpfmhlpdmhaaGreatWg
import Derived.Test.YtegmpfmhlpdmhaaGreatPp
namespace Go.Proofs.YtegmpfmhlpdmhaaGreat.Key
open Go.RowKit Go.Shelf
open Go.Op (bytesLess)
attribute [local go_sem] Oper.semAt_some

set_option maxRecDepth 100000 in
set_option maxHeartbeats 2000000 in
theorem back55 (F : Fence) (n : Nat) (h55 : F.fn 70) (hro : F.round = none) (hn : 1 ≤ n) (lp Bs n₀ : Nat) (a : Option Addr) (c : Nat) (l : List MK) (hl : l.length ≤ maxLen) (hB : ∀ ad, a = some ad → l ≠ [] → ad.block < n₀) (hBn : Bs < n₀) (J Jx : List (Nat × MK) → World → Prop)
    (hY : ∀ pre x W, J pre W → pre.length < l.length → YieldAt F (n - 1) Tryz.prog lp #[.int .i64 (x.1 : Int), mv x.2.1] W fun e W' =>
      (e = .returned (.bool true) ∧ J (pre ++ [x]) W' ∧ Below n₀ W W') ∨ (e = .returned (.bool false) ∧ Jx (pre ++ [x]) W'))
    (W : World) (hBs : W.cell? ⟨Bs, 0, none⟩ = some (.slice a l.length c)) (hc : Msgs W a (msOf l)) (h0 : J [] W) :
    CallsIn F n Tryz.prog 70 #[.func (.yield lp) #[] #[], .pointer (some ⟨Bs, 0, none⟩)] W fun e W' => (∃ v, e = .returned v) ∧
      ((∃ ys, ys = back l l.length ∧ J ys W') ∨ (∃ pre, (∃ k, k ≤ l.length ∧ pre = back l k) ∧ Jx pre W')) := by
  unfold maxLen at hl
  have hI := toI_len l.length
  have hB' : ∀ ad, a = some ad → msOf l ≠ [] → ad.block < n₀ := fun ad e h => hB ad e (by rintro rfl; exact h rfl)
  refine callsIn_of_wp Tryz.func70 rfl h55 ?_ hro
  simp only [Tryz.ntmps70, List.size_toArray, List.length_cons, List.length_nil, Nat.reduceAdd, Nat.reduceSub, Array.replicate_succ, Array.replicate_zero, List.push_toArray, List.append_toArray, List.nil_append, List.cons_append]
  gi_wp2
  gi_loopw [3] (fun i wr => ∃ j k : Nat, j + k = l.length ∧ i = .int .i64 (toI j) ∧ J (back l k) wr ∧ Below n₀ W wr)
    (fun i _ => (intOf i + 1).toNat)
  case atStart => exact ⟨l.length, 0, rfl, by first | rfl | simp [hI], h0, Below.refl _ _⟩
  case round =>
    obtain ⟨j, k, hjk, rfl, hJs, hnx⟩ := hrel
    have hBs' := (hnx.cell (p := ⟨Bs, 0, none⟩) hBn).trans hBs
    cases j with
    | zero =>
      have hk : k = l.length := by omega
      rw [show toI 0 = -1 from rfl]
      gi_wp2
      go_end0
      exact ⟨⟨_, rfl⟩, .inl ⟨_, rfl, by rw [← hk]; exact hJs⟩⟩
    | succ j =>
      have hlt : j < l.length := by omega
      have hlt' : j < (msOf l).length := by rw [msOf_length]; exact hlt
      obtain ⟨b, off, rfl, h6⟩ := (hc.below hnx hB').at hlt'
      rw [msOf_at l j hlt] at h6
      obtain ⟨c0, c1, c2, c3, c4, c5⟩ := h6
      obtain ⟨fn, tmps, assign, body, hy, hR⟩ := hY _ (j, l[j]) wr hJs (by rw [back_length]; omega)
      dsimp only at hy
      have hb1 := back_at (by omega : j + 1 + k = l.length) hlt
      have HB1 := hid hb1
      clear hb1
      generalize hx : l[j] = x at *
      have HX := hid hx
      clear hx
      obtain ⟨⟨kd, ky, vl, bk, dp, ad⟩, hky⟩ := x
      rw [show toI (j + 1) = (j : Int) from rfl]
      dsimp only at c0 c1 c2 c3 c4 c5 hy hR
      gi_wp2
      refine hR.mono ?_
      rintro e W3 (⟨rfl, hJ3, hk3⟩ | ⟨rfl, hJx3⟩)
      · gi_wp2
        go_roundw
        case rel => exact ⟨j, k + 1, by omega, by first | rfl | simp [toI_len], by rw [HB1.out]; exact hJ3, hnx.trans hk3⟩
        case measure => simp [intOf]
      · gi_wp2
        refine bodyPost_ret (results_none rfl _ _ _) rfl ?_
        exact ⟨⟨_, rfl⟩, .inr ⟨_, ⟨k + 1, by omega, HB1.out.symm⟩, hJx3⟩⟩
set_option maxRecDepth 100000 in
set_option maxHeartbeats 1000000 in
/-- slices.Backward -/
theorem backward48 (F : Fence) (n : Nat) (h48 : F.fn 61) (hro : F.round = none) (a : Option Addr) (len cap : Nat) (w : World) :
    CallsIn F n Tryz.prog 61 #[.slice a len cap] w fun e w' => e = .returned (.func (.func 70) #[] #[.pointer (some ⟨w.heap.size, 0, none⟩)]) ∧ w' = w.alloc (.cells #[.slice a len cap] 43) := by
  refine callsIn_of_wp Tryz.func61 rfl h48 ?_ hro
  simp only [Tryz.ntmps61, List.size_toArray, List.length_cons, List.length_nil, Nat.reduceAdd, Nat.reduceSub, Array.replicate_succ, Array.replicate_zero, List.push_toArray, List.append_toArray, List.nil_append, List.cons_append]
  gi_wp2
  go_ret
  exact ⟨rfl, rfl⟩
theorem back_stops (F : Fence) (n : Nat) (h55 : F.fn 70) (hro : F.round = none) (hn : 1 ≤ n) (Bs : Nat) (a : Option Addr) (c : Nat) (l : List MK) (hl : l.length ≤ maxLen) (w : World)
    (hBs : w.cell? ⟨Bs, 0, none⟩ = some (.slice a l.length c)) (hc : Msgs w a (msOf l)) :
    SeqStopsK F n Tryz.prog 70 #[.pointer (some ⟨Bs, 0, none⟩)] (fun x : Nat × MK => #[Value.int .i64 (x.1 : Int), mv x.2.1]) (Below w.heap.size) (fun ys => ys = back l l.length)
      (fun pre => ∃ k, k ≤ l.length ∧ pre = back l k) l.length w := fun lp J Jx W hW _ _ hY h0 => by
  have hlt := World.block_lt_of_cell? w _ hBs
  have hB : ∀ ad, a = some ad → l ≠ [] → ad.block < w.heap.size := fun ad e h => hc.lt ad e (fun h' => h (List.map_eq_nil_iff.1 h'))
  exact back55 F n h55 hro hn lp Bs w.heap.size a c l hl hB hlt J Jx hY W ((hW.cell (p := ⟨Bs, 0, none⟩) hlt).trans hBs) (hc.later hW) h0
set_option maxRecDepth 100000 in
set_option maxHeartbeats 2000000 in
/-- Last, the program's -/
theorem last40 (a : Option Addr) (c : Nat) (l : List MK) (k : ByteArray) (w : World) (hl : l.length ≤ maxLen) (hm : Msgs w a (msOf l)) :
    Calls Tryz.prog 39 #[.slice a l.length c, .string k] w fun x w' => x = .returned (.int .i64 (lastI (msOf l) k.data.toList)) ∧ Below w.heap.size w w' := by
  have HN := hid (fun n => @back_none l k.data.toList n)
  have HS := hid (fun j n => @back_some l k.data.toList j n)
  generalize lastI (msOf l) k.data.toList = R at *
  have hS := fun (x : MK) w => speaks49 x.1 k w x.2
  refine (callsIn_wide (n := 5)).1 ?_
  refine callsIn_of_wp_marks Tryz.func39 rfl trivial ?_ rfl
  simp only [Tryz.ntmps39, List.size_toArray, List.length_cons, List.length_nil, Nat.reduceAdd, Nat.reduceSub, Array.replicate_succ, Array.replicate_zero, List.push_toArray, List.append_toArray, List.nil_append, List.cons_append]
  gi_wp2_with (refine ⟨trivial, ?_⟩; gi_at_call 61; refine (backward48 Fence.wide _ trivial rfl _ _ _ _).mono ?_; rintro e w' ⟨rfl, rfl⟩)
  have bK := ((Boxed.new w 9 (.string k)).alloc (.cells #[.int .i64 0] 3)).alloc (.cells #[.slice a l.length c] 43)
  have bR := (Boxed.new (w.alloc (.cells #[.string k] 9)) 3 (.int .i64 0)).alloc (.cells #[.slice a l.length c] 43)
  have bS := Boxed.new ((w.alloc (.cells #[.string k] 9)).alloc (.cells #[.int .i64 0] 3)) 43 (.slice a l.length c)
  simp only [World.size_alloc] at bR bS
  have hB0 : Below w.heap.size w (((w.alloc (.cells #[.string k] 9)).alloc (.cells #[.int .i64 0] 3)).alloc (.cells #[.slice a l.length c] 43)) := (((Below.refl _ w).alloc (Nat.le_refl _) _).alloc (by simp) _).alloc (by simp; omega) _
  have hsz : (((w.alloc (.cells #[.string k] 9)).alloc (.cells #[.int .i64 0] 3)).alloc (.cells #[.slice a l.length c] 43)).heap.size = w.heap.size + 3 := by simp
  obtain ⟨W0, hW0⟩ : ∃ W0, ((w.alloc (.cells #[.string k] 9)).alloc (.cells #[.int .i64 0] 3)).alloc (.cells #[.slice a l.length c] 43) = W0 := ⟨_, rfl⟩
  rw [hW0] at bK bR bS hB0 hsz ⊢
  clear hW0
  refine wpIn_rangeFunc_ownH rfl (by omega) (gf := 70) (lb := #[.pointer (some ⟨w.heap.size + 1 + 1, 0, none⟩)]) rfl trivial (enters_of Tryz.func70 (by kernel_rfl) rfl)
    (back_stops Fence.wide _ trivial rfl (by omega) (w.heap.size + 1 + 1) a c l hl W0 bS.cell (hm.later hB0)) belowK_t (belowK_b (by omega)) (Below.refl _ _) (fun _ => rfl)
    (fun pre W => (Boxed W w.heap.size 9 (.string k) ∧ Boxed W (w.heap.size + 1) 3 (.int .i64 0)) ∧ ((∀ p ∈ pre, speaks p.2.1 k.data.toList = false) ∧ (Below w.heap.size w W ∧ W0.heap.size ≤ W.heap.size)))
    (fun c pre W => (c = .ret ∧ ∃ ini last, pre = ini ++ [last] ∧ (∀ p ∈ ini, speaks p.2.1 k.data.toList = false) ∧ speaks last.2.1 k.data.toList = true ∧ Boxed W (w.heap.size + 1) 3 (.int .i64 (last.1 : Int))) ∧ Below w.heap.size w W)
    (OwnFrom.and (OwnFrom.and (Go.Own.from (boxed_own _ _ _) _) (Go.Own.from (boxed_own _ _ _) _)) (OwnFrom.and (ownFrom_pure _ _) (OwnFrom.and (ownFrom_below (Nat.le_refl _) (by omega)) (fun _ _ _ _ hs hg _ => Nat.le_trans hs hg.size))))
    (fun c => OwnFrom.and (Go.Own.from (fun s A B row hs hg hr => by obtain ⟨hc, ini, last, e1, e2, e3, e4⟩ := hs; exact ⟨hc, ini, last, e1, e2, e3, boxed_own _ 3 (fun (_ : Unit) => Value.int .i64 (last.1 : Int)) () A B row e4 hg hr⟩) _) (ownFrom_below (Nat.le_refl _) (by omega)))
    ⟨⟨bK, bR⟩, by simp, hB0, Nat.le_refl _⟩
    (fun x a' W => ∃ Bx, w.heap.size + 1 < Bx ∧ MBox W Bx x.2.1 ∧ a' = { tmps := #[.slice a l.length c, .string k, undef, .pointer (some ⟨w.heap.size, 0, none⟩), .pointer (some ⟨w.heap.size + 1, 0, none⟩), .int .i64 (x.1 : Int), .pointer (some ⟨Bx, 0, none⟩), .slice a l.length c, .func (.func 70) #[] #[.pointer (some ⟨w.heap.size + 1 + 1, 0, none⟩)], .int .i64 (x.1 : Int), mv x.2.1, undef, undef, undef, undef], defers := [] })
    (fun x a' _ X Y row hs hg hr => by obtain ⟨Bx, h1, h2, h3⟩ := hs; exact ⟨Bx, h1, mbox_own Bx (fun (_ : Unit) => x.2.1) () X Y row h2 hg (fun r e => (hr r e).2), h3⟩)
    ?assign ?body ?done ?stop
  case assign =>
    rintro lp pre x W K ⟨⟨bK1, bR1⟩, hp, hB1, hz1⟩ hK
    gi_wp2
    exact hK _ _ ((KeepsOthers.alloc _ _).from _) ((Below.refl _ W).alloc hz1 _) ⟨⟨bK1.alloc _, bR1.alloc _⟩, hp, hB1.alloc hB1.size _, by simp; omega⟩ ⟨W.heap.size, bR1.lt, MBox.new W _, rfl⟩
  case body =>
    rintro lp pre x a' W hlp ⟨r, hr⟩ ⟨⟨bK1, bR1⟩, hp, hB1, hz1⟩ ⟨Bx, hBx, bX, rfl⟩ hlt
    have hS' := hS x.2
    have HP := hid hp
    clear hS hp
    have cK := bK1.cell
    obtain ⟨c0, c1, c2, c3, c4, c5⟩ := bX.six
    cases hs : speaks x.2.1 k.data.toList
    · rw [hs] at hS'
      gi_wp2_with (refine ⟨trivial, ?_⟩; gi_at_call 62; refine (CallsIn.inRound lp (callsIn_wide.2 (hS' _))).mono ?_; clear hS'; rintro e w1 ⟨rfl, hb1⟩)
      refine ⟨(keeps_below hb1).from _, hb1.mono hz1, ⟨⟨boxed_later bK1 hb1, boxed_later bR1 hb1⟩, fun p h => ?_, hB1.trans (hb1.mono hB1.size), Nat.le_trans hz1 hb1.size⟩⟩
      rcases List.mem_append.1 h with h | h
      · exact HP.out p h
      · rw [List.mem_singleton.1 h]; exact hs
    · rw [hs] at hS'
      gi_wp2_with (refine ⟨trivial, ?_⟩; gi_at_call 62; refine (CallsIn.inRound lp (callsIn_wide.2 (hS' _))).mono ?_; clear hS'; rintro e w1 ⟨rfl, hb1⟩; have bR2 := boxed_later bR1 hb1; have cR2 := bR2.cell; have fR2 := bR2.frozen)
      exact ⟨(keeps_below hb1).from _ |>.trans ((KeepsOthers.setCell _ _ _).from _), ⟨rfl, pre, x, rfl, HP.out, hs, bR2.set _⟩, (hB1.trans (hb1.mono hB1.size)).setCell (p := ⟨w.heap.size + 1, 0, none⟩) (by simp) _⟩
  case done =>
    rintro D ys W hD rfl ⟨⟨bK1, bR1⟩, hp, hB1, hz1⟩ hK
    have HP := hid hp
    clear hp
    have cR := bR1.cell
    have fR := bR1.frozen
    gi_wp2
    have hK' := (KeepsOthers.setCell W ⟨w.heap.size + 1, 0, none⟩ (.int .i64 (-1))).same D _ hK rfl
    refine ⟨by simp, .inl ⟨_, _, rfl, run_takeDeferred hK', ?_⟩⟩
    have hc5 := cell_kept (World.cell?_setCell_same' W ⟨w.heap.size + 1, 0, none⟩ (.int .i64 (-1)) (by rw [cR]; rfl)) (grownBy_putObj' _ D (.deferred none)) (fun r e => by cases e; exact ⟨_, hK', rfl⟩)
    refine ⟨.int .i64 (-1), ?_, ?_, (hB1.setCell (p := ⟨w.heap.size + 1, 0, none⟩) (by simp) _).trans (belowK_b (w := w) (Nat.le_refl _) _ D _ _ (by omega) hK' rfl rfl)⟩
    · simp [results, Tryz.f39, go_sem, hc5]
    · rw [HN.out l.length (Nat.le_refl _) HP.out, Nat.sub_self]
      rfl
  case stop =>
    rintro D cc pre W hD ⟨n, hn, rfl⟩ ⟨⟨rfl, ini, last, e1, e2, e3, bR1⟩, hB1⟩ hK
    have H1 := hid e1
    have H2 := hid e2
    have H3 := hid e3
    clear e1 e2 e3
    gi_wp2
    refine ⟨by simp, .inl ⟨_, _, rfl, run_takeDeferred hK, ?_⟩⟩
    have hc5 := cell_kept bR1.cell (grownBy_putObj' _ D (.deferred none)) (fun r e => by cases e; exact ⟨_, hK, rfl⟩)
    refine ⟨.int .i64 (last.1 : Int), ?_, ?_, hB1.trans (belowK_b (w := w) (Nat.le_refl _) W D _ _ (by omega) hK rfl rfl)⟩
    · simp [results, Tryz.f39, go_sem, hc5]
    · have e1 := H1.out
      cases n with
      | zero => simp [back] at e1
      | succ n =>
        obtain ⟨j, hj⟩ : ∃ j, j + 1 + n = l.length := ⟨l.length - 1 - n, by omega⟩
        rw [back_at hj (by omega)] at e1
        obtain ⟨rfl, e5⟩ := List.append_inj' e1 rfl
        obtain rfl : (j, l[j]'(by omega)) = last := by simpa using e5
        rw [HS.out j n hj H2.out H3.out]
end Go.Proofs.YtegmpfmhlpdmhaaGreat.Key

namespace Go.Proofs.YtegmpfmhlpdmhaaGreat.Key
open Go.RowKit
open Go.Op (bytesLess)

set_option maxRecDepth 100000 in
set_option maxHeartbeats 1000000 in
/-- Up, the program's -/
theorem up50 (s a k : ByteArray) (w : World) (ha : a.size ≤ 1000000) (hk : k.size ≤ 1000000) :
    Calls Tryz.prog 63 #[lv s a, .string k] w fun x w' => x = .returned (.tuple #[.string (upS (lf s a) k.data.toList), .bool (upB (lf s a) k.data.toList)]) ∧ Below w.heap.size w w' := by
  have HC := has58 k s
  cases h : has k.data.toList s.data.toList
  · rw [h] at HC
    rw [upS_no h, upB_eq h]
    clear h
    go_enter Tryz.func63, Tryz.ntmps63
    go_wp2_with fail
    refine (HC _).mono ?_
    clear HC
    rintro x w' ⟨rfl, rfl⟩
    go_wp2_with fail
    exact bodyPost_ret (v := .tuple #[.string ⟨#[]⟩, .bool false]) (by simp [results, Tryz.results63, go_sem]) rfl ⟨rfl, below_one _ _⟩
  · have hz := has_size h
    have hz' : (s.size : Int) ≤ (k.size : Int) := by omega
    rw [h] at HC
    rw [upS_yes h, upB_eq h]
    clear h
    go_enter Tryz.func63, Tryz.ntmps63
    go_wp2_with fail
    refine (HC _).mono ?_
    clear HC
    rintro x w' ⟨rfl, rfl⟩
    go_wp2_with fail
    go_quiet (fail)
    go_wp2_with fail
    exact bodyPost_ret (v := .tuple #[.string (a ++ k.extract s.size k.size), .bool true]) (by simp [results, Tryz.results63, go_sem]) rfl ⟨rfl, below_drew (below_one _ _) _⟩
end Go.Proofs.YtegmpfmhlpdmhaaGreat.Key

namespace Go.Proofs.YtegmpfmhlpdmhaaGreat.Key
open Go.RowKit

end Go.Proofs.YtegmpfmhlpdmhaaGreat.Key
