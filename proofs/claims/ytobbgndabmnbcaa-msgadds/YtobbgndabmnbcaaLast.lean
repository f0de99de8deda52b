/-
  Contract of Last, the program's: it goes back through a slice by the library's slices.Backward.
-/
import Derived.Test.YtobbgndabmnbcaaLastRef
import Derived.RangeFuncNested
import Derived.RangeFuncBound
import Derived.RangeFuncCalls
import Derived.RangeFuncLeaves
import Derived.Shelf.Abstract
import Derived.Shelf.RegionOpen
import Derived.OwnWalkIn
import Derived.TacticsInMore
import Derived.LoopNIn
import Derived.LoopIn
namespace Go.Proofs.Ytobbgndabmnbcaa.Key
open Go.RowKit Go.Shelf
open Go.Op (bytesLess)
attribute [local go_sem] Oper.semAt_some

/-- messages whose keys aren't too long -/
abbrev MK := { m : M // m.key.size ≤ 1000 }
def MK.nil : MK := ⟨M.nil, by decide⟩
/-- what has come when k rounds are over -/
def back (l : List MK) (k : Nat) : List (Nat × MK) := (List.range k).map fun j => (l.length - 1 - j, l[l.length - 1 - j]?.getD MK.nil)
theorem back_succ (l : List MK) (k : Nat) : back l (k + 1) = back l k ++ [(l.length - 1 - k, l[l.length - 1 - k]?.getD MK.nil)] := by simp [back, List.range_succ]
theorem back_at {l : List MK} {j k : Nat} (h : j + 1 + k = l.length) (hj : j < l.length) : back l (k + 1) = back l k ++ [(j, l[j])] := by
  rw [back_succ, show l.length - 1 - k = j by omega, List.getElem?_eq_getElem hj]
  rfl
theorem back_length (l : List MK) (k : Nat) : (back l k).length = k := by simp [back]
/-- one less, down to -1 -/
def toI : Nat → Int | 0 => -1 | n + 1 => n
theorem toI_len (n : Nat) : (n : Int) - 1 = toI n := by
  cases n with
  | zero => rfl
  | succ n => simp [toI]
def msOf (l : List MK) : List M := l.map (·.1)
theorem msOf_length (l : List MK) : (msOf l).length = l.length := by simp [msOf]
theorem msOf_at (l : List MK) (j : Nat) (h : j < l.length) (h' : j < (msOf l).length) : (msOf l)[j] = l[j].1 := by simp [msOf]
theorem msOf_of (l : List M) (h : ∀ m ∈ l, m.key.size ≤ 1000) : ∃ lk, l = msOf lk := by
  induction l with
  | nil => exact ⟨[], rfl⟩
  | cons m l ih =>
    obtain ⟨lk, rfl⟩ := ih fun x hx => h x (List.mem_cons_of_mem _ hx)
    exact ⟨⟨m, h m (List.mem_cons_self ..)⟩ :: lk, rfl⟩

set_option maxRecDepth 100000 in
set_option maxHeartbeats 2000000 in
theorem back50 (F : Fence) (n : Nat) (h50 : F.fn 50) (hro : F.round = none) (hn : 1 ≤ n) (lp Bs n₀ : Nat) (a : Option Addr) (c : Nat) (l : List MK) (hl : l.length ≤ maxLen) (hB : ∀ ad, a = some ad → l ≠ [] → ad.block < n₀) (hBn : Bs < n₀) (J Jx : List (Nat × MK) → World → Prop)
    (hY : ∀ pre x W, J pre W → pre.length < l.length → YieldAt F (n - 1) Try.prog lp #[.int .i64 (x.1 : Int), mv x.2.1] W fun e W' =>
      (e = .returned (.bool true) ∧ J (pre ++ [x]) W' ∧ Below n₀ W W') ∨ (e = .returned (.bool false) ∧ Jx (pre ++ [x]) W'))
    (W : World) (hBs : W.cell? ⟨Bs, 0, none⟩ = some (.slice a l.length c)) (hc : Msgs W a (msOf l)) (h0 : J [] W) :
    CallsIn F n Try.prog 50 #[.func (.yield lp) #[] #[], .pointer (some ⟨Bs, 0, none⟩)] W fun e W' => (∃ v, e = .returned v) ∧
      ((∃ ys, ys = back l l.length ∧ J ys W') ∨ (∃ pre, (∃ k, k ≤ l.length ∧ pre = back l k) ∧ Jx pre W')) := by
  unfold maxLen at hl
  have hI := toI_len l.length
  have hB' : ∀ ad, a = some ad → msOf l ≠ [] → ad.block < n₀ := fun ad e h => hB ad e (by rintro rfl; exact h rfl)
  refine callsIn_of_wp Try.func50 rfl h50 ?_ hro
  simp only [Try.ntmps50, List.size_toArray, List.length_cons, List.length_nil, Nat.reduceAdd, Nat.reduceSub, Array.replicate_succ, Array.replicate_zero, List.push_toArray, List.append_toArray, List.nil_append, List.cons_append]
  gi_wp2
  gi_loopw [3] (fun i wr => ∃ j k : Nat, j + k = l.length ∧ i = .int .i64 (toI j) ∧ J (back l k) wr ∧ Below n₀ W wr)
    (fun i _ => (intOf i + 1).toNat)
  case atStart => exact ⟨l.length, 0, rfl, by first | rfl | simp [hI], h0, Below.refl _ _⟩
  case round =>
    obtain ⟨j, k, hjk, rfl, hJs, hnx⟩ := hrel
    have hBs' := (hnx.cell (p := ⟨Bs, 0, none⟩) hBn).trans hBs
    cases j with
    | zero =>
      have hk : k = l.length := by omega
      rw [show toI 0 = -1 from rfl]
      gi_wp2
      go_end0
      exact ⟨⟨_, rfl⟩, .inl ⟨_, rfl, by rw [← hk]; exact hJs⟩⟩
    | succ j =>
      have hlt : j < l.length := by omega
      have hlt' : j < (msOf l).length := by rw [msOf_length]; exact hlt
      obtain ⟨b, off, rfl, h6⟩ := (hc.below hnx hB').at hlt'
      rw [msOf_at l j hlt] at h6
      obtain ⟨c0, c1, c2, c3, c4, c5⟩ := h6
      obtain ⟨fn, tmps, assign, body, hy, hR⟩ := hY _ (j, l[j]) wr hJs (by rw [back_length]; omega)
      dsimp only at hy
      have hb1 := back_at (by omega : j + 1 + k = l.length) hlt
      have HB1 := hid hb1
      clear hb1
      generalize hx : l[j] = x at *
      have HX := hid hx
      clear hx
      obtain ⟨⟨kd, ky, vl, bk, dp, ad⟩, hky⟩ := x
      rw [show toI (j + 1) = (j : Int) from rfl]
      dsimp only at c0 c1 c2 c3 c4 c5 hy hR
      gi_wp2
      refine hR.mono ?_
      rintro e W3 (⟨rfl, hJ3, hk3⟩ | ⟨rfl, hJx3⟩)
      · gi_wp2
        go_roundw
        case rel => exact ⟨j, k + 1, by omega, by first | rfl | simp [toI_len], by rw [HB1.out]; exact hJ3, hnx.trans hk3⟩
        case measure => simp [intOf]
      · gi_wp2
        refine bodyPost_ret (results_none rfl _ _ _) rfl ?_
        exact ⟨⟨_, rfl⟩, .inr ⟨_, ⟨k + 1, by omega, HB1.out.symm⟩, hJx3⟩⟩
set_option maxHeartbeats 1000000 in
/-- slices.Backward -/
theorem backward34 (F : Fence) (n : Nat) (h34 : F.fn 34) (hro : F.round = none) (a : Option Addr) (len cap : Nat) (w : World) :
    CallsIn F n Try.prog 34 #[.slice a len cap] w fun e w' => e = .returned (.func (.func 50) #[] #[.pointer (some ⟨w.heap.size, 0, none⟩)]) ∧ w' = w.alloc (.cells #[.slice a len cap] 22) := by
  refine callsIn_of_wp Try.func34 rfl h34 ?_ hro
  simp only [Try.ntmps34, List.size_toArray, List.length_cons, List.length_nil, Nat.reduceAdd, Nat.reduceSub, Array.replicate_succ, Array.replicate_zero, List.push_toArray, List.append_toArray, List.nil_append, List.cons_append]
  gi_wp2
  go_ret
  exact ⟨rfl, rfl⟩
theorem back_stops (F : Fence) (n : Nat) (h50 : F.fn 50) (hro : F.round = none) (hn : 1 ≤ n) (Bs : Nat) (a : Option Addr) (c : Nat) (l : List MK) (hl : l.length ≤ maxLen) (w : World)
    (hBs : w.cell? ⟨Bs, 0, none⟩ = some (.slice a l.length c)) (hc : Msgs w a (msOf l)) :
    SeqStopsK F n Try.prog 50 #[.pointer (some ⟨Bs, 0, none⟩)] (fun x : Nat × MK => #[Value.int .i64 (x.1 : Int), mv x.2.1]) (Below w.heap.size) (fun ys => ys = back l l.length)
      (fun pre => ∃ k, k ≤ l.length ∧ pre = back l k) l.length w := fun lp J Jx W hW _ _ hY h0 => by
  have hlt := World.block_lt_of_cell? w _ hBs
  have hB : ∀ ad, a = some ad → l ≠ [] → ad.block < w.heap.size := fun ad e h => hc.lt ad e (fun h' => h (List.map_eq_nil_iff.1 h'))
  exact back50 F n h50 hro hn lp Bs w.heap.size a c l hl hB hlt J Jx hY W ((hW.cell (p := ⟨Bs, 0, none⟩) hlt).trans hBs) (hc.later hW) h0
theorem mbox_own {β : Type} (B : Nat) (f : β → M) : Go.Own (fun s W => MBox W B (f s)) := fun s X Y row hs hg hrow => by
  refine (hg.block B hs.lt (fun e => ?_)).trans hs
  obtain ⟨o, ho, hc⟩ := hrow B e.symm
  rw [show X.heap[B]? = _ from hs] at ho
  cases ho
  cases hc
theorem keeps_below {W W' : World} (h : Below W.heap.size W W') : KeepsOthers W W' := ⟨h.size, fun k _ hk _ => (h.block k (Array.getElem?_eq_some_iff.1 hk).1).trans hk⟩
theorem boxed_later {W W' : World} {B : Nat} {t : TypeId} {v : Value} (h : Boxed W B t v) (hb : Below W.heap.size W W') : Boxed W' B t v := (hb.block B h.lt).trans h

/-- nothing of what came speaks -/
theorem back_none {l : List MK} {k : List UInt8} : ∀ {n : Nat}, n ≤ l.length → (∀ p ∈ back l n, speaks p.2.1 k = false) → lastI (msOf l) k = lastP (msOf l) k (l.length - n) := by
  intro n
  induction n with
  | zero => intro _ _; unfold lastI; rw [msOf_length]; rfl
  | succ n ih =>
    intro hn h
    rw [back_succ] at h
    rw [ih (by omega) (fun p hp => h p (List.mem_append_left _ hp)), show l.length - n = (l.length - (n + 1)) + 1 by omega]
    have hlt : l.length - (n + 1) < l.length := by omega
    have hs := h (l.length - 1 - n, l[l.length - 1 - n]?.getD MK.nil) (List.mem_append_right _ (List.mem_cons_self ..))
    dsimp only at hs
    rw [show l.length - 1 - n = l.length - (n + 1) by omega, List.getElem?_eq_getElem hlt] at hs
    rw [lastP_succ (by rw [msOf_length]; exact hlt), msOf_at l _ hlt]
    simp only [Option.getD_some] at hs
    rw [hs]
    rfl
theorem back_some {l : List MK} {k : List UInt8} {j n : Nat} (hj : j + 1 + n = l.length) (h : ∀ p ∈ back l n, speaks p.2.1 k = false) (hs : speaks (l[j]'(by omega)).1 k = true) : lastI (msOf l) k = j := by
  rw [back_none (by omega) h, show l.length - n = j + 1 by omega, lastP_succ (by rw [msOf_length]; omega), msOf_at l j (by omega), hs]
  rfl

set_option maxRecDepth 100000 in
set_option maxHeartbeats 2000000 in
/-- Last, the program's -/
theorem last16 (a : Option Addr) (c : Nat) (l : List MK) (k : ByteArray) (w : World) (hl : l.length ≤ maxLen) (hm : Msgs w a (msOf l)) :
    Calls Try.prog 16 #[.slice a l.length c, .string k] w fun x w' => x = .returned (.int .i64 (lastI (msOf l) k.data.toList)) ∧ Below w.heap.size w w' := by
  have HN := hid (fun n => @back_none l k.data.toList n)
  have HS := hid (fun j n => @back_some l k.data.toList j n)
  generalize lastI (msOf l) k.data.toList = R at *
  have hS := fun (x : MK) w => speaks12 x.1 k w x.2
  refine (callsIn_wide (n := 5)).1 ?_
  refine callsIn_of_wp_marks Try.func16 rfl trivial ?_ rfl
  simp only [Try.ntmps16, List.size_toArray, List.length_cons, List.length_nil, Nat.reduceAdd, Nat.reduceSub, Array.replicate_succ, Array.replicate_zero, List.push_toArray, List.append_toArray, List.nil_append, List.cons_append]
  gi_wp2_with (refine ⟨trivial, ?_⟩; gi_at_call 34; refine (backward34 Fence.wide _ trivial rfl _ _ _ _).mono ?_; rintro e w' ⟨rfl, rfl⟩)
  have bK := ((Boxed.new w 9 (.string k)).alloc (.cells #[.int .i64 0] 3)).alloc (.cells #[.slice a l.length c] 22)
  have bR := (Boxed.new (w.alloc (.cells #[.string k] 9)) 3 (.int .i64 0)).alloc (.cells #[.slice a l.length c] 22)
  have bS := Boxed.new ((w.alloc (.cells #[.string k] 9)).alloc (.cells #[.int .i64 0] 3)) 22 (.slice a l.length c)
  simp only [World.size_alloc] at bR bS
  have hB0 : Below w.heap.size w (((w.alloc (.cells #[.string k] 9)).alloc (.cells #[.int .i64 0] 3)).alloc (.cells #[.slice a l.length c] 22)) := (((Below.refl _ w).alloc (Nat.le_refl _) _).alloc (by simp) _).alloc (by simp; omega) _
  have hsz : (((w.alloc (.cells #[.string k] 9)).alloc (.cells #[.int .i64 0] 3)).alloc (.cells #[.slice a l.length c] 22)).heap.size = w.heap.size + 3 := by simp
  obtain ⟨W0, hW0⟩ : ∃ W0, ((w.alloc (.cells #[.string k] 9)).alloc (.cells #[.int .i64 0] 3)).alloc (.cells #[.slice a l.length c] 22) = W0 := ⟨_, rfl⟩
  rw [hW0] at bK bR bS hB0 hsz ⊢
  clear hW0
  refine wpIn_rangeFunc_ownH rfl (by omega) (gf := 50) (lb := #[.pointer (some ⟨w.heap.size + 1 + 1, 0, none⟩)]) rfl trivial (enters_of Try.func50 (by kernel_rfl) rfl)
    (back_stops Fence.wide _ trivial rfl (by omega) (w.heap.size + 1 + 1) a c l hl W0 bS.cell (hm.later hB0)) belowK_t (belowK_b (by omega)) (Below.refl _ _) (fun _ => rfl)
    (fun pre W => (Boxed W w.heap.size 9 (.string k) ∧ Boxed W (w.heap.size + 1) 3 (.int .i64 0)) ∧ ((∀ p ∈ pre, speaks p.2.1 k.data.toList = false) ∧ (Below w.heap.size w W ∧ W0.heap.size ≤ W.heap.size)))
    (fun c pre W => (c = .ret ∧ ∃ ini last, pre = ini ++ [last] ∧ (∀ p ∈ ini, speaks p.2.1 k.data.toList = false) ∧ speaks last.2.1 k.data.toList = true ∧ Boxed W (w.heap.size + 1) 3 (.int .i64 (last.1 : Int))) ∧ Below w.heap.size w W)
    (OwnFrom.and (OwnFrom.and (Go.Own.from (boxed_own _ _ _) _) (Go.Own.from (boxed_own _ _ _) _)) (OwnFrom.and (ownFrom_pure _ _) (OwnFrom.and (ownFrom_below (Nat.le_refl _) (by omega)) (fun _ _ _ _ hs hg _ => Nat.le_trans hs hg.size))))
    (fun c => OwnFrom.and (Go.Own.from (fun s A B row hs hg hr => by obtain ⟨hc, ini, last, e1, e2, e3, e4⟩ := hs; exact ⟨hc, ini, last, e1, e2, e3, boxed_own _ 3 (fun (_ : Unit) => Value.int .i64 (last.1 : Int)) () A B row e4 hg hr⟩) _) (ownFrom_below (Nat.le_refl _) (by omega)))
    ⟨⟨bK, bR⟩, by simp, hB0, Nat.le_refl _⟩
    (fun x a' W => ∃ Bx, w.heap.size + 1 < Bx ∧ MBox W Bx x.2.1 ∧ a' = { tmps := #[.slice a l.length c, .string k, undef, .pointer (some ⟨w.heap.size, 0, none⟩), .pointer (some ⟨w.heap.size + 1, 0, none⟩), .int .i64 (x.1 : Int), .pointer (some ⟨Bx, 0, none⟩), .slice a l.length c, .func (.func 50) #[] #[.pointer (some ⟨w.heap.size + 1 + 1, 0, none⟩)], .int .i64 (x.1 : Int), mv x.2.1, undef, undef, undef, undef], defers := [] })
    (fun x a' _ X Y row hs hg hr => by obtain ⟨Bx, h1, h2, h3⟩ := hs; exact ⟨Bx, h1, mbox_own Bx (fun (_ : Unit) => x.2.1) () X Y row h2 hg (fun r e => (hr r e).2), h3⟩)
    ?assign ?body ?done ?stop
  case assign =>
    rintro lp pre x W K ⟨⟨bK1, bR1⟩, hp, hB1, hz1⟩ hK
    gi_wp2
    exact hK _ _ ((KeepsOthers.alloc _ _).from _) ((Below.refl _ W).alloc hz1 _) ⟨⟨bK1.alloc _, bR1.alloc _⟩, hp, hB1.alloc hB1.size _, by simp; omega⟩ ⟨W.heap.size, bR1.lt, MBox.new W _, rfl⟩
  case body =>
    rintro lp pre x a' W hlp ⟨r, hr⟩ ⟨⟨bK1, bR1⟩, hp, hB1, hz1⟩ ⟨Bx, hBx, bX, rfl⟩ hlt
    have hS' := hS x.2
    have HP := hid hp
    clear hS hp
    have cK := bK1.cell
    obtain ⟨c0, c1, c2, c3, c4, c5⟩ := bX.six
    cases hs : speaks x.2.1 k.data.toList
    · rw [hs] at hS'
      gi_wp2_with (refine ⟨trivial, ?_⟩; gi_at_call 12; refine (CallsIn.inRound lp (callsIn_wide.2 (hS' _))).mono ?_; clear hS'; rintro e w1 ⟨rfl, hb1⟩)
      refine ⟨(keeps_below hb1).from _, hb1.mono hz1, ⟨⟨boxed_later bK1 hb1, boxed_later bR1 hb1⟩, fun p h => ?_, hB1.trans (hb1.mono hB1.size), Nat.le_trans hz1 hb1.size⟩⟩
      rcases List.mem_append.1 h with h | h
      · exact HP.out p h
      · rw [List.mem_singleton.1 h]; exact hs
    · rw [hs] at hS'
      gi_wp2_with (refine ⟨trivial, ?_⟩; gi_at_call 12; refine (CallsIn.inRound lp (callsIn_wide.2 (hS' _))).mono ?_; clear hS'; rintro e w1 ⟨rfl, hb1⟩; have bR2 := boxed_later bR1 hb1; have cR2 := bR2.cell; have fR2 := bR2.frozen)
      exact ⟨(keeps_below hb1).from _ |>.trans ((KeepsOthers.setCell _ _ _).from _), ⟨rfl, pre, x, rfl, HP.out, hs, bR2.set _⟩, (hB1.trans (hb1.mono hB1.size)).setCell (p := ⟨w.heap.size + 1, 0, none⟩) (by simp) _⟩
  case done =>
    rintro D ys W hD rfl ⟨⟨bK1, bR1⟩, hp, hB1, hz1⟩ hK
    have HP := hid hp
    clear hp
    have cR := bR1.cell
    have fR := bR1.frozen
    gi_wp2
    have hK' := (KeepsOthers.setCell W ⟨w.heap.size + 1, 0, none⟩ (.int .i64 (-1))).same D _ hK rfl
    refine ⟨by simp, .inl ⟨_, _, rfl, run_takeDeferred hK', ?_⟩⟩
    have hc5 := cell_kept (World.cell?_setCell_same' W ⟨w.heap.size + 1, 0, none⟩ (.int .i64 (-1)) (by rw [cR]; rfl)) (grownBy_putObj' _ D (.deferred none)) (fun r e => by cases e; exact ⟨_, hK', rfl⟩)
    refine ⟨.int .i64 (-1), ?_, ?_, (hB1.setCell (p := ⟨w.heap.size + 1, 0, none⟩) (by simp) _).trans (belowK_b (w := w) (Nat.le_refl _) _ D _ _ (by omega) hK' rfl rfl)⟩
    · simp [results, Try.f16, go_sem, hc5]
    · rw [HN.out l.length (Nat.le_refl _) HP.out, Nat.sub_self]
      rfl
  case stop =>
    rintro D cc pre W hD ⟨n, hn, rfl⟩ ⟨⟨rfl, ini, last, e1, e2, e3, bR1⟩, hB1⟩ hK
    have H1 := hid e1
    have H2 := hid e2
    have H3 := hid e3
    clear e1 e2 e3
    gi_wp2
    refine ⟨by simp, .inl ⟨_, _, rfl, run_takeDeferred hK, ?_⟩⟩
    have hc5 := cell_kept bR1.cell (grownBy_putObj' _ D (.deferred none)) (fun r e => by cases e; exact ⟨_, hK, rfl⟩)
    refine ⟨.int .i64 (last.1 : Int), ?_, ?_, hB1.trans (belowK_b (w := w) (Nat.le_refl _) W D _ _ (by omega) hK rfl rfl)⟩
    · simp [results, Try.f16, go_sem, hc5]
    · have e1 := H1.out
      cases n with
      | zero => simp [back] at e1
      | succ n =>
        obtain ⟨j, hj⟩ : ∃ j, j + 1 + n = l.length := ⟨l.length - 1 - n, by omega⟩
        rw [back_at hj (by omega)] at e1
        obtain ⟨rfl, e5⟩ := List.append_inj' e1 rfl
        obtain rfl : (j, l[j]'(by omega)) = last := by simpa using e5
        rw [HS.out j n hj H2.out H3.out]
end Go.Proofs.Ytobbgndabmnbcaa.Key
