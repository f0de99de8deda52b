/-
  slices.BinarySearch on a row of numbers of the call's own; a map in memory; its find.
  A map's Put.
-/
import Derived.Test.YtfladpnphkoeiaaIns2
import Derived.Shelf.Spec.SearchS
import Derived.Test.YtfladpnphkoeiaaOwn9
namespace Go.Proofs.Ytfladpnphkoeiaa.Key
open Go.RowKit
set_option linter.unusedVariables false
set_option linter.unusedSimpArgs false

set_option maxRecDepth 100000 in
theorem nan80 (x : Int) (w : World) : Calls Try.prog 80 #[.int .u32 x] w fun e w' => e = .returned (.bool false) ∧ w' = w := by
  go_enter Try.func80, Try.ntmps80
  go_wp2_with fail
  go_ret
  exact ⟨by simp, rfl⟩
set_option maxRecDepth 100000 in
theorem nan77 (x : Int) (w : World) : Calls Try.prog 77 #[.int .u32 x] w fun e w' => e = .returned (.bool false) ∧ w' = w := by
  go_enter Try.func77, Try.ntmps77
  go_wp2_with fail
  go_ret
  exact ⟨by simp, rfl⟩
set_option maxRecDepth 100000 in
theorem less76 (x y : Int) (w : World) : Calls Try.prog 76 #[.int .u32 x, .int .u32 y] w fun e w' => e = .returned (.bool (decide (x < y))) ∧ w' = w := by
  go_enter Try.func76, Try.ntmps76
  go_wp2_with fail
  refine (nan80 x _).mono ?_
  rintro e w1 ⟨rfl, rfl⟩
  go_wp2_with fail
  go_ret
  exact ⟨rfl, rfl⟩
theorem OwnU.at {w : World} {B n : Nat} {v : Value} {ss : List Int} (h : OwnU w B v ss) (hn : ss.length = n) {i : Nat} (hi : i < n) : ∃ g c, v = .slice (some ⟨g, 0, none⟩) n c ∧ w.cell? ⟨g, i, none⟩ = some (.int .u32 (ss.getD i 0)) := by
  subst hn
  rcases h.row with ⟨_, rfl⟩ | ⟨g, cap, cur, rfl, _, hg, _⟩
  · simp at hi
  · refine ⟨g, cap, rfl, ?_⟩
    obtain ⟨c1, _, _⟩ := cells_at hg
    exact c1 i (.int .u32 (ss.getD i 0)) (by
      rw [List.getElem?_append_left (by simpa using hi), List.getElem?_map, List.getElem?_eq_getElem hi]
      simp [List.getD, List.getElem?_eq_getElem hi])
set_option maxHeartbeats 600000 in
set_option maxRecDepth 100000 in
theorem bs67 (B : Nat) (v : Value) (ks : List Int) (x : Int) (w : World) (h : OwnU w B v ks) (hr : Rising ks) (hl : ks.length ≤ 100000) :
    Calls Try.prog 67 #[v, .int .u32 x] w fun e w' => e = .returned (.tuple #[.int .i64 (pos ks x : Nat), .bool (there ks x)]) ∧ Below w.heap.size w w' := by
  have HL := hid (fun h' => @half_low ks x h' hr)
  have HH := hid (fun h' => @half_high ks x h')
  have hple := pos_le ks x
  have HT := hid (show there ks x = decide (pos ks x < ks.length ∧ ks.getD (pos ks x) 0 = x) from rfl)
  have HA := hid (fun i hi => h.at (n := ks.length) rfl (i := i) hi)
  have hform : ∃ a c, v = .slice a ks.length c := by
    rcases h.row with ⟨rfl, rfl⟩ | ⟨g, cap, cur, rfl, _⟩
    · exact ⟨_, _, rfl⟩
    · exact ⟨_, _, rfl⟩
  obtain ⟨a, c, rfl⟩ := hform
  generalize pos ks x = p at *
  generalize there ks x = T at *
  clear h
  generalize hn : ks.length = n at *
  clear hn
  go_enter Try.func67, Try.ntmps67
  go_wp2_with fail
  go_loop [7, 8] (fun i j => ∃ lo hi : Nat, i = .int .i64 lo ∧ j = .int .i64 hi ∧ lo ≤ p ∧ p ≤ hi ∧ hi ≤ n) (fun i j => (intOf j).toNat - (intOf i).toNat)
  case atStart => exact ⟨0, n, rfl, rfl, Nat.zero_le _, hple, Nat.le_refl _⟩
  case round =>
    obtain ⟨lo, hi, rfl, rfl, h1, h2, h3⟩ := hrel
    by_cases hlt : lo < hi
    · obtain ⟨g, c', e, hc⟩ := HA.out ((lo + hi) / 2) (by omega)
      simp only [Value.slice.injEq, true_and] at e
      obtain ⟨rfl, rfl⟩ := e
      have HL' := hid (HL.out ((lo + hi) / 2) (by omega))
      have HH' := hid (HH.out ((lo + hi) / 2))
      generalize ks.getD ((lo + hi) / 2) 0 = y at *
      have HM := hid (show ((lo : Int) + (hi : Int)) / 2 = (((lo + hi) / 2 : Nat) : Int) by omega)
      cases hyx : decide (y < x)
      · go_wp2_with fail
        refine (less76 y x _).mono ?_
        rintro e w1 ⟨rfl, rfl⟩
        go_wp2_with fail
        go_round
        case rel => exact ⟨lo, (lo + hi) / 2, rfl, by rw [HM.out], h1, HH'.out (by simpa using hyx), by omega⟩
        case measure => simp [intOf]; omega
      · go_wp2_with fail
        refine (less76 y x _).mono ?_
        rintro e w1 ⟨rfl, rfl⟩
        go_wp2_with fail
        go_round
        case rel => exact ⟨(lo + hi) / 2 + 1, hi, by rw [HM.out]; rfl, rfl, HL'.out (by simpa using hyx), h2, h3⟩
        case measure => simp [intOf]; omega
    · obtain rfl : lo = hi := by omega
      obtain rfl : lo = p := by omega
      by_cases hn : lo < n
      · obtain ⟨g, c', e, hc⟩ := HA.out lo hn
        simp only [Value.slice.injEq, true_and] at e
        obtain ⟨rfl, rfl⟩ := e
        generalize ks.getD lo 0 = y at *
        by_cases hyx : y = x
        · have HR : Hid (T = true) := hid (by rw [HT.out]; simp [hn, hyx])
          clear HT
          have hy' : (y == x) = true := by simpa using hyx
          clear hyx
          go_wp2_with fail
          go_ret2
          rw [HR.out]
          exact ⟨rfl, Below.refl _ _⟩
        · have HR : Hid (T = false) := hid (by rw [HT.out]; simp [hyx])
          clear HT
          have hy' : (y == x) = false := by simpa using hyx
          clear hyx
          go_wp2_with fail
          refine (nan77 y _).mono ?_
          rintro e w1 ⟨rfl, rfl⟩
          go_wp2_with fail
          go_ret2
          rw [HR.out]
          exact ⟨rfl, Below.refl _ _⟩
      · have HR : Hid (T = false) := hid (by rw [HT.out]; simp [hn])
        clear HT
        go_wp2_with fail
        go_ret2
        rw [HR.out]
        exact ⟨rfl, Below.refl _ _⟩
/-- a map in memory -/
structure UMap (w : World) (B k : Nat) (kv vv : Value) (ks vs : List Int) : Prop where
  box : w.heap[k]? = some (.cells #[kv, vv] 104 (0, 0))
  above : B ≤ k
  keys : OwnU w B kv ks
  vals : OwnU w B vv vs
  rise : Rising ks
  both : vs.length = ks.length
  apart : kv.ownBlock ≠ some k ∧ vv.ownBlock ≠ some k ∧ (kv.ownBlock = none ∨ kv.ownBlock ≠ vv.ownBlock)
theorem UMap.lt {w : World} {B k : Nat} {kv vv : Value} {ks vs : List Int} (h : UMap w B k kv vv ks vs) : k < w.heap.size := (Array.getElem?_eq_some_iff.1 h.box).1
theorem UMap.later {w w' : World} {B k : Nat} {kv vv : Value} {ks vs : List Int} (h : UMap w B k kv vv ks vs) (hb : Below w.heap.size w w') : UMap w' B k kv vv ks vs :=
  ⟨(hb.block k h.lt).trans h.box, h.above, h.keys.later hb, h.vals.later hb, h.rise, h.both, h.apart⟩

set_option maxHeartbeats 600000 in
set_option maxRecDepth 100000 in
theorem find55 (B k : Nat) (kv vv : Value) (ks vs : List Int) (x : Int) (w : World) (h : UMap w B k kv vv ks vs) (hl : ks.length ≤ 100000) :
    Calls Try.prog 55 #[.pointer (some ⟨k, 0, none⟩), .int .u32 x] w fun e w' => e = .returned (.tuple #[.int .i64 (pos ks x : Nat), .bool (there ks x)]) ∧ Below w.heap.size w w' := by
  have c0 := cell_of_row _ _ 0 _ _ _ h.box
  dsimp at c0
  have H := bs67 B kv ks x w h.keys h.rise hl
  obtain ⟨a, n, c, rfl⟩ := row_slice h.keys
  generalize pos ks x = p at *
  generalize there ks x = t at *
  go_enter Try.func55, Try.ntmps55
  go_wp2_with fail
  refine H.mono ?_
  rintro e w1 ⟨rfl, hb⟩
  go_wp2_with fail
  go_ret2
  exact ⟨rfl, hb⟩
set_option maxHeartbeats 600000 in
set_option maxRecDepth 100000 in
theorem get35 (B k : Nat) (kv vv : Value) (ks vs : List Int) (x : Int) (w : World) (h : UMap w B k kv vv ks vs) (hl : ks.length ≤ 100000) :
    Calls Try.prog 35 #[.pointer (some ⟨k, 0, none⟩), .int .u32 x] w fun e w' => e = .returned (.tuple #[.int .u32 (getV ks vs x), .bool (there ks x)]) ∧ Below w.heap.size w w' := by
  have H := find55 B k kv vv ks vs x w h hl
  have HG := hid (show getV ks vs x = if there ks x then vs.getD (pos ks x) 0 else 0 from rfl)
  cases ht : there ks x
  · rw [ht] at HG H
    have HG' : Hid (getV ks vs x = 0) := HG.out.trans (if_neg (by simp))
    generalize getV ks vs x = gv at *
    generalize pos ks x = p at *
    go_enter Try.func35, Try.ntmps35
    go_wp2_with fail
    refine H.mono ?_
    rintro e w1 ⟨rfl, hb⟩
    go_wp2_with fail
    go_ret2
    rw [HG'.out]
    exact ⟨rfl, hb⟩
  · rw [ht] at HG H
    have HG' : Hid (getV ks vs x = vs.getD (pos ks x) 0) := HG.out.trans (if_pos rfl)
    have hp := there_lt ht
    obtain ⟨g, c, rfl, hc⟩ := h.vals.at (n := ks.length) h.both hp
    have hlt : g < w.heap.size := World.block_lt_of_cell? w _ hc
    generalize getV ks vs x = gv at *
    generalize vs.getD (pos ks x) 0 = y at *
    generalize pos ks x = p at *
    generalize ks.length = n at *
    go_enter Try.func35, Try.ntmps35
    go_wp2_with fail
    refine H.mono ?_
    rintro e w1 ⟨rfl, hb⟩
    have c1 := cell_of_row _ _ 1 _ _ _ ((hb.block k h.lt).trans h.box)
    dsimp at c1
    have hc1 := (hb.cell (p := ⟨g, p, none⟩) hlt).trans hc
    go_wp2_with fail
    go_ret2
    rw [HG'.out]
    exact ⟨rfl, hb⟩
set_option maxRecDepth 100000 in
theorem new32 (w : World) : Calls Try.prog 32 #[] w fun e w' => e = .returned (.pointer (some ⟨w.heap.size, 0, none⟩)) ∧ UMap w' w.heap.size w.heap.size (.slice none 0 0) (.slice none 0 0) [] [] ∧ Below w.heap.size w w' := by
  have hb := below_box w (.cells #[.slice none 0 0, .slice none 0 0] 104)
  have hn := Go.heap_alloc_new w (.cells #[.slice none 0 0, .slice none 0 0] 104)
  go_enter Try.func32, Try.ntmps32
  go_wp2_with fail
  go_ret
  exact ⟨rfl, ⟨hn, Nat.le_refl _, OwnU.nil _ _, OwnU.nil _ _, List.Pairwise.nil, rfl, by simp [Value.ownBlock], by simp [Value.ownBlock], .inl rfl⟩, hb⟩
end Go.Proofs.Ytfladpnphkoeiaa.Key

namespace Go.Proofs.Ytfladpnphkoeiaa.Key
open Go.RowKit Go.Lib
set_option linter.unusedVariables false
set_option linter.unusedSimpArgs false

theorem OwnU.slice {w : World} {B : Nat} {v : Value} {ss : List Int} (h : OwnU w B v ss) : ∃ a n c, v = .slice a n c := by
  rcases h.2 with ⟨rfl, _⟩ | ⟨g, cap, cur, rfl, _⟩
  · exact ⟨_, _, _, rfl⟩
  · exact ⟨_, _, _, rfl⟩
/-- a text put in another one's place -/
theorem OwnU.stored {w : World} {B g n c : Nat} {ss : List Int} (h : OwnU w B (.slice (some ⟨g, 0, none⟩) n c) ss) (hn : ss.length = n) {i : Nat} (hi : i < n) (x : Int) :
    OwnU (w.setCell ⟨g, i, none⟩ (.int .u32 x)) B (.slice (some ⟨g, 0, none⟩) n c) (ss.set i x) ∧ w.grownBy (w.setCell ⟨g, i, none⟩ (.int .u32 x)) (some g) := by
  subst hn
  have h1 := (World.ownsRow.stored h i (.int .u32 x)).1
  have e : (ss.map (Value.int .u32)).set i (.int .u32 x) = (ss.set i x).map (Value.int .u32) := by rw [List.map_set]
  rw [e] at h1
  refine ⟨by unfold OwnU; rw [List.length_set]; exact h1, ?_⟩
  rcases h.row with ⟨h0, _⟩ | ⟨g', cap, cur, hv, _, hg, _⟩
  · simp at h0
  · simp only [Value.slice.injEq, Option.some.injEq, Addr.mk.injEq, and_true] at hv
    obtain ⟨rfl, _, rfl⟩ := hv
    rw [setCell_eq_setRow w g i _ 23 (0, 0) _ hg]
    exact ⟨rfl, rfl, rfl, by simp [World.setRow], fun k hk hne => setRow_other w g k _ (fun e => hne (by rw [e]))⟩
/-- a field of a map that is stored -/
theorem box_set0 {w : World} {k : Nat} {a b : Value} (h : w.heap[k]? = some (.cells #[a, b] 104 (0, 0))) (v : Value) : (w.setCell ⟨k, 0, none⟩ v).heap[k]? = some (.cells #[v, b] 104 (0, 0)) ∧ w.grownBy (w.setCell ⟨k, 0, none⟩ v) (some k) := by
  rw [setCell_eq_setRow w k 0 _ 104 (0, 0) _ h]
  refine ⟨?_, ⟨rfl, rfl, rfl, by simp [World.setRow], fun j hj hne => setRow_other w k j _ (fun e => hne (by rw [e]))⟩⟩
  rw [setRow_heap w k _ _ 104 _ h]
  rfl
theorem box_set1 {w : World} {k : Nat} {a b : Value} (h : w.heap[k]? = some (.cells #[a, b] 104 (0, 0))) (v : Value) : (w.setCell ⟨k, 1, none⟩ v).heap[k]? = some (.cells #[a, v] 104 (0, 0)) ∧ w.grownBy (w.setCell ⟨k, 1, none⟩ v) (some k) := by
  rw [setCell_eq_setRow w k 1 _ 104 (0, 0) _ h]
  refine ⟨?_, ⟨rfl, rfl, rfl, by simp [World.setRow], fun j hj hne => setRow_other w k j _ (fun e => hne (by rw [e]))⟩⟩
  rw [setRow_heap w k _ _ 104 _ h]
  rfl
theorem apart_swap {a b : Option Nat} (h : a = none ∨ a ≠ b) : b = none ∨ b ≠ a := by
  cases b with
  | none => exact .inl rfl
  | some b =>
    right
    rcases h with rfl | h
    · simp
    · exact fun e => h e.symm
theorem grown_below {B : Nat} {a w w' : World} {row : Option Nat} (h : Below B a w) (hB : B ≤ w.heap.size) (hg : w.grownBy w' row) (hr : ∀ k, row = some k → B ≤ k) : Below B a w' := h.grown hg hB hr

/-- all blocks but a map's own are as they were, and stay none of its own -/
def Free (w w' : World) (k : Nat) (kv vv kv' vv' : Value) : Prop := ∀ g, g < w.heap.size → g ≠ k → kv.ownBlock ≠ some g → vv.ownBlock ≠ some g → w'.heap[g]? = w.heap[g]? ∧ kv'.ownBlock ≠ some g ∧ vv'.ownBlock ≠ some g
set_option maxRecDepth 100000 in
set_option maxHeartbeats 600000 in
theorem put36 (B k : Nat) (kv vv : Value) (ks vs : List Int) (x v : Int) (w0 w : World) (h : UMap w B k kv vv ks vs) (hl : ks.length ≤ 10000) (hbel : Below B w0 w) :
    Calls Try.prog 36 #[.pointer (some ⟨k, 0, none⟩), .int .u32 x, .int .u32 v] w fun e w' => e = .returned (.bool (!there ks x)) ∧ (∃ kv' vv', UMap w' B k kv' vv' (putK ks x) (putV ks vs x v) ∧ Free w w' k kv vv kv' vv') ∧ Below B w0 w' := by
  have HF := find55 B k kv vv ks vs x w h (by omega)
  have HK := hid (show putK ks x = if there ks x then ks else insertAt ks (pos ks x) x from rfl)
  have HV := hid (show putV ks vs x v = if there ks x then vs.set (pos ks x) v else insertAt vs (pos ks x) v from rfl)
  have hpl := pos_le ks x
  have hBk := h.above
  have hklt := h.lt
  generalize putK ks x = PK at *
  generalize putV ks vs x v = PV at *
  cases ht : there ks x
  · have hri := rise_insert ks x h.rise ht
    rw [ht] at HK HV HF
    replace HK : Hid (PK = insertAt ks (pos ks x) x) := HK.out.trans (if_neg (by simp))
    replace HV : Hid (PV = insertAt vs (pos ks x) v) := HV.out.trans (if_neg (by simp))
    have hpv : pos ks x ≤ vs.length := by rw [h.both]; exact hpl
    have HLN := hid (show (insertAt vs (pos ks x) v).length = (insertAt ks (pos ks x) x).length by rw [insertAt_length vs _ v hpv, insertAt_length ks _ x hpl, h.both])
    replace hri := hid hri
    generalize pos ks x = p at *
    go_enter Try.func36, Try.ntmps36
    go_wp2_with fail
    refine HF.mono ?_
    rintro e w1 ⟨rfl, hb1⟩
    have h1 := h.later hb1
    have hbe1 := hbel.trans (hb1.mono (by omega))
    have hs1 := hb1.size
    have c0 := cell_of_row _ _ 0 _ _ _ h1.box
    dsimp at c0
    have h2 := h1.later (below_box w1 (.cells #[.int .u32 x] 23))
    have I1 := insert56 B kv ks p x w1.heap.size _ h2.keys hpl (by omega) (Go.heap_alloc_new w1 _) (fun e => by
      have := (World.ownsRow.lt h1.keys _ e).2
      omega) (by simp; omega)
    have hbe2 := hbe1.alloc (by omega) (.cells #[.int .u32 x] 23)
    have K1 := hid (fun g (hg : g < w.heap.size) => (heap_alloc_old w1 (.cells #[.int .u32 x] 23) (Nat.lt_of_lt_of_le hg hb1.size)).trans (hb1.block g hg))
    have L1 := hid (fun g (hg : g < w.heap.size) => (show g < (w1.alloc (.cells #[.int .u32 x] 23)).heap.size by simp; omega))
    clear HF hb1
    go_wp2_with fail
    refine I1.mono ?_
    rintro e w3 ⟨kv', rfl, hk3, hg3, hor3⟩
    have K3 := hid (fun g (hg : g < w.heap.size) (h1 : kv.ownBlock ≠ some g) => (hg3.block g (L1.out g hg) (fun e => h1 e.symm)).trans (K1.out g hg))
    have L3 := hid (fun g (hg : g < w.heap.size) => Nat.lt_of_lt_of_le (L1.out g hg) hg3.size)
    have O3 := hid (fun g (hg : g < w.heap.size) (h1 : kv.ownBlock ≠ some g) => (show kv'.ownBlock ≠ some g by
      rcases hor3 with e | ⟨j, e, hj⟩
      · rw [e]; exact h1
      · rw [e]; intro e2; cases e2; have := L1.out _ hg; omega))
    obtain ⟨sa, sn, sc, hkve⟩ := hk3.slice
    have hk2 : k < (w1.alloc (.cells #[.int .u32 x] 23)).heap.size := h2.lt
    have hbox3 := (hg3.block k hk2 (fun e => h1.apart.1 e.symm)).trans h2.box
    have hv3 := h2.vals.kept hg3 (apart_swap h1.apart.2.2)
    have hbe3 := grown_below hbe2 (by simp; omega) hg3 (fun j hj => (World.ownsRow.lt h1.keys j hj).1)
    have hs3 := hg3.size
    have hkk : kv'.ownBlock ≠ some k := by
      rcases hor3 with e | ⟨j, e, hj⟩
      · rw [e]; exact h1.apart.1
      · rw [e]; intro e2; cases e2; omega
    have hkvv : kv'.ownBlock = none ∨ kv'.ownBlock ≠ vv.ownBlock := by
      rcases hor3 with e | ⟨j, e, hj⟩
      · rw [e]; exact h1.apart.2.2
      · right
        rw [e]
        intro e2
        have := (World.ownsRow.lt h2.vals j e2.symm).2
        omega
    obtain ⟨hbox4, hg4⟩ := box_set0 hbox3 kv'
    have K5 := hid (fun g (hg : g < w.heap.size) (h0 : g ≠ k) (h1 : kv.ownBlock ≠ some g) => (heap_alloc_old _ (.cells #[.int .u32 v] 23) (Nat.lt_of_lt_of_le (L3.out g hg) hg4.size)).trans ((hg4.block g (L3.out g hg) (fun e => h0 (by cases e; rfl))).trans (K3.out g hg h1)))
    have L5 := hid (fun g (hg : g < w.heap.size) => (show g < ((w3.setCell ⟨k, 0, none⟩ kv').alloc (.cells #[.int .u32 v] 23)).heap.size by have := L3.out g hg; simp; omega))
    have hv4 := hv3.kept hg4 (.inr h1.apart.2.1)
    have hk4 := hk3.kept hg4 (.inr hkk)
    have hbe4 := grown_below hbe3 (by omega) hg4 (fun j hj => by cases hj; exact hBk)
    have hs4 := hg4.size
    have e0 := cell_of_row _ _ 0 _ _ _ hbox3
    have e1 := cell_of_row _ _ 1 _ _ _ hbox3
    have f0 := frozen_of_row _ _ 0 _ _ hbox3
    dsimp at e0 e1
    have hbb := below_box (w3.setCell ⟨k, 0, none⟩ kv') (.cells #[.int .u32 v] 23)
    have hv5 := hv4.later hbb
    have hk5 := hk4.later hbb
    have hbox5 := (hbb.block k (by have := h2.lt; omega)).trans hbox4
    have I2 := insert56 B vv vs p v (w3.setCell ⟨k, 0, none⟩ kv').heap.size _ hv5 hpv (by rw [h.both]; omega) (Go.heap_alloc_new _ _) (fun e => by
      have := (World.ownsRow.lt hv4 _ e).2
      omega) (by simp; omega)
    have hbe5 := hbe4.alloc (by omega) (.cells #[.int .u32 v] 23)
    have hsz4 : (w3.setCell ⟨k, 0, none⟩ kv').heap.size = w3.heap.size := by simp
    rw [hsz4] at I2
    clear I1 c0 h2
    subst hkve
    go_wp2_with fail
    refine I2.mono ?_
    rintro e w6 ⟨vv', rfl, hv6, hg6, hor6⟩
    have K6 := hid (fun g (hg : g < w.heap.size) (h0 : g ≠ k) (h1 : kv.ownBlock ≠ some g) (h2 : vv.ownBlock ≠ some g) => (hg6.block g (L5.out g hg) (fun e => h2 e.symm)).trans (K5.out g hg h0 h1))
    have L6 := hid (fun g (hg : g < w.heap.size) => Nat.lt_of_lt_of_le (L5.out g hg) hg6.size)
    have O6 := hid (fun g (hg : g < w.heap.size) (h1 : vv.ownBlock ≠ some g) => (show vv'.ownBlock ≠ some g by
      rcases hor6 with e | ⟨j, e, hj⟩
      · rw [e]; exact h1
      · rw [e]; intro e2; cases e2; have := L5.out _ hg; omega))
    obtain ⟨ta, tn, tc, hvve⟩ := hv6.slice
    have hs5 : (w3.setCell ⟨k, 0, none⟩ (.slice sa sn sc)).heap.size + 1 = ((w3.setCell ⟨k, 0, none⟩ (.slice sa sn sc)).alloc (.cells #[.int .u32 v] 23)).heap.size := by simp
    have hs6 := hg6.size
    have hk3' : k < w3.heap.size := by omega
    have hbox6 := (hg6.block k (by omega) (fun e => h1.apart.2.1 e.symm)).trans hbox5
    have hk6 := hk5.kept hg6 hkvv
    have hbe6 := grown_below hbe5 (by omega) hg6 (fun j hj => (World.ownsRow.lt hv4 j hj).1)
    have hvk : vv'.ownBlock ≠ some k := by
      rcases hor6 with e | ⟨j, e, hj⟩
      · rw [e]; exact h1.apart.2.1
      · rw [e]; intro e2; cases e2; omega
    have hkv' : (Value.slice sa sn sc).ownBlock = none ∨ (Value.slice sa sn sc).ownBlock ≠ vv'.ownBlock := by
      rcases hor6 with e | ⟨j, e, hj⟩
      · rw [e]; exact hkvv
      · right
        rw [e]
        intro e2
        have := (World.ownsRow.lt hk5 j e2).2
        omega
    obtain ⟨hbox7, hg7⟩ := box_set1 hbox6 vv'
    have K7 := hid (show Free w _ k kv vv _ vv' from fun g hg h0 h1 h2 => ⟨(hg7.block g (L6.out g hg) (fun e => h0 (by cases e; rfl))).trans (K6.out g hg h0 h1 h2), O3.out g hg h1, O6.out g hg h2⟩)
    have hv7 := hv6.kept hg7 (.inr hvk)
    have hk7 := hk6.kept hg7 (.inr hkk)
    have hbe7 := grown_below hbe6 (by omega) hg7 (fun j hj => by cases hj; exact hBk)
    have e6 := cell_of_row _ _ 1 _ _ _ hbox6
    have f6 := frozen_of_row _ _ 1 _ _ hbox6
    dsimp at e6
    have HS := hid (UMap.mk hbox7 hBk hk7 hv7 hri.out HLN.out ⟨hkk, hvk, hkv'⟩)
    replace hbe7 := hid hbe7
    subst hvve
    clear I2 e0 e1 f0 hbox5 hbox4 hbox3 hbox6 hbox7 hv7 hk7 hk6 hv6
    go_wp2_with fail
    go_ret
    exact ⟨rfl, ⟨_, _, by rw [HK.out, HV.out]; exact HS.out, K7.out⟩, hbe7.out⟩
  · have hp : pos ks x < ks.length := by unfold there at ht; simp at ht; exact ht.1
    rw [ht] at HK HV HF
    replace HK : Hid (PK = ks) := HK.out.trans (if_pos rfl)
    replace HV : Hid (PV = vs.set (pos ks x) v) := HV.out.trans (if_pos rfl)
    generalize pos ks x = p at *
    go_enter Try.func36, Try.ntmps36
    go_wp2_with fail
    refine HF.mono ?_
    rintro e w1 ⟨rfl, hb1⟩
    have h1 := h.later hb1
    have K1 := hid (fun g (hg : g < w.heap.size) => hb1.block g hg)
    have L1 := hid (fun g (hg : g < w.heap.size) => Nat.lt_of_lt_of_le hg hb1.size)
    have c1 := cell_of_row _ _ 1 _ _ _ h1.box
    dsimp at c1
    rcases h1.vals.row with ⟨_, rfl⟩ | ⟨g, cap, cur, rfl, hBg, hg, hcap, hmax⟩
    · exact absurd h.both (by simp; omega)
    · obtain ⟨d1, d2, d3⟩ := cells_at hg
      have hpv : p < vs.length := by rw [h.both]; exact hp
      have e0 := d1 p (.int .u32 vs[p]) (by rw [List.getElem?_append_left (by simpa using hpv)]; simp [List.getElem?_eq_getElem hpv])
      have f0 := d2 p
      obtain ⟨s1, s2⟩ := OwnU.stored h1.vals rfl hpv v
      have K2 := hid (show Free w _ k kv (.slice (some ⟨g, 0, none⟩) vs.length cap) kv (.slice (some ⟨g, 0, none⟩) vs.length cap) from fun j hg _ h1 h2 => ⟨(s2.block j (L1.out j hg) (fun e => h2 e.symm)).trans (K1.out j hg), h1, h2⟩)
      replace s1 := hid s1
      replace s2 := hid s2
      clear d1 d2 d3 HF
      go_wp2_with fail
      go_ret
      have hap := h1.apart
      have hne : some k ≠ some g := fun e => hap.2.1 (by rw [e]; rfl)
      have hlt1 : k < w1.heap.size := h1.lt
      refine ⟨rfl, ⟨kv, _, ⟨(s2.out.block k hlt1 hne).trans h1.box, hBk, ?_, ?_, ?_, ?_, hap⟩, K2.out⟩, ?_⟩
      · rw [HK.out]
        exact h1.keys.kept s2.out (hap.2.2.imp id fun hh => hh)
      · rw [HV.out]
        exact s1.out
      · rw [HK.out]
        exact h1.rise
      · rw [HV.out, HK.out, List.length_set]
        exact h.both
      · exact grown_below (hbel.trans (hb1.mono (by omega))) (by have := hb1.size; omega) s2.out (fun j hj => by cases hj; exact hBg)
end Go.Proofs.Ytfladpnphkoeiaa.Key
