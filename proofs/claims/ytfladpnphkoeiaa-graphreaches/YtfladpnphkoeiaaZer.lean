/-
  Rows of nothings (struct{}): appending, copying, slices.Insert, slices.Clone.
-/
import Derived.Test.YtfladpnphkoeiaaThru
namespace Go.Proofs.Ytfladpnphkoeiaa.Key
open Go.RowKit Go.Lib
set_option linter.unusedVariables false
set_option linter.unusedSimpArgs false

/-- a slice of nothings -/
def ZV (v : Value) (n : Nat) : Prop := (v = .slice none 0 0 ∧ n = 0) ∨ ∃ g c, v = .slice (some ⟨g, 0, none⟩) n c ∧ n ≤ c ∧ c ≤ maxLen
set_option maxRecDepth 100000 in
theorem info87 : (Try.prog.info? 87).map (fun i => (i.zero, i.size, i.bytes)) = some (some (.agg #[]), 0, 0) := by kernel_rfl
theorem size87 (w : World) : (Go.sizeOf 87).run Try.prog w = .ok 0 w := by kernel_rfl
set_option maxRecDepth 100000 in
theorem over71 (w : World) (a b : Addr) (ca lb cb : Nat) : (Extern.SlicesOverlaps.overlaps #[108, 108] #[4] #[.slice (some a) 1 ca, .slice (some b) lb cb]).run Try.prog w = .ok (.bool false) w := by
  cases lb with
  | zero => kernel_rfl
  | succ lb => kernel_rfl
set_option maxRecDepth 100000 in
theorem overlap71 (w : World) (a b : Addr) (ca lb cb : Nat) : (callFunc 71 #[.slice (some a) 1 ca, .slice (some b) lb cb]).run Try.prog w = .ok (.value (.bool false)) w := by
  rw [run_callFunc_extern Try.func71 (by kernel_rfl) (by kernel_rfl) (by kernel_rfl) (e := Extern.SlicesOverlaps.overlaps #[108, 108] #[4]) (by kernel_rfl), over71]
  rfl
theorem load_none (P : Program) (w : World) (a : Addr) : (loadCells a 0).run P w = .ok #[] w := by
  rfl
set_option maxRecDepth 100000 in
theorem copy87 (w : World) (ty : TypeId) (a b : Addr) (n c m d : Nat) : (Builtin.copy_ #[108, 108] ty #[.slice (some a) n c, .slice (some b) m d]).run Try.prog w = .ok (goInt (Nat.min m n)) w := by
  simp [Builtin.copy_, run_underlying Try.underlying108, size87, Builtin.firstCells, load_none, Builtin.lenOf, storeCells]
set_option maxRecDepth 100000 in
theorem app_room (w : World) (ty : TypeId) (a b : Addr) (n c : Nat) (h : n + 1 ≤ c) : (Builtin.append_ #[108, 108] ty #[.slice (some a) n c, .slice (some b) 1 1]).run Try.prog w = .ok (.slice (some a) (n + 1) c) w := by
  simp [Builtin.append_, run_underlying Try.underlying108, size87, Builtin.firstCells, load_none, Builtin.lenOf, storeCells, h]
theorem old_none (w : World) (base : Option Addr) (n c : Nat) : (Builtin.firstCells 0 n (.slice base n c)).run Try.prog w = .ok ([] : List Value).toArray w := by
  cases base with
  | none => simp [Builtin.firstCells]
  | some a => simp [Builtin.firstCells, load_none]
theorem app_grow (w : World) (ty : TypeId) (base : Option Addr) (b : Addr) (n c : Nat) (h : c < n + 1) (hn : n ≤ 100000) :
    (Builtin.append_ #[108, 108] ty #[.slice base n c, .slice (some b) 1 1]).run Try.prog w = .ok (.slice (some ⟨w.heap.size, 0, none⟩) (n + 1) (grownCap w (n + 1) c 87)) (w.drew.alloc (.cells (([] ++ [] : List Value).toArray ++ Builtin.zeroCells (Value.agg #[]).cells (grownCap w (n + 1) c 87 - (n + 1))) 87)) := by
  obtain ⟨i0, hi, hz0, hz1, hz2⟩ := info_parts info87
  refine run_append_grow_src w 108 108 ty 87 i0 _ Try.underlying108 hi hz0 base n c [] (by rw [hz1]; exact old_none _ _ _ _) _ 1 [] ?_ h (by omega) (by rw [hz2]; omega)
  rw [hz1]
  exact Src.ofSlice w Try.underlying108 b 1 1 [] (by simp) (by simp) (by simp)
set_option maxRecDepth 100000 in
theorem app_zeros (w : World) (ty : TypeId) (a : Addr) (n c k : Nat) (h : c < n + k) (hk : 0 < k) (hn : n + k ≤ 200000) :
    (Builtin.append_ #[108, 3] ty #[.slice (some a) n c, .int .i64 k]).run Try.prog w = .ok (.slice (some ⟨w.heap.size, 0, none⟩) (n + k) (grownCap w (n + k) c 87)) (w.drew.alloc (.cells ((#[] : Array Value) ++ Builtin.zeroCells (Value.agg #[]).cells (grownCap w (n + k) c 87 - (n + k))) 87)) := by
  obtain ⟨i0, hi, hz0, hz1, hz2⟩ := info_parts info87
  have hw : IntKind.i64.wrap (k : Int) = k := by rw [IntKind.wrap_i64]; omega
  have hnn : ¬ (n + k ≤ c) := by omega
  have h63' : ¬ (9223372036854775807 < ((n : Int) + (k : Int))) := by omega
  have hk0 : ¬ ((k : Int) < 0) := by omega
  simp [Builtin.append_, run_underlying Try.underlying108, run_underlying Try.underlying3, sizeOf, typeInfo, zeroValue, hi, hz0, hz1, hz2, hw, hnn, h63', hk0, asInt, asIntOf, Question.forced, Builtin.firstCells, load_none, newRow, grownCap]
set_option maxRecDepth 100000 in
theorem app_zero (w : World) (ty : TypeId) (a b : Addr) (c : Nat) : (Builtin.append_ #[108, 108] ty #[.slice (some a) 0 0, .slice (some b) 0 c]).run Try.prog w = .ok (.slice (some a) 0 0) w := by
  simp [Builtin.append_, run_underlying Try.underlying108, size87, Builtin.firstCells, load_none, Builtin.lenOf, storeCells]
theorem app_any (w : World) (ty : TypeId) (a b : Addr) (n c : Nat) (hn : n ≤ 100000) (h0 : 0 < n := by omega) :
    (Builtin.append_ #[108, 108] ty #[.slice (some a) 0 0, .slice (some b) n c]).run Try.prog w = .ok (.slice (some ⟨w.heap.size, 0, none⟩) (0 + n) (grownCap w (0 + n) 0 87)) (w.drew.alloc (.cells (([] ++ [] : List Value).toArray ++ Builtin.zeroCells (Value.agg #[]).cells (grownCap w (0 + n) 0 87 - (0 + n))) 87)) := by
  obtain ⟨i0, hi, hz0, hz1, hz2⟩ := info_parts info87
  refine run_append_grow_src w 108 108 ty 87 i0 _ Try.underlying108 hi hz0 (some a) 0 0 [] (by rw [hz1]; exact old_none _ _ _ _) _ n [] ?_ (by omega) (by omega) (by rw [hz2]; omega)
  rw [hz1]
  exact Src.ofSlice w Try.underlying108 b n c [] (by simp) (by simp) (by simp)
theorem zv_new (w : World) (n c : Nat) (hn : n ≤ 100000) : ZV (.slice (some ⟨w.heap.size, 0, none⟩) (n + 1) (grownCap w (n + 1) c 87)) (n + 1) :=
  .inr ⟨_, _, rfl, grownCap_ge w _ _ _, grownCap_le_maxLen w _ _ _ (by unfold maxLen; omega)⟩
theorem below_drew_alloc (w : World) (o : Obj) : Below w.heap.size w (w.drew.alloc o) := ((Below.refl _ w).drew).alloc (Nat.le_refl _) o
set_option maxHeartbeats 800000 in
set_option maxRecDepth 100000 in
theorem ins60 (v : Value) (n i vb : Nat) (w : World) (hv : ZV v n) (hi : i ≤ n) (hn : n ≤ 100000) :
    Calls Try.prog 60 #[v, .int .i64 i, .slice (some ⟨vb, 0, none⟩) 1 1] w fun e w' => (∃ v', e = .returned v' ∧ ZV v' (n + 1)) ∧ Below w.heap.size w w' := by
  have mixed := mixed
  have hcp := copy87
  rcases hv with ⟨rfl, rfl⟩ | ⟨g, c, rfl, hnc, hcm⟩
  · obtain rfl : i = 0 := by omega
    have hz := zv_new w 0 0 (by omega)
    have hb := below_drew_alloc w (.cells (([] ++ [] : List Value).toArray ++ Builtin.zeroCells (Value.agg #[]).cells (grownCap w (0 + 1) 0 87 - (0 + 1))) 87)
    have hg := fun ty => app_grow w ty none ⟨vb, 0, none⟩ 0 0 (by omega) (by omega)
    go_enter Try.func60, Try.ntmps60
    go_wp2_with (at_builtin; refine Lib.wpList_append_run _ rfl _ _ _ _ rfl _ _ rfl rfl _ _ (hg _) ?_)
    go_ret
    exact ⟨⟨_, rfl, hz⟩, (below_box w _).drew⟩
  · unfold maxLen at hcm
    by_cases hie : i = n
    · subst hie
      by_cases hroom : i + 1 ≤ c
      · have hle : (i : Int) ≤ (c : Int) := by omega
        have hci : ¬ (c = i) := by omega
        have hg := fun ty => app_room w ty ⟨g, 0, none⟩ ⟨vb, 0, none⟩ i c hroom
        go_enter Try.func60, Try.ntmps60
        go_wp2_with (at_builtin; refine Lib.wpList_append_run _ rfl _ _ _ _ rfl _ _ rfl rfl _ _ (hg _) ?_)
        go_ret
        exact ⟨⟨_, rfl, .inr ⟨g, c, rfl, hroom, by unfold maxLen; omega⟩⟩, Below.refl _ _⟩
      · obtain rfl : c = i := by omega
        have hz := zv_new w c c (by omega)
        have hb := below_drew_alloc w (.cells (([] ++ [] : List Value).toArray ++ Builtin.zeroCells (Value.agg #[]).cells (grownCap w (c + 1) c 87 - (c + 1))) 87)
        have hg := fun ty => app_grow w ty (some ⟨g, 0, none⟩) ⟨vb, 0, none⟩ c c (by omega) (by omega)
        go_enter Try.func60, Try.ntmps60
        go_wp2_with (at_builtin; refine Lib.wpList_append_run _ rfl _ _ _ _ rfl _ _ rfl rfl _ _ (hg _) ?_)
        go_ret
        exact ⟨⟨_, rfl, hz⟩, (below_box w _).drew⟩
    · have hlt : i < n := by omega
      have hz2 : ¬ ((i : Int) = (n : Int)) := by omega
      have hw1 : IntKind.i64.wrap ((i : Int) + 1) = (i : Int) + 1 := by rw [IntKind.wrap_i64]; omega
      have hw2 : IntKind.i64.wrap ((n : Int) + 1) = (n : Int) + 1 := by rw [IntKind.wrap_i64]; omega
      have hb1 : (0 : Int) ≤ (i : Int) + 1 := by omega
      have hin : i ≤ n := by omega
      have htn : ((i : Int) + 1).toNat = i + 1 := by omega
      by_cases hroom : n + 1 ≤ c
      · have hb2 : ¬ (c = i + 1) := by omega
        have hb3 : (i : Int) ≤ (n : Int) + 1 := by omega
        have hb4 : ¬ (c = i) := by omega
        have hb5 : ¬ ((c : Int) < (n : Int) + 1) := by omega
        go_enter Try.func60, Try.ntmps60
        go_wp2_with (simp only [overlap71])
        go_region_law_o (refine step_copy_runI rfl _ _ 108 108 rfl (.slice (some ⟨g, 0, none⟩) (n - i) (c - (i + 1))) (.slice (some ⟨g, 0, none⟩) (n + 1 - i) (c - i)) (by simp [Act.eval, Act.put]) (by simp [Act.eval, Act.put]) (copy87 _ _ _ _ _ _ _ _) ?_)
        go_wp2_with fail
        go_ret
        exact ⟨⟨_, rfl, .inr ⟨g, c, rfl, hroom, by unfold maxLen; omega⟩⟩, (Below.refl _ w).drew⟩
      · obtain rfl : c = n := by omega
        have hz3 : (c : Int) < (c : Int) + 1 := by omega
        have hkk : (c : Int) + 1 - (i : Int) = ((c + 1 - i : Nat) : Int) := by omega
        have hik : i + (c + 1 - i) = c + 1 := by omega
        have hz := zv_new w c c (by omega)
        have hrz : ∀ ty, (Builtin.append_ #[108, 3] ty #[.slice (some ⟨g, 0, none⟩) i c, .int .i64 ((c : Int) + 1 - (i : Int))]).run Try.prog w = .ok (.slice (some ⟨w.heap.size, 0, none⟩) (c + 1) (grownCap w (c + 1) c 87)) (w.drew.alloc (.cells ((#[] : Array Value) ++ Builtin.zeroCells (Value.agg #[]).cells (grownCap w (c + 1) c 87 - (c + 1))) 87)) := fun ty => by
          have h := app_zeros w ty ⟨g, 0, none⟩ i c (c + 1 - i) (by omega) (by omega) (by omega)
          rw [hik] at h
          rw [hkk]
          exact h
        have hGn := grownCap_ge w (c + 1) c 87
        have hG63 := grownCap_le_maxLen w (c + 1) c 87 (by unfold maxLen; omega)
        unfold maxLen at hG63
        generalize grownCap w (c + 1) c 87 = G at *
        have hGi : ¬ (G = i) := by omega
        have hGim : ¬ (G = i + 1) := by omega
        have hci : ¬ (c = i) := by omega
        have hb3 : (i : Int) ≤ (c : Int) := by omega
        have hb := below_drew_alloc w (.cells ((#[] : Array Value) ++ Builtin.zeroCells (Value.agg #[]).cells (G - (c + 1))) 87)
        clear hkk hik
        go_enter Try.func60, Try.ntmps60
        go_wp2_with (at_builtin; refine Lib.wpList_append_run _ rfl _ _ _ _ rfl _ _ rfl rfl _ _ (hrz _) ?_)
        go_region_law_o (refine step_copy_runI rfl _ _ 108 108 rfl (.slice (some ⟨w.heap.size, 0, none⟩) (c - i) (G - (i + 1))) (.slice (some ⟨g, 0, none⟩) (c - i) (c - i)) (by simp [Act.eval, Act.put]) (by simp [Act.eval, Act.put]) (copy87 _ _ _ _ _ _ _ _) ?_)
        go_wp2
        go_ret
        exact ⟨⟨_, rfl, hz⟩, by first | exact (below_box w _).drew | exact (below_box w _).drew.drew⟩
set_option maxRecDepth 100000 in
set_option maxHeartbeats 600000 in
theorem clone75 (v : Value) (n : Nat) (w : World) (h : ZV v n) (hl : n ≤ 10000) :
    Calls Try.prog 75 #[v] w fun e w' => (∃ v', e = .returned v' ∧ ZV v' n) ∧ Below w.heap.size w w' := by
  have q108 : ∀ (w : World) (a : Option Addr) (n c n' c' : Nat), (binOp .eql 108 (.slice a n c) (.slice none n' c')).run Try.prog w = .ok (.bool a.isNone) w := fun w a n c n' c' => Lib.run_eql_slice_nil w _ _ a n c n' c' Try.underlying108
  rcases h with ⟨rfl, rfl⟩ | ⟨g, c, rfl, hnc, hcm⟩
  · go_enter Try.func75, Try.ntmps75
    go_wp2_with fail
    go_ret
    exact ⟨⟨_, rfl, .inl ⟨rfl, rfl⟩⟩, Below.refl _ _⟩
  · unfold maxLen at hcm
    cases n with
    | zero =>
      go_enter Try.func75, Try.ntmps75
      go_wp2_with (at_builtin; refine Lib.wpList_append_run _ rfl _ _ _ _ rfl _ _ rfl rfl _ _ (app_zero _ _ _ _ _) ?_)
      go_ret
      exact ⟨⟨_, rfl, .inr ⟨_, _, rfl, Nat.le_refl _, by unfold maxLen; omega⟩⟩, below_box w _⟩
    | succ n =>
      have hg := fun ty => app_any (w.alloc (.cells #[] 87)) ty ⟨w.heap.size, 0, none⟩ ⟨g, 0, none⟩ (n + 1) c (by omega) (by omega)
      have hG1 := grownCap_ge (w.alloc (.cells #[] 87)) (0 + (n + 1)) 0 87
      have hG2 := grownCap_le_maxLen (w.alloc (.cells #[] 87)) (0 + (n + 1)) 0 87 (by unfold maxLen; omega)
      go_enter Try.func75, Try.ntmps75
      go_wp2_with (at_builtin; refine Lib.wpList_append_run _ rfl _ _ _ _ rfl _ _ rfl rfl _ _ (hg _) ?_)
      go_ret
      refine ⟨⟨_, rfl, .inr ⟨_, _, by first | rfl | (simp; rfl), by first | exact hG1 | (simp at hG1; exact hG1), by first | exact hG2 | (simp at hG2; exact hG2)⟩⟩, ?_⟩
      exact ((below_box w (.cells #[] 87)).alloc (by simp) _).drew
end Go.Proofs.Ytfladpnphkoeiaa.Key
