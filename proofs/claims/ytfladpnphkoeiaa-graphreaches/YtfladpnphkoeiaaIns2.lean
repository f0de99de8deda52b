/-
  slices.Insert of one number into a row of numbers of the call's own.
-/
import Derived.Test.YtfladpnphkoeiaaIns
import Derived.Test.YtfladpnphkoeiaaKeys
namespace Go.Proofs.Ytfladpnphkoeiaa.Key
open Go.RowKit Go.Lib
set_option linter.unusedVariables false
set_option linter.unusedSimpArgs false

theorem grown_refl (w : World) (row : Option Nat) : w.grownBy w row := ⟨rfl, rfl, rfl, Nat.le_refl _, fun _ _ _ => rfl⟩
theorem grown_trans {a b c : World} {row : Option Nat} (h : a.grownBy b row) (k : b.grownBy c row) : a.grownBy c row :=
  ⟨k.os.trans h.os, k.tape.trans h.tape, k.output.trans h.output, Nat.le_trans h.size k.size, fun i hi hne => (k.block i (Nat.lt_of_lt_of_le hi h.size) hne).trans (h.block i hi hne)⟩
theorem grown_drew {a b : World} {row : Option Nat} (h : a.grownBy b row) : a.grownBy b.drew row := ⟨h.os, h.tape, h.output, h.size, h.block⟩
theorem grown_drewN {a b : World} {row : Option Nat} (h : a.grownBy b row) (q : Nat) : a.grownBy (b.drewN q) row := ⟨h.os, h.tape, h.output, h.size, h.block⟩
/-- cells put into a row's block -/
theorem setCells_row {g : Nat} {t : TypeId} : ∀ (vs : List Value) (o : Nat) (w : World) (cur : List Value), w.heap[g]? = some (.cells cur.toArray t (0, 0)) → o + vs.length ≤ cur.length → (w.setCells g o vs).heap[g]? = some (.cells (cur.take o ++ vs ++ cur.drop (o + vs.length)).toArray t (0, 0)) ∧ w.grownBy (w.setCells g o vs) (some g)
  | [], o, w, cur, hg, _ => by
    refine ⟨?_, grown_refl _ _⟩
    simpa [World.setCells] using hg
  | v :: vs, o, w, cur, hg, hl => by
    have e1 := setCell_eq_setRow w g o cur.toArray t (0, 0) v hg
    have h1 : (w.setCell ⟨g, o, none⟩ v).heap[g]? = some (.cells (cur.set o v).toArray t (0, 0)) := by
      rw [e1]
      have := setRow_heap w g cur.toArray (cur.toArray.setIfInBounds o v) t (0, 0) hg
      simpa using this
    have h2 : w.grownBy (w.setCell ⟨g, o, none⟩ v) (some g) := by
      rw [e1]
      exact ⟨rfl, rfl, rfl, by simp [World.setRow], fun k hk hne => setRow_other w g k _ (fun e => hne (by rw [e]))⟩
    obtain ⟨h3, h4⟩ := setCells_row (g := g) (t := t) vs (o + 1) (w.setCell ⟨g, o, none⟩ v) (cur.set o v) h1 (by simp at hl ⊢; omega)
    refine ⟨?_, grown_trans h2 h4⟩
    rw [World.setCells, h3]
    have hlt : o < cur.length := by simp at hl; omega
    congr 3
    rw [List.take_succ_eq_append_getElem (by simpa using hlt), List.take_set_of_le (Nat.le_refl _), List.getElem_set_self, List.drop_set_of_lt (by omega)]
    simp [Nat.add_assoc, Nat.add_comm 1]
theorem cells_at {w : World} {g : Nat} {L : List Value} {t : TypeId} (hg : w.heap[g]? = some (.cells L.toArray t (0, 0))) : (∀ j v, L[j]? = some v → w.cell? ⟨g, j, none⟩ = some v) ∧ (∀ j, w.frozen? ⟨g, j, none⟩ = false) ∧ w.shape? g = some (t, L.length) := by
  refine ⟨fun j v hv => ?_, fun j => frozen_of_row _ _ j _ _ hg, ?_⟩
  · rw [cell_of_row _ _ _ _ _ _ hg]
    simpa using hv
  · simp [World.shape?, hg]

theorem ints_one (ss : List Int) : ∀ v ∈ ss.map (Value.int .u32), v.oneCell' = true := by
  intro v hv
  obtain ⟨s, _, rfl⟩ := List.mem_map.1 hv
  rfl
set_option maxHeartbeats 1000000 in
set_option maxRecDepth 100000 in
/-- slices.Insert of one number into a row of the call's own -/
theorem insert56 (B : Nat) (v : Value) (ss : List Int) (i : Nat) (x : Int) (vb : Nat) (w : World) (hown : OwnU w B v ss) (hi : i ≤ ss.length) (hl : ss.length ≤ 100000) (hx : w.heap[vb]? = some (.cells #[.int .u32 x] 23 (0, 0))) (hne : v.ownBlock ≠ some vb) (hB : B ≤ w.heap.size) :
    Calls Try.prog 56 #[v, .int .i64 i, .slice (some ⟨vb, 0, none⟩) 1 1] w fun e w' => ∃ v', e = .returned v' ∧ OwnU w' B v' (insertAt ss i x) ∧ w.grownBy w' v.ownBlock ∧ (v'.ownBlock = v.ownBlock ∨ ∃ k, v'.ownBlock = some k ∧ w.heap.size ≤ k) := by
  have hx' : w.heap[vb]? = some (.cells [Value.int .u32 x].toArray 23 (0, 0)) := hx
  obtain ⟨x1, x2, x3⟩ := cells_at hx'
  have hx0 := x1 0 _ rfl
  by_cases hie : i = ss.length
  · subst hie
    have hins : insertAt ss ss.length x = ss ++ [x] := by simp [insertAt]
    rw [hins]
    exact ins_end B v ss x vb w hown hl hx hB
  · have hlt : i < ss.length := by omega
    rcases hown.row with ⟨rfl, rfl⟩ | ⟨g, cap, cur, rfl, hBg, hg, hcap, hmax⟩
    · simp at hlt
    · obtain ⟨c1, c2, c3⟩ := cells_at hg
      have hlen : (ss.map (Value.int .u32) ++ cur).length = cap := by rw [List.length_append, List.length_map]; exact hcap
      have hcs : ∀ j u, (ss.map (Value.int .u32))[j]? = some u → w.cell? ⟨g, j, none⟩ = some u := fun j u hu => c1 j u (by rw [List.getElem?_append_left (List.getElem?_eq_some_iff.1 hu).1]; exact hu)
      have hsome : ∀ j, j < cap → (w.cell? ⟨g, j, none⟩).isSome = true := fun j hj => by
        rw [c1 j _ (List.getElem?_eq_getElem (by rw [hlen]; exact hj))]
        rfl
      have hvg : vb ≠ g := fun e => hne (by rw [e]; rfl)
      have hxlt : vb < w.heap.size := (Array.getElem?_eq_some_iff.1 hx).1
      by_cases hroom : ss.length + 1 ≤ cap
      · refine (ins_shift g ss.length cap i vb (ss.map (Value.int .u32)) (.int .u32 x) w hlt hroom (by unfold maxLen at hmax; omega) hvg (by simp) hcs (fun j hj => hsome j (by omega)) (fun j _ => c2 _) hx0 (ints_one ss) rfl 23 23 1 cap x3 (by rw [c3, hlen]) (by omega) (x2 _) (x2 _)).mono ?_
        rintro e w' ⟨rfl, rfl⟩
        have hg' : w.drew.heap[g]? = some (.cells (ss.map (Value.int .u32) ++ cur).toArray 23 (0, 0)) := hg
        obtain ⟨h1, h2⟩ := setCells_row (g := g) (t := 23) ((ss.map (Value.int .u32)).drop i) (i + 1) w.drew _ hg' (by rw [hlen]; simp; omega)
        obtain ⟨h3, h4⟩ := setCells_row (g := g) (t := 23) [.int .u32 x] i _ _ h1 (by simp; omega)
        refine ⟨_, rfl, ?_, grown_trans (grown_trans (grown_drew (grown_refl w _)) h2) h4, .inl rfl⟩
        rw [shift_list (ss.map (Value.int .u32)) cur (.int .u32 x) (by simpa using hlt) (by omega)] at h3
        have := OwnU.mk (B := B) (cap := cap) (ss := insertAt ss i x) (cur := cur.drop 1) hBg (by rw [h3]; simp [insertAt]) (by rw [insertAt_length ss i x hi, List.length_drop]; omega) hmax
        rw [insertAt_length ss i x hi] at this
        exact this
      · refine (ins_grow g ss.length cap i vb (ss.map (Value.int .u32)) (.int .u32 x) w hlt (by omega) (by omega) (by omega) (by simp) hcs hx0 (ints_one ss) rfl).mono ?_
        rintro e w' ⟨rfl, rfl⟩
        have hge := grownCap_ge w (ss.length + 1) cap 23
        have hgm := grownCap_le_maxLen w (ss.length + 1) cap 23 (by unfold maxLen; omega)
        generalize grownCap w (ss.length + 1) cap 23 = gc at *
        generalize hZ1 : Builtin.zeroCells (Value.int .u32 0).cells (ss.length + 1 - i) = Z1
        generalize hZ2 : Builtin.zeroCells (Value.int .u32 0).cells (gc - (ss.length + 1)) = Z2
        have z1 : Z1.toList.length = ss.length + 1 - i := by rw [← hZ1, Array.length_toList, size_zeroCells]; simp [Value.cells]
        have z2 : Z2.toList.length = gc - (ss.length + 1) := by rw [← hZ2, Array.length_toList, size_zeroCells]; simp [Value.cells]
        clear hZ1 hZ2
        have hg0 : (w.alloc (.cells (((ss.map (Value.int .u32)).take i).toArray ++ Z1 ++ Z2) 23)).drew.heap[w.heap.size]? = some (.cells ((ss.map (Value.int .u32)).take i ++ Z1.toList ++ Z2.toList).toArray 23 (0, 0)) := by
          have := Go.heap_alloc_new w (.cells (((ss.map (Value.int .u32)).take i).toArray ++ Z1 ++ Z2) 23)
          rw [show ((ss.map (Value.int .u32)).take i).toArray ++ Z1 ++ Z2 = ((ss.map (Value.int .u32)).take i ++ Z1.toList ++ Z2.toList).toArray by apply Array.ext'; simp] at this ⊢
          exact this
        have hli : ((ss.map (Value.int .u32)).take i).length = i := by simp; omega
        obtain ⟨h1, h2⟩ := setCells_row (g := w.heap.size) (t := 23) [.int .u32 x] i _ _ hg0 (by rw [List.length_append, List.length_append, hli, z1]; simp; omega)
        have h1' : (((w.alloc (.cells (((ss.map (Value.int .u32)).take i).toArray ++ Z1 ++ Z2) 23)).drew.setCells w.heap.size i [.int .u32 x]).drew).heap[w.heap.size]? = _ := h1
        obtain ⟨h3, h4⟩ := setCells_row (g := w.heap.size) (t := 23) ((ss.map (Value.int .u32)).drop i) (i + 1) _ _ h1' (by simp only [List.length_append, List.length_take, List.length_drop, hli, z1, z2, List.length_map, List.length_singleton]; omega)
        refine ⟨_, rfl, ?_, ?_, .inr ⟨_, rfl, Nat.le_refl _⟩⟩
        · rw [grow_list (ss.map (Value.int .u32)) (Z1.toList ++ Z2.toList) (.int .u32 x) (by simpa using hlt)] at h3
          have := OwnU.mk (B := B) (cap := gc) (ss := insertAt ss i x) (cur := (Z1.toList ++ Z2.toList).drop (ss.length + 1 - i)) hB (by rw [h3]; simp [insertAt]) (by rw [insertAt_length ss i x hi, List.length_drop, List.length_append, z1, z2]; omega) hgm
          rw [insertAt_length ss i x hi] at this
          exact this
        · refine ⟨h4.os.trans h2.os, h4.tape.trans h2.tape, h4.output.trans h2.output, ?_, fun k hk _ => ?_⟩
          · have a1 := h2.size
            have a2 := h4.size
            have a0 : w.heap.size ≤ ((w.alloc (.cells (((ss.map (Value.int .u32)).take i).toArray ++ Z1 ++ Z2) 23)).drew).heap.size := by show _ ≤ (w.alloc _).heap.size; rw [World.size_alloc]; exact Nat.le_succ _
            exact Nat.le_trans (Nat.le_trans a0 a1) a2
          · have hk1 : some k ≠ some w.heap.size := fun e => by cases e; exact Nat.lt_irrefl _ hk
            have a1 := h2.block k (by simp; omega) hk1
            have a2 := h4.block k (Nat.lt_of_lt_of_le (by simp; omega) h2.size) hk1
            exact a2.trans (a1.trans (heap_alloc_old w _ hk))
end Go.Proofs.Ytfladpnphkoeiaa.Key
