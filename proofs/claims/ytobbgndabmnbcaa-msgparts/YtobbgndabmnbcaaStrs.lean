/-
  Rows of texts of the call's own; slices.Insert and slices.Delete there.
-/
import Derived.Test.YtobbgndabmnbcaaShelf
namespace Go.Proofs.Ytobbgndabmnbcaa.Key
open Go.RowKit
open Go.Op (bytesLess)

/-- a row of texts of the call's own -/
def OwnS (w : World) (base : Nat) (v : Value) (ss : List ByteArray) : Prop := w.ownsRow base 9 1 v ss.length (ss.map Value.string)
theorem OwnS.later {w w' : World} {base : Nat} {v : Value} {l : List ByteArray} (h : OwnS w base v l) (hb : Below w.heap.size w w') : OwnS w' base v l :=
  World.ownsRow.kept (row := none) h ⟨hb.os, hb.tape, hb.output, hb.size, fun k hk _ => hb.block k hk⟩ (by cases hv : v.ownBlock <;> simp)
theorem OwnS.kept {w w' : World} {base : Nat} {v : Value} {l : List ByteArray} {row : Option Nat} (h : OwnS w base v l) (hg : w.grownBy w' row) (hne : v.ownBlock = none ∨ v.ownBlock ≠ row) : OwnS w' base v l := World.ownsRow.kept h hg hne
theorem OwnS.nil (w : World) (base : Nat) : OwnS w base (.slice none 0 0) [] := World.ownsRow_nil _ _ _ _
theorem OwnS.alloc {w : World} {base : Nat} {v : Value} {l : List ByteArray} (h : OwnS w base v l) (o : Obj) : OwnS (w.alloc o) base v l := World.ownsRow.alloc h o
theorem strs_one (ss : List ByteArray) : ∀ v ∈ ss.map Value.string, v.oneCell' = true := by
  intro v hv
  obtain ⟨s, _, rfl⟩ := List.mem_map.1 hv
  rfl
theorem grown_refl (w : World) (row : Option Nat) : w.grownBy w row := ⟨rfl, rfl, rfl, Nat.le_refl _, fun _ _ _ => rfl⟩
theorem grown_trans {a b c : World} {row : Option Nat} (h : a.grownBy b row) (k : b.grownBy c row) : a.grownBy c row :=
  ⟨k.os.trans h.os, k.tape.trans h.tape, k.output.trans h.output, Nat.le_trans h.size k.size, fun i hi hne => (k.block i (Nat.lt_of_lt_of_le hi h.size) hne).trans (h.block i hi hne)⟩
theorem grown_drew {a b : World} {row : Option Nat} (h : a.grownBy b row) : a.grownBy b.drew row := ⟨h.os, h.tape, h.output, h.size, h.block⟩
theorem grown_drewN {a b : World} {row : Option Nat} (h : a.grownBy b row) (q : Nat) : a.grownBy (b.drewN q) row := ⟨h.os, h.tape, h.output, h.size, h.block⟩
/-- cells put into a row's block -/
theorem setCells_row {g : Nat} {t : TypeId} : ∀ (vs : List Value) (o : Nat) (w : World) (cur : List Value), w.heap[g]? = some (.cells cur.toArray t (0, 0)) → o + vs.length ≤ cur.length → (w.setCells g o vs).heap[g]? = some (.cells (cur.take o ++ vs ++ cur.drop (o + vs.length)).toArray t (0, 0)) ∧ w.grownBy (w.setCells g o vs) (some g)
  | [], o, w, cur, hg, _ => by
    refine ⟨?_, grown_refl _ _⟩
    simpa [World.setCells] using hg
  | v :: vs, o, w, cur, hg, hl => by
    have e1 := setCell_eq_setRow w g o cur.toArray t (0, 0) v hg
    have h1 : (w.setCell ⟨g, o, none⟩ v).heap[g]? = some (.cells (cur.set o v).toArray t (0, 0)) := by
      rw [e1]
      have := setRow_heap w g cur.toArray (cur.toArray.setIfInBounds o v) t (0, 0) hg
      simpa using this
    have h2 : w.grownBy (w.setCell ⟨g, o, none⟩ v) (some g) := by
      rw [e1]
      exact ⟨rfl, rfl, rfl, by simp [World.setRow], fun k hk hne => setRow_other w g k _ (fun e => hne (by rw [e]))⟩
    obtain ⟨h3, h4⟩ := setCells_row (g := g) (t := t) vs (o + 1) (w.setCell ⟨g, o, none⟩ v) (cur.set o v) h1 (by simp at hl ⊢; omega)
    refine ⟨?_, grown_trans h2 h4⟩
    rw [World.setCells, h3]
    have hlt : o < cur.length := by simp at hl; omega
    congr 3
    rw [List.take_succ_eq_append_getElem (by simpa using hlt), List.take_set_of_le (Nat.le_refl _), List.getElem_set_self, List.drop_set_of_lt (by omega)]
    simp [Nat.add_assoc, Nat.add_comm 1]
theorem take_len {α : Type} (l : List α) (n : Nat) : (l.take n).length = min n l.length := List.length_take
/-- a row: its block -/
theorem OwnS.row {w : World} {B : Nat} {v : Value} {ss : List ByteArray} (h : OwnS w B v ss) : (v = .slice none 0 0 ∧ ss = []) ∨ ∃ g cap cur, v = .slice (some ⟨g, 0, none⟩) ss.length cap ∧ B ≤ g ∧ w.heap[g]? = some (.cells (ss.map Value.string ++ cur).toArray 9 (0, 0)) ∧ ss.length + cur.length = cap ∧ cap ≤ maxLen := by
  rcases h.2 with ⟨rfl, h0⟩ | ⟨g, cap, cur, rfl, hb, hg, hcap, hm, hsz, ht⟩
  · exact .inl ⟨rfl, List.eq_nil_of_length_eq_zero h0⟩
  · refine .inr ⟨g, cap, cur.toList.drop ss.length, rfl, hb, ?_, ?_, hm⟩
    · rw [Nat.mul_one] at ht
      rw [← ht, List.take_append_drop, Array.toArray_toList]
      exact hg
    · have e : cur.toList.length = cap := by rw [Array.length_toList, hsz, Nat.mul_one]
      rw [List.length_drop, e]
      omega
theorem OwnS.mk {w : World} {B g cap : Nat} {ss : List ByteArray} {cur : List Value} (hb : B ≤ g) (hg : w.heap[g]? = some (.cells (ss.map Value.string ++ cur).toArray 9 (0, 0))) (hc : ss.length + cur.length = cap) (hm : cap ≤ maxLen) : OwnS w B (.slice (some ⟨g, 0, none⟩) ss.length cap) ss := by
  refine ⟨by simp, .inr ⟨g, cap, _, rfl, hb, hg, by omega, hm, by simp; omega, ?_⟩⟩
  simp
/-- where a text comes in -/
def insertAt (ss : List ByteArray) (i : Nat) (x : ByteArray) : List ByteArray := ss.take i ++ x :: ss.drop i
theorem insertAt_length (ss : List ByteArray) (i : Nat) (x : ByteArray) (hi : i ≤ ss.length) : (insertAt ss i x).length = ss.length + 1 := by
  unfold insertAt
  rw [List.length_append, List.length_cons, List.length_take, List.length_drop]
  omega
theorem cells_at {w : World} {g : Nat} {L : List Value} {t : TypeId} (hg : w.heap[g]? = some (.cells L.toArray t (0, 0))) : (∀ j v, L[j]? = some v → w.cell? ⟨g, 0 + j, none⟩ = some v) ∧ (∀ j, w.frozen? ⟨g, j, none⟩ = false) ∧ w.shape? g = some (t, L.length) := by
  refine ⟨fun j v hv => ?_, fun j => frozen_of_row _ _ j _ _ hg, ?_⟩
  · rw [cell_of_row _ _ _ _ _ _ hg, Nat.zero_add]
    simpa using hv
  · simp [World.shape?, hg]

theorem arr_app (l : List Value) (Z : Array Value) : l.toArray ++ Z = (l ++ Z.toList).toArray := by
  apply Array.ext'
  simp
theorem own_new (w : World) (cap n : Nat) {B : Nat} (ss : List ByteArray) (hn : ss.length = n) (hge : n ≤ cap) (hm : cap ≤ maxLen) (hB : B ≤ w.heap.size) :
    OwnS (w.drew.alloc (.cells ((ss.map Value.string).toArray ++ Builtin.zeroCells (Value.string ⟨#[]⟩).cells (cap - n)) 9)) B (.slice (some ⟨w.heap.size, 0, none⟩) n cap) ss := by
  subst hn
  refine OwnS.mk hB (cur := (Builtin.zeroCells (Value.string ⟨#[]⟩).cells (cap - ss.length)).toList) ?_ ?_ hm
  · rw [arr_app]
    exact Go.heap_alloc_new w.drew _
  · have e : (Builtin.zeroCells (Value.string ⟨#[]⟩).cells (cap - ss.length)).toList.length = cap - ss.length := by rw [Array.length_toList, size_zeroCells]; simp [Value.cells]
    rw [e]
    omega

theorem shift_list {i : Nat} (cs cur : List Value) (x : Value) (hi : i < cs.length) (hc : 0 < cur.length) :
    ((((cs ++ cur).take (0 + (i + 1)) ++ cs.drop i ++ (cs ++ cur).drop (0 + (i + 1) + (cs.drop i).length)).take (0 + i)) ++ [x] ++ (((cs ++ cur).take (0 + (i + 1)) ++ cs.drop i ++ (cs ++ cur).drop (0 + (i + 1) + (cs.drop i).length)).drop (0 + i + [x].length))) = cs.take i ++ x :: cs.drop i ++ cur.drop 1 := by
  have hl : ((cs ++ cur).take (i + 1)).length = i + 1 := by rw [List.length_take, List.length_append]; omega
  have e1 : (cs ++ cur).drop (i + 1 + (cs.drop i).length) = cur.drop 1 := by
    rw [List.length_drop, show i + 1 + (cs.length - i) = cs.length + 1 by omega, ← List.drop_drop, List.drop_left]
  simp only [Nat.zero_add, e1, List.length_singleton, List.append_assoc]
  rw [List.take_append_of_le_length (by rw [hl]; omega), List.take_take, Nat.min_eq_left (by omega), List.take_append_of_le_length (by omega), List.drop_left' hl]
  simp
theorem grow_list {i : Nat} (cs Z : List Value) (x : Value) (hi : i < cs.length) {Z1 Z2 : List Value} (hZ : Z1 ++ Z2 = Z := by rfl) :
    ((((cs.take i ++ Z1 ++ Z2).take i ++ [x] ++ (cs.take i ++ Z1 ++ Z2).drop (i + [x].length)).take (i + 1)) ++ cs.drop i ++ (((cs.take i ++ Z1 ++ Z2).take i ++ [x] ++ (cs.take i ++ Z1 ++ Z2).drop (i + [x].length)).drop (i + 1 + (cs.drop i).length))) = cs.take i ++ x :: cs.drop i ++ Z.drop (cs.length + 1 - i) := by
  subst hZ
  have hl : (cs.take i).length = i := by rw [List.length_take]; omega
  have hl1 : (cs.take i ++ [x]).length = i + 1 := by rw [List.length_append, hl]; rfl
  have e0 : (cs.take i ++ Z1 ++ Z2).take i = cs.take i := by rw [List.append_assoc]; exact List.take_left' hl
  have e1 : (cs.take i ++ Z1 ++ Z2).drop (i + [x].length) = (Z1 ++ Z2).drop 1 := by
    rw [List.append_assoc, List.length_singleton, ← List.drop_drop, List.drop_left' hl]
  rw [e0, e1, List.take_left' hl1]
  have e2 : (cs.take i ++ [x] ++ (Z1 ++ Z2).drop 1).drop (i + 1 + (cs.drop i).length) = (Z1 ++ Z2).drop (cs.length + 1 - i) := by
    rw [← List.drop_drop, List.drop_left' hl1, List.drop_drop, List.length_drop]
    congr 1
    omega
  rw [e2]
  simp

set_option maxHeartbeats 1000000 in
/-- slices.Insert of one text into a row of the call's own -/
theorem insert55 (B : Nat) (v : Value) (ss : List ByteArray) (i : Nat) (x : ByteArray) (vb : Nat) (w : World) (hown : OwnS w B v ss) (hi : i ≤ ss.length) (hl : ss.length ≤ 100000) (hx : w.heap[vb]? = some (.cells #[.string x] 9 (0, 0))) (hne : v.ownBlock ≠ some vb) (hB : B ≤ w.heap.size) :
    Calls Try.prog 55 #[v, .int .i64 i, .slice (some ⟨vb, 0, none⟩) 1 1] w fun e w' => ∃ v', e = .returned v' ∧ OwnS w' B v' (insertAt ss i x) ∧ w.grownBy w' v.ownBlock ∧ (v'.ownBlock = v.ownBlock ∨ ∃ k, v'.ownBlock = some k ∧ w.heap.size ≤ k) := by
  have hx' : w.heap[vb]? = some (.cells [Value.string x].toArray 9 (0, 0)) := hx
  obtain ⟨x1, x2, x3⟩ := cells_at hx'
  have hvone : ∀ u ∈ [Value.string x], u.oneCell' = true := by intro u hu; rw [List.mem_singleton.1 hu]; rfl
  rcases hown.row with ⟨rfl, rfl⟩ | ⟨g, cap, cur, rfl, hBg, hg, hcap, hmax⟩
  · obtain rfl : i = 0 := by simpa using hi
    refine (Any2.slices_Insert_string_end_grow lays22 none 0 0 vb 0 1 1 [] [.string x] w (by omega) (by omega) (by omega) (by omega) rfl rfl (fun _ => rfl) (fun a h => by cases h) x1 hvone).mono ?_
    rintro e w' ⟨rfl, rfl⟩
    refine ⟨_, rfl, ?_, ⟨rfl, rfl, rfl, by simp, fun k hk _ => heap_alloc_old w.drew _ hk⟩, .inr ⟨_, rfl, Nat.le_refl _⟩⟩
    exact own_new w (grownCap w (0 + 1) 0 9) 1 [x] rfl (grownCap_ge w 1 0 9) (grownCap_le_maxLen w 1 0 9 (by unfold maxLen; omega)) hB
  · obtain ⟨c1, c2, c3⟩ := cells_at hg
    have hlen : (ss.map Value.string ++ cur).length = cap := by rw [List.length_append, List.length_map]; exact hcap
    have hcs : ∀ j u, (ss.map Value.string)[j]? = some u → w.cell? ⟨g, 0 + j, none⟩ = some u := fun j u hu => c1 j u (by rw [List.getElem?_append_left (List.getElem?_eq_some_iff.1 hu).1]; exact hu)
    have hsome : ∀ j, j < cap → (w.cell? ⟨g, 0 + j, none⟩).isSome = true := fun j hj => by
      rw [c1 j _ (List.getElem?_eq_getElem (by rw [hlen]; exact hj))]
      rfl
    have hvg : vb ≠ g := fun e => hne (by rw [e]; rfl)
    have hxlt : vb < w.heap.size := (Array.getElem?_eq_some_iff.1 hx).1
    by_cases hie : i = ss.length
    · subst hie
      have hins : insertAt ss ss.length x = ss ++ [x] := by simp [insertAt]
      rw [hins]
      by_cases hroom : ss.length + 1 ≤ cap
      · refine (Any2.slices_Insert_string_end_room lays22 g 0 ss.length cap vb 0 1 1 [.string x] w (by omega) hroom (by unfold maxLen at hmax; omega) rfl (fun j hj => by have := hsome (ss.length + j) (by omega); rw [Nat.zero_add] at this ⊢; exact this) (fun j _ => c2 _) x1 hvone).mono ?_
        rintro e w' ⟨rfl, rfl⟩
        obtain ⟨h1, h2⟩ := setCells_row (g := g) (t := 9) [.string x] (0 + ss.length) w _ hg (by rw [hlen]; simp; omega)
        refine ⟨_, rfl, ?_, h2, .inl rfl⟩
        have e1 : (ss.map Value.string ++ cur).take (0 + ss.length) = ss.map Value.string := by rw [Nat.zero_add]; exact List.take_left' (by simp)
        have e2 : (ss.map Value.string ++ cur).drop (0 + ss.length + [Value.string x].length) = cur.drop 1 := by
          rw [Nat.zero_add, ← List.drop_drop, List.drop_left' (by simp)]
          rfl
        rw [e1, e2] at h1
        have := OwnS.mk (B := B) (cap := cap) (ss := ss ++ [x]) (cur := cur.drop 1) hBg (by rw [h1]; simp) (by rw [List.length_drop]; simp; omega) hmax
        simpa using this
      · refine (Any2.slices_Insert_string_end_grow lays22 (some ⟨g, 0, none⟩) ss.length cap vb 0 1 1 (ss.map Value.string) [.string x] w (by omega) (by omega) (by omega) (by omega) (by simp) rfl (fun h => by cases h) (fun a h j u hu => by cases h; rw [add_plain]; exact hcs j u hu) x1 hvone).mono ?_
        rintro e w' ⟨rfl, rfl⟩
        refine ⟨_, rfl, ?_, ⟨rfl, rfl, rfl, by simp, fun k hk _ => heap_alloc_old w.drew _ hk⟩, .inr ⟨_, rfl, Nat.le_refl _⟩⟩
        have := own_new w (grownCap w (ss.length + 1) cap 9) (ss.length + 1) (ss ++ [x]) (by simp) (grownCap_ge w _ cap 9) (grownCap_le_maxLen w _ cap 9 (by unfold maxLen; omega)) hB
        rw [List.map_append] at this
        exact this
    · have hlt : i < ss.length := by omega
      by_cases hroom : ss.length + 1 ≤ cap
      · refine (Any2.slices_Insert_string_shift lays22 g 0 ss.length cap i vb 0 1 1 (ss.map Value.string) [.string x] w hlt (by omega) hroom (by unfold maxLen at hmax; omega) hvg (by simp) rfl hcs (fun j hj => hsome j (by omega)) (fun j _ => c2 _) x1 (strs_one ss) hvone 9 9 1 cap x3 (by rw [c3, hlen]) (by omega) (x2 _) (x2 _)).mono ?_
        rintro e w' ⟨rfl, rfl⟩
        have hg' : w.drew.heap[g]? = some (.cells (ss.map Value.string ++ cur).toArray 9 (0, 0)) := hg
        obtain ⟨h1, h2⟩ := setCells_row (g := g) (t := 9) ((ss.map Value.string).drop i) (0 + (i + 1)) w.drew _ hg' (by rw [hlen]; simp; omega)
        obtain ⟨h3, h4⟩ := setCells_row (g := g) (t := 9) [.string x] (0 + i) _ _ h1 (by simp; omega)
        refine ⟨_, rfl, ?_, grown_trans (grown_trans (grown_drew (grown_refl w _)) h2) h4, .inl rfl⟩
        rw [shift_list (ss.map Value.string) cur (.string x) (by simpa using hlt) (by omega)] at h3
        have := OwnS.mk (B := B) (cap := cap) (ss := insertAt ss i x) (cur := cur.drop 1) hBg (by rw [h3]; simp [insertAt]) (by rw [insertAt_length ss i x hi, List.length_drop]; omega) hmax
        rw [insertAt_length ss i x hi] at this
        exact this
      · refine (Any2.slices_Insert_string_grow lays22 g 0 ss.length cap i vb 0 1 1 (ss.map Value.string) [.string x] w hlt (by omega) (by omega) (by omega) (by omega) (by simp) rfl hcs x1 (strs_one ss) hvone).mono ?_
        rintro e w' ⟨rfl, rfl⟩
        have hge := grownCap_ge w (ss.length + 1) cap 9
        have hgm := grownCap_le_maxLen w (ss.length + 1) cap 9 (by unfold maxLen; omega)
        rw [show lays22_ren.t 9 = 9 from rfl]
        generalize grownCap w (ss.length + 1) cap 9 = gc at *
        generalize hZ1 : Builtin.zeroCells (Value.string ⟨#[]⟩).cells (ss.length + 1 - i) = Z1
        generalize hZ2 : Builtin.zeroCells (Value.string ⟨#[]⟩).cells (gc - (ss.length + 1)) = Z2
        have z1 : Z1.toList.length = ss.length + 1 - i := by rw [← hZ1, Array.length_toList, size_zeroCells]; simp [Value.cells]
        have z2 : Z2.toList.length = gc - (ss.length + 1) := by rw [← hZ2, Array.length_toList, size_zeroCells]; simp [Value.cells]
        clear hZ1 hZ2
        have hg0 : (w.alloc (.cells (((ss.map Value.string).take i).toArray ++ Z1 ++ Z2) 9)).drew.heap[w.heap.size]? = some (.cells ((ss.map Value.string).take i ++ Z1.toList ++ Z2.toList).toArray 9 (0, 0)) := by
          have := Go.heap_alloc_new w (.cells (((ss.map Value.string).take i).toArray ++ Z1 ++ Z2) 9)
          rw [show ((ss.map Value.string).take i).toArray ++ Z1 ++ Z2 = ((ss.map Value.string).take i ++ Z1.toList ++ Z2.toList).toArray by apply Array.ext'; simp] at this ⊢
          exact this
        have hli : ((ss.map Value.string).take i).length = i := by simp; omega
        obtain ⟨h1, h2⟩ := setCells_row (g := w.heap.size) (t := 9) [.string x] i _ _ hg0 (by rw [List.length_append, List.length_append, hli, z1]; simp; omega)
        have h1' : (((w.alloc (.cells (((ss.map Value.string).take i).toArray ++ Z1 ++ Z2) 9)).drew.setCells w.heap.size i [.string x]).drew).heap[w.heap.size]? = _ := h1
        obtain ⟨h3, h4⟩ := setCells_row (g := w.heap.size) (t := 9) ((ss.map Value.string).drop i) (i + 1) _ _ h1' (by simp only [List.length_append, List.length_take, List.length_drop, hli, z1, z2, List.length_map, List.length_singleton]; omega)
        refine ⟨_, rfl, ?_, ?_, .inr ⟨_, rfl, Nat.le_refl _⟩⟩
        · rw [grow_list (ss.map Value.string) (Z1.toList ++ Z2.toList) (.string x) (by simpa using hlt)] at h3
          have := OwnS.mk (B := B) (cap := gc) (ss := insertAt ss i x) (cur := (Z1.toList ++ Z2.toList).drop (ss.length + 1 - i)) hB (by rw [h3]; simp [insertAt]) (by rw [insertAt_length ss i x hi, List.length_drop, List.length_append, z1, z2]; omega) hgm
          rw [insertAt_length ss i x hi] at this
          exact this
        · refine ⟨h4.os.trans h2.os, h4.tape.trans h2.tape, h4.output.trans h2.output, ?_, fun k hk _ => ?_⟩
          · have a1 := h2.size
            have a2 := h4.size
            have a0 : w.heap.size ≤ ((w.alloc (.cells (((ss.map Value.string).take i).toArray ++ Z1 ++ Z2) 9)).drew).heap.size := by show _ ≤ (w.alloc _).heap.size; rw [World.size_alloc]; exact Nat.le_succ _
            exact Nat.le_trans (Nat.le_trans a0 a1) a2
          · have hk1 : some k ≠ some w.heap.size := fun e => by cases e; exact Nat.lt_irrefl _ hk
            have a1 := h2.block k (by simp; omega) hk1
            have a2 := h4.block k (Nat.lt_of_lt_of_le (by simp; omega) h2.size) hk1
            exact a2.trans (a1.trans (heap_alloc_old w _ hk))
end Go.Proofs.Ytobbgndabmnbcaa.Key
