/-
  Contracts of slices.Clone on rows of the call's own, and of what goes through a map.
-/
import Derived.Test.YtobbgndabmnbcaaRise
import Derived.Test.YtobbgndabmnbcaaLast
namespace Go.Proofs.Ytobbgndabmnbcaa.Key
open Go.RowKit Go.Shelf Draw
open Go.Op (bytesLess)
attribute [local go_sem] Oper.semAt_some

theorem clone63 (B : Nat) (v : Value) (ss : List ByteArray) (w : World) (h : OwnS w B v ss) (hl : ss.length ≤ 100000) :
    Calls Try.prog 63 #[v] w fun e w' => ∃ v', e = .returned v' ∧ OwnS w' w.heap.size v' ss ∧ Below w.heap.size w w' := by
  rcases h.row with ⟨rfl, rfl⟩ | ⟨g, cap, cur, rfl, hBg, hg, hcap, hmax⟩
  · have H := Any.slices_Clone_string_nil lays16 0 0 w
    refine Calls.mono H ?_
    rintro e w' ⟨rfl, rfl⟩
    exact ⟨_, rfl, OwnS.nil _ _, Below.refl _ _⟩
  · by_cases h0 : ss.length = 0
    · have H := Any.slices_Clone_string_zero lays16 ⟨g, 0, none⟩ cap w
      rw [h0]
      obtain rfl : ss = [] := List.eq_nil_of_length_eq_zero h0
      refine Calls.mono H ?_
      rintro e w' ⟨v', rfl, h1, _, h2⟩
      exact ⟨v', rfl, h1, h2⟩
    · obtain ⟨c1, c2, c3⟩ := cells_at hg
      have hcs : ∀ j, j < ss.length → w.cell? ⟨g, 0 + j, none⟩ = some (.string (ss.getD j ByteArray.empty)) := fun j hj => c1 j _ (by
        rw [List.getElem?_append_left (by simpa using hj), List.getElem?_map, List.getElem?_eq_getElem hj]
        simp [List.getD, List.getElem?_eq_getElem hj])
      have H := Any.slices_Clone_string lays16 g 0 ss.length cap ss w (Nat.le_refl _) (by omega) hcs
      rw [List.take_length] at H
      refine Calls.mono H ?_
      rintro e w' ⟨v', rfl, h1, _, h2⟩
      exact ⟨v', rfl, h1, h2⟩
/-- rows of texts stay -/
structure StrKeep (W W' : World) : Prop where
  size : W.heap.size ≤ W'.heap.size
  row : ∀ (b : Nat) (cs : Array Value), W.heap[b]? = some (.cells cs 9 (0, 0)) → W'.heap[b]? = W.heap[b]?
theorem StrKeep.refl (W : World) : StrKeep W W := ⟨Nat.le_refl _, fun _ _ _ => rfl⟩
theorem StrKeep.trans {A B C : World} (h : StrKeep A B) (k : StrKeep B C) : StrKeep A C :=
  ⟨Nat.le_trans h.size k.size, fun b cs hb => (k.row b cs ((h.row b cs hb).trans hb)).trans (h.row b cs hb)⟩
theorem OwnS.keep {w w' : World} {B : Nat} {v : Value} {ss : List ByteArray} (h : OwnS w B v ss) (hk : StrKeep w w') : OwnS w' B v ss := by
  refine ⟨h.1, ?_⟩
  rcases h.2 with h0 | ⟨g, cap, cur, hv, hb, hg, r⟩
  · exact .inl h0
  · exact .inr ⟨g, cap, cur, hv, hb, (hk.row g cur hg).trans hg, r⟩
/-- a row's texts in memory -/
theorem OwnS.at {w : World} {B n : Nat} {v : Value} {ss : List ByteArray} (h : OwnS w B v ss) (hn : ss.length = n) {i : Nat} (hi : i < n) : ∃ g c, v = .slice (some ⟨g, 0, none⟩) n c ∧ w.cell? ⟨g, i, none⟩ = some (.string (ss.getD i ByteArray.empty)) := by
  subst hn
  rcases h.row with ⟨_, rfl⟩ | ⟨g, cap, cur, rfl, _, hg, _⟩
  · simp at hi
  · refine ⟨g, cap, rfl, ?_⟩
    obtain ⟨c1, _, _⟩ := cells_at hg
    have := c1 i (.string (ss.getD i ByteArray.empty)) (by
      rw [List.getElem?_append_left (by simpa using hi), List.getElem?_map, List.getElem?_eq_getElem hi]
      simp [List.getD, List.getElem?_eq_getElem hi])
    rw [Nat.zero_add] at this
    exact this
end Go.Proofs.Ytobbgndabmnbcaa.Key
