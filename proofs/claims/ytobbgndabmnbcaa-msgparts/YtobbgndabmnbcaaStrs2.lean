/-
  slices.Delete in a row of the call's own.
-/
import Derived.Test.YtobbgndabmnbcaaStrs
namespace Go.Proofs.Ytobbgndabmnbcaa.Key
open Go.RowKit Go.Lib Go.Sort
open Go.Op (bytesLess)

theorem strs_enc (ss : List ByteArray) : (Lib.strsOf (fun j => ss.getD j ByteArray.empty) ss.length).map encStr = ss.map Value.string := by
  apply List.ext_getElem
  · simp [Lib.strsOf_length]
  · intro j h1 h2
    simp only [List.length_map] at h2
    simp [Lib.strsOf, encStr, List.getD, List.getElem?_eq_getElem h2]
theorem erase_split {α : Type} (l : List α) (i : Nat) : l.eraseIdx i = l.take i ++ l.drop (i + 1) := List.eraseIdx_eq_take_drop_succ ..
theorem erase_length (ss : List ByteArray) (i : Nat) (h : i < ss.length) : (ss.eraseIdx i).length = ss.length - 1 := by rw [List.length_eraseIdx, if_pos h]

set_option maxHeartbeats 1000000 in
/-- slices.Delete of one text of a row of the call's own -/
theorem delete56 (B : Nat) (v : Value) (ss : List ByteArray) (i : Nat) (w : World) (hown : OwnS w B v ss) (hi : i < ss.length) :
    Calls Try.prog 56 #[v, .int .i64 i, .int .i64 ((i : Int) + 1)] w fun e w' => ∃ v', e = .returned v' ∧ OwnS w' B v' (ss.eraseIdx i) ∧ w.grownBy w' v.ownBlock ∧ v'.ownBlock = v.ownBlock := by
  rcases hown.row with ⟨_, rfl⟩ | ⟨g, cap, cur, rfl, hBg, hg, hcap, hmax⟩
  · simp at hi
  · obtain ⟨c1, c2, c3⟩ := cells_at hg
    have hcs : ∀ j, j < ss.length → w.cell? ⟨g, 0 + j, none⟩ = some (.string (ss.getD j ByteArray.empty)) := fun j hj => c1 j _ (by
      rw [List.getElem?_append_left (by simpa using hj), List.getElem?_map, List.getElem?_eq_getElem hj]
      simp [List.getD, List.getElem?_eq_getElem hj])
    have H := Any.slices_Delete_string_cells lays24 g 0 ss.length cap i (i + 1) (fun j => ss.getD j ByteArray.empty) w (by omega) (by unfold maxLen at hmax; omega) (by omega) (by omega) hcs (fun j _ => c2 _)
    refine Calls.mono H ?_
    rintro e w' ⟨rfl, q, rfl⟩
    have e1 : ((Lib.strsOf (fun j => ss.getD j ByteArray.empty) ss.length).take i ++ (Lib.strsOf (fun j => ss.getD j ByteArray.empty) ss.length).drop (i + 1) ++ List.replicate (i + 1 - i) []).map encStr = (ss.eraseIdx i).map Value.string ++ [.string ⟨#[]⟩] := by
      rw [List.map_append, List.map_append, List.map_take, List.map_drop, strs_enc, erase_split, List.map_append, List.map_take, List.map_drop, show i + 1 - i = 1 by omega]
      rfl
    rw [e1]
    have hl : ((ss.eraseIdx i).map Value.string ++ [Value.string ⟨#[]⟩]).length = ss.length := by rw [List.length_append, List.length_map, erase_length ss i hi]; simp; omega
    have hg' : (w.drewN q).heap[g]? = some (.cells (ss.map Value.string ++ cur).toArray 9 (0, 0)) := hg
    obtain ⟨h1, h2⟩ := setCells_row (g := g) (t := 9) ((ss.eraseIdx i).map Value.string ++ [.string ⟨#[]⟩]) 0 _ _ hg' (by rw [hl, List.length_append, List.length_map]; omega)
    refine ⟨_, rfl, ?_, grown_trans (grown_drewN (grown_refl w _) q) h2, rfl⟩
    rw [hl, Nat.zero_add, List.drop_left' (by simp), List.take_zero, List.nil_append, List.append_assoc] at h1
    have := OwnS.mk (B := B) (cap := cap) (ss := ss.eraseIdx i) (cur := [.string ⟨#[]⟩] ++ cur) hBg h1 (by rw [erase_length ss i hi, List.length_append]; simp; omega) hmax
    rw [erase_length ss i hi] at this
    rw [show ss.length - (i + 1 - i) = ss.length - 1 by omega]
    exact this
/-- a text put in another one's place -/
theorem OwnS.stored {w : World} {B g n c : Nat} {ss : List ByteArray} (h : OwnS w B (.slice (some ⟨g, 0, none⟩) n c) ss) (hn : ss.length = n) {i : Nat} (hi : i < n) (x : ByteArray) :
    OwnS (w.setCell ⟨g, i, none⟩ (.string x)) B (.slice (some ⟨g, 0, none⟩) n c) (ss.set i x) ∧ w.grownBy (w.setCell ⟨g, i, none⟩ (.string x)) (some g) := by
  subst hn
  have h1 := (World.ownsRow.stored h i (.string x)).1
  have e : (ss.map Value.string).set i (.string x) = (ss.set i x).map Value.string := by rw [List.map_set]
  rw [e] at h1
  refine ⟨by unfold OwnS; rw [List.length_set]; exact h1, ?_⟩
  rcases h.row with ⟨h0, _⟩ | ⟨g', cap, cur, hv, _, hg, _⟩
  · simp at h0
  · simp only [Value.slice.injEq, Option.some.injEq, Addr.mk.injEq, and_true] at hv
    obtain ⟨rfl, _, rfl⟩ := hv
    rw [setCell_eq_setRow w g i _ 9 (0, 0) _ hg]
    exact ⟨rfl, rfl, rfl, by simp [World.setRow], fun k hk hne => setRow_other w g k _ (fun e => hne (by rw [e]))⟩
end Go.Proofs.Ytobbgndabmnbcaa.Key
