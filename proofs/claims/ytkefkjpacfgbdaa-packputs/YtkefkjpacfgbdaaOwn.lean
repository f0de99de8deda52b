/-
  What PackPuts wants besides: a row that 'make' makes with room behind it, and what 'copy' leaves there.
-/
import Derived.Test.YtkefkjpacfgbdaaBack
import Derived.Laws.CopyOwn
namespace Go.Proofs.Ytkefkjpacfgbdaa.Pack
open Go.RowKit

theorem txt_length (s : ByteArray) : (txt s).length = 1 + min s.size 255 := by
  unfold txt
  rw [List.length_cons, nums_length, ByteArray.size_extract]
  omega
/-- 'make([]byte, n, n+64)' -/
theorem make_own (n : Nat) (hn : n ≤ 1000000) : ∀ u : World, (Instr.makeSlice 22 (.int .i64 (n : Int)) (.int .i64 ((n : Int) + 64))).run Try.prog u =
      .ok (.slice (some ⟨u.heap.size, 0, none⟩) n (n + 64)) (u.alloc (.cells (madeCells #[.int .u8 0] (n + 64)) 5)) := fun u => by
  obtain ⟨i0, hi, hz0, hz1, hz2⟩ := info_parts info5
  have h := run_make (P := Try.prog) u 22 5 i0 (.int .u8 0) Try.underlying22 hi hz0 .i64 .i64 (n : Int) ((n : Int) + 64) (by omega) (by omega) (by rw [hz2]; omega) (by omega)
  have e : ((n : Int) + 64).toNat = n + 64 := by omega
  rw [e, Int.toNat_natCast] at h
  simpa [hz1, Value.cells] using h
theorem made_row (w : World) (n : Nat) : (w.alloc (.cells (madeCells #[.int .u8 0] (n + 64)) 5)).heap[w.heap.size]? = some (.cells (List.replicate (n + 64) (Value.int .u8 0)).toArray 5 (0, 0)) := by
  have h : madeCells #[Value.int .u8 0] (n + 64) = (List.replicate (n + 64) (Value.int .u8 0)).toArray := by
    apply Array.ext'
    rw [toList_madeCells_one]
  rw [h]
  exact Go.heap_alloc_new _ _
theorem copy_src {w : World} {a : Option Addr} {g : Nat} {xs : List Int} (h : Bytes w a xs) : 0 < (xs.map (Value.int .u8)).length → (some (⟨g, 0, none⟩ : Addr) = some ⟨g, 0, none⟩) ∧ ∃ ad, a = some ad ∧ ∀ j v, (xs.map (Value.int .u8))[j]? = some v → w.cell? (ad.add j) = some v := by
  intro hl
  refine ⟨rfl, ?_⟩
  rcases h with rfl | ⟨b, off, rfl, hc⟩
  · simp at hl
  · exact ⟨_, rfl, Bytes.news (.inr ⟨b, off, rfl, hc⟩)⟩
theorem ints_one (xs : List Int) : ∀ v ∈ xs.map (Value.int .u8), v.oneCell' = true := by
  intro v hv
  simp at hv
  obtain ⟨_, _, rfl⟩ := hv
  rfl
/-- what lies in the row then: the bytes, and nothing behind them -/
theorem copied {w : World} {g n : Nat} {xs : List Int} (hl : xs.length = n) (h : w.heap[g]? = some (.cells (splice (List.replicate (n + 64) (Value.int .u8 0)) 0 (xs.map (Value.int .u8))).toArray 5 (0, 0))) :
    Bytes w (some ⟨g, 0, none⟩) xs ∧ ∀ i, n ≤ i → i < n + 64 → w.cell? ⟨g, i, none⟩ = some (.int .u8 0) := by
  subst hl
  have e : splice (List.replicate (xs.length + 64) (Value.int .u8 0)) 0 (xs.map (Value.int .u8)) = xs.map (Value.int .u8) ++ List.replicate 64 (Value.int .u8 0) := by
    simp [splice]
  rw [e] at h
  refine ⟨.inr ⟨g, 0, rfl, fun i hi => ?_⟩, fun i h1 h2 => ?_⟩
  · rw [cell_of_row w g (0 + i) _ 5 _ h]
    simp [List.getElem?_append, hi, List.getD]
  · rw [cell_of_row w g i _ 5 _ h, List.getElem?_toArray, List.getElem?_append_right (by simpa using h1), List.getElem?_replicate, if_pos (by simp only [List.length_map]; omega)]
end Go.Proofs.Ytkefkjpacfgbdaa.Pack
