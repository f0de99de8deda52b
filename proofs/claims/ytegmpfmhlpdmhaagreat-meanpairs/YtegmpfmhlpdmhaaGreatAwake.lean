/-
  Contract of awake: the document's example.
-/
import Derived.Test.YtegmpfmhlpdmhaaGreatGet
namespace Go.Proofs.YtegmpfmhlpdmhaaGreat.Key
open Go.RowKit
set_option linter.unusedVariables false
set_option linter.unusedSimpArgs false

def awL (B : Nat) : List It := [⟨5, ⟨false, [], [], [⟨7, 1, ⟨#[]⟩, ⟨#[]⟩⟩], [⟨3, ⟨#[98]⟩, ⟨#[]⟩, 7, 1, ⟨#[97]⟩⟩]⟩, ⟨none, 0, none, 0, some ⟨B, 0, none⟩, 1, some ⟨B + 1, 0, none⟩, 1⟩⟩, ⟨7, ⟨true, [⟨⟨#[97]⟩, ⟨#[49]⟩⟩], [], [], []⟩, ⟨some ⟨B + 1 + 1, 0, none⟩, 1, none, 0, none, 0, none, 0⟩⟩]
theorem aw_right (B : Nat) : rightB (awL B) = true := by rfl
theorem aw_val (B : Nat) : valL (awL B) 5 [98] = some ⟨#[49]⟩ := by
  have h5 : findI (awL B) 5 = some ((awL B)[0]'(by simp [awL])) := rfl
  have h7 : findI (awL B) 7 = some ((awL B)[1]'(by simp [awL])) := rfl
  rw [val_step (aw_right B) h5]
  show valL (awL B) 7 [97] = some ⟨#[49]⟩
  rw [val_step (aw_right B) h7]
  rfl
theorem aw_dep (B : Nat) : depM (awL B) 5 = 2 := by rfl
theorem aw_fine (B : Nat) : Fine (awL B) := by
  refine ⟨by simp [awL], fun x hx => ?_, fun x hx => ?_⟩
  · simp only [awL, List.mem_cons, List.not_mem_nil, or_false] at hx
    rcases hx with rfl | rfl
    · exact ⟨by show (Lit.int .u32 5).wf = true; decide, ⟨by simp [maxLen], by simp [maxLen], by simp [maxLen], by simp [maxLen], fun e he => by simp at he; subst he; exact ⟨by decide, by decide, by decide, by decide⟩, fun e he => by simp at he; subst he; exact ⟨by decide, by decide, by decide, by decide, by decide, by decide⟩⟩, ⟨fun _ => rfl, fun _ => rfl, (fun h => by cases h), (fun h => by cases h)⟩⟩
    · exact ⟨by show (Lit.int .u32 7).wf = true; decide, ⟨by simp [maxLen], by simp, by simp, by simp, fun e he => by simp at he, fun e he => by simp at he⟩, ⟨(fun h => by cases h), fun _ => rfl, fun _ => rfl, fun _ => rfl⟩⟩
  · simp only [awL, List.mem_cons, List.not_mem_nil, or_false] at hx
    rcases hx with rfl | rfl
    · exact ⟨⟨by simp, by simp, by simp, by simp⟩, fun e he => by simp at he; subst he; decide, fun e he => by simp at he; subst he; decide, fun e he => by simp at he; subst he; decide, fun e he => by simp at he; subst he; decide, fun e he => by simp at he; subst he; decide⟩
    · exact ⟨⟨by simp, by simp, by simp, by simp⟩, fun e he => by simp at he, fun e he => by simp at he, fun e he => by simp at he, fun e he => by simp at he, fun e he => by simp at he⟩
theorem aw_items {w : World} {B : Nat} (R0 : w.heap[B]? = some (.cells #[.int .u32 7, .int .u16 1, .string ⟨#[]⟩, .string ⟨#[]⟩] 39 (0, 0))) (R1 : w.heap[B + 1]? = some (.cells #[.int .u8 3, .string ⟨#[98]⟩, .string ⟨#[]⟩, .int .u32 7, .int .u16 1, .string ⟨#[97]⟩] 42 (0, 0)))
    (R2 : w.heap[B + 1 + 1]? = some (.cells #[.string ⟨#[97]⟩, .string ⟨#[49]⟩] 50 (0, 0)))
    (R3 : w.heap[B + 1 + 1 + 1]? = some (.cells #[.int .u32 5, .bool false, .slice none 0 0, .slice none 0 0, .slice (some ⟨B, 0, none⟩) 1 1, .slice (some ⟨B + 1, 0, none⟩) 1 1, .int .u32 7, .bool true, .slice (some ⟨B + 1 + 1, 0, none⟩) 1 1, .slice none 0 0, .slice none 0 0, .slice none 0 0] 48 (0, 0))) : Items w (some ⟨B + 1 + 1 + 1, 0, none⟩) (awL B) := by
  refine .inr ⟨B + 1 + 1 + 1, 0, rfl, fun i hi => ?_⟩
  have hi' : i = 0 ∨ i = 1 := by simp [awL] at hi; omega
  rcases hi' with rfl | rfl
  · refine ⟨⟨cell_of_row _ _ _ _ _ _ R3, cell_of_row _ _ _ _ _ _ R3, cell_of_row _ _ _ _ _ _ R3, cell_of_row _ _ _ _ _ _ R3, cell_of_row _ _ _ _ _ _ R3, cell_of_row _ _ _ _ _ _ R3⟩, .inl rfl, .inl rfl, .inr ⟨B, 0, rfl, fun j hj => ?_⟩, .inr ⟨B + 1, 0, rfl, fun j hj => ?_⟩⟩
    · have hj' : j = 0 := by simp [awL] at hj; omega
      subst hj'
      exact ⟨cell_of_row _ _ _ _ _ _ R0, cell_of_row _ _ _ _ _ _ R0, cell_of_row _ _ _ _ _ _ R0, cell_of_row _ _ _ _ _ _ R0⟩
    · have hj' : j = 0 := by simp [awL] at hj; omega
      subst hj'
      exact ⟨cell_of_row _ _ _ _ _ _ R1, cell_of_row _ _ _ _ _ _ R1, cell_of_row _ _ _ _ _ _ R1, cell_of_row _ _ _ _ _ _ R1, cell_of_row _ _ _ _ _ _ R1, cell_of_row _ _ _ _ _ _ R1⟩
  · refine ⟨⟨cell_of_row _ _ _ _ _ _ R3, cell_of_row _ _ _ _ _ _ R3, cell_of_row _ _ _ _ _ _ R3, cell_of_row _ _ _ _ _ _ R3, cell_of_row _ _ _ _ _ _ R3, cell_of_row _ _ _ _ _ _ R3⟩, .inr ⟨B + 1 + 1, 0, rfl, fun j hj => ?_⟩, .inl rfl, .inl rfl, .inl rfl⟩
    have hj' : j = 0 := by simp [awL] at hj; omega
    subst hj'
    exact ⟨cell_of_row _ _ _ _ _ _ R2, cell_of_row _ _ _ _ _ _ R2⟩
set_option maxRecDepth 100000 in
set_option maxHeartbeats 800000 in
theorem awake7 (w : World) : Calls Tryz.prog 6 #[] w fun x w' => x = .returned (.bool true) ∧ Below w.heap.size w w' := by
  obtain ⟨w1, e1⟩ : ∃ u, w.alloc (.cells #[.int .u32 7, .int .u16 1, .string ⟨#[]⟩, .string ⟨#[]⟩] 39) = u := ⟨_, rfl⟩
  obtain ⟨w2, e2⟩ : ∃ u, w1.alloc (.cells #[.int .u8 3, .string ⟨#[98]⟩, .string ⟨#[]⟩, .int .u32 7, .int .u16 1, .string ⟨#[97]⟩] 42) = u := ⟨_, rfl⟩
  obtain ⟨w3, e3⟩ : ∃ u, w2.alloc (.cells #[.string ⟨#[97]⟩, .string ⟨#[49]⟩] 50) = u := ⟨_, rfl⟩
  obtain ⟨w4, e4⟩ : ∃ u, w3.alloc (.cells #[.int .u32 5, .bool false, .slice none 0 0, .slice none 0 0, .slice (some ⟨w.heap.size, 0, none⟩) 1 1, .slice (some ⟨w.heap.size + 1, 0, none⟩) 1 1, .int .u32 7, .bool true, .slice (some ⟨w.heap.size + 1 + 1, 0, none⟩) 1 1, .slice none 0 0, .slice none 0 0, .slice none 0 0] 48) = u := ⟨_, rfl⟩
  have s1 : w1.heap.size = w.heap.size + 1 := by rw [← e1]; simp
  have s2 : w2.heap.size = w.heap.size + 1 + 1 := by rw [← e2, World.size_alloc, s1]
  have s3 : w3.heap.size = w.heap.size + 1 + 1 + 1 := by rw [← e3, World.size_alloc, s2]
  have b1 : Below w.heap.size w w1 := by rw [← e1]; exact below_box _ _
  have b2 : Below w1.heap.size w1 w2 := by rw [← e2]; exact below_box _ _
  have b3 : Below w2.heap.size w2 w3 := by rw [← e3]; exact below_box _ _
  have b4 : Below w3.heap.size w3 w4 := by rw [← e4]; exact below_box _ _
  have R0 : w1.heap[w.heap.size]? = some (.cells #[.int .u32 7, .int .u16 1, .string ⟨#[]⟩, .string ⟨#[]⟩] 39 (0, 0)) := by rw [← e1]; exact Go.heap_alloc_new _ _
  have R1 : w2.heap[w.heap.size + 1]? = some (.cells #[.int .u8 3, .string ⟨#[98]⟩, .string ⟨#[]⟩, .int .u32 7, .int .u16 1, .string ⟨#[97]⟩] 42 (0, 0)) := by rw [← e2, ← s1]; exact Go.heap_alloc_new _ _
  have R2 : w3.heap[w.heap.size + 1 + 1]? = some (.cells #[.string ⟨#[97]⟩, .string ⟨#[49]⟩] 50 (0, 0)) := by rw [← e3, ← s2]; exact Go.heap_alloc_new _ _
  have R3 : w4.heap[w.heap.size + 1 + 1 + 1]? = some (.cells #[.int .u32 5, .bool false, .slice none 0 0, .slice none 0 0, .slice (some ⟨w.heap.size, 0, none⟩) 1 1, .slice (some ⟨w.heap.size + 1, 0, none⟩) 1 1, .int .u32 7, .bool true, .slice (some ⟨w.heap.size + 1 + 1, 0, none⟩) 1 1, .slice none 0 0, .slice none 0 0, .slice none 0 0] 48 (0, 0)) := by rw [← e4, ← s3]; exact Go.heap_alloc_new _ _
  have c2 := b2.trans (b3.mono b2.size)
  have c3 : Below w1.heap.size w1 w4 := c2.trans (b4.mono c2.size)
  have c4 : Below w2.heap.size w2 w4 := b3.trans (b4.mono b3.size)
  have hb : Below w.heap.size w w4 := b1.trans (c3.mono b1.size)
  have HI : Items w4 (some ⟨w.heap.size + 1 + 1 + 1, 0, none⟩) (awL w.heap.size) := aw_items ((c3.block _ (by omega)).trans R0) ((c4.block _ (by omega)).trans R1) ((b4.block _ (by omega)).trans R2) R3
  have HG := get8 _ 2 (awL w.heap.size) 5 ⟨#[98]⟩ w4 (aw_fine _) (by decide) (by rw [aw_dep]; decide) HI
  have hv : valL (awL w.heap.size) 5 (⟨#[98]⟩ : ByteArray).data.toList = some ⟨#[49]⟩ := aw_val _
  unfold valS valB at HG
  rw [hv] at HG
  dsimp only [Option.getD, Option.isSome] at HG
  have HG2 := hid HG
  clear HG HI R0 R1 R2 R3 c2 c3 c4 b1 b2 b3 b4 s1 s2 s3 hv
  subst e1 e2 e3 e4
  go_enter Tryz.func6, Tryz.ntmps6
  go_wp2_with fail
  refine HG2.out.mono ?_
  rintro x w5 ⟨rfl, hb5⟩
  have hb6 := hb.trans (hb5.mono hb.size)
  go_wp2_with fail
  go_ret
  exact ⟨rfl, hb6⟩
end Go.Proofs.YtegmpfmhlpdmhaaGreat.Key
