/-
  Contract of awake: the document's example.
-/
import Derived.Test.YtfladpnphkoeiaaCounts
import Derived.Test.YtfladpnphkoeiaaFind
namespace Go.Proofs.Ytfladpnphkoeiaa.Key
open Go.RowKit
set_option linter.unusedVariables false
set_option linter.unusedSimpArgs false

def awL (B : Nat) : List It := [⟨5, ⟨false, [], [⟨#[109]⟩], [⟨7, 1, ⟨#[]⟩, ⟨#[]⟩⟩, ⟨7, 1, ⟨#[]⟩, ⟨#[]⟩⟩], []⟩, ⟨none, 0, some ⟨B, 0, none⟩, 1, some ⟨B + 1, 0, none⟩, 2, none, 0⟩⟩, ⟨7, ⟨true, [], [], [], []⟩, ⟨none, 0, none, 0, none, 0, none, 0⟩⟩]
def awV : List Vo := [⟨⟨#[]⟩, 5, 0⟩]
theorem aw_right (B : Nat) : rightB (awL B) = true := by rfl
theorem aw_counts (B : Nat) : countsL (awL B) awV [] = [⟨5, 1⟩, ⟨7, 2⟩] := by rfl
theorem aw_names (B : Nat) : (namesL (awL B) awV []).length = 3 := by rfl
theorem aw_fine (B : Nat) : Fine (awL B) := by
  refine ⟨by simp [awL], fun x hx => ?_, fun x hx => ?_⟩
  · simp only [awL, List.mem_cons, List.not_mem_nil, or_false] at hx
    rcases hx with rfl | rfl
    · exact ⟨by show (Lit.int .u32 5).wf = true; decide, ⟨by simp [maxLen], by simp [maxLen], by simp [maxLen], by simp [maxLen], fun e he => by simp at he; subst he; exact ⟨by decide, by decide, by decide, by decide⟩, fun e he => by simp at he⟩, ⟨fun _ => rfl, (fun e => by simp at e), (fun e => by simp at e), fun _ => rfl⟩⟩
    · exact ⟨by show (Lit.int .u32 7).wf = true; decide, ⟨by simp, by simp, by simp, by simp, fun e he => by simp at he, fun e he => by simp at he⟩, ⟨fun _ => rfl, fun _ => rfl, fun _ => rfl, fun _ => rfl⟩⟩
  · simp only [awL, List.mem_cons, List.not_mem_nil, or_false] at hx
    rcases hx with rfl | rfl
    · exact ⟨⟨by simp, by simp, by simp, by simp⟩, fun e he => by simp at he, fun e he => by simp at he, fun e he => by simp at he; subst he; decide, fun e he => by simp at he, fun e he => by simp at he; subst he; simp⟩
    · exact ⟨⟨by simp, by simp, by simp, by simp⟩, fun e he => by simp at he, fun e he => by simp at he, fun e he => by simp at he, fun e he => by simp at he, fun e he => by simp at he⟩
theorem aw_items {w : World} {B : Nat} (R0 : w.heap[B]? = some (.cells #[.string ⟨#[109]⟩] 9 (0, 0))) (R1 : w.heap[B + 1]? = some (.cells #[.int .u32 7, .int .u16 1, .string ⟨#[]⟩, .string ⟨#[]⟩, .int .u32 7, .int .u16 1, .string ⟨#[]⟩, .string ⟨#[]⟩] 54 (0, 0)))
    (R2 : w.heap[B + 1 + 1]? = some (.cells #[.int .u32 5, .bool false, .slice none 0 0, .slice (some ⟨B, 0, none⟩) 1 1, .slice (some ⟨B + 1, 0, none⟩) 2 2, .slice none 0 0, .int .u32 7, .bool true, .slice none 0 0, .slice none 0 0, .slice none 0 0, .slice none 0 0] 47 (0, 0))) : Items w (some ⟨B + 1 + 1, 0, none⟩) (awL B) := by
  refine .inr ⟨B + 1 + 1, 0, rfl, fun i hi => ?_⟩
  have hi' : i = 0 ∨ i = 1 := by simp [awL] at hi; omega
  rcases hi' with rfl | rfl
  · refine ⟨⟨cell_of_row _ _ _ _ _ _ R2, cell_of_row _ _ _ _ _ _ R2, cell_of_row _ _ _ _ _ _ R2, cell_of_row _ _ _ _ _ _ R2, cell_of_row _ _ _ _ _ _ R2, cell_of_row _ _ _ _ _ _ R2⟩, .inl rfl, .inr ⟨B, 0, rfl, fun j hj => ?_⟩, .inr ⟨B + 1, 0, rfl, fun j hj => ?_⟩, .inl rfl⟩
    · have hj' : j = 0 := by simp [awL] at hj; omega
      subst hj'
      exact cell_of_row _ _ _ _ _ _ R0
    · have hj' : j = 0 ∨ j = 1 := by simp [awL] at hj; omega
      rcases hj' with rfl | rfl
      · exact ⟨cell_of_row _ _ _ _ _ _ R1, cell_of_row _ _ _ _ _ _ R1, cell_of_row _ _ _ _ _ _ R1, cell_of_row _ _ _ _ _ _ R1⟩
      · exact ⟨cell_of_row _ _ _ _ _ _ R1, cell_of_row _ _ _ _ _ _ R1, cell_of_row _ _ _ _ _ _ R1, cell_of_row _ _ _ _ _ _ R1⟩
  · exact ⟨⟨cell_of_row _ _ _ _ _ _ R2, cell_of_row _ _ _ _ _ _ R2, cell_of_row _ _ _ _ _ _ R2, cell_of_row _ _ _ _ _ _ R2, cell_of_row _ _ _ _ _ _ R2, cell_of_row _ _ _ _ _ _ R2⟩, .inl rfl, .inl rfl, .inl rfl, .inl rfl⟩
theorem OwnR.refs {w : World} {B : Nat} {v : Value} {l : List Rf} (h : OwnR w B v l) : ∃ a c, v = .slice a l.length c ∧ Refs w a l ∧ (a = none → l.length = 0 ∧ c = 0) := by
  obtain ⟨a, c, e, h1⟩ := row_cells Rf.cells 2 (fun _ => rfl) h
  refine ⟨a, c, e, ?_, fun ha => ?_⟩
  · rcases h1 with h1 | ⟨g, e, _, _, hc⟩
    · exact .inl h1
    · exact .inr ⟨g, 0, e, fun i hi => ⟨hc i hi 0 _ (by omega) rfl, hc i hi 1 _ (by omega) rfl⟩⟩
  · subst ha
    subst e
    rcases h.2 with ⟨e2, h0⟩ | ⟨g, cap, cur, e2, _⟩
    · simp only [Value.slice.injEq, true_and] at e2
      exact ⟨h0, e2.2⟩
    · simp only [Value.slice.injEq] at e2
      cases e2.1
theorem OwnR.later {w w' : World} {B : Nat} {v : Value} {l : List Rf} (h : OwnR w B v l) (hb : Below w.heap.size w w') : OwnR w' B v l := row_later h hb
set_option maxRecDepth 100000 in
set_option maxHeartbeats 600000 in
theorem awake8 (w : World) : Calls Try.prog 8 #[] w fun x w' => x = .returned (.bool true) ∧ Below w.heap.size w w' := by
  have hb3 : Below w.heap.size w (((w.alloc (.cells #[.string ⟨#[109]⟩] 9)).alloc (.cells #[.int .u32 7, .int .u16 1, .string ⟨#[]⟩, .string ⟨#[]⟩, .int .u32 7, .int .u16 1, .string ⟨#[]⟩, .string ⟨#[]⟩] 54)).alloc (.cells #[.int .u32 5, .bool false, .slice none 0 0, .slice (some ⟨w.heap.size, 0, none⟩) 1 1, .slice (some ⟨w.heap.size + 1, 0, none⟩) 2 2, .slice none 0 0, .int .u32 7, .bool true, .slice none 0 0, .slice none 0 0, .slice none 0 0, .slice none 0 0] 47)) := ((below_box w _).alloc (by simp) _).alloc (by simp; omega) _
  have R0 := (heap_alloc_old _ (.cells #[.int .u32 5, .bool false, .slice none 0 0, .slice (some ⟨w.heap.size, 0, none⟩) 1 1, .slice (some ⟨w.heap.size + 1, 0, none⟩) 2 2, .slice none 0 0, .int .u32 7, .bool true, .slice none 0 0, .slice none 0 0, .slice none 0 0, .slice none 0 0] 47) (by simp; omega)).trans ((heap_alloc_old _ (.cells #[.int .u32 7, .int .u16 1, .string ⟨#[]⟩, .string ⟨#[]⟩, .int .u32 7, .int .u16 1, .string ⟨#[]⟩, .string ⟨#[]⟩] 54) (by simp)).trans (Go.heap_alloc_new w (.cells #[.string ⟨#[109]⟩] 9)))
  have R1 := (heap_alloc_old _ (.cells #[.int .u32 5, .bool false, .slice none 0 0, .slice (some ⟨w.heap.size, 0, none⟩) 1 1, .slice (some ⟨w.heap.size + 1, 0, none⟩) 2 2, .slice none 0 0, .int .u32 7, .bool true, .slice none 0 0, .slice none 0 0, .slice none 0 0, .slice none 0 0] 47) (by simp)).trans (Go.heap_alloc_new (w.alloc (.cells #[.string ⟨#[109]⟩] 9)) (.cells #[.int .u32 7, .int .u16 1, .string ⟨#[]⟩, .string ⟨#[]⟩, .int .u32 7, .int .u16 1, .string ⟨#[]⟩, .string ⟨#[]⟩] 54))
  have R2 := Go.heap_alloc_new ((w.alloc (.cells #[.string ⟨#[109]⟩] 9)).alloc (.cells #[.int .u32 7, .int .u16 1, .string ⟨#[]⟩, .string ⟨#[]⟩, .int .u32 7, .int .u16 1, .string ⟨#[]⟩, .string ⟨#[]⟩] 54)) (.cells #[.int .u32 5, .bool false, .slice none 0 0, .slice (some ⟨w.heap.size, 0, none⟩) 1 1, .slice (some ⟨w.heap.size + 1, 0, none⟩) 2 2, .slice none 0 0, .int .u32 7, .bool true, .slice none 0 0, .slice none 0 0, .slice none 0 0, .slice none 0 0] 47)
  simp only [World.size_alloc] at R1 R2
  have HI := aw_items R0 R1 R2
  clear R0 R1 R2
  go_enter Try.func8, Try.ntmps8
  go_wp2_with fail
  generalize (((w.alloc (.cells #[.string ⟨#[109]⟩] 9)).alloc (.cells #[.int .u32 7, .int .u16 1, .string ⟨#[]⟩, .string ⟨#[]⟩, .int .u32 7, .int .u16 1, .string ⟨#[]⟩, .string ⟨#[]⟩] 54)).alloc (.cells #[.int .u32 5, .bool false, .slice none 0 0, .slice (some ⟨w.heap.size, 0, none⟩) 1 1, .slice (some ⟨w.heap.size + 1, 0, none⟩) 2 2, .slice none 0 0, .int .u32 7, .bool true, .slice none 0 0, .slice none 0 0, .slice none 0 0, .slice none 0 0] 47)) = w3 at *
  have HR := right11 _ 2 (awL w.heap.size) w3 (aw_fine _) HI
  rw [aw_right] at HR
  refine HR.mono ?_
  rintro x w4 ⟨rfl, hb4⟩
  have hb34 := hb3.trans (hb4.mono hb3.size)
  have HV : Vols (w4.alloc (.cells #[.string ⟨#[]⟩, .int .u32 5, .int .u16 0] 56)) (some ⟨w4.heap.size, 0, none⟩) awV := .inr ⟨_, 0, rfl, fun i hi => by
    have hi' : i = 0 := by simp [awV] at hi; omega
    subst hi'
    have := Go.heap_alloc_new w4 (.cells #[.string ⟨#[]⟩, .int .u32 5, .int .u16 0] 56)
    exact ⟨cell_of_row _ _ _ _ _ _ this, cell_of_row _ _ _ _ _ _ this, cell_of_row _ _ _ _ _ _ this⟩⟩
  have HC := hid (counts15 (some ⟨w.heap.size + 1 + 1, 0, none⟩) (some ⟨w4.heap.size, 0, none⟩) none 2 1 0 (awL w.heap.size) awV [] (w4.alloc (.cells #[.string ⟨#[]⟩, .int .u32 5, .int .u16 0] 56)) (aw_fine _) (by simp [awV]) (by simp) (by simp) (by rw [aw_names]; omega) (HI.later (hb4.alloc hb4.size _)) HV (.inl rfl))
  rw [aw_counts] at HC
  go_wp2_with fail
  refine HC.out.mono ?_
  rintro x w5 ⟨⟨v, rfl, hv⟩, hb5⟩
  have hb35 := hb34.trans (((below_box w4 (.cells #[.string ⟨#[]⟩, .int .u32 5, .int .u16 0] 56)).trans (hb5.mono (by simp))).mono hb34.size)
  have hv6 := hv.later (below_box w5 (.cells #[.int .u32 5, .int .u32 1, .int .u32 7, .int .u32 2] 58))
  obtain ⟨va, vc, rfl, hvr, _⟩ := hv6.refs
  have HV2 : Refs (w5.alloc (.cells #[.int .u32 5, .int .u32 1, .int .u32 7, .int .u32 2] 58)) (some ⟨w5.heap.size, 0, none⟩) [⟨5, 1⟩, ⟨7, 2⟩] := .inr ⟨_, 0, rfl, fun i hi => by
    have hi' : i = 0 ∨ i = 1 := by simp at hi; omega
    have := Go.heap_alloc_new w5 (.cells #[.int .u32 5, .int .u32 1, .int .u32 7, .int .u32 2] 58)
    rcases hi' with rfl | rfl
    · exact ⟨cell_of_row _ _ _ _ _ _ this, cell_of_row _ _ _ _ _ _ this⟩
    · exact ⟨cell_of_row _ _ _ _ _ _ this, cell_of_row _ _ _ _ _ _ this⟩⟩
  have HS := hid (same14 va (some ⟨w5.heap.size, 0, none⟩) vc 2 [⟨5, 1⟩, ⟨7, 2⟩] [⟨5, 1⟩, ⟨7, 2⟩] (w5.alloc (.cells #[.int .u32 5, .int .u32 1, .int .u32 7, .int .u32 2] 58)) (by simp [maxLen]) (by simp [maxLen]) hvr HV2)
  have hb36 := hb35.alloc (by have := hb35.size; omega) (.cells #[.int .u32 5, .int .u32 1, .int .u32 7, .int .u32 2] 58)
  clear HC hv hvr hv6 HV HV2
  go_wp2_with fail
  refine HS.out.mono ?_
  rintro x w6 ⟨⟨b, rfl, hbt⟩, hb6⟩
  obtain rfl : b = true := hbt.2 (by first | rfl | trivial)
  have hb37 := hb36.trans (hb6.mono hb36.size)
  go_wp2_with fail
  go_ret
  exact ⟨rfl, hb37⟩
end Go.Proofs.Ytfladpnphkoeiaa.Key
