/-
  Contract of About, the document's.
-/
import Derived.Test.YtmnngfbcgpholaaLCutRef
import Derived.Test.YtmnngfbcgpholaaTm
namespace Go.Proofs.Ytmnngfbcgpholaa.Key
open Go.RowKit Draw
open Go.Op (bytesLess)

set_option maxRecDepth 100000 in
set_option maxHeartbeats 1000000 in
/-- About, the document's -/
theorem about15 (m : M) (w : World) (hk : m.key.size ≤ 1000) :
    Calls Try.prog 24 #[mv m] w fun x w' => x = .returned (rv (aboutR m)) ∧ Below w.heap.size w w' := by
  have HB := MBox.new w m
  obtain ⟨kd, ky, vl, bk, dp, ad⟩ := m
  dsimp only at hk
  have H0 := Box.new (w.alloc (.cells #[.int .u8 kd, .string ky, .string vl, .int .u32 bk, .int .u16 dp, .string ad] 48)) (.string ⟨#[]⟩) (.string ⟨#[]⟩) (.bool false)
  have hO := fun w => of27 ky w (by omega)
  by_cases h3 : kd = 3
  · have h12 : ¬ (kd = 1 ∨ kd = 2) := by omega
    have hr : rv (aboutR ⟨kd, ky, vl, bk, dp, ad⟩) = .agg #[.string ky, .string (sucS ky.data.toList), .bool (sucO ky.data.toList)] := by
      unfold aboutR; rw [if_neg h12, if_pos h3]; simp [rv, str_eq, ofR, sucS, sucO]
    rw [hr]
    clear hr h12
    subst h3
    generalize sucS ky.data.toList = S at *
    generalize sucO ky.data.toList = o at *
    go_enter Try.func24, Try.ntmps24
    go_wp2_with fail
    refine (hO _).mono ?_
    clear hO
    rintro x w' ⟨rfl, hb⟩
    have H1 := H0.later hb
    obtain ⟨a0, a1, a2⟩ := H1.cells
    obtain ⟨f0, f1, f2⟩ := H1.free
    have hb' : Below w.heap.size w w' := ((below_box w _).alloc (by simp) _).trans (hb.mono (by simp; omega))
    simp only [World.size_alloc] at a0 a1 a2 f0 f1 f2
    clear hb H1 H0
    go_wp2_with fail
    exact bodyPost_ret (v := .agg #[.string ky, .string S, .bool o]) (by simp [results, Try.results24, go_sem, a0, a1, a2]) rfl ⟨rfl, ((hb'.setCell (by simp) _).setCell (by simp) _).setCell (by simp) _⟩
  · have h3' : (kd == 3) = false := by simp; omega
    clear hO
    by_cases h12 : kd = 1 ∨ kd = 2
    · have hr : rv (aboutR ⟨kd, ky, vl, bk, dp, ad⟩) = .agg #[.string ky, .string (ky ++ ⟨#[0]⟩), .bool true] := by
        unfold aboutR; rw [if_pos h12]; simp [rv, str_eq, str_append]
      rw [hr]
      clear hr h3
      rcases h12 with rfl | rfl
      all_goals
        go_enter Try.func24, Try.ntmps24
        go_wp2_with fail
        exact bodyPost_ret (v := .agg #[.string ky, .string (ky ++ ⟨#[0]⟩), .bool true]) (by simp [results, Try.results24, go_sem]) rfl ⟨rfl, ((below_box _ _).alloc (by simp) _)⟩
    · have hr : rv (aboutR ⟨kd, ky, vl, bk, dp, ad⟩) = .agg #[.string ⟨#[]⟩, .string ⟨#[]⟩, .bool true] := by
        unfold aboutR; rw [if_neg h12, if_neg h3]; rfl
      have h1 : (kd == 1) = false := by simp; omega
      have h2 : (kd == 2) = false := by simp; omega
      rw [hr]
      clear hr h12 h3
      go_enter Try.func24, Try.ntmps24
      go_wp2_with fail
      exact bodyPost_ret (v := .agg #[.string ⟨#[]⟩, .string ⟨#[]⟩, .bool true]) (by simp [results, Try.results24, go_sem]) rfl ⟨rfl, ((below_box _ _).alloc (by simp) _)⟩
end Go.Proofs.Ytmnngfbcgpholaa.Key
