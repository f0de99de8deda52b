/-
  Contracts of About and Speaks, the program's and the document's.
-/
import Derived.Test.YtknjemmhcjihfaaMsg
import Derived.Deep.RegionWith
namespace Go.Proofs.Ytknjemmhcjihfaa.Key
open Go.RowKit
open Go.Op (bytesLess)

/-- the range of the keys of which a message speaks -/
def aboutR (m : M) : Rng :=
  if m.kind = 1 ∨ m.kind = 2 then ⟨m.key.data.toList, m.key.data.toList ++ [0], true⟩ else if m.kind = 3 then ofR m.key.data.toList else none'
/-- does a message speak of a key? -/
def speaks (m : M) (k : List UInt8) : Bool :=
  if m.kind = 3 then has k m.key.data.toList else if m.kind = 1 ∨ m.kind = 2 then k == m.key.data.toList else false
theorem in_one (a k : List UInt8) : inR ⟨a, a ++ [0], true⟩ k = (k == a) := by
  unfold inR
  simp only [Bool.not_true, Bool.false_or]
  cases h1 : bytesLess k a
  · cases h2 : bytesLess a k
    · have := less_same h1 h2
      subst this
      simp [next_above]
    · rw [next_least h2]
      have : k ≠ a := by rintro rfl; rw [less_self] at h2; cases h2
      simp [this]
  · have : k ≠ a := by rintro rfl; rw [less_self] at h1; cases h1
    simp [this]
theorem in_about (m : M) (k : List UInt8) : inR (aboutR m) k = speaks m k := by
  unfold aboutR speaks
  by_cases h3 : m.kind = 3
  · have h : ¬ (m.kind = 1 ∨ m.kind = 2) := by omega
    rw [if_neg h, if_pos h3, if_pos h3, in_of]
  · rw [if_neg h3, if_neg h3]
    by_cases h : m.kind = 1 ∨ m.kind = 2
    · rw [if_pos h, if_pos h, in_one]
    · rw [if_neg h, if_neg h]
      exact in_empty (by decide) k

set_option maxHeartbeats 1000000 in
/-- About, the program's -/
theorem about57 (m : M) (w : World) (hk : m.key.size ≤ 1000) :
    Calls Try.prog 57 #[mv m] w fun x w' => x = .returned (rv (aboutR m)) ∧ Below w.heap.size w w' := by
  have HB := MBox.new w m
  obtain ⟨kd, ky, vl, bk, dp, ad⟩ := m
  dsimp only at hk
  have H0 := Box.new (w.alloc (.cells #[.int .u8 kd, .string ky, .string vl, .int .u32 bk, .int .u16 dp, .string ad] 59)) (.string ⟨#[]⟩) (.string ⟨#[]⟩) (.bool false)
  have hN := fun w => next63 ky w (by omega)
  have hO := fun w => of64 ky w (by omega)
  by_cases h12 : kd = 1 ∨ kd = 2
  · have hr : rv (aboutR ⟨kd, ky, vl, bk, dp, ad⟩) = .agg #[.string ky, .string (str (ky.data.toList ++ [0])), .bool true] := by
      unfold aboutR; rw [if_pos h12]; simp [rv, str_eq]
    rw [hr]
    clear hr hO
    generalize str (ky.data.toList ++ [0]) = S at *
    rcases h12 with rfl | rfl
    all_goals
      go_enter Try.func57, Try.ntmps57
      go_wp2_with fail
      go_region_with (first | (go_at_call 63; refine (hN _).mono ?_; rintro x w' ⟨rfl, rfl⟩) | fail)
      all_goals
        go_wp2
        exact bodyPost_ret (v := .agg #[.string ky, .string S, .bool true]) (by simp [results, Try.results57, go_sem]) rfl ⟨rfl, ((below_box _ _).alloc (by simp) _).drew⟩
  · have h1 : (kd == 1) = false := by simp; omega
    have h2 : (kd == 2) = false := by simp; omega
    clear hN
    by_cases h3 : kd = 3
    · have hr : rv (aboutR ⟨kd, ky, vl, bk, dp, ad⟩) = .agg #[.string ky, .string (sucS ky.data.toList), .bool (sucO ky.data.toList)] := by
        unfold aboutR; rw [if_neg h12, if_pos h3]; simp [rv, str_eq, ofR, sucS, sucO]
      rw [hr]
      clear hr h12
      subst h3
      generalize sucS ky.data.toList = S at *
      generalize sucO ky.data.toList = o at *
      go_enter Try.func57, Try.ntmps57
      go_wp2_with fail
      refine (hO _).mono ?_
      clear hO
      rintro x w' ⟨rfl, hb⟩
      have H1 := H0.later hb
      obtain ⟨a0, a1, a2⟩ := H1.cells
      obtain ⟨f0, f1, f2⟩ := H1.free
      have hb' : Below w.heap.size w w' := ((below_box w _).alloc (by simp) _).trans (hb.mono (by simp; omega))
      simp only [World.size_alloc] at a0 a1 a2 f0 f1 f2
      clear hb H1 H0
      go_wp2_with fail
      exact bodyPost_ret (v := .agg #[.string ky, .string S, .bool o]) (by simp [results, Try.results57, go_sem, a0, a1, a2]) rfl ⟨rfl, ((hb'.setCell (by simp) _).setCell (by simp) _).setCell (by simp) _⟩
    · have hr : rv (aboutR ⟨kd, ky, vl, bk, dp, ad⟩) = .agg #[.string ⟨#[]⟩, .string ⟨#[]⟩, .bool true] := by
        unfold aboutR; rw [if_neg h12, if_neg h3]; rfl
      have h3' : (kd == 3) = false := by simp; omega
      rw [hr]
      clear hr h12 hO h3
      go_enter Try.func57, Try.ntmps57
      go_wp2_with fail
      exact bodyPost_ret (v := .agg #[.string ⟨#[]⟩, .string ⟨#[]⟩, .bool true]) (by simp [results, Try.results57, go_sem]) rfl ⟨rfl, ((below_box _ _).alloc (by simp) _)⟩
set_option maxHeartbeats 1000000 in
/-- Speaks, the program's -/
theorem speaks49 (m : M) (k : ByteArray) (w : World) (hk : m.key.size ≤ 1000) :
    Calls Try.prog 49 #[mv m, .string k] w fun x w' => x = .returned (.bool (speaks m k.data.toList)) ∧ Below w.heap.size w w' := by
  have hA := fun w => about57 m w hk
  have hI := in56 (str (aboutR m).lo) (str (aboutR m).hi) k (aboutR m).e
  rw [show rg (str (aboutR m).lo) (str (aboutR m).hi) (aboutR m).e = aboutR m from rfl, in_about] at hI
  unfold rv at hA
  generalize speaks m k.data.toList = b at *
  generalize str (aboutR m).lo = L at *
  generalize str (aboutR m).hi = H at *
  generalize (aboutR m).e = e at *
  clear hk
  obtain ⟨kd, ky, vl, bk, dp, ad⟩ := m
  go_enter Try.func49, Try.ntmps49
  go_wp2_with fail
  refine (hA _).mono ?_
  clear hA
  rintro x w1 ⟨rfl, hb1⟩
  have hb1 : Below w.heap.size w w1 := (below_box w _).trans (hb1.mono (by simp))
  go_wp2_with fail
  refine (hI _).mono ?_
  clear hI
  rintro x w2 ⟨rfl, hb2⟩
  have hb2 : Below w.heap.size w w2 := hb1.trans (hb2.mono hb1.size)
  go_wp2_with fail
  go_ret
  exact ⟨rfl, hb2⟩
set_option maxHeartbeats 1000000 in
/-- Speaks, the document's -/
theorem speaks59 (m : M) (k : ByteArray) (w : World) :
    Calls Try.prog 59 #[mv m, .string k] w fun x w' => x = .returned (.bool (speaks m k.data.toList)) ∧ Below w.heap.size w w' := by
  obtain ⟨kd, ky, vl, bk, dp, ad⟩ := m
  by_cases h3 : kd = 3
  · have hr : speaks ⟨kd, ky, vl, bk, dp, ad⟩ k.data.toList = has k.data.toList ky.data.toList := by simp [speaks, h3]
    have hH := has66 k ky
    rw [hr]
    clear hr
    subst h3
    generalize has k.data.toList ky.data.toList = b at *
    go_enter Try.func59, Try.ntmps59
    go_wp2_with fail
    refine (hH _).mono ?_
    clear hH
    rintro x w1 ⟨rfl, rfl⟩
    go_wp2_with fail
    go_ret
    exact ⟨rfl, below_box _ _⟩
  · have h3' : (kd == 3) = false := by simp; omega
    by_cases h12 : kd = 1 ∨ kd = 2
    · have hr : speaks ⟨kd, ky, vl, bk, dp, ad⟩ k.data.toList = (k.toList == ky.toList) := by
        unfold speaks
        dsimp only
        rw [if_neg h3, if_pos h12, Lib.toList_data, Lib.toList_data]
      rw [hr]
      clear hr
      rcases h12 with rfl | rfl
      all_goals
        cases hb : (k.toList == ky.toList)
        all_goals
          go_enter Try.func59, Try.ntmps59
          go_wp2_with fail
          go_ret
          exact ⟨rfl, below_box _ _⟩
    · have hr : speaks ⟨kd, ky, vl, bk, dp, ad⟩ k.data.toList = false := by
        unfold speaks
        dsimp only
        rw [if_neg h3, if_neg h12]
      have h1 : (kd == 1) = false := by simp; omega
      have h2 : (kd == 2) = false := by simp; omega
      rw [hr]
      clear hr
      go_enter Try.func59, Try.ntmps59
      go_wp2_with fail
      go_ret
      exact ⟨rfl, below_box _ _⟩
end Go.Proofs.Ytknjemmhcjihfaa.Key
