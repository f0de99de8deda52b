/-
  Contract of shorten: a message with a beginning taken away.
-/
import Derived.Test.YtobbgndabmnbcaaTouch
namespace Go.Proofs.Ytobbgndabmnbcaa.Key
open Go.RowKit
open Go.Op (bytesLess)

/-- a message that says of keys what m says of them with a ahead; whether it may be -/
def shortM (m : M) (a : ByteArray) : M :=
  if has m.key.data.toList a.data.toList then ⟨m.kind, m.key.extract a.size m.key.size, m.val, m.blk, m.deep, m.add⟩
  else if m.kind = 3 ∧ has a.data.toList m.key.data.toList = true then ⟨m.kind, ⟨#[]⟩, m.val, m.blk, m.deep, m.add ++ a.extract m.key.size a.size⟩
  else M.nil
def shortB (m : M) (a : ByteArray) : Bool :=
  if has m.key.data.toList a.data.toList then decide (m.add.size ≤ 16)
  else if m.kind = 3 ∧ has a.data.toList m.key.data.toList = true then decide ((m.add ++ a.extract m.key.size a.size).size ≤ 16)
  else false
theorem has_size {k p : ByteArray} (h : has k.data.toList p.data.toList = true) : p.size ≤ k.size := by
  rw [Lib.size_eq, Lib.size_eq]
  unfold has at h
  exact (List.isPrefixOf_iff_prefix.1 h).length_le

theorem le_int {n : Nat} {b : Bool} (h : decide (n ≤ 16) = b) : decide ((n : Int) ≤ (16 : Int)) = b := by rw [← h]; exact decide_eq_decide.2 (by omega)

set_option maxHeartbeats 2000000 in
theorem short40 (m : M) (a : ByteArray) (w : World) (h1 : m.key.size ≤ 1000) (h2 : m.add.size ≤ 1000) (h3 : a.size ≤ 1000) :
    Calls Try.prog 40 #[mv m, .string a] w fun x w' => x = .returned (.tuple #[mv (shortM m a), .bool (shortB m a)]) ∧ Below w.heap.size w w' := by
  obtain ⟨kd, ky, vl, bk, dp, ad⟩ := m
  dsimp only at h1 h2
  have C1 := has52 ky a
  have C2 := has52 a ky
  have hb : Below w.heap.size w ((w.alloc (.cells #[.int .u8 kd, .string ky, .string vl, .int .u32 bk, .int .u16 dp, .string ad] 26)).alloc (.cells #[.int .u8 0, .string ⟨#[]⟩, .string ⟨#[]⟩, .int .u32 0, .int .u16 0, .string ⟨#[]⟩] 26)) := (below_box w _).alloc (by simp) _
  cases hh : has ky.data.toList a.data.toList
  · rw [hh] at C1
    by_cases h4 : kd = 3
    · cases hg : has a.data.toList ky.data.toList
      · rw [hg] at C2
        have hM : shortM ⟨kd, ky, vl, bk, dp, ad⟩ a = M.nil := by simp [shortM, hh, hg]
        have hS : shortB ⟨kd, ky, vl, bk, dp, ad⟩ a = false := by simp [shortB, hh, hg]
        rw [hM, hS]
        clear hM hS
        subst h4
        go_enter Try.func40, Try.ntmps40
        go_wp2_with fail
        refine (C1 _).mono ?_
        rintro x w1 ⟨rfl, rfl⟩
        go_wp2_with fail
        refine (C2 _).mono ?_
        rintro x w1 ⟨rfl, rfl⟩
        go_wp2_with fail
        refine bodyPost_ret (v := .tuple #[.agg #[.int .u8 0, .string ⟨#[]⟩, .string ⟨#[]⟩, .int .u32 0, .int .u16 0, .string ⟨#[]⟩], .bool false]) (by simp [results, Try.results40, go_sem]) rfl ⟨rfl, ?_⟩
        exact (below_box _ _).alloc (by simp) _
      · rw [hg] at C2
        have hz := has_size hg
        have hM : shortM ⟨kd, ky, vl, bk, dp, ad⟩ a = ⟨kd, ⟨#[]⟩, vl, bk, dp, ad ++ a.extract ky.size a.size⟩ := by simp [shortM, hh, hg, h4]
        have hS : shortB ⟨kd, ky, vl, bk, dp, ad⟩ a = decide ((ad ++ a.extract ky.size a.size).size ≤ 16) := by simp [shortB, hh, hg, h4]
        have he : (a.extract ky.size a.size).size ≤ 1000 := by simp; omega
        rw [hM, hS]
        clear hM hS
        subst h4
        cases k : decide ((ad ++ a.extract ky.size a.size).size ≤ 16)
        all_goals
          have k' := le_int k
          clear k
          go_enter Try.func40, Try.ntmps40
          go_wp2_with fail
          refine (C1 _).mono ?_
          rintro x w1 ⟨rfl, rfl⟩
          go_wp2_with fail
          refine (C2 _).mono ?_
          rintro x w1 ⟨rfl, rfl⟩
          go_wp2_with fail
          go_region
          all_goals go_wp2
          all_goals go_region
          all_goals go_wp2
          all_goals
            refine bodyPost_ret (v := .tuple #[.agg #[.int .u8 3, .string ⟨#[]⟩, .string vl, .int .u32 bk, .int .u16 dp, .string (ad ++ a.extract ky.size a.size)], _]) (by simp [results, Try.results40, go_sem]; simpa using k') rfl ⟨rfl, ?_⟩
            exact ((below_box _ _).alloc (by simp) _).drew.drew
    · have h4' : (kd == 3) = false := by simp; omega
      have hM : shortM ⟨kd, ky, vl, bk, dp, ad⟩ a = M.nil := by simp [shortM, hh, h4]
      have hS : shortB ⟨kd, ky, vl, bk, dp, ad⟩ a = false := by simp [shortB, hh, h4]
      rw [hM, hS]
      clear hM hS C2
      go_enter Try.func40, Try.ntmps40
      go_wp2_with fail
      refine (C1 _).mono ?_
      rintro x w1 ⟨rfl, rfl⟩
      go_wp2_with fail
      refine bodyPost_ret (v := .tuple #[.agg #[.int .u8 0, .string ⟨#[]⟩, .string ⟨#[]⟩, .int .u32 0, .int .u16 0, .string ⟨#[]⟩], .bool false]) (by simp [results, Try.results40, go_sem]) rfl ⟨rfl, ?_⟩
      exact (below_box _ _).alloc (by simp) _
  · rw [hh] at C1
    have hz := has_size hh
    have hM : shortM ⟨kd, ky, vl, bk, dp, ad⟩ a = ⟨kd, ky.extract a.size ky.size, vl, bk, dp, ad⟩ := by simp [shortM, hh]
    have hS : shortB ⟨kd, ky, vl, bk, dp, ad⟩ a = decide (ad.size ≤ 16) := by simp [shortB, hh]
    rw [hM, hS]
    clear hM hS C2
    cases k : decide (ad.size ≤ 16)
    all_goals
      have k' := le_int k
      clear k
      go_enter Try.func40, Try.ntmps40
      go_wp2_with fail
      refine (C1 _).mono ?_
      rintro x w1 ⟨rfl, rfl⟩
      go_wp2_with fail
      go_region
      all_goals go_wp2
      all_goals
        refine bodyPost_ret (v := .tuple #[.agg #[.int .u8 kd, .string (ky.extract a.size ky.size), .string vl, .int .u32 bk, .int .u16 dp, .string ad], _]) (by simp [results, Try.results40, go_sem]) rfl ⟨rfl, ?_⟩
        exact ((below_box _ _).alloc (by simp) _).drew
end Go.Proofs.Ytobbgndabmnbcaa.Key
