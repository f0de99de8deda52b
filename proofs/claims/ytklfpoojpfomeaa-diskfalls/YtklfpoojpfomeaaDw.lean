/-
  The contract of the document's 'Whole'.
-/
import Derived.Test.YtklfpoojpfomeaaDm
import Derived.Lib.BufferWrite
import Derived.Deep.WholeRow
import Derived.Laws.OwnMore
import Derived.Shelf.Spec.SlicesInsert
namespace Go.Proofs.Ytklfpoojpfomeaa.Key
open Go.RowKit
set_option linter.unusedVariables false
set_option linter.unusedSimpArgs false

theorem wholeD_fit (l : List UInt8) (h : l.length ≤ 2048) : wholeD l = l ++ List.replicate (2048 - l.length) 0 := by
  unfold wholeD
  rw [List.take_append, List.take_of_length_le h, List.take_replicate, Nat.min_eq_left (by omega)]
theorem whole_cells (l : List UInt8) (n : Nat) (hn : l.length = n) (hs : n ≤ 2048) (C : Array Value) (hC : C.toList = List.replicate 2048 (.int .u8 0)) :
    (C.toList.take 0 ++ Lib.byteCells l ++ C.toList.drop (0 + n)).toArray = ((nums (str (wholeD l))).map (Value.int .u8)).toArray := by
  subst hn
  rw [hC, List.drop_replicate, List.take_zero, List.nil_append, Nat.zero_add, wholeD_fit l hs, nums, str_data, List.map_append, List.map_append, List.map_replicate, List.map_replicate, List.map_map]
  rfl
theorem nums_whole (l : List UInt8) : (nums (str (wholeD l))).length = 2048 := by rw [nums_length, str_size, wholeD_len]

set_option maxRecDepth 100000 in
set_option maxHeartbeats 1000000 in
theorem whole22 (s : List UInt8) (w : World) (hs : s.length ≤ 2048) :
    Calls Try.prog 22 #[.string (str s)] w fun x w' => x = .returned (.string (str (wholeD s))) ∧ Below w.heap.size w w' := by
  obtain ⟨i, hi, hz0, hz1, hz2⟩ := info_parts info5
  obtain ⟨C, hC⟩ : ∃ C, madeCells #[Value.int .u8 0] 2048 = C := ⟨_, rfl⟩
  have hCl : C.toList = List.replicate 2048 (.int .u8 0) := by rw [← hC]; exact toList_madeCells_one _ _
  have hCs : C.size = 2048 := by rw [← hC]; exact size_madeCells _ _
  have hmk : ∀ u : World, (Instr.makeSlice 34 (.int .i64 2048) (.int .i64 2048)).run Try.prog u = .ok (.slice (some ⟨u.heap.size, 0, none⟩) 2048 2048) (u.alloc (.cells C 5)) := fun u => by
    have := run_make (P := Try.prog) u 34 5 i _ Try.underlying34 hi hz0 .i64 .i64 2048 2048 (by omega) (by omega) (by rw [hz2]; omega) (by omega)
    rw [hz1] at this
    rw [← hC]
    exact this
  have hcp : ∀ ty, (Builtin.copy_ #[34, 9] ty #[.slice (some ⟨w.heap.size, 0, none⟩) 2048 2048, .string (str s)]).run Try.prog (w.alloc (.cells C 5)) = .ok (goInt s.length) (w.alloc (.cells ((nums (str (wholeD s))).map (Value.int .u8)).toArray 5)) := fun ty => by
    have := Lib.run_copy_row_string (P := Try.prog) (w.alloc (.cells C 5)) 34 9 ty 5 w.heap.size 0 2048 2048 (str s) C 5 Try.underlying34 (by rw [hi]; exact congrArg some hz1) (Go.heap_alloc_new _ _) (by rw [str_size]; exact hs) (by rw [str_size, hCs]; omega)
    rw [this, World.setRow_alloc_new, str_data, str_size, whole_cells s s.length rfl hs C hCl]
  have hby := digits_lie w _ (0, 0) (nums (str (wholeD s))) rfl
  have hcv := conv_str hby 2048 2048 (nums_whole s) (fun h => by cases h)
  rw [str_nums] at hcv
  have hbl := below_box w (.cells ((nums (str (wholeD s))).map (Value.int .u8)).toArray 5)
  clear hby hC hCl hCs
  generalize ((nums (str (wholeD s))).map (Value.int .u8)).toArray = R at *
  generalize wholeD s = S at *
  go_enter Try.func22, Try.ntmps22
  go_wp2_with (at_builtin; refine wpList_copy_runI _ rfl _ _ 34 9 rfl _ _ rfl rfl (hcp _) ?_)
  go_ret
  exact ⟨rfl, hbl⟩
end Go.Proofs.Ytklfpoojpfomeaa.Key
