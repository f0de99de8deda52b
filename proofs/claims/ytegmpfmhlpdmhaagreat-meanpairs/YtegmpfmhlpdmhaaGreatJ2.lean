/-
  Bytes in memory ('Bytes'), rows of bytes of the call's own ('Own'), and what an append to such a row leaves; strings made of bytes.
  Contracts of Has, the program's and the document's.
  Contracts of Succ, the program's and the document's.
  Contracts of the functions of ranges but Cut and Under: Great, In, Empty, Of, the program's and the document's.
  Contracts of Cut, the program's and the document's.
  Contracts of Cut, joined: the document's, and both for every two ranges.
  Contracts of Up, Down and Turn, the program's and the document's; blocks that hold a lift.
  Contracts of Succ, Of and Down, the document's.
  Contracts of Join, the program's and the document's, and the document's examples, as each statement asks them.
  What is known of joined lifts in the walks: their sizes, what they answer; blocks that hold lifts, told apart.
  Blocks that hold lifts and ranges, told apart: what Over begins with.
-/
import Derived.Test.YtegmpfmhlpdmhaaGreatKt
import Derived.Test.YtegmpfmhlpdmhaaGreatKl
import Derived.Test.YtegmpfmhlpdmhaaGreatRows
import Derived.Test.YtegmpfmhlpdmhaaGreatMs
import Derived.WalkKit
import Derived.WalkSpells
import Derived.WalkLawsBesides
import Derived.Lib.SlBytesConst
import Derived.Lib.AppendStr
import Derived.Laws.AppendOwnNone
import Derived.Laws.BytesArg
import Derived.Lib.IndexBytes
import Derived.Deep.QuietTactic
import Derived.BigQuiet
import Derived.Test.YtegmpfmhlpdmhaaGreatWg
import Derived.Laws.StructEq
import Derived.Lib.SmallJoins
import Derived.Deep.CutRange
import Derived.Deep.RegionWith
namespace Go.Proofs.YtegmpfmhlpdmhaaGreat.Key
open Go.RowKit

end Go.Proofs.YtegmpfmhlpdmhaaGreat.Key

namespace Go.Proofs.YtegmpfmhlpdmhaaGreat.Key
open Go.RowKit
open Go.Op (bytesLess)

set_option maxRecDepth 100000 in
set_option maxHeartbeats 1000000 in
theorem has33 (k p : ByteArray) (w : World) :
    Calls Tryz.prog 88 #[.string k, .string p] w fun x w' => x = .returned (.bool (has k.data.toList p.data.toList)) ∧ w' = w := by
  have hr := hid (Lib.hasPrefix_raw k p)
  go_enter Tryz.func88, Tryz.ntmps88
  go_wp2
  · have hc : p.size ≤ k.size := by assumption
    go_ret
    have := hr.out
    rw [decide_eq_true hc, Bool.true_and] at this
    exact ⟨ret_bool this, rfl⟩
  · have hc : ¬ p.size ≤ k.size := by assumption
    go_ret
    have := hr.out
    rw [decide_eq_false hc, Bool.false_and] at this
    exact ⟨ret_bool this, rfl⟩
theorem has30 (k p : ByteArray) (w : World) :
    Calls Tryz.prog 81 #[.string k, .string p] w fun x w' => x = .returned (.bool (has k.data.toList p.data.toList)) ∧ w' = w := by
  go_enter Tryz.func81, Tryz.ntmps81
  go_wp2_with fail
  refine (has33 k p _).mono ?_
  rintro x w' ⟨rfl, rfl⟩
  go_wp2
  go_ret
  exact ⟨rfl, rfl⟩
/-- Has, the program's -/
theorem has21 (k p : ByteArray) (w : World) :
    Calls Tryz.prog 72 #[.string k, .string p] w fun x w' => x = .returned (.bool (has k.data.toList p.data.toList)) ∧ w' = w := by
  go_enter Tryz.func72, Tryz.ntmps72
  go_wp2_with fail
  refine (has30 k p _).mono ?_
  rintro x w' ⟨rfl, rfl⟩
  go_wp2
  go_ret
  exact ⟨rfl, rfl⟩
set_option maxRecDepth 100000 in
set_option maxHeartbeats 1000000 in
/-- Has, the document's -/
theorem has22 (k p : ByteArray) (w : World) :
    Calls Tryz.prog 49 #[.string k, .string p] w fun x w' => x = .returned (.bool (has k.data.toList p.data.toList)) ∧ w' = w := by
  have hr := hid (Lib.hasPrefix_raw k p)
  go_enter Tryz.func49, Tryz.ntmps49
  go_wp2
  · have hc : p.size ≤ k.size := by assumption
    go_ret
    have := hr.out
    rw [decide_eq_true hc, Bool.true_and] at this
    exact ⟨ret_bool this, rfl⟩
  · have hc : ¬ p.size ≤ k.size := by assumption
    go_ret
    have := hr.out
    rw [decide_eq_false hc, Bool.false_and] at this
    exact ⟨ret_bool this, rfl⟩

end Go.Proofs.YtegmpfmhlpdmhaaGreat.Key

namespace Go.Proofs.YtegmpfmhlpdmhaaGreat.Key
open Go.RowKit
open Go.Op (bytesLess)

set_option maxRecDepth 100000 in
set_option maxHeartbeats 1000000 in
/-- Succ, the program's -/
theorem succ31 (p : ByteArray) (w : World) (hp : p.size ≤ 1000000) :
    Calls Tryz.prog 87 #[.string p] w fun x w' => x = .returned (.tuple #[.string (sucS p.data.toList), .bool (sucO p.data.toList)]) ∧ Below w.heap.size w w' := by
  go_enter Tryz.func87, Tryz.ntmps87
  go_wp2_with fail
  go_loop [4] (fun n => ∃ j : Nat, j ≤ p.size ∧ n = .int .i64 ((j : Int) - 1) ∧ Hid (succ (p.data.toList.take j) = succ p.data.toList)) (fun n => (intOf n + 1).toNat)
  case atStart => exact ⟨p.size, Nat.le_refl _, rfl, hid (by rw [Lib.size_eq, List.take_length])⟩
  case round =>
    obtain ⟨j, hj, e, hs⟩ := hrel
    cases j with
    | zero =>
      have e' : (((0 : Nat) : Int) - 1) = -1 := rfl
      rw [e'] at e
      subst e
      clear e'
      go_wp2_with fail
      have := hs.out
      rw [List.take_zero] at this
      refine bodyPost_ret (v := .tuple #[.string ⟨#[]⟩, .bool false]) (by simp [results, Tryz.results87, go_sem]) rfl ⟨ret_two ?_ ?_, Below.refl _ _⟩
      · unfold sucS; rw [← this]; rfl
      · unfold sucO; rw [← this]; rfl
    | succ m =>
      have e' : (((m + 1 : Nat) : Int) - 1) = m := by omega
      rw [e'] at e
      subst e
      clear e'
      have h1 : (m : Int) < (p.size : Int) := by omega
      have hl : m < p.data.toList.length := by rw [← Lib.size_eq]; omega
      have hs' := hs.out
      rw [take_last _ _ hl, ← byte_at p m (by omega)] at hs'
      have HS := hid hs'
      clear hs'
      go_wp2_with fail
      · exact ⟨⟨m, by omega, by go_num, hid (by have ht : p[m] = 255 := top_byte ‹_›; rw [← HS.out, ht, succ_top])⟩, by simp [intOf]⟩
      · have hx : p[m] ≠ 255 := low_byte ‹_›
        have hb := u8_lt256 p[m]
        have hb' : p[m].toNat ≠ 255 := fun e => hx ((u8_top _).2 e)
        have hcv := conv_str (Bytes.drew (digits_lie w #[.int .u8 (((p[m].toNat : Nat) : Int) + 1)] (0, 0) [((p[m].toNat : Nat) : Int) + 1] rfl)) 1 1 rfl (fun h => by cases h)
        have hm : m ≤ p.size := by omega
        generalize hS : strOfNums [((p[m].toNat : Nat) : Int) + 1] = S at hcv
        have HR : succ p.data.toList = some ((p.extract 0 m).data.toList ++ S.data.toList) := by
          rw [← HS.out, succ_snoc _ _ hx, cut_data, ← hS, strOfNums_data]
          simp
        have hz : S.size = 1 := by rw [← hS, strOfNums_size]; rfl
        have H2 := hid HR
        clear HR hS
        go_region
        go_wp2_with fail
        refine bodyPost_ret (v := .tuple #[.string (p.extract 0 m ++ S), .bool true]) (by simp [results, Tryz.results87, go_sem]) rfl ⟨ret_two ?_ ?_, ((Below.refl _ _).alloc (Nat.le_refl _) _).drew⟩
        · unfold sucS; rw [H2.out, str_append]; rfl
        · unfold sucO; rw [H2.out]; rfl

end Go.Proofs.YtegmpfmhlpdmhaaGreat.Key

namespace Go.Proofs.YtegmpfmhlpdmhaaGreat.Key
open Go.RowKit
open Go.Op (bytesLess)

set_option maxRecDepth 100000 in
set_option maxHeartbeats 1000000 in
/-- In, the program's -/
theorem in32 (lo hi k : ByteArray) (e : Bool) (w : World) :
    Calls Tryz.prog 64 #[.agg #[.string lo, .string hi, .bool e], .string k] w fun x w' => x = .returned (.bool (inR (rg lo hi e) k.data.toList)) ∧ Below w.heap.size w w' := by
  rw [in_less]
  cases h1 : bytesLess k.toList lo.toList
  · cases e
    · go_enter Tryz.func64, Tryz.ntmps64
      go_wp2_with fail
      go_ret
      exact ⟨rfl, below_box _ _⟩
    · cases h2 : bytesLess k.toList hi.toList
      all_goals
        go_enter Tryz.func64, Tryz.ntmps64
        go_wp2_with fail
        go_ret
        exact ⟨rfl, below_box _ _⟩
  · go_enter Tryz.func64, Tryz.ntmps64
    go_wp2_with fail
    go_ret
    exact ⟨rfl, below_box _ _⟩
set_option maxRecDepth 100000 in
set_option maxHeartbeats 1000000 in
/-- In, the document's -/
theorem in20 (lo hi k : ByteArray) (e : Bool) (w : World) :
    Calls Tryz.prog 17 #[.agg #[.string lo, .string hi, .bool e], .string k] w fun x w' => x = .returned (.bool (inR (rg lo hi e) k.data.toList)) ∧ Below w.heap.size w w' := by
  rw [in_less]
  cases h1 : bytesLess k.toList lo.toList
  · cases e
    · go_enter Tryz.func17, Tryz.ntmps17
      go_wp2_with fail
      go_ret
      exact ⟨rfl, below_box _ _⟩
    · cases h2 : bytesLess k.toList hi.toList
      all_goals
        go_enter Tryz.func17, Tryz.ntmps17
        go_wp2_with fail
        go_ret
        exact ⟨rfl, below_box _ _⟩
  · go_enter Tryz.func17, Tryz.ntmps17
    go_wp2_with fail
    go_ret
    exact ⟨rfl, below_box _ _⟩

set_option maxRecDepth 100000 in
set_option maxHeartbeats 1000000 in
/-- Empty, the program's -/
theorem empty25 (lo hi : ByteArray) (e : Bool) (w : World) :
    Calls Tryz.prog 43 #[.agg #[.string lo, .string hi, .bool e]] w fun x w' => x = .returned (.bool (emptyR (rg lo hi e))) ∧ Below w.heap.size w w' := by
  have H := hid (show emptyR (rg lo hi e) = !inR (rg lo hi e) lo.data.toList from rfl)
  go_enter Tryz.func43, Tryz.ntmps43
  go_wp2_with fail
  refine (in32 lo hi lo e _).mono ?_
  rintro x w' ⟨rfl, hbw⟩
  generalize inR (rg lo hi e) lo.data.toList = b at *
  go_wp2_with fail
  go_ret
  exact ⟨ret_bool H.out.symm, (below_box _ _).trans (hbw.mono (by simp))⟩
set_option maxRecDepth 100000 in
set_option maxHeartbeats 1000000 in
/-- Of, the program's -/
theorem of24 (p : ByteArray) (w : World) (hp : p.size ≤ 800000) :
    Calls Tryz.prog 80 #[.string p] w fun x w' => x = .returned (.agg #[.string p, .string (sucS p.data.toList), .bool (sucO p.data.toList)]) ∧ Below w.heap.size w w' := by
  have HC := fun w => succ31 p w (by omega)
  generalize sucS p.data.toList = S at *
  generalize sucO p.data.toList = o at *
  go_enter Tryz.func80, Tryz.ntmps80
  go_wp2_with fail
  refine (HC _).mono ?_
  clear HC
  rintro x w' ⟨rfl, hbw⟩
  have hx := (Box.new w _ _ _).later hbw
  have hb : Below w.heap.size w w' := (below_box _ _).trans (hbw.mono (by simp))
  clear hbw
  obtain ⟨a0, a1, a2⟩ := hx.cells
  obtain ⟨f0, f1, f2⟩ := hx.free
  go_wp2_with fail
  exact bodyPost_ret (v := .agg #[.string p, .string S, .bool o]) (by simp [results, Tryz.results80, go_sem, a0, a1, a2]) rfl ⟨rfl, ((hb.setCell (Nat.le_refl _) _).setCell (Nat.le_refl _) _).setCell (Nat.le_refl _) _⟩
end Go.Proofs.YtegmpfmhlpdmhaaGreat.Key

namespace Go.Proofs.YtegmpfmhlpdmhaaGreat.Key
open Go.RowKit
open Go.Op (bytesLess)

theorem run_max_str {P : Program} (w : World) (ts : Array TypeId) (t : TypeId) (x y : ByteArray) : (Builtin.max_ ts t #[.string x, .string y]).run P w = .ok (.string (if bytesLess x.toList y.toList then y else x)) w := by
  cases h : bytesLess x.toList y.toList <;> simp [Builtin.max_, Builtin.max2, Op.stringOp, asBool, h]
/-- what Cut answers, of what it has gathered -/
def endCut (L H : ByteArray) (E b : Bool) : Value := if b then av ⟨#[]⟩ ⟨#[]⟩ true else av L H E

theorem boxes7 {w w' : World} {o0 o1 o4 o5 o6 : Obj} {v0 v1 v2 x0 x1 x2 : Value}
    (h : Below (((((((w.alloc o0).alloc o1).alloc (.cells #[v0, v1, v2] 25)).alloc (.cells #[x0, x1, x2] 25)).alloc o4).alloc o5).alloc o6).heap.size
      (((((((w.alloc o0).alloc o1).alloc (.cells #[v0, v1, v2] 25)).alloc (.cells #[x0, x1, x2] 25)).alloc o4).alloc o5).alloc o6) w') :
    Box w' (w.heap.size + 1 + 1) v0 v1 v2 ∧ Box w' (w.heap.size + 1 + 1 + 1) x0 x1 x2 ∧ Below w.heap.size w w' := by
  have q1 := Box.new ((w.alloc o0).alloc o1) v0 v1 v2
  have q2 := Box.new (((w.alloc o0).alloc o1).alloc (.cells #[v0, v1, v2] 25)) x0 x1 x2
  have q1' := (((((q1.alloc (.cells #[x0, x1, x2] 25)).alloc o4).alloc o5).alloc o6)).later h
  have q2' := ((((q2.alloc o4).alloc o5).alloc o6)).later h
  have s1 : ((w.alloc o0).alloc o1).heap.size = w.heap.size + 1 + 1 := by simp
  have s2 : (((w.alloc o0).alloc o1).alloc (.cells #[v0, v1, v2] 25)).heap.size = w.heap.size + 1 + 1 + 1 := by simp
  rw [s1] at q1'
  rw [s2] at q2'
  refine ⟨q1', q2', ?_⟩
  have hb : Below w.heap.size w (((((((w.alloc o0).alloc o1).alloc (.cells #[v0, v1, v2] 25)).alloc (.cells #[x0, x1, x2] 25)).alloc o4).alloc o5).alloc o6) :=
    ((((((((Below.refl _ _).alloc (Nat.le_refl _) _).alloc (by simp) _).alloc (by simp; omega) _).alloc (by simp; omega) _).alloc (by simp; omega) _).alloc (by simp; omega) _).alloc (by simp; omega) _)
  exact hb.trans (h.mono hb.size)

set_option maxRecDepth 100000 in
set_option maxHeartbeats 1000000 in
theorem cut23_ff (lo hi lo' hi' L : ByteArray) (w : World) (hL : (if bytesLess lo.toList lo'.toList then lo' else lo) = L) :
    Calls Tryz.prog 86 #[av lo hi false, av lo' hi' false] w fun x w' => x = .returned (endCut L ⟨#[]⟩ false (emptyR (rg L ⟨#[]⟩ false))) ∧ Below w.heap.size w w' := by
  have hm := fun W ts => run_max_str (P := Tryz.prog) W ts 9 lo lo'
  rw [hL] at hm
  have HE := empty25 L ⟨#[]⟩ false
  generalize emptyR (rg L ⟨#[]⟩ false) = b at *
  clear hL
  go_enter Tryz.func86, Tryz.ntmps86
  go_wp2_with fail
  refine wp_loop_rounds 3 ?_
  rw [rounds_succ]
  go_wp2_with fail
  rw [rounds_succ]
  go_wp2_with fail
  rw [rounds_succ]
  go_wp2_with fail
  refine (HE _).mono ?_
  clear HE
  rintro x w' ⟨rfl, hbw⟩
  obtain ⟨hz, hx, hb⟩ := boxes7 hbw
  clear hbw
  obtain ⟨a0, a1, a2⟩ := hz.cells
  obtain ⟨f0, f1, f2⟩ := hz.free
  obtain ⟨b0, b1, b2⟩ := hx.cells
  have hle : w.heap.size ≤ w.heap.size + 1 + 1 := by omega
  generalize w.heap.size + 1 + 1 + 1 = k5 at *
  generalize w.heap.size + 1 + 1 = k4 at *
  cases b
  · go_wp2_with fail
    exact bodyPost_ret (v := av L ⟨#[]⟩ false) (by simp [results, Tryz.results86, go_sem, a0, a1, a2]) rfl ⟨rfl, ((hb.setCell hle _).setCell hle _).setCell hle _⟩
  · go_wp2_with fail
    exact bodyPost_ret (v := av ⟨#[]⟩ ⟨#[]⟩ true) (by simp [results, Tryz.results86, go_sem, a0, a1, a2]) rfl ⟨rfl, ((hb.setCell hle _).setCell hle _).setCell hle _⟩

set_option maxRecDepth 100000 in
set_option maxHeartbeats 1000000 in
theorem cut23_tf (lo hi lo' hi' L : ByteArray) (w : World) (hL : (if bytesLess lo.toList lo'.toList then lo' else lo) = L) :
    Calls Tryz.prog 86 #[av lo hi true, av lo' hi' false] w fun x w' => x = .returned (endCut L hi true (emptyR (rg L hi true))) ∧ Below w.heap.size w w' := by
  have hm := fun W ts => run_max_str (P := Tryz.prog) W ts 9 lo lo'
  rw [hL] at hm
  have HE := empty25 L hi true
  generalize emptyR (rg L hi true) = b at *
  clear hL
  go_enter Tryz.func86, Tryz.ntmps86
  go_wp2_with fail
  refine wp_loop_rounds 3 ?_
  rw [rounds_succ]
  go_wp2_with fail
  rw [rounds_succ]
  go_wp2_with fail
  rw [rounds_succ]
  go_wp2_with fail
  refine (HE _).mono ?_
  clear HE
  rintro x w' ⟨rfl, hbw⟩
  obtain ⟨hz, hx, hb⟩ := boxes7 hbw
  clear hbw
  obtain ⟨a0, a1, a2⟩ := hz.cells
  obtain ⟨f0, f1, f2⟩ := hz.free
  obtain ⟨b0, b1, b2⟩ := hx.cells
  have hle : w.heap.size ≤ w.heap.size + 1 + 1 := by omega
  generalize w.heap.size + 1 + 1 + 1 = k5 at *
  generalize w.heap.size + 1 + 1 = k4 at *
  cases b
  · go_wp2_with fail
    exact bodyPost_ret (v := av L hi true) (by simp [results, Tryz.results86, go_sem, a0, a1, a2]) rfl ⟨rfl, ((hb.setCell hle _).setCell hle _).setCell hle _⟩
  · go_wp2_with fail
    exact bodyPost_ret (v := av ⟨#[]⟩ ⟨#[]⟩ true) (by simp [results, Tryz.results86, go_sem, a0, a1, a2]) rfl ⟨rfl, ((hb.setCell hle _).setCell hle _).setCell hle _⟩

set_option maxRecDepth 100000 in
set_option maxHeartbeats 1000000 in
theorem cut23_ft (lo hi lo' hi' L : ByteArray) (w : World) (hL : (if bytesLess lo.toList lo'.toList then lo' else lo) = L) :
    Calls Tryz.prog 86 #[av lo hi false, av lo' hi' true] w fun x w' => x = .returned (endCut L hi' true (emptyR (rg L hi' true))) ∧ Below w.heap.size w w' := by
  have hm := fun W ts => run_max_str (P := Tryz.prog) W ts 9 lo lo'
  rw [hL] at hm
  have HE := empty25 L hi' true
  generalize emptyR (rg L hi' true) = b at *
  clear hL
  go_enter Tryz.func86, Tryz.ntmps86
  go_wp2_with fail
  refine wp_loop_rounds 3 ?_
  rw [rounds_succ]
  go_wp2_with fail
  rw [rounds_succ]
  go_wp2_with fail
  rw [rounds_succ]
  go_wp2_with fail
  refine (HE _).mono ?_
  clear HE
  rintro x w' ⟨rfl, hbw⟩
  obtain ⟨hz, hx, hb⟩ := boxes7 hbw
  clear hbw
  obtain ⟨a0, a1, a2⟩ := hz.cells
  obtain ⟨f0, f1, f2⟩ := hz.free
  obtain ⟨b0, b1, b2⟩ := hx.cells
  have hle : w.heap.size ≤ w.heap.size + 1 + 1 := by omega
  generalize w.heap.size + 1 + 1 + 1 = k5 at *
  generalize w.heap.size + 1 + 1 = k4 at *
  cases b
  · go_wp2_with fail
    exact bodyPost_ret (v := av L hi' true) (by simp [results, Tryz.results86, go_sem, a0, a1, a2]) rfl ⟨rfl, ((hb.setCell hle _).setCell hle _).setCell hle _⟩
  · go_wp2_with fail
    exact bodyPost_ret (v := av ⟨#[]⟩ ⟨#[]⟩ true) (by simp [results, Tryz.results86, go_sem, a0, a1, a2]) rfl ⟨rfl, ((hb.setCell hle _).setCell hle _).setCell hle _⟩

set_option maxRecDepth 100000 in
set_option maxHeartbeats 1000000 in
theorem cut23_t0 (lo hi lo' hi' L : ByteArray) (w : World) (hL : (if bytesLess lo.toList lo'.toList then lo' else lo) = L) (h2 : bytesLess hi'.toList hi.toList = false) :
    Calls Tryz.prog 86 #[av lo hi true, av lo' hi' true] w fun x w' => x = .returned (endCut L hi true (emptyR (rg L hi true))) ∧ Below w.heap.size w w' := by
  have hm := fun W ts => run_max_str (P := Tryz.prog) W ts 9 lo lo'
  rw [hL] at hm
  have HE := empty25 L hi true
  generalize emptyR (rg L hi true) = b at *
  clear hL
  go_enter Tryz.func86, Tryz.ntmps86
  go_wp2_with fail
  refine wp_loop_rounds 3 ?_
  rw [rounds_succ]
  go_wp2_with fail
  rw [rounds_succ]
  go_wp2_with fail
  rw [rounds_succ]
  go_wp2_with fail
  refine (HE _).mono ?_
  clear HE
  rintro x w' ⟨rfl, hbw⟩
  obtain ⟨hz, hx, hb⟩ := boxes7 hbw
  clear hbw
  obtain ⟨a0, a1, a2⟩ := hz.cells
  obtain ⟨f0, f1, f2⟩ := hz.free
  obtain ⟨b0, b1, b2⟩ := hx.cells
  have hle : w.heap.size ≤ w.heap.size + 1 + 1 := by omega
  generalize w.heap.size + 1 + 1 + 1 = k5 at *
  generalize w.heap.size + 1 + 1 = k4 at *
  cases b
  · go_wp2_with fail
    exact bodyPost_ret (v := av L hi true) (by simp [results, Tryz.results86, go_sem, a0, a1, a2]) rfl ⟨rfl, ((hb.setCell hle _).setCell hle _).setCell hle _⟩
  · go_wp2_with fail
    exact bodyPost_ret (v := av ⟨#[]⟩ ⟨#[]⟩ true) (by simp [results, Tryz.results86, go_sem, a0, a1, a2]) rfl ⟨rfl, ((hb.setCell hle _).setCell hle _).setCell hle _⟩

set_option maxRecDepth 100000 in
set_option maxHeartbeats 1000000 in
theorem cut23_t1 (lo hi lo' hi' L : ByteArray) (w : World) (hL : (if bytesLess lo.toList lo'.toList then lo' else lo) = L) (h2 : bytesLess hi'.toList hi.toList = true) :
    Calls Tryz.prog 86 #[av lo hi true, av lo' hi' true] w fun x w' => x = .returned (endCut L hi' true (emptyR (rg L hi' true))) ∧ Below w.heap.size w w' := by
  have hm := fun W ts => run_max_str (P := Tryz.prog) W ts 9 lo lo'
  rw [hL] at hm
  have HE := empty25 L hi' true
  generalize emptyR (rg L hi' true) = b at *
  clear hL
  go_enter Tryz.func86, Tryz.ntmps86
  go_wp2_with fail
  refine wp_loop_rounds 3 ?_
  rw [rounds_succ]
  go_wp2_with fail
  rw [rounds_succ]
  go_wp2_with fail
  rw [rounds_succ]
  go_wp2_with fail
  refine (HE _).mono ?_
  clear HE
  rintro x w' ⟨rfl, hbw⟩
  obtain ⟨hz, hx, hb⟩ := boxes7 hbw
  clear hbw
  obtain ⟨a0, a1, a2⟩ := hz.cells
  obtain ⟨f0, f1, f2⟩ := hz.free
  obtain ⟨b0, b1, b2⟩ := hx.cells
  have hle : w.heap.size ≤ w.heap.size + 1 + 1 := by omega
  generalize w.heap.size + 1 + 1 + 1 = k5 at *
  generalize w.heap.size + 1 + 1 = k4 at *
  cases b
  · go_wp2_with fail
    exact bodyPost_ret (v := av L hi' true) (by simp [results, Tryz.results86, go_sem, a0, a1, a2]) rfl ⟨rfl, ((hb.setCell hle _).setCell hle _).setCell hle _⟩
  · go_wp2_with fail
    exact bodyPost_ret (v := av ⟨#[]⟩ ⟨#[]⟩ true) (by simp [results, Tryz.results86, go_sem, a0, a1, a2]) rfl ⟨rfl, ((hb.setCell hle _).setCell hle _).setCell hle _⟩
end Go.Proofs.YtegmpfmhlpdmhaaGreat.Key

namespace Go.Proofs.YtegmpfmhlpdmhaaGreat.Key
open Go.RowKit
open Go.Op (bytesLess)

theorem boxes4 {w w' : World} {o0 o1 : Obj} {v0 v1 v2 x0 x1 x2 : Value}
    (h : Below ((((w.alloc o0).alloc o1).alloc (.cells #[v0, v1, v2] 25)).alloc (.cells #[x0, x1, x2] 25)).heap.size
      ((((w.alloc o0).alloc o1).alloc (.cells #[v0, v1, v2] 25)).alloc (.cells #[x0, x1, x2] 25)) w') :
    Box w' (w.heap.size + 1 + 1) v0 v1 v2 ∧ Box w' (w.heap.size + 1 + 1 + 1) x0 x1 x2 ∧ Below w.heap.size w w' := by
  have q1 := Box.new ((w.alloc o0).alloc o1) v0 v1 v2
  have q2 := Box.new (((w.alloc o0).alloc o1).alloc (.cells #[v0, v1, v2] 25)) x0 x1 x2
  have q1' := (q1.alloc (.cells #[x0, x1, x2] 25)).later h
  have q2' := q2.later h
  have s1 : ((w.alloc o0).alloc o1).heap.size = w.heap.size + 1 + 1 := by simp
  have s2 : (((w.alloc o0).alloc o1).alloc (.cells #[v0, v1, v2] 25)).heap.size = w.heap.size + 1 + 1 + 1 := by simp
  rw [s1] at q1'
  rw [s2] at q2'
  refine ⟨q1', q2', ?_⟩
  have hb : Below w.heap.size w ((((w.alloc o0).alloc o1).alloc (.cells #[v0, v1, v2] 25)).alloc (.cells #[x0, x1, x2] 25)) :=
    (((((Below.refl _ _).alloc (Nat.le_refl _) _).alloc (by simp) _).alloc (by simp; omega) _).alloc (by simp; omega) _)
  exact hb.trans (h.mono hb.size)

/-- what Cut gathers -/
def cutL (lo lo' : ByteArray) : ByteArray := if bytesLess lo.toList lo'.toList then lo' else lo
def cutH (hi hi' : ByteArray) (e e' : Bool) : ByteArray := if e then (if e' then (if bytesLess hi'.toList hi.toList then hi' else hi) else hi) else if e' then hi' else ⟨#[]⟩
def cutV (lo hi : ByteArray) (e : Bool) (lo' hi' : ByteArray) (e' : Bool) : Value := endCut (cutL lo lo') (cutH hi hi' e e') (e || e') (emptyR (rg (cutL lo lo') (cutH hi hi' e e') (e || e')))
theorem raw_rg (lo hi lo' hi' : ByteArray) (e e' : Bool) : rg (cutL lo lo') (cutH hi hi' e e') (e || e') = rawCut (rg lo hi e) (rg lo' hi' e') := by
  unfold cutL cutH rawCut maxL minL rg
  simp only [less_str]
  cases e <;> cases e' <;> cases bytesLess lo.data.toList lo'.data.toList <;> cases bytesLess hi'.data.toList hi.data.toList <;> rfl
theorem cutV_eq (lo hi lo' hi' : ByteArray) (e e' : Bool) : cutV lo hi e lo' hi' e' = rv (cutR (rg lo hi e) (rg lo' hi' e')) := by
  unfold cutV cutR
  rw [← raw_rg]
  unfold endCut
  cases emptyR (rg (cutL lo lo') (cutH hi hi' e e') (e || e'))
  · exact (rv_rg _ _ _).symm
  · rfl
/-- Cut, the program's -/
theorem cut23 (lo hi : ByteArray) (e : Bool) (lo' hi' : ByteArray) (e' : Bool) (w : World) :
    Calls Tryz.prog 86 #[av lo hi e, av lo' hi' e'] w fun x w' => x = .returned (rv (cutR (rg lo hi e) (rg lo' hi' e'))) ∧ Below w.heap.size w w' := by
  rw [← cutV_eq]
  cases e <;> cases e'
  · exact cut23_ff lo hi lo' hi' _ w rfl
  · exact cut23_ft lo hi lo' hi' _ w rfl
  · exact cut23_tf lo hi lo' hi' _ w rfl
  · cases h : bytesLess hi'.toList hi.toList
    · have e : cutH hi hi' true true = hi := by simp [cutH, h]
      unfold cutV
      rw [e]
      exact cut23_t0 lo hi lo' hi' _ w rfl h
    · have e : cutH hi hi' true true = hi' := by simp [cutH, h]
      unfold cutV
      rw [e]
      exact cut23_t1 lo hi lo' hi' _ w rfl h
theorem three_ways (lo lo' : ByteArray) : (bytesLess lo'.toList lo.toList = false ∧ (lo'.toList == lo.toList) = false ∧ cutL lo lo' = lo') ∨ (bytesLess lo'.toList lo.toList = true ∧ (lo'.toList == lo.toList) = false ∧ cutL lo lo' = lo) ∨ (bytesLess lo'.toList lo.toList = false ∧ (lo'.toList == lo.toList) = true ∧ cutL lo lo' = lo) := by
  unfold cutL
  simp only [Lib.toList_data]
  cases h1 : bytesLess lo'.data.toList lo.data.toList
  · cases h2 : (lo'.data.toList == lo.data.toList)
    · refine .inl ⟨rfl, rfl, ?_⟩
      cases h3 : bytesLess lo.data.toList lo'.data.toList
      · have := less_same h1 h3
        rw [this] at h2
        simp at h2
      · simp
    · refine .inr (.inr ⟨rfl, rfl, ?_⟩)
      have := eq_of_beq h2
      rw [this, less_self]
      rfl
  · refine .inr (.inl ⟨rfl, ?_, ?_⟩)
    · rw [Bool.eq_false_iff]
      intro h
      rw [eq_of_beq h, less_self] at h1
      cases h1
    · rw [less_asymm h1]
      rfl
end Go.Proofs.YtegmpfmhlpdmhaaGreat.Key

namespace Go.Proofs.YtegmpfmhlpdmhaaGreat.Key
open Go.RowKit
open Go.Op (bytesLess)

set_option maxRecDepth 100000 in
set_option maxHeartbeats 1000000 in
/-- Up, the program's -/
theorem up11 (s a k : ByteArray) (w : World) (ha : a.size ≤ 1000000) (hk : k.size ≤ 1000000) :
    Calls Tryz.prog 63 #[lv s a, .string k] w fun x w' => x = .returned (.tuple #[.string (upS (lf s a) k.data.toList), .bool (upB (lf s a) k.data.toList)]) ∧ Below w.heap.size w w' := by
  have HC := has21 k s
  cases h : has k.data.toList s.data.toList
  · rw [h] at HC
    rw [upS_no h, upB_eq h]
    clear h
    go_enter Tryz.func63, Tryz.ntmps63
    go_wp2_with fail
    refine (HC _).mono ?_
    clear HC
    rintro x w' ⟨rfl, rfl⟩
    go_wp2_with fail
    exact bodyPost_ret (v := .tuple #[.string ⟨#[]⟩, .bool false]) (by simp [results, Tryz.results63, go_sem]) rfl ⟨rfl, below_one _ _⟩
  · have hz := has_size h
    have hz' : (s.size : Int) ≤ (k.size : Int) := by omega
    rw [h] at HC
    rw [upS_yes h, upB_eq h]
    clear h
    go_enter Tryz.func63, Tryz.ntmps63
    go_wp2_with fail
    refine (HC _).mono ?_
    clear HC
    rintro x w' ⟨rfl, rfl⟩
    go_wp2_with fail
    go_quiet (fail)
    go_wp2_with fail
    exact bodyPost_ret (v := .tuple #[.string (a ++ k.extract s.size k.size), .bool true]) (by simp [results, Tryz.results63, go_sem]) rfl ⟨rfl, below_drew (below_one _ _) _⟩
set_option maxRecDepth 100000 in
set_option maxHeartbeats 1000000 in
/-- Turn -/
theorem turn17 (s a : ByteArray) (w : World) :
    Calls Tryz.prog 83 #[lv s a] w fun x w' => x = .returned (lv a s) ∧ Below w.heap.size w w' := by
  go_enter Tryz.func83, Tryz.ntmps83
  go_wp2_with fail
  exact bodyPost_ret (v := lv a s) (by simp [results, Tryz.results83, go_sem]) rfl ⟨rfl, below_two _ _ _⟩

set_option maxRecDepth 100000 in
set_option maxHeartbeats 1000000 in
/-- Down, the program's -/
theorem down13 (s a k : ByteArray) (w : World) (hs : s.size ≤ 1000000) (hk : k.size ≤ 1000000) :
    Calls Tryz.prog 74 #[lv s a, .string k] w fun x w' => x = .returned (.tuple #[.string (upS (lf a s) k.data.toList), .bool (upB (lf a s) k.data.toList)]) ∧ Below w.heap.size w w' := by
  have HC := fun w => up11 a s k w hs hk
  generalize upS (lf a s) k.data.toList = S at *
  generalize upB (lf a s) k.data.toList = b at *
  go_enter Tryz.func74, Tryz.ntmps74
  go_wp2_with fail
  refine (turn17 s a _).mono ?_
  rintro x w1 ⟨rfl, hb1⟩
  replace hb1 := (below_one _ _).trans (hb1.mono (by simp))
  go_wp2_with fail
  refine (HC _).mono ?_
  clear HC
  rintro x w2 ⟨rfl, hb2⟩
  replace hb2 := hb1.trans (hb2.mono hb1.size)
  go_wp2_with fail
  exact bodyPost_ret (v := .tuple #[.string S, .bool b]) (by simp [results, Tryz.results74, go_sem]) rfl ⟨rfl, hb2⟩

end Go.Proofs.YtegmpfmhlpdmhaaGreat.Key

namespace Go.Proofs.YtegmpfmhlpdmhaaGreat.Key
open Go.RowKit
open Go.Op (bytesLess)
set_option linter.unusedVariables false
set_option linter.unusedSimpArgs false

set_option maxRecDepth 100000 in
set_option maxHeartbeats 1000000 in
/-- Succ, the document's -/
theorem succ50 (n : Nat) : ∀ (p : ByteArray) (w : World), p.size = n → p.size ≤ 800000 →
    Calls Tryz.prog 50 #[.string p] w fun x w' => x = .returned (.tuple #[.string (sucS p.data.toList), .bool (sucO p.data.toList)]) ∧ Below w.heap.size w w' := by
  induction n with
  | zero =>
    intro p w hn _
    have hl : p.data.toList = [] := List.eq_nil_of_length_eq_zero (by rw [← Lib.size_eq]; exact hn)
    have h1 : p.toList = [] := by rw [Lib.toList_data, hl]
    have h2 : p.toList.isEmpty = true := by rw [h1]; rfl
    rw [hl]
    have HL := hid hl
    clear hl h1
    go_enter Tryz.func50, Tryz.ntmps50
    go_wp2_with fail
    exact bodyPost_ret (v := .tuple #[.string ⟨#[]⟩, .bool false]) (by simp [results, Tryz.results50, go_sem]) rfl ⟨ret_two rfl rfl, Below.refl _ _⟩
  | succ m ih =>
    intro p w hn hp
    have hl : m < p.data.toList.length := by rw [← Lib.size_eq]; omega
    have h2 : p.toList.isEmpty = false := by
      rw [Lib.toList_data]
      cases h : p.data.toList with
      | nil => rw [h] at hl; simp at hl
      | cons _ _ => rfl
    have hm : m < p.size := by omega
    have hs : succ p.data.toList = succ (p.data.toList.take m ++ [p[m]]) := by
      rw [byte_at p m hm, ← take_last _ _ hl, List.take_of_length_le (by rw [← Lib.size_eq]; omega)]
    have HS := hid hs
    have hb := u8_lt256 p[m]
    have hsz : (p.size : Int) = (m : Int) + 1 := by omega
    have hh : (p.extract 0 m).size = m := by simp; omega
    have hd := cut_data p m
    clear hs hl
    by_cases hx : p[m] = 255
    · have hx' : (((p[m].toNat : Nat) : Int) == 255) = true := by rw [hx]; rfl
      go_enter Tryz.func50, Tryz.ntmps50
      go_wp2_with fail
      have hS : sucS (p.extract 0 m).data.toList = sucS p.data.toList := by unfold sucS; rw [HS.out, hx, succ_top, cut_data]
      have hO : sucO (p.extract 0 m).data.toList = sucO p.data.toList := by unfold sucO; rw [HS.out, hx, succ_top, cut_data]
      have H := ih (p.extract 0 m) w hh (by omega)
      rw [hS, hO] at H
      clear hS hO
      refine H.mono ?_
      clear H
      rintro x w' ⟨rfl, hb1⟩
      go_wp2_with fail
      exact bodyPost_ret (v := .tuple #[.string (sucS p.data.toList), .bool (sucO p.data.toList)]) (by simp [results, Tryz.results50, go_sem]) rfl ⟨rfl, hb1⟩
    · have hx' : (((p[m].toNat : Nat) : Int) == 255) = false := by
        rw [Bool.eq_false_iff]
        intro h
        exact hx (top_byte h)
      have hb' : p[m].toNat ≠ 255 := fun e => hx ((u8_top _).2 e)
      have ho0 := Own.made w
      have hb0 : Below w.heap.size w (w.alloc (.cells #[] 5)) := (Below.refl _ _).alloc (Nat.le_refl _) _
      have HR : succ p.data.toList = some ((strOfNums (nums (p.extract 0 m) ++ [((p[m].toNat : Nat) : Int) + 1])).data.toList) := by
        have h3 := congrArg (fun s : ByteArray => s.data.toList) (str_nums (p.extract 0 m))
        simp only [strOfNums_data] at h3
        rw [HS.out, succ_snoc _ _ hx, strOfNums_data, List.map_append, h3, cut_data]
        simp
      have hnl : (nums (p.extract 0 m)).length = m := by rw [nums_length, hh]
      have H2 := hid HR
      clear HR HS ih hd
      go_enter Tryz.func50, Tryz.ntmps50
      go_wp2_with (at_builtin; first | (refine appS rfl (.tmp 26) (.tmp 27) rfl w.heap.size _ [] rfl ho0 (p.extract 0 m) rfl (by simp; omega) (Nat.le_refl _) hb0 ?_; intro v1 w1 ho1 hb1; rw [List.nil_append] at ho1; clear ho0 hb0) | (refine app1 rfl (.tmp 29) (.tmp 32) rfl _ _ _ rfl ho1 _ rfl (by omega) (Nat.le_refl _) hb1 ?_; intro v2 w2 ho2 hb2; clear ho1 hb1; generalize nums (p.extract 0 m) ++ [((p[m].toNat : Nat) : Int) + 1] = Z at ho2 H2; obtain ⟨a2, c2, rfl, hby2, hnil2, _, _⟩ := ho2.form; have hcv := conv_str hby2 _ c2 rfl hnil2))
      refine bodyPost_ret (v := .tuple #[.string (strOfNums Z), .bool true]) (by simp [results, Tryz.results50, go_sem]) rfl ⟨ret_two ?_ ?_, hb2⟩
      · unfold sucS; rw [H2.out]; rfl
      · unfold sucO; rw [H2.out]; rfl
set_option maxRecDepth 100000 in
set_option maxHeartbeats 1000000 in
/-- Of, the document's -/
theorem of31 (p : ByteArray) (w : World) (hp : p.size ≤ 800000) :
    Calls Tryz.prog 31 #[.string p] w fun x w' => x = .returned (.agg #[.string p, .string (sucS p.data.toList), .bool (sucO p.data.toList)]) ∧ Below w.heap.size w w' := by
  have HC := fun w => succ50 _ p w rfl hp
  generalize sucS p.data.toList = S at *
  generalize sucO p.data.toList = o at *
  go_enter Tryz.func31, Tryz.ntmps31
  go_wp2_with fail
  refine (HC _).mono ?_
  clear HC
  rintro x w' ⟨rfl, hbw⟩
  have hx := (Box.new w _ _ _).later hbw
  have hb : Below w.heap.size w w' := (below_box _ _).trans (hbw.mono (by simp))
  clear hbw
  obtain ⟨a0, a1, a2⟩ := hx.cells
  obtain ⟨f0, f1, f2⟩ := hx.free
  go_wp2_with fail
  exact bodyPost_ret (v := .agg #[.string p, .string S, .bool o]) (by simp [results, Tryz.results31, go_sem, a0, a1, a2]) rfl ⟨rfl, ((hb.setCell (Nat.le_refl _) _).setCell (Nat.le_refl _) _).setCell (Nat.le_refl _) _⟩


set_option maxRecDepth 100000 in
set_option maxHeartbeats 1000000 in
/-- Down, the document's -/
theorem down47_ (s a k : ByteArray) (w : World) (ha : a.size ≤ 1000000) (hk : k.size ≤ 1000000) :
    Calls Tryz.prog 47 #[lv a s, .string k] w fun x w' => x = .returned (.tuple #[.string (upS (lf s a) k.data.toList), .bool (upB (lf s a) k.data.toList)]) ∧ Below w.heap.size w w' := by
  have HC := has66 k s
  cases h : has k.data.toList s.data.toList
  · rw [h] at HC
    rw [upS_no h, upB_eq h]
    clear h
    go_enter Tryz.func47, Tryz.ntmps47
    go_wp2_with fail
    refine (HC _).mono ?_
    clear HC
    rintro x w' ⟨rfl, rfl⟩
    go_wp2_with fail
    exact bodyPost_ret (v := .tuple #[.string ⟨#[]⟩, .bool false]) (by simp [results, Tryz.results47, go_sem]) rfl ⟨rfl, below_one _ _⟩
  · have hz := has_size h
    have hz' : (s.size : Int) ≤ (k.size : Int) := by omega
    rw [h] at HC
    rw [upS_yes h, upB_eq h]
    clear h
    go_enter Tryz.func47, Tryz.ntmps47
    go_wp2_with fail
    refine (HC _).mono ?_
    clear HC
    rintro x w' ⟨rfl, rfl⟩
    go_wp2_with fail
    go_quiet (fail)
    go_wp2_with fail
    exact bodyPost_ret (v := .tuple #[.string (a ++ k.extract s.size k.size), .bool true]) (by simp [results, Tryz.results47, go_sem]) rfl ⟨rfl, below_drew (below_one _ _) _⟩
theorem down47 (s a k : ByteArray) (w : World) (hs : s.size ≤ 1000000) (hk : k.size ≤ 1000000) :
    Calls Tryz.prog 47 #[lv s a, .string k] w fun x w' => x = .returned (.tuple #[.string (upS (lf a s) k.data.toList), .bool (upB (lf a s) k.data.toList)]) ∧ Below w.heap.size w w' := down47_ a s k w hs hk


end Go.Proofs.YtegmpfmhlpdmhaaGreat.Key

namespace Go.Proofs.YtegmpfmhlpdmhaaGreat.Key
open Go.RowKit
open Go.Op (bytesLess)

/-- what Join answers -/
def joS (o : Option Lft) : ByteArray := str ((o.map Lft.strip).getD [])
def joA (o : Option Lft) : ByteArray := str ((o.map Lft.add).getD [])
theorem join_front {s p q d : ByteArray} (h : has p.data.toList q.data.toList = true) :
    joS (joinO (lf s p) (lf q d)) = s ∧ joA (joinO (lf s p) (lf q d)) = upS (lf q d) p.data.toList ∧ (joinO (lf s p) (lf q d)).isSome = true := by
  have e : joinO (lf s p) (lf q d) = some ⟨s.data.toList, d.data.toList ++ p.data.toList.drop q.data.toList.length⟩ := by
    unfold joinO
    rw [show has (lf s p).add (lf q d).strip = true from h]
    rfl
  rw [e]
  refine ⟨str_eq s, ?_, rfl⟩
  unfold upS up
  rw [show has p.data.toList (lf q d).strip = true from h]
  rfl
theorem join_back {s p q d : ByteArray} (h0 : has p.data.toList q.data.toList = false) (h : has q.data.toList p.data.toList = true) :
    joS (joinO (lf s p) (lf q d)) = upS (lf p s) q.data.toList ∧ joA (joinO (lf s p) (lf q d)) = d ∧ (joinO (lf s p) (lf q d)).isSome = true := by
  have e : joinO (lf s p) (lf q d) = some ⟨s.data.toList ++ q.data.toList.drop p.data.toList.length, d.data.toList⟩ := by
    unfold joinO
    rw [show has (lf s p).add (lf q d).strip = false from h0, show has (lf q d).strip (lf s p).add = true from h]
    rfl
  rw [e]
  refine ⟨?_, str_eq d, rfl⟩
  unfold upS up
  rw [show has q.data.toList (lf p s).strip = true from h]
  rfl
theorem join_no {s p q d : ByteArray} (h0 : has p.data.toList q.data.toList = false) (h : has q.data.toList p.data.toList = false) : joinO (lf s p) (lf q d) = none := by
  unfold joinO
  rw [show has (lf s p).add (lf q d).strip = false from h0, show has (lf q d).strip (lf s p).add = false from h]
  rfl

theorem pairs3 {w w' : World} {v0 v1 x0 x1 y0 y1 : Value}
    (h : Below (((w.alloc (.cells #[v0, v1] 37)).alloc (.cells #[x0, x1] 37)).alloc (.cells #[y0, y1] 37)).heap.size
      (((w.alloc (.cells #[v0, v1] 37)).alloc (.cells #[x0, x1] 37)).alloc (.cells #[y0, y1] 37)) w') :
    Pair w' w.heap.size v0 v1 ∧ Pair w' (w.heap.size + 1) x0 x1 ∧ Pair w' (w.heap.size + 1 + 1) y0 y1 ∧ Below w.heap.size w w' := by
  have q0 := (((Pair.new w v0 v1).alloc (.cells #[x0, x1] 37)).alloc (.cells #[y0, y1] 37)).later h
  have q1 := ((Pair.new (w.alloc (.cells #[v0, v1] 37)) x0 x1).alloc (.cells #[y0, y1] 37)).later h
  have q2 := (Pair.new ((w.alloc (.cells #[v0, v1] 37)).alloc (.cells #[x0, x1] 37)) y0 y1).later h
  have s1 : (w.alloc (.cells #[v0, v1] 37)).heap.size = w.heap.size + 1 := by simp
  have s2 : ((w.alloc (.cells #[v0, v1] 37)).alloc (.cells #[x0, x1] 37)).heap.size = w.heap.size + 1 + 1 := by simp
  rw [s1] at q1
  rw [s2] at q2
  have hb : Below w.heap.size w (((w.alloc (.cells #[v0, v1] 37)).alloc (.cells #[x0, x1] 37)).alloc (.cells #[y0, y1] 37)) := (below_two _ _ _).alloc (by simp; omega) _
  exact ⟨q0, q1, q2, hb.trans (h.mono hb.size)⟩

set_option maxRecDepth 100000 in
set_option maxHeartbeats 1000000 in
/-- Join, the program's -/
theorem join18 (s p q d : ByteArray) (w : World) (hs : s.size ≤ 1000000) (hp : p.size ≤ 1000000) (hq : q.size ≤ 1000000) (hd : d.size ≤ 1000000) :
    Calls Tryz.prog 82 #[lv s p, lv q d] w fun x w' => x = .returned (.tuple #[lv (joS (joinO (lf s p) (lf q d))) (joA (joinO (lf s p) (lf q d))), .bool (joinO (lf s p) (lf q d)).isSome]) ∧ Below w.heap.size w w' := by
  have H1 := fun w => up11 q d p w hd hp
  cases h1 : has p.data.toList q.data.toList
  · rw [upB_eq h1, upS_no h1] at H1
    have H2 := fun w => down13 s p q w hs hq
    cases h2 : has q.data.toList p.data.toList
    · rw [upB_eq h2, upS_no h2] at H2
      rw [join_no h1 h2]
      show Calls Tryz.prog 82 #[lv s p, lv q d] w fun x w' => x = .returned (.tuple #[lv ⟨#[]⟩ ⟨#[]⟩, .bool false]) ∧ Below w.heap.size w w'
      clear h1 h2
      go_enter Tryz.func82, Tryz.ntmps82
      go_wp2_with fail
      refine (H1 _).mono ?_
      clear H1
      rintro x w1 ⟨rfl, hb1⟩
      obtain ⟨A1, B1, R1, hb1⟩ := pairs3 hb1
      have hle : w.heap.size ≤ w.heap.size + 1 + 1 := by omega
      obtain ⟨a0, a1⟩ := A1.cells
      obtain ⟨b0, b1⟩ := B1.cells
      obtain ⟨r0, r1⟩ := R1.cells
      generalize w.heap.size + 1 + 1 = k2 at *
      generalize w.heap.size + 1 = k1 at *
      go_wp2_with fail
      refine (H2 _).mono ?_
      clear H2
      rintro x w2 ⟨rfl, hb2⟩
      have R2 := R1.later hb2
      replace hb2 := hb1.trans (hb2.mono hb1.size)
      clear hb1 a0 a1 b0 b1 r0 r1
      obtain ⟨r0, r1⟩ := R2.cells
      obtain ⟨f0, f1⟩ := R2.free
      go_wp2_with fail
      exact bodyPost_ret (v := .tuple #[lv ⟨#[]⟩ ⟨#[]⟩, .bool false]) (by simp [results, Tryz.results82, go_sem, r0, r1]) rfl ⟨rfl, (hb2.setCell hle _).setCell hle _⟩
    · rw [upB_eq h2] at H2
      obtain ⟨e1, e2, e3⟩ := join_back (s := s) (d := d) h1 h2
      rw [e1, e2, e3]
      clear h1 h2 e1 e2 e3
      generalize upS (lf p s) q.data.toList = S at *
      go_enter Tryz.func82, Tryz.ntmps82
      go_wp2_with fail
      refine (H1 _).mono ?_
      clear H1
      rintro x w1 ⟨rfl, hb1⟩
      obtain ⟨A1, B1, R1, hb1⟩ := pairs3 hb1
      have hle : w.heap.size ≤ w.heap.size + 1 + 1 := by omega
      obtain ⟨a0, a1⟩ := A1.cells
      obtain ⟨b0, b1⟩ := B1.cells
      obtain ⟨r0, r1⟩ := R1.cells
      generalize w.heap.size + 1 + 1 = k2 at *
      generalize w.heap.size + 1 = k1 at *
      go_wp2_with fail
      refine (H2 _).mono ?_
      clear H2
      rintro x w2 ⟨rfl, hb2⟩
      have R2 := R1.later hb2
      have B2 := B1.later hb2
      replace hb2 := hb1.trans (hb2.mono hb1.size)
      clear hb1 a0 a1 b0 b1 r0 r1
      obtain ⟨b0, b1⟩ := B2.cells
      obtain ⟨r0, r1⟩ := R2.cells
      obtain ⟨f0, f1⟩ := R2.free
      go_wp2_with fail
      exact bodyPost_ret (v := .tuple #[lv S d, .bool true]) (by simp [results, Tryz.results82, go_sem, r0, r1]) rfl ⟨rfl, (hb2.setCell hle _).setCell hle _⟩
  · rw [upB_eq h1] at H1
    obtain ⟨e1, e2, e3⟩ := join_front (s := s) (d := d) h1
    rw [e1, e2, e3]
    clear h1 e1 e2 e3
    generalize upS (lf q d) p.data.toList = S at *
    go_enter Tryz.func82, Tryz.ntmps82
    go_wp2_with fail
    refine (H1 _).mono ?_
    clear H1
    rintro x w1 ⟨rfl, hb1⟩
    obtain ⟨A1, B1, R1, hb1⟩ := pairs3 hb1
    have hle : w.heap.size ≤ w.heap.size + 1 + 1 := by omega
    obtain ⟨a0, a1⟩ := A1.cells
    obtain ⟨r0, r1⟩ := R1.cells
    obtain ⟨f0, f1⟩ := R1.free
    generalize w.heap.size + 1 + 1 = k2 at *
    generalize w.heap.size + 1 = k1 at *
    go_wp2_with fail
    exact bodyPost_ret (v := .tuple #[lv s S, .bool true]) (by simp [results, Tryz.results82, go_sem, r0, r1]) rfl ⟨rfl, (hb1.setCell hle _).setCell hle _⟩

end Go.Proofs.YtegmpfmhlpdmhaaGreat.Key

namespace Go.Proofs.YtegmpfmhlpdmhaaGreat.Key
open Go.RowKit
open Go.Op (bytesLess)

theorem Pair.put {w : World} {k : Nat} {v0 v1 : Value} (h : Pair w k v0 v1) (y0 y1 : Value) : Pair ((w.setCell ⟨k, 0, none⟩ y0).setCell ⟨k, 1, none⟩ y1) k y0 y1 :=
  Go.Joins.block_setCell (Go.Joins.block_setCell h y0) y1
theorem Pair.beside {w : World} {k k' : Nat} {v0 v1 : Value} (h : Pair w k v0 v1) (hne : k ≠ k') (y0 y1 : Value) : Pair ((w.setCell ⟨k', 0, none⟩ y0).setCell ⟨k', 1, none⟩ y1) k v0 v1 := by
  unfold Pair
  rw [Below.heap_setCell _ _ _ _ hne, Below.heap_setCell _ _ _ _ hne]
  exact h
theorem two_pairs (w : World) (v0 v1 x0 x1 : Value) : Pair ((w.alloc (.cells #[v0, v1] 37)).alloc (.cells #[x0, x1] 37)) w.heap.size v0 v1 ∧ Pair ((w.alloc (.cells #[v0, v1] 37)).alloc (.cells #[x0, x1] 37)) (w.heap.size + 1) x0 x1 := by
  have h := Pair.new (w.alloc (.cells #[v0, v1] 37)) x0 x1
  rw [show (w.alloc (.cells #[v0, v1] 37)).heap.size = w.heap.size + 1 by simp] at h
  exact ⟨(Pair.new w v0 v1).alloc _, h⟩
theorem three_pairs (w : World) (v0 v1 x0 x1 y0 y1 : Value) : Pair (((w.alloc (.cells #[v0, v1] 37)).alloc (.cells #[x0, x1] 37)).alloc (.cells #[y0, y1] 37)) w.heap.size v0 v1 ∧ Pair (((w.alloc (.cells #[v0, v1] 37)).alloc (.cells #[x0, x1] 37)).alloc (.cells #[y0, y1] 37)) (w.heap.size + 1) x0 x1 ∧
    Pair (((w.alloc (.cells #[v0, v1] 37)).alloc (.cells #[x0, x1] 37)).alloc (.cells #[y0, y1] 37)) (w.heap.size + 1 + 1) y0 y1 := by
  obtain ⟨h1, h2⟩ := two_pairs w v0 v1 x0 x1
  have h := Pair.new ((w.alloc (.cells #[v0, v1] 37)).alloc (.cells #[x0, x1] 37)) y0 y1
  rw [show ((w.alloc (.cells #[v0, v1] 37)).alloc (.cells #[x0, x1] 37)).heap.size = w.heap.size + 1 + 1 by simp] at h
  exact ⟨h1.alloc _, h2.alloc _, h⟩
theorem below_3 (w : World) (o o' o'' : Obj) : Below w.heap.size w (((w.alloc o).alloc o').alloc o'') := (below_two _ _ _).alloc (by simp; omega) _

theorem lf_str (j : Lft) : lf (str j.strip) (str j.add) = j := rfl
theorem joS_some (j : Lft) : joS (some j) = str j.strip := rfl
theorem joA_some (j : Lft) : joA (some j) = str j.add := rfl
theorem joS_none : joS none = ⟨#[]⟩ := rfl
theorem joA_none : joA none = ⟨#[]⟩ := rfl
theorem upS_of {l : Lft} {k x : List UInt8} (h : up l k = some x) : upS l k = str x := by unfold upS; rw [h]; rfl
theorem upB_of {l : Lft} {k x : List UInt8} (h : up l k = some x) : upB l k = true := by unfold upB; rw [h]; rfl
theorem upS_none {l : Lft} {k : List UInt8} (h : up l k = none) : upS l k = ⟨#[]⟩ := by unfold upS; rw [h]; rfl
theorem upB_none {l : Lft} {k : List UInt8} (h : up l k = none) : upB l k = false := by unfold upB; rw [h]; rfl
theorem join_size {a b j : Lft} (h : joinO a b = some j) : j.strip.length ≤ a.strip.length + b.strip.length ∧ j.add.length ≤ b.add.length + a.add.length := by
  unfold joinO at h
  split at h
  · cases h
    simp only [List.length_append, List.length_drop]
    omega
  · split at h
    · cases h
      simp only [List.length_append, List.length_drop]
      omega
    · cases h
theorem join_sizes {s p q d : ByteArray} {j : Lft} (h : joinO (lf s p) (lf q d) = some j) : (str j.strip).size ≤ s.size + q.size ∧ (str j.add).size ≤ d.size + p.size := by
  have := join_size h
  rw [str_size, str_size, Lib.size_eq s, Lib.size_eq q, Lib.size_eq d, Lib.size_eq p]
  exact this
/-- joined lifts go as one behind the other -/
theorem goes_none {a b : Lft} {k x : List UInt8} (h : joinO a b = none) (hx : up a k = some x) : up b x = none := by
  have := up_join a b k
  rw [h, hx] at this
  exact this.symm
theorem goes_some {a b j : Lft} {k x : List UInt8} (h : joinO a b = some j) (hx : up a k = some x) : up j k = up b x := by
  have := up_join a b k
  rw [h, hx] at this
  exact this
theorem goes_not {a b j : Lft} {k : List UInt8} (h : joinO a b = some j) (hx : up a k = none) : up j k = none := by
  have := up_join a b k
  rw [h, hx] at this
  exact this
end Go.Proofs.YtegmpfmhlpdmhaaGreat.Key

namespace Go.Proofs.YtegmpfmhlpdmhaaGreat.Key
open Go.RowKit
open Go.Op (bytesLess)

theorem boxes3 {w w' : World} {v0 v1 x0 x1 x2 y0 y1 y2 : Value}
    (h : Below (((w.alloc (.cells #[v0, v1] 37)).alloc (.cells #[x0, x1, x2] 25)).alloc (.cells #[y0, y1, y2] 25)).drew.heap.size
      (((w.alloc (.cells #[v0, v1] 37)).alloc (.cells #[x0, x1, x2] 25)).alloc (.cells #[y0, y1, y2] 25)).drew w') :
    Pair w' w.heap.size v0 v1 ∧ Box w' (w.heap.size + 1) x0 x1 x2 ∧ Box w' (w.heap.size + 1 + 1) y0 y1 y2 ∧ Below w.heap.size w w' := by
  have q0 := ((Pair.new w v0 v1).alloc (.cells #[x0, x1, x2] 25)).alloc (.cells #[y0, y1, y2] 25)
  have q1 := (Box.new (w.alloc (.cells #[v0, v1] 37)) x0 x1 x2).alloc (.cells #[y0, y1, y2] 25)
  have q2 := Box.new ((w.alloc (.cells #[v0, v1] 37)).alloc (.cells #[x0, x1, x2] 25)) y0 y1 y2
  have s1 : (w.alloc (.cells #[v0, v1] 37)).heap.size = w.heap.size + 1 := by simp
  have s2 : ((w.alloc (.cells #[v0, v1] 37)).alloc (.cells #[x0, x1, x2] 25)).heap.size = w.heap.size + 1 + 1 := by simp
  rw [s1] at q1
  rw [s2] at q2
  have hb : Below w.heap.size w (((w.alloc (.cells #[v0, v1] 37)).alloc (.cells #[x0, x1, x2] 25)).alloc (.cells #[y0, y1, y2] 25)).drew := (below_3 _ _ _ _).drew
  generalize ((w.alloc (.cells #[v0, v1] 37)).alloc (.cells #[x0, x1, x2] 25)).alloc (.cells #[y0, y1, y2] 25) = u at *
  have p0 : Pair u.drew w.heap.size v0 v1 := q0
  have p1 : Box u.drew (w.heap.size + 1) x0 x1 x2 := q1
  have p2 : Box u.drew (w.heap.size + 1 + 1) y0 y1 y2 := q2
  exact ⟨p0.later h, p1.later h, p2.later h, hb.trans (h.mono hb.size)⟩

theorem boxes4f {w w' : World} {v0 v1 x0 x1 x2 y0 y1 y2 z0 z1 z2 : Value}
    (h : Below ((((w.alloc (.cells #[v0, v1] 37)).alloc (.cells #[x0, x1, x2] 25)).alloc (.cells #[y0, y1, y2] 25)).alloc (.cells #[z0, z1, z2] 25)).drew.heap.size
      ((((w.alloc (.cells #[v0, v1] 37)).alloc (.cells #[x0, x1, x2] 25)).alloc (.cells #[y0, y1, y2] 25)).alloc (.cells #[z0, z1, z2] 25)).drew w') :
    Pair w' w.heap.size v0 v1 ∧ Box w' (w.heap.size + 1) x0 x1 x2 ∧ Box w' (w.heap.size + 1 + 1) y0 y1 y2 ∧ Box w' (w.heap.size + 1 + 1 + 1) z0 z1 z2 ∧ Below w.heap.size w w' := by
  have q0 := (((Pair.new w v0 v1).alloc (.cells #[x0, x1, x2] 25)).alloc (.cells #[y0, y1, y2] 25)).alloc (.cells #[z0, z1, z2] 25)
  have q1 := ((Box.new (w.alloc (.cells #[v0, v1] 37)) x0 x1 x2).alloc (.cells #[y0, y1, y2] 25)).alloc (.cells #[z0, z1, z2] 25)
  have q2 := (Box.new ((w.alloc (.cells #[v0, v1] 37)).alloc (.cells #[x0, x1, x2] 25)) y0 y1 y2).alloc (.cells #[z0, z1, z2] 25)
  have q3 := Box.new (((w.alloc (.cells #[v0, v1] 37)).alloc (.cells #[x0, x1, x2] 25)).alloc (.cells #[y0, y1, y2] 25)) z0 z1 z2
  have s1 : (w.alloc (.cells #[v0, v1] 37)).heap.size = w.heap.size + 1 := by simp
  have s2 : ((w.alloc (.cells #[v0, v1] 37)).alloc (.cells #[x0, x1, x2] 25)).heap.size = w.heap.size + 1 + 1 := by simp
  have s3 : (((w.alloc (.cells #[v0, v1] 37)).alloc (.cells #[x0, x1, x2] 25)).alloc (.cells #[y0, y1, y2] 25)).heap.size = w.heap.size + 1 + 1 + 1 := by simp
  rw [s1] at q1
  rw [s2] at q2
  rw [s3] at q3
  have hb : Below w.heap.size w ((((w.alloc (.cells #[v0, v1] 37)).alloc (.cells #[x0, x1, x2] 25)).alloc (.cells #[y0, y1, y2] 25)).alloc (.cells #[z0, z1, z2] 25)).drew := ((below_3 _ _ _ _).alloc (by simp; omega) _).drew
  generalize (((w.alloc (.cells #[v0, v1] 37)).alloc (.cells #[x0, x1, x2] 25)).alloc (.cells #[y0, y1, y2] 25)).alloc (.cells #[z0, z1, z2] 25) = u at *
  have p0 : Pair u.drew w.heap.size v0 v1 := q0
  have p1 : Box u.drew (w.heap.size + 1) x0 x1 x2 := q1
  have p2 : Box u.drew (w.heap.size + 1 + 1) y0 y1 y2 := q2
  have p3 : Box u.drew (w.heap.size + 1 + 1 + 1) z0 z1 z2 := q3
  exact ⟨p0.later h, p1.later h, p2.later h, p3.later h, hb.trans (h.mono hb.size)⟩
theorem Box.put {w : World} {k : Nat} {v0 v1 v2 : Value} (h : Box w k v0 v1 v2) (y0 y1 y2 : Value) : Box (((w.setCell ⟨k, 0, none⟩ y0).setCell ⟨k, 1, none⟩ y1).setCell ⟨k, 2, none⟩ y2) k y0 y1 y2 :=
  Go.Joins.block_setCell (Go.Joins.block_setCell (Go.Joins.block_setCell h y0) y1) y2
theorem Box.beside {w : World} {k k' : Nat} {v0 v1 v2 : Value} (h : Box w k v0 v1 v2) (hne : k < k') (y0 y1 y2 : Value) : Box (((w.setCell ⟨k', 0, none⟩ y0).setCell ⟨k', 1, none⟩ y1).setCell ⟨k', 2, none⟩ y2) k v0 v1 v2 := by
  unfold Box
  rw [Below.heap_setCell _ _ _ _ (Nat.ne_of_lt hne), Below.heap_setCell _ _ _ _ (Nat.ne_of_lt hne), Below.heap_setCell _ _ _ _ (Nat.ne_of_lt hne)]
  exact h
theorem Box.put0 {w : World} {k : Nat} {v0 v1 v2 : Value} (h : Box w k v0 v1 v2) (y0 : Value) : Box (w.setCell ⟨k, 0, none⟩ y0) k y0 v1 v2 := Go.Joins.block_setCell h y0
theorem Box.beside1 {w : World} {k k' : Nat} {v0 v1 v2 : Value} (h : Box w k v0 v1 v2) (hne : k ≠ k') (y0 : Value) : Box (w.setCell ⟨k', 0, none⟩ y0) k v0 v1 v2 := (Below.heap_setCell _ _ _ _ hne).trans h
theorem Pair.beside3 {w : World} {k k' : Nat} {v0 v1 : Value} (h : Pair w k v0 v1) (hne : k < k') (y0 y1 y2 : Value) : Pair (((w.setCell ⟨k', 0, none⟩ y0).setCell ⟨k', 1, none⟩ y1).setCell ⟨k', 2, none⟩ y2) k v0 v1 := by
  unfold Pair
  rw [Below.heap_setCell _ _ _ _ (Nat.ne_of_lt hne), Below.heap_setCell _ _ _ _ (Nat.ne_of_lt hne), Below.heap_setCell _ _ _ _ (Nat.ne_of_lt hne)]
  exact h
theorem Below.put3 {w w' : World} {k : Nat} (h : Below w.heap.size w w') (hk : w.heap.size + 1 + 1 < k) (y0 y1 y2 : Value) : Below w.heap.size w (((w'.setCell ⟨k, 0, none⟩ y0).setCell ⟨k, 1, none⟩ y1).setCell ⟨k, 2, none⟩ y2) := by
  have hle : w.heap.size ≤ k := by omega
  exact ((h.setCell hle _).setCell hle _).setCell hle _
/-- a lift, the answer's block, and a third block: what is left of the beginning of Over -/
def Begun (w u : World) (k : Nat) (s a L H : ByteArray) (E : Bool) : Prop :=
  Pair u w.heap.size (.string s) (.string a) ∧ Box u (w.heap.size + 1 + 1) (.string ⟨#[]⟩) (.string ⟨#[]⟩) (.bool false) ∧ Box u k (.string L) (.string H) (.bool E) ∧ Below w.heap.size w u ∧ w.heap.size + 1 + 1 < k
theorem begun_new {w u : World} {s a : ByteArray} (L H : ByteArray) (E : Bool) (A : Pair u w.heap.size (.string s) (.string a)) (Z : Box u (w.heap.size + 1 + 1) (.string ⟨#[]⟩) (.string ⟨#[]⟩) (.bool false)) (hb : Below w.heap.size w u) :
    Begun w (u.alloc (.cells #[.string L, .string H, .bool E] 25)) u.heap.size s a L H E :=
  ⟨A.alloc _, Z.alloc _, Box.new _ _ _ _, hb.alloc hb.size _, Z.lt⟩
theorem begun_put {w u : World} {k : Nat} {s a : ByteArray} {v0 v1 v2 : Value} (L H : ByteArray) (E : Bool) (A : Pair u w.heap.size (.string s) (.string a)) (Z : Box u (w.heap.size + 1 + 1) (.string ⟨#[]⟩) (.string ⟨#[]⟩) (.bool false)) (F : Box u k v0 v1 v2) (hb : Below w.heap.size w u) (hk : w.heap.size + 1 + 1 < k) :
    Begun w (((u.setCell ⟨k, 0, none⟩ (.string L)).setCell ⟨k, 1, none⟩ (.string H)).setCell ⟨k, 2, none⟩ (.bool E)) k s a L H E :=
  ⟨A.beside3 (by omega) _ _ _, Z.beside hk _ _ _, F.put _ _ _, Below.put3 hb hk _ _ _, hk⟩

/-- which one Over answers -/
def overV (b E t : Bool) (v1 v2 v3 : Value) : Value := if b then v1 else if E && t then v2 else v3

end Go.Proofs.YtegmpfmhlpdmhaaGreat.Key
