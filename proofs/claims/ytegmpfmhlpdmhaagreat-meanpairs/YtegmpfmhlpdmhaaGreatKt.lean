/-
  Bytes in memory ('Bytes'), rows of bytes of the call's own ('Own'), and what an append to such a row leaves; strings made of bytes.
  Contracts of Has and Next, the program's and the document's.
  Contracts of Succ, the program's.
  Contracts of In and Of, the program's and the document's.
  Messages: as values, in blocks, in slices that came in, and in rows of the call's own.
  Contracts of About and Speaks, the program's and the document's.
  Contract of Last, the document's.
-/
import Derived.Test.YtegmpfmhlpdmhaaGreatKc
import Derived.Test.YtegmpfmhlpdmhaaGreatRightRef
import Derived.Test.YtegmpfmhlpdmhaaGreatRows
import Derived.Test.YtegmpfmhlpdmhaaGreatMs
import Derived.WalkKit
import Derived.WalkSpells
import Derived.WalkLawsBesides
import Derived.Lib.SlBytesConst
import Derived.Lib.AppendStr
import Derived.Laws.AppendOwnNone
import Derived.Laws.BytesArg
import Derived.Lib.IndexBytes
import Derived.Deep.QuietTactic
import Derived.BigQuiet
import Derived.Deep.Slices
import Derived.ChangeArms
import Derived.Deep.RegionWith
namespace Go.Proofs.YtegmpfmhlpdmhaaGreat.Key
open Go.RowKit

/-- 'out = append(out, src...)', out of the call's own, src whatever bytes -/
theorem app {w : World} {ops : Array Oper} {rest : List Oper} {o : Oper} {a : Act} {Q : Exit → Act → World → Prop} (hgd : o.guard = none) (s x : Operand)
    (ho : o.op = .call { callee := .builtin .append, args := #[s, x], argTypes := #[122, 122] })
    (base : Nat) (v : Value) (zs : List Int) (hs : a.eval s = v) (hown : Own w base v zs)
    (ad : Option Addr) (m c : Nat) (ys : List Int) (hx : a.eval x = .slice ad m c) (hnil : ad = none → m = 0 ∧ c = 0) (hl : ys.length = m) (hb : Bytes w ad ys) (hsz : zs.length + m ≤ 1000000) (hbase : base ≤ w.heap.size)
    (h : ∀ v' w', Own w' base v' (zs ++ ys) → w.grownBy w' v.ownBlock → wpList Tryz.prog ops Q rest (a.put o.dst v') w') : wpList Tryz.prog ops Q (o :: rest) a w := by
  obtain ⟨i0, hi, hz0, hz1, hz2⟩ := info_parts info5
  cases ad with
  | none =>
    obtain ⟨rfl, rfl⟩ := hnil rfl
    have hy : ys = [] := List.eq_nil_of_length_eq_zero hl
    subst hy
    refine wpList_append_own_none hgd s x 122 ho base 5 i0 1 Tryz.underlying122 hi v _ _ hs hown hx ?_
    exact h v w (by simpa using hown) ⟨rfl, rfl, rfl, Nat.le_refl _, fun _ _ _ => rfl⟩
  | some ad =>
    refine wpList_append_own _ hgd s x 122 ho base 5 i0 (.int .u8 0) 1 1 Tryz.underlying122 hi hz0 hz1 hz2 rfl (by decide) v _ _ hs hown ad m c (ys.map (Value.int .u8)) hx (by simp [hl]) hb.news (by intro u hu; simp at hu; obtain ⟨_, _, rfl⟩ := hu; rfl)
      (by unfold maxLen; omega) (by omega) hbase ?_
    intro v' w' h1 h2 _
    refine h v' w' ?_ h2
    unfold Own
    rw [List.map_append, List.length_append, hl]
    exact h1

/-- string(b) -/
theorem conv_str {w : World} {a : Option Addr} {zs : List Int} (h : Bytes w a zs) (n c : Nat) (hn : zs.length = n) (hnil : a = none → n = 0 ∧ c = 0) :
    (convert 122 9 (.slice a n c)).run Tryz.prog w = .ok (.string (strOfNums zs)) w := by
  subst hn
  cases a with
  | none =>
    have hy : zs = [] := List.eq_nil_of_length_eq_zero (hnil rfl).1
    subst hy
    exact run_convert_bytes_nil w 122 5 Tryz.underlying122 Tryz.underlying5 _ _ 9 Tryz.underlying9
  | some ad =>
    have hl : (loadCells ad zs.length).run Tryz.prog w = .ok (zs.map (Value.int .u8)).toArray w := by
      have := run_loadCells_list (P := Tryz.prog) w ad (zs.map (Value.int .u8)) h.news
      simpa using this
    rw [run_convert_bytes_string w 122 9 5 _ _ c Tryz.underlying122 Tryz.underlying5 Tryz.underlying9, run_bytesToString w _ _ c zs hl, foldl_push_bytes]
    simp [strOfNums, ByteArray.empty, ByteArray.emptyWithCapacity]
    rfl

/-- 'out = append(out, b)', out of the call's own -/
theorem app1 {w0 w : World} {ops : Array Oper} {rest : List Oper} {o : Oper} {a : Act} {Q : Exit → Act → World → Prop} (hgd : o.guard = none) (s x : Operand)
    (ho : o.op = .call { callee := .builtin .append, args := #[s, x], argTypes := #[122, 122] })
    (B : Nat) (v : Value) (zs : List Int) (hs : a.eval s = v) (hown : Own w B v zs) (b : Int) (hx : a.eval x = .slice (some ⟨w.heap.size, 0, none⟩) 1 1) (hsz : zs.length ≤ 900000) (hB : B ≤ w0.heap.size) (hbel : Below B w0 w)
    (h : ∀ v' w', Own w' B v' (zs ++ [b]) → Below B w0 w' → wpList Tryz.prog ops Q rest (a.put o.dst v') w') : wpList Tryz.prog ops Q (o :: rest) a (w.alloc (.cells #[.int .u8 b] 5)) := by
  have hBw : B ≤ w.heap.size := Nat.le_trans hB hbel.size
  have hown' : Own (w.alloc (.cells #[.int .u8 b] 5)) B v zs := World.ownsRow.alloc hown _
  have hbel' : Below B w0 (w.alloc (.cells #[.int .u8 b] 5)) := hbel.alloc hBw _
  refine app hgd s x ho B v zs hs hown' (some ⟨w.heap.size, 0, none⟩) 1 1 [b] hx (fun h => by cases h) rfl (digits_lie w _ _ [b] rfl) (by omega) (by simp; omega) ?_
  intro v' w' h1 h2
  exact h v' w' h1 (hown'.below hbel' (Nat.le_refl _) (by simp; omega) h2)


/-- 'out = append(out, s...)', s a string -/
theorem appS {w0 w : World} {ops : Array Oper} {rest : List Oper} {o : Oper} {a : Act} {Q : Exit → Act → World → Prop} (hgd : o.guard = none) (sl x : Operand)
    (ho : o.op = .call { callee := .builtin .append, args := #[sl, x], argTypes := #[122, 9] })
    (B : Nat) (v : Value) (zs : List Int) (hs : a.eval sl = v) (hown : Own w B v zs) (s : ByteArray) (hx : a.eval x = .string s) (hsz : zs.length + s.size ≤ 1000000) (hB : B ≤ w0.heap.size) (hbel : Below B w0 w)
    (h : ∀ v' w', Own w' B v' (zs ++ nums s) → Below B w0 w' → wpList Tryz.prog ops Q rest (a.put o.dst v') w') : wpList Tryz.prog ops Q (o :: rest) a w := by
  obtain ⟨i0, hi, hz0, hz1, hz2⟩ := info_parts info5
  have hBw : B ≤ w.heap.size := Nat.le_trans hB hbel.size
  refine Lib.wpList_append_own_string w hgd sl x 122 9 ho B 5 i0 Tryz.underlying122 Tryz.underlying9 hi hz0 hz1 hz2 v _ _ hs hown s hx (by unfold maxLen; omega) (by omega) hBw ?_
  intro v' w' h1 h2 _
  refine h v' w' ?_ (hown.below hbel (Nat.le_refl _) hBw h2)
  unfold Own
  rw [List.map_append, List.length_append, nums_length, ← nums_cells]
  exact h1

end Go.Proofs.YtegmpfmhlpdmhaaGreat.Key

namespace Go.Proofs.YtegmpfmhlpdmhaaGreat.Key
open Go.RowKit
open Go.Op (bytesLess)

set_option maxRecDepth 100000 in
set_option maxHeartbeats 1000000 in
theorem has68 (k p : ByteArray) (w : World) :
    Calls Tryz.prog 88 #[.string k, .string p] w fun x w' => x = .returned (.bool (has k.data.toList p.data.toList)) ∧ w' = w := by
  have hr := hid (Lib.hasPrefix_raw k p)
  go_enter Tryz.func88, Tryz.ntmps88
  go_wp2
  · have hc : p.size ≤ k.size := by assumption
    go_ret
    have := hr.out
    rw [decide_eq_true hc, Bool.true_and] at this
    exact ⟨ret_bool this, rfl⟩
  · have hc : ¬ p.size ≤ k.size := by assumption
    go_ret
    have := hr.out
    rw [decide_eq_false hc, Bool.false_and] at this
    exact ⟨ret_bool this, rfl⟩
theorem has65 (k p : ByteArray) (w : World) :
    Calls Tryz.prog 81 #[.string k, .string p] w fun x w' => x = .returned (.bool (has k.data.toList p.data.toList)) ∧ w' = w := by
  go_enter Tryz.func81, Tryz.ntmps81
  go_wp2_with fail
  refine (has68 k p _).mono ?_
  rintro x w' ⟨rfl, rfl⟩
  go_wp2
  go_ret
  exact ⟨rfl, rfl⟩
/-- Has, the program's -/
theorem has58 (k p : ByteArray) (w : World) :
    Calls Tryz.prog 72 #[.string k, .string p] w fun x w' => x = .returned (.bool (has k.data.toList p.data.toList)) ∧ w' = w := by
  go_enter Tryz.func72, Tryz.ntmps72
  go_wp2_with fail
  refine (has65 k p _).mono ?_
  rintro x w' ⟨rfl, rfl⟩
  go_wp2
  go_ret
  exact ⟨rfl, rfl⟩
set_option maxRecDepth 100000 in
set_option maxHeartbeats 1000000 in
/-- Has, the document's -/
theorem has66 (k p : ByteArray) (w : World) :
    Calls Tryz.prog 49 #[.string k, .string p] w fun x w' => x = .returned (.bool (has k.data.toList p.data.toList)) ∧ w' = w := by
  have hr := hid (Lib.hasPrefix_raw k p)
  go_enter Tryz.func49, Tryz.ntmps49
  go_wp2
  · have hc : p.size ≤ k.size := by assumption
    go_ret
    have := hr.out
    rw [decide_eq_true hc, Bool.true_and] at this
    exact ⟨ret_bool this, rfl⟩
  · have hc : ¬ p.size ≤ k.size := by assumption
    go_ret
    have := hr.out
    rw [decide_eq_false hc, Bool.false_and] at this
    exact ⟨ret_bool this, rfl⟩

/-- Next -/
theorem next63 (k : ByteArray) (w : World) (hk : k.size ≤ 1000000) :
    Calls Tryz.prog 79 #[.string k] w fun x w' => x = .returned (.string (str (k.data.toList ++ [0]))) ∧ w' = w := by
  have hs := hid (str_append k ⟨#[0]⟩)
  go_enter Tryz.func79, Tryz.ntmps79
  go_wp2
  go_ret
  exact ⟨ret_str hs.out, rfl⟩


end Go.Proofs.YtegmpfmhlpdmhaaGreat.Key

namespace Go.Proofs.YtegmpfmhlpdmhaaGreat.Key
open Go.RowKit
open Go.Op (bytesLess)

set_option maxRecDepth 100000 in
set_option maxHeartbeats 1000000 in
/-- Succ, the program's -/
theorem succ67 (p : ByteArray) (w : World) (hp : p.size ≤ 1000000) :
    Calls Tryz.prog 87 #[.string p] w fun x w' => x = .returned (.tuple #[.string (sucS p.data.toList), .bool (sucO p.data.toList)]) ∧ Below w.heap.size w w' := by
  go_enter Tryz.func87, Tryz.ntmps87
  go_wp2_with fail
  go_loop [4] (fun n => ∃ j : Nat, j ≤ p.size ∧ n = .int .i64 ((j : Int) - 1) ∧ Hid (succ (p.data.toList.take j) = succ p.data.toList)) (fun n => (intOf n + 1).toNat)
  case atStart => exact ⟨p.size, Nat.le_refl _, rfl, hid (by rw [Lib.size_eq, List.take_length])⟩
  case round =>
    obtain ⟨j, hj, e, hs⟩ := hrel
    cases j with
    | zero =>
      have e' : (((0 : Nat) : Int) - 1) = -1 := rfl
      rw [e'] at e
      subst e
      clear e'
      go_wp2_with fail
      have := hs.out
      rw [List.take_zero] at this
      refine bodyPost_ret (v := .tuple #[.string ⟨#[]⟩, .bool false]) (by simp [results, Tryz.results87, go_sem]) rfl ⟨ret_two ?_ ?_, Below.refl _ _⟩
      · unfold sucS; rw [← this]; rfl
      · unfold sucO; rw [← this]; rfl
    | succ m =>
      have e' : (((m + 1 : Nat) : Int) - 1) = m := by omega
      rw [e'] at e
      subst e
      clear e'
      have h1 : (m : Int) < (p.size : Int) := by omega
      have hl : m < p.data.toList.length := by rw [← Lib.size_eq]; omega
      have hs' := hs.out
      rw [take_last _ _ hl, ← byte_at p m (by omega)] at hs'
      have HS := hid hs'
      clear hs'
      go_wp2_with fail
      · exact ⟨⟨m, by omega, by go_num, hid (by have ht : p[m] = 255 := top_byte ‹_›; rw [← HS.out, ht, succ_top])⟩, by simp [intOf]⟩
      · have hx : p[m] ≠ 255 := low_byte ‹_›
        have hb := u8_lt256 p[m]
        have hb' : p[m].toNat ≠ 255 := fun e => hx ((u8_top _).2 e)
        have hcv := conv_str (Bytes.drew (digits_lie w #[.int .u8 (((p[m].toNat : Nat) : Int) + 1)] (0, 0) [((p[m].toNat : Nat) : Int) + 1] rfl)) 1 1 rfl (fun h => by cases h)
        have hm : m ≤ p.size := by omega
        generalize hS : strOfNums [((p[m].toNat : Nat) : Int) + 1] = S at hcv
        have HR : succ p.data.toList = some ((p.extract 0 m).data.toList ++ S.data.toList) := by
          rw [← HS.out, succ_snoc _ _ hx, cut_data, ← hS, strOfNums_data]
          simp
        have hz : S.size = 1 := by rw [← hS, strOfNums_size]; rfl
        have H2 := hid HR
        clear HR hS
        go_region
        go_wp2_with fail
        refine bodyPost_ret (v := .tuple #[.string (p.extract 0 m ++ S), .bool true]) (by simp [results, Tryz.results87, go_sem]) rfl ⟨ret_two ?_ ?_, ((Below.refl _ _).alloc (Nat.le_refl _) _).drew⟩
        · unfold sucS; rw [H2.out, str_append]; rfl
        · unfold sucO; rw [H2.out]; rfl

end Go.Proofs.YtegmpfmhlpdmhaaGreat.Key

namespace Go.Proofs.YtegmpfmhlpdmhaaGreat.Key
open Go.RowKit
open Go.Op (bytesLess)

set_option maxRecDepth 100000 in
set_option maxHeartbeats 1000000 in
/-- In, the program's -/
theorem in56 (lo hi k : ByteArray) (e : Bool) (w : World) :
    Calls Tryz.prog 64 #[.agg #[.string lo, .string hi, .bool e], .string k] w fun x w' => x = .returned (.bool (inR (rg lo hi e) k.data.toList)) ∧ Below w.heap.size w w' := by
  rw [in_less]
  cases h1 : bytesLess k.toList lo.toList
  · cases e
    · go_enter Tryz.func64, Tryz.ntmps64
      go_wp2_with fail
      go_ret
      exact ⟨rfl, below_box _ _⟩
    · cases h2 : bytesLess k.toList hi.toList
      all_goals
        go_enter Tryz.func64, Tryz.ntmps64
        go_wp2_with fail
        go_ret
        exact ⟨rfl, below_box _ _⟩
  · go_enter Tryz.func64, Tryz.ntmps64
    go_wp2_with fail
    go_ret
    exact ⟨rfl, below_box _ _⟩
set_option maxRecDepth 100000 in
set_option maxHeartbeats 1000000 in
/-- In, the document's -/
theorem in60 (lo hi k : ByteArray) (e : Bool) (w : World) :
    Calls Tryz.prog 17 #[.agg #[.string lo, .string hi, .bool e], .string k] w fun x w' => x = .returned (.bool (inR (rg lo hi e) k.data.toList)) ∧ Below w.heap.size w w' := by
  rw [in_less]
  cases h1 : bytesLess k.toList lo.toList
  · cases e
    · go_enter Tryz.func17, Tryz.ntmps17
      go_wp2_with fail
      go_ret
      exact ⟨rfl, below_box _ _⟩
    · cases h2 : bytesLess k.toList hi.toList
      all_goals
        go_enter Tryz.func17, Tryz.ntmps17
        go_wp2_with fail
        go_ret
        exact ⟨rfl, below_box _ _⟩
  · go_enter Tryz.func17, Tryz.ntmps17
    go_wp2_with fail
    go_ret
    exact ⟨rfl, below_box _ _⟩

set_option maxRecDepth 100000 in
set_option maxHeartbeats 1000000 in
/-- Of, the program's -/
theorem of64 (p : ByteArray) (w : World) (hp : p.size ≤ 800000) :
    Calls Tryz.prog 80 #[.string p] w fun x w' => x = .returned (.agg #[.string p, .string (sucS p.data.toList), .bool (sucO p.data.toList)]) ∧ Below w.heap.size w w' := by
  have HC := fun w => succ67 p w (by omega)
  generalize sucS p.data.toList = S at *
  generalize sucO p.data.toList = o at *
  go_enter Tryz.func80, Tryz.ntmps80
  go_wp2_with fail
  refine (HC _).mono ?_
  clear HC
  rintro x w' ⟨rfl, hbw⟩
  have hx := (Box.new w _ _ _).later hbw
  have hb : Below w.heap.size w w' := (below_box _ _).trans (hbw.mono (by simp))
  clear hbw
  obtain ⟨a0, a1, a2⟩ := hx.cells
  obtain ⟨f0, f1, f2⟩ := hx.free
  go_wp2_with fail
  exact bodyPost_ret (v := .agg #[.string p, .string S, .bool o]) (by simp [results, Tryz.results80, go_sem, a0, a1, a2]) rfl ⟨rfl, ((hb.setCell (Nat.le_refl _) _).setCell (Nat.le_refl _) _).setCell (Nat.le_refl _) _⟩
end Go.Proofs.YtegmpfmhlpdmhaaGreat.Key

namespace Go.Proofs.YtegmpfmhlpdmhaaGreat.Key
open Go.RowKit
open Go.Op (bytesLess)

end Go.Proofs.YtegmpfmhlpdmhaaGreat.Key

namespace Go.Proofs.YtegmpfmhlpdmhaaGreat.Key
open Go.RowKit
open Go.Op (bytesLess)

set_option maxRecDepth 100000 in
set_option maxHeartbeats 1000000 in
/-- About, the program's -/
theorem about57 (m : M) (w : World) (hk : m.key.size ≤ 1000) :
    Calls Tryz.prog 71 #[mv m] w fun x w' => x = .returned (rv (aboutR m)) ∧ Below w.heap.size w w' := by
  have HB := MBox.new w m
  obtain ⟨kd, ky, vl, bk, dp, ad⟩ := m
  dsimp only at hk
  have H0 := Box.new (w.alloc (.cells #[.int .u8 kd, .string ky, .string vl, .int .u32 bk, .int .u16 dp, .string ad] 42)) (.string ⟨#[]⟩) (.string ⟨#[]⟩) (.bool false)
  have hN := fun w => next63 ky w (by omega)
  have hO := fun w => of64 ky w (by omega)
  by_cases h12 : kd = 1 ∨ kd = 2
  · have hr : rv (aboutR ⟨kd, ky, vl, bk, dp, ad⟩) = .agg #[.string ky, .string (str (ky.data.toList ++ [0])), .bool true] := by
      unfold aboutR; rw [if_pos h12]; simp [rv, str_eq]
    rw [hr]
    clear hr hO
    generalize str (ky.data.toList ++ [0]) = S at *
    rcases h12 with rfl | rfl
    all_goals
      go_enter Tryz.func71, Tryz.ntmps71
      go_wp2_with fail
      go_region_with (first | (go_at_call 79; refine (hN _).mono ?_; rintro x w' ⟨rfl, rfl⟩) | fail)
      all_goals
        go_wp2
        exact bodyPost_ret (v := .agg #[.string ky, .string S, .bool true]) (by simp [results, Tryz.results71, go_sem]) rfl ⟨rfl, ((below_box _ _).alloc (by simp) _).drew⟩
  · have h1 : (kd == 1) = false := by simp; omega
    have h2 : (kd == 2) = false := by simp; omega
    clear hN
    by_cases h3 : kd = 3
    · have hr : rv (aboutR ⟨kd, ky, vl, bk, dp, ad⟩) = .agg #[.string ky, .string (sucS ky.data.toList), .bool (sucO ky.data.toList)] := by
        unfold aboutR; rw [if_neg h12, if_pos h3]; simp [rv, str_eq, ofR, sucS, sucO]
      rw [hr]
      clear hr h12
      subst h3
      generalize sucS ky.data.toList = S at *
      generalize sucO ky.data.toList = o at *
      go_enter Tryz.func71, Tryz.ntmps71
      go_wp2_with fail
      refine (hO _).mono ?_
      clear hO
      rintro x w' ⟨rfl, hb⟩
      have H1 := H0.later hb
      obtain ⟨a0, a1, a2⟩ := H1.cells
      obtain ⟨f0, f1, f2⟩ := H1.free
      have hb' : Below w.heap.size w w' := ((below_box w _).alloc (by simp) _).trans (hb.mono (by simp; omega))
      simp only [World.size_alloc] at a0 a1 a2 f0 f1 f2
      clear hb H1 H0
      go_wp2_with fail
      exact bodyPost_ret (v := .agg #[.string ky, .string S, .bool o]) (by simp [results, Tryz.results71, go_sem, a0, a1, a2]) rfl ⟨rfl, ((hb'.setCell (by simp) _).setCell (by simp) _).setCell (by simp) _⟩
    · have hr : rv (aboutR ⟨kd, ky, vl, bk, dp, ad⟩) = .agg #[.string ⟨#[]⟩, .string ⟨#[]⟩, .bool true] := by
        unfold aboutR; rw [if_neg h12, if_neg h3]; rfl
      have h3' : (kd == 3) = false := by simp; omega
      rw [hr]
      clear hr h12 hO h3
      go_enter Tryz.func71, Tryz.ntmps71
      go_wp2_with fail
      exact bodyPost_ret (v := .agg #[.string ⟨#[]⟩, .string ⟨#[]⟩, .bool true]) (by simp [results, Tryz.results71, go_sem]) rfl ⟨rfl, ((below_box _ _).alloc (by simp) _)⟩
set_option maxRecDepth 100000 in
set_option maxHeartbeats 1000000 in
/-- Speaks, the program's -/
theorem speaks49 (m : M) (k : ByteArray) (w : World) (hk : m.key.size ≤ 1000) :
    Calls Tryz.prog 62 #[mv m, .string k] w fun x w' => x = .returned (.bool (speaks m k.data.toList)) ∧ Below w.heap.size w w' := by
  have hA := fun w => about57 m w hk
  have hI := in56 (str (aboutR m).lo) (str (aboutR m).hi) k (aboutR m).e
  rw [show rg (str (aboutR m).lo) (str (aboutR m).hi) (aboutR m).e = aboutR m from rfl, in_about] at hI
  unfold rv at hA
  generalize speaks m k.data.toList = b at *
  generalize str (aboutR m).lo = L at *
  generalize str (aboutR m).hi = H at *
  generalize (aboutR m).e = e at *
  clear hk
  obtain ⟨kd, ky, vl, bk, dp, ad⟩ := m
  go_enter Tryz.func62, Tryz.ntmps62
  go_wp2_with fail
  refine (hA _).mono ?_
  clear hA
  rintro x w1 ⟨rfl, hb1⟩
  have hb1 : Below w.heap.size w w1 := (below_box w _).trans (hb1.mono (by simp))
  go_wp2_with fail
  refine (hI _).mono ?_
  clear hI
  rintro x w2 ⟨rfl, hb2⟩
  have hb2 : Below w.heap.size w w2 := hb1.trans (hb2.mono hb1.size)
  go_wp2_with fail
  go_ret
  exact ⟨rfl, hb2⟩
end Go.Proofs.YtegmpfmhlpdmhaaGreat.Key

namespace Go.Proofs.YtegmpfmhlpdmhaaGreat.Key
open Go.RowKit
open Go.Op (bytesLess)

end Go.Proofs.YtegmpfmhlpdmhaaGreat.Key
