/-
  Contracts of Has, the program's and the document's.
  Contracts of Succ, the program's and the document's.
  Contracts of the functions of ranges but Cut and Under: Great, In, Empty, Of, the program's and the document's.
-/
import Derived.Test.YtmnngfbcgpholaaMs
import Derived.Test.YtmnngfbcgpholaaGo
import Derived.Test.YtmnngfbcgpholaaKidRef
namespace Go.Proofs.Ytmnngfbcgpholaa.Key
open Go.RowKit
open Go.Op (bytesLess)

end Go.Proofs.Ytmnngfbcgpholaa.Key

namespace Go.Proofs.Ytmnngfbcgpholaa.Key
open Go.RowKit
open Go.Op (bytesLess)

set_option maxRecDepth 100000 in
set_option maxHeartbeats 1000000 in
/-- Succ, the program's -/
theorem succ31 (p : ByteArray) (w : World) (hp : p.size ≤ 1000000) :
    Calls Try.prog 45 #[.string p] w fun x w' => x = .returned (.tuple #[.string (sucS p.data.toList), .bool (sucO p.data.toList)]) ∧ Below w.heap.size w w' := by
  go_enter Try.func45, Try.ntmps45
  go_wp2_with fail
  go_loop [4] (fun n => ∃ j : Nat, j ≤ p.size ∧ n = .int .i64 ((j : Int) - 1) ∧ Hid (succ (p.data.toList.take j) = succ p.data.toList)) (fun n => (intOf n + 1).toNat)
  case atStart => exact ⟨p.size, Nat.le_refl _, rfl, hid (by rw [Lib.size_eq, List.take_length])⟩
  case round =>
    obtain ⟨j, hj, e, hs⟩ := hrel
    cases j with
    | zero =>
      have e' : (((0 : Nat) : Int) - 1) = -1 := rfl
      rw [e'] at e
      subst e
      clear e'
      go_wp2_with fail
      have := hs.out
      rw [List.take_zero] at this
      refine bodyPost_ret (v := .tuple #[.string ⟨#[]⟩, .bool false]) (by simp [results, Try.results45, go_sem]) rfl ⟨ret_two ?_ ?_, Below.refl _ _⟩
      · unfold sucS; rw [← this]; rfl
      · unfold sucO; rw [← this]; rfl
    | succ m =>
      have e' : (((m + 1 : Nat) : Int) - 1) = m := by omega
      rw [e'] at e
      subst e
      clear e'
      have h1 : (m : Int) < (p.size : Int) := by omega
      have hl : m < p.data.toList.length := by rw [← Lib.size_eq]; omega
      have hs' := hs.out
      rw [take_last _ _ hl, ← byte_at p m (by omega)] at hs'
      have HS := hid hs'
      clear hs'
      go_wp2_with fail
      · exact ⟨⟨m, by omega, by go_num, hid (by have ht : p[m] = 255 := top_byte ‹_›; rw [← HS.out, ht, succ_top])⟩, by simp [intOf]⟩
      · have hx : p[m] ≠ 255 := low_byte ‹_›
        have hb := u8_lt256 p[m]
        have hb' : p[m].toNat ≠ 255 := fun e => hx ((u8_top _).2 e)
        have hcv := conv_str (Bytes.drew (digits_lie w #[.int .u8 (((p[m].toNat : Nat) : Int) + 1)] (0, 0) [((p[m].toNat : Nat) : Int) + 1] rfl)) 1 1 rfl (fun h => by cases h)
        have hm : m ≤ p.size := by omega
        generalize hS : strOfNums [((p[m].toNat : Nat) : Int) + 1] = S at hcv
        have HR : succ p.data.toList = some ((p.extract 0 m).data.toList ++ S.data.toList) := by
          rw [← HS.out, succ_snoc _ _ hx, cut_data, ← hS, strOfNums_data]
          simp
        have hz : S.size = 1 := by rw [← hS, strOfNums_size]; rfl
        have H2 := hid HR
        clear HR hS
        go_region
        go_wp2_with fail
        refine bodyPost_ret (v := .tuple #[.string (p.extract 0 m ++ S), .bool true]) (by simp [results, Try.results45, go_sem]) rfl ⟨ret_two ?_ ?_, ((Below.refl _ _).alloc (Nat.le_refl _) _).drew⟩
        · unfold sucS; rw [H2.out, str_append]; rfl
        · unfold sucO; rw [H2.out]; rfl

set_option maxRecDepth 100000 in
set_option maxHeartbeats 1000000 in
/-- Succ, the document's -/
theorem succ29 (n : Nat) : ∀ (p : ByteArray) (w : World), p.size = n → p.size ≤ 800000 →
    Calls Try.prog 22 #[.string p] w fun x w' => x = .returned (.tuple #[.string (sucS p.data.toList), .bool (sucO p.data.toList)]) ∧ Below w.heap.size w w' := by
  induction n with
  | zero =>
    intro p w hn _
    have hl : p.data.toList = [] := List.eq_nil_of_length_eq_zero (by rw [← Lib.size_eq]; exact hn)
    have h1 : p.toList = [] := by rw [Lib.toList_data, hl]
    have h2 : p.toList.isEmpty = true := by rw [h1]; rfl
    rw [hl]
    have HL := hid hl
    clear hl h1
    go_enter Try.func22, Try.ntmps22
    go_wp2_with fail
    exact bodyPost_ret (v := .tuple #[.string ⟨#[]⟩, .bool false]) (by simp [results, Try.results22, go_sem]) rfl ⟨ret_two rfl rfl, Below.refl _ _⟩
  | succ m ih =>
    intro p w hn hp
    have hl : m < p.data.toList.length := by rw [← Lib.size_eq]; omega
    have h2 : p.toList.isEmpty = false := by
      rw [Lib.toList_data]
      cases h : p.data.toList with
      | nil => rw [h] at hl; simp at hl
      | cons _ _ => rfl
    have hm : m < p.size := by omega
    have hs : succ p.data.toList = succ (p.data.toList.take m ++ [p[m]]) := by
      rw [byte_at p m hm, ← take_last _ _ hl, List.take_of_length_le (by rw [← Lib.size_eq]; omega)]
    have HS := hid hs
    have hb := u8_lt256 p[m]
    have hsz : (p.size : Int) = (m : Int) + 1 := by omega
    have hh : (p.extract 0 m).size = m := by simp; omega
    have hd := cut_data p m
    clear hs hl
    by_cases hx : p[m] = 255
    · have hx' : (((p[m].toNat : Nat) : Int) == 255) = true := by rw [hx]; rfl
      go_enter Try.func22, Try.ntmps22
      go_wp2_with fail
      have hS : sucS (p.extract 0 m).data.toList = sucS p.data.toList := by unfold sucS; rw [HS.out, hx, succ_top, cut_data]
      have hO : sucO (p.extract 0 m).data.toList = sucO p.data.toList := by unfold sucO; rw [HS.out, hx, succ_top, cut_data]
      have H := ih (p.extract 0 m) w hh (by omega)
      rw [hS, hO] at H
      clear hS hO
      refine H.mono ?_
      clear H
      rintro x w' ⟨rfl, hb1⟩
      go_wp2_with fail
      exact bodyPost_ret (v := .tuple #[.string (sucS p.data.toList), .bool (sucO p.data.toList)]) (by simp [results, Try.results22, go_sem]) rfl ⟨rfl, hb1⟩
    · have hx' : (((p[m].toNat : Nat) : Int) == 255) = false := by
        rw [Bool.eq_false_iff]
        intro h
        exact hx (top_byte h)
      have hb' : p[m].toNat ≠ 255 := fun e => hx ((u8_top _).2 e)
      have ho0 := Own.made w
      have hb0 : Below w.heap.size w (w.alloc (.cells #[] 5)) := (Below.refl _ _).alloc (Nat.le_refl _) _
      have HR : succ p.data.toList = some ((strOfNums (nums (p.extract 0 m) ++ [((p[m].toNat : Nat) : Int) + 1])).data.toList) := by
        have h3 := congrArg (fun s : ByteArray => s.data.toList) (str_nums (p.extract 0 m))
        simp only [strOfNums_data] at h3
        rw [HS.out, succ_snoc _ _ hx, strOfNums_data, List.map_append, h3, cut_data]
        simp
      have hnl : (nums (p.extract 0 m)).length = m := by rw [nums_length, hh]
      have H2 := hid HR
      clear HR HS ih hd
      go_enter Try.func22, Try.ntmps22
      go_wp2_with (at_builtin; first | (refine appS rfl (.tmp 26) (.tmp 27) rfl w.heap.size _ [] rfl ho0 (p.extract 0 m) rfl (by simp; omega) (Nat.le_refl _) hb0 ?_; intro v1 w1 ho1 hb1; rw [List.nil_append] at ho1; clear ho0 hb0) | (refine app1 rfl (.tmp 29) (.tmp 32) rfl _ _ _ rfl ho1 _ rfl (by omega) (Nat.le_refl _) hb1 ?_; intro v2 w2 ho2 hb2; clear ho1 hb1; generalize nums (p.extract 0 m) ++ [((p[m].toNat : Nat) : Int) + 1] = Z at ho2 H2; obtain ⟨a2, c2, rfl, hby2, hnil2, _, _⟩ := ho2.form; have hcv := conv_str hby2 _ c2 rfl hnil2))
      refine bodyPost_ret (v := .tuple #[.string (strOfNums Z), .bool true]) (by simp [results, Try.results22, go_sem]) rfl ⟨ret_two ?_ ?_, hb2⟩
      · unfold sucS; rw [H2.out]; rfl
      · unfold sucO; rw [H2.out]; rfl
end Go.Proofs.Ytmnngfbcgpholaa.Key

namespace Go.Proofs.Ytmnngfbcgpholaa.Key
open Go.RowKit
open Go.Op (bytesLess)

set_option maxRecDepth 100000 in
set_option maxHeartbeats 1000000 in
/-- In, the program's -/
theorem in32 (lo hi k : ByteArray) (e : Bool) (w : World) :
    Calls Try.prog 46 #[.agg #[.string lo, .string hi, .bool e], .string k] w fun x w' => x = .returned (.bool (inR (rg lo hi e) k.data.toList)) ∧ Below w.heap.size w w' := by
  rw [in_less]
  cases h1 : bytesLess k.toList lo.toList
  · cases e
    · go_enter Try.func46, Try.ntmps46
      go_wp2_with fail
      go_ret
      exact ⟨rfl, below_box _ _⟩
    · cases h2 : bytesLess k.toList hi.toList
      all_goals
        go_enter Try.func46, Try.ntmps46
        go_wp2_with fail
        go_ret
        exact ⟨rfl, below_box _ _⟩
  · go_enter Try.func46, Try.ntmps46
    go_wp2_with fail
    go_ret
    exact ⟨rfl, below_box _ _⟩
set_option maxRecDepth 100000 in
set_option maxHeartbeats 1000000 in
/-- In, the document's -/
theorem in20 (lo hi k : ByteArray) (e : Bool) (w : World) :
    Calls Try.prog 44 #[.agg #[.string lo, .string hi, .bool e], .string k] w fun x w' => x = .returned (.bool (inR (rg lo hi e) k.data.toList)) ∧ Below w.heap.size w w' := by
  rw [in_less]
  cases h1 : bytesLess k.toList lo.toList
  · cases e
    · go_enter Try.func44, Try.ntmps44
      go_wp2_with fail
      go_ret
      exact ⟨rfl, below_box _ _⟩
    · cases h2 : bytesLess k.toList hi.toList
      all_goals
        go_enter Try.func44, Try.ntmps44
        go_wp2_with fail
        go_ret
        exact ⟨rfl, below_box _ _⟩
  · go_enter Try.func44, Try.ntmps44
    go_wp2_with fail
    go_ret
    exact ⟨rfl, below_box _ _⟩

set_option maxRecDepth 100000 in
set_option maxHeartbeats 1000000 in
/-- Empty, the program's -/
theorem empty25 (lo hi : ByteArray) (e : Bool) (w : World) :
    Calls Try.prog 43 #[.agg #[.string lo, .string hi, .bool e]] w fun x w' => x = .returned (.bool (emptyR (rg lo hi e))) ∧ Below w.heap.size w w' := by
  have H := hid (show emptyR (rg lo hi e) = !inR (rg lo hi e) lo.data.toList from rfl)
  go_enter Try.func43, Try.ntmps43
  go_wp2_with fail
  refine (in32 lo hi lo e _).mono ?_
  rintro x w' ⟨rfl, hbw⟩
  generalize inR (rg lo hi e) lo.data.toList = b at *
  go_wp2_with fail
  go_ret
  exact ⟨ret_bool H.out.symm, (below_box _ _).trans (hbw.mono (by simp))⟩
set_option maxRecDepth 100000 in
set_option maxHeartbeats 1000000 in
/-- Empty, the document's -/
theorem empty28 (lo hi : ByteArray) (e : Bool) (w : World) :
    Calls Try.prog 36 #[.agg #[.string lo, .string hi, .bool e]] w fun x w' => x = .returned (.bool (emptyR (rg lo hi e))) ∧ Below w.heap.size w w' := by
  have H := hid (show emptyR (rg lo hi e) = !inR (rg lo hi e) lo.data.toList from rfl)
  go_enter Try.func36, Try.ntmps36
  go_wp2_with fail
  refine (in20 lo hi lo e _).mono ?_
  rintro x w' ⟨rfl, hbw⟩
  generalize inR (rg lo hi e) lo.data.toList = b at *
  go_wp2_with fail
  go_ret
  exact ⟨ret_bool H.out.symm, (below_box _ _).trans (hbw.mono (by simp))⟩

set_option maxRecDepth 100000 in
set_option maxHeartbeats 1000000 in
/-- Of, the program's -/
theorem of24 (p : ByteArray) (w : World) (hp : p.size ≤ 800000) :
    Calls Try.prog 41 #[.string p] w fun x w' => x = .returned (.agg #[.string p, .string (sucS p.data.toList), .bool (sucO p.data.toList)]) ∧ Below w.heap.size w w' := by
  have HC := fun w => succ31 p w (by omega)
  generalize sucS p.data.toList = S at *
  generalize sucO p.data.toList = o at *
  go_enter Try.func41, Try.ntmps41
  go_wp2_with fail
  refine (HC _).mono ?_
  clear HC
  rintro x w' ⟨rfl, hbw⟩
  have hx := (Box.new w _ _ _).later hbw
  have hb : Below w.heap.size w w' := (below_box _ _).trans (hbw.mono (by simp))
  clear hbw
  obtain ⟨a0, a1, a2⟩ := hx.cells
  obtain ⟨f0, f1, f2⟩ := hx.free
  go_wp2_with fail
  exact bodyPost_ret (v := .agg #[.string p, .string S, .bool o]) (by simp [results, Try.results41, go_sem, a0, a1, a2]) rfl ⟨rfl, ((hb.setCell (Nat.le_refl _) _).setCell (Nat.le_refl _) _).setCell (Nat.le_refl _) _⟩
set_option maxRecDepth 100000 in
set_option maxHeartbeats 1000000 in
/-- Of, the document's -/
theorem of27 (p : ByteArray) (w : World) (hp : p.size ≤ 800000) :
    Calls Try.prog 37 #[.string p] w fun x w' => x = .returned (.agg #[.string p, .string (sucS p.data.toList), .bool (sucO p.data.toList)]) ∧ Below w.heap.size w w' := by
  have HC := fun w => succ29 _ p w rfl hp
  generalize sucS p.data.toList = S at *
  generalize sucO p.data.toList = o at *
  go_enter Try.func37, Try.ntmps37
  go_wp2_with fail
  refine (HC _).mono ?_
  clear HC
  rintro x w' ⟨rfl, hbw⟩
  have hx := (Box.new w _ _ _).later hbw
  have hb : Below w.heap.size w w' := (below_box _ _).trans (hbw.mono (by simp))
  clear hbw
  obtain ⟨a0, a1, a2⟩ := hx.cells
  obtain ⟨f0, f1, f2⟩ := hx.free
  go_wp2_with fail
  exact bodyPost_ret (v := .agg #[.string p, .string S, .bool o]) (by simp [results, Try.results37, go_sem, a0, a1, a2]) rfl ⟨rfl, ((hb.setCell (Nat.le_refl _) _).setCell (Nat.le_refl _) _).setCell (Nat.le_refl _) _⟩

end Go.Proofs.Ytmnngfbcgpholaa.Key
