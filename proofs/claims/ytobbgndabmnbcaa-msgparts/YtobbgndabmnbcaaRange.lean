/-
  Contracts of the functions of ranges but Cut and Under: Great, In, Empty, Of, Inside, the program's and the document's.
-/
import Derived.Test.YtobbgndabmnbcaaSucc
namespace Go.Proofs.Ytobbgndabmnbcaa.Key
open Go.RowKit
open Go.Op (bytesLess)

/-- a range that is handed in -/
def rg (lo hi : ByteArray) (e : Bool) : Rng := ⟨lo.data.toList, hi.data.toList, e⟩
/-- a range as a value -/
def rv (r : Rng) : Value := .agg #[.string (str r.lo), .string (str r.hi), .bool r.e]
theorem rv_rg (lo hi : ByteArray) (e : Bool) : rv (rg lo hi e) = .agg #[.string lo, .string hi, .bool e] := by simp [rv, rg, str_eq]
theorem in_less (lo hi k : ByteArray) (e : Bool) : inR (rg lo hi e) k.data.toList = (!bytesLess k.toList lo.toList && (!e || bytesLess k.toList hi.toList)) := by
  rw [less_str, less_str]; rfl
theorem empty_less (lo hi : ByteArray) (e : Bool) : emptyR (rg lo hi e) = (e && !bytesLess lo.toList hi.toList) := by
  rw [less_str, emptyR_eq]; rfl

/-- a block that holds a range -/
def Box (w : World) (k : Nat) (v0 v1 v2 : Value) : Prop := w.heap[k]? = some (.cells #[v0, v1, v2] 34 (0, 0))
theorem Box.new (w : World) (v0 v1 v2 : Value) : Box (w.alloc (.cells #[v0, v1, v2] 34)) w.heap.size v0 v1 v2 := Go.heap_alloc_new _ _
theorem Box.lt {w : World} {k : Nat} {v0 v1 v2 : Value} (h : Box w k v0 v1 v2) : k < w.heap.size := (Array.getElem?_eq_some_iff.1 h).1
theorem Box.later {w w' : World} {k : Nat} {v0 v1 v2 : Value} (h : Box w k v0 v1 v2) (hb : Below w.heap.size w w') : Box w' k v0 v1 v2 := (hb.block k h.lt).trans h
theorem Box.alloc {w : World} {k : Nat} {v0 v1 v2 : Value} (h : Box w k v0 v1 v2) (o : Obj) : Box (w.alloc o) k v0 v1 v2 := h.later ((Below.refl _ _).alloc (Nat.le_refl _) o)
theorem Box.cells {w : World} {k : Nat} {v0 v1 v2 : Value} (h : Box w k v0 v1 v2) : w.cell? ⟨k, 0, none⟩ = some v0 ∧ w.cell? ⟨k, 1, none⟩ = some v1 ∧ w.cell? ⟨k, 2, none⟩ = some v2 :=
  ⟨cell_of_row _ _ 0 _ _ _ h, cell_of_row _ _ 1 _ _ _ h, cell_of_row _ _ 2 _ _ _ h⟩
theorem Box.free {w : World} {k : Nat} {v0 v1 v2 : Value} (h : Box w k v0 v1 v2) : w.frozen? ⟨k, 0, none⟩ = false ∧ w.frozen? ⟨k, 1, none⟩ = false ∧ w.frozen? ⟨k, 2, none⟩ = false :=
  ⟨frozen_of_row _ _ 0 _ _ h, frozen_of_row _ _ 1 _ _ h, frozen_of_row _ _ 2 _ _ h⟩
theorem below_box (w : World) (o : Obj) : Below w.heap.size w (w.alloc o) := (Below.refl _ _).alloc (Nat.le_refl _) o

set_option maxHeartbeats 1000000 in
theorem great21 (lo hi : ByteArray) (e : Bool) (w : World) :
    Calls Try.prog 21 #[.agg #[.string lo, .string hi, .bool e]] w fun x w' => x = .returned (.bool (decide (300 < lo.size) || decide (300 < hi.size))) ∧ Below w.heap.size w w' := by
  cases k1 : decide (300 < lo.size)
  · have k1' : decide ((300 : Int) < (lo.size : Int)) = false := by simp at k1; simp; omega
    cases k2 : decide (300 < hi.size)
    · have k2' : decide ((300 : Int) < (hi.size : Int)) = false := by simp at k2; simp; omega
      go_enter Try.func21, Try.ntmps21
      go_wp2_with fail
      go_ret
      exact ⟨rfl, below_box _ _⟩
    · have k2' : decide ((300 : Int) < (hi.size : Int)) = true := by simp at k2; simp; omega
      go_enter Try.func21, Try.ntmps21
      go_wp2_with fail
      go_ret
      exact ⟨rfl, below_box _ _⟩
  · have k1' : decide ((300 : Int) < (lo.size : Int)) = true := by simp at k1; simp; omega
    go_enter Try.func21, Try.ntmps21
    go_wp2_with fail
    go_ret
    exact ⟨rfl, below_box _ _⟩

set_option maxHeartbeats 1000000 in
/-- In, the program's -/
theorem in31 (lo hi k : ByteArray) (e : Bool) (w : World) :
    Calls Try.prog 31 #[.agg #[.string lo, .string hi, .bool e], .string k] w fun x w' => x = .returned (.bool (inR (rg lo hi e) k.data.toList)) ∧ Below w.heap.size w w' := by
  rw [in_less]
  cases h1 : bytesLess k.toList lo.toList
  · cases e
    · go_enter Try.func31, Try.ntmps31
      go_wp2_with fail
      go_ret
      exact ⟨rfl, below_box _ _⟩
    · cases h2 : bytesLess k.toList hi.toList
      all_goals
        go_enter Try.func31, Try.ntmps31
        go_wp2_with fail
        go_ret
        exact ⟨rfl, below_box _ _⟩
  · go_enter Try.func31, Try.ntmps31
    go_wp2_with fail
    go_ret
    exact ⟨rfl, below_box _ _⟩
set_option maxHeartbeats 1000000 in
/-- In, the document's -/
theorem in22 (lo hi k : ByteArray) (e : Bool) (w : World) :
    Calls Try.prog 22 #[.agg #[.string lo, .string hi, .bool e], .string k] w fun x w' => x = .returned (.bool (inR (rg lo hi e) k.data.toList)) ∧ Below w.heap.size w w' := by
  rw [in_less]
  cases h1 : bytesLess k.toList lo.toList
  · cases e
    · go_enter Try.func22, Try.ntmps22
      go_wp2_with fail
      go_ret
      exact ⟨rfl, below_box _ _⟩
    · cases h2 : bytesLess k.toList hi.toList
      all_goals
        go_enter Try.func22, Try.ntmps22
        go_wp2_with fail
        go_ret
        exact ⟨rfl, below_box _ _⟩
  · go_enter Try.func22, Try.ntmps22
    go_wp2_with fail
    go_ret
    exact ⟨rfl, below_box _ _⟩

set_option maxHeartbeats 1000000 in
/-- Empty, the program's -/
theorem empty39 (lo hi : ByteArray) (e : Bool) (w : World) :
    Calls Try.prog 39 #[.agg #[.string lo, .string hi, .bool e]] w fun x w' => x = .returned (.bool (emptyR (rg lo hi e))) ∧ Below w.heap.size w w' := by
  have H := hid (show emptyR (rg lo hi e) = !inR (rg lo hi e) lo.data.toList from rfl)
  go_enter Try.func39, Try.ntmps39
  go_wp2_with fail
  refine (in31 lo hi lo e _).mono ?_
  rintro x w' ⟨rfl, hbw⟩
  generalize inR (rg lo hi e) lo.data.toList = b at *
  go_wp2_with fail
  go_ret
  exact ⟨ret_bool H.out.symm, (below_box _ _).trans (hbw.mono (by simp))⟩
set_option maxHeartbeats 1000000 in
/-- Empty, the document's -/
theorem empty51 (lo hi : ByteArray) (e : Bool) (w : World) :
    Calls Try.prog 51 #[.agg #[.string lo, .string hi, .bool e]] w fun x w' => x = .returned (.bool (emptyR (rg lo hi e))) ∧ Below w.heap.size w w' := by
  have H := hid (show emptyR (rg lo hi e) = !inR (rg lo hi e) lo.data.toList from rfl)
  go_enter Try.func51, Try.ntmps51
  go_wp2_with fail
  refine (in22 lo hi lo e _).mono ?_
  rintro x w' ⟨rfl, hbw⟩
  generalize inR (rg lo hi e) lo.data.toList = b at *
  go_wp2_with fail
  go_ret
  exact ⟨ret_bool H.out.symm, (below_box _ _).trans (hbw.mono (by simp))⟩

set_option maxHeartbeats 1000000 in
/-- Of, the program's -/
theorem of33 (p : ByteArray) (w : World) (hp : p.size ≤ 800000) :
    Calls Try.prog 33 #[.string p] w fun x w' => x = .returned (.agg #[.string p, .string (sucS p.data.toList), .bool (sucO p.data.toList)]) ∧ Below w.heap.size w w' := by
  have HC := fun w => succ49 p w (by omega)
  generalize sucS p.data.toList = S at *
  generalize sucO p.data.toList = o at *
  go_enter Try.func33, Try.ntmps33
  go_wp2_with fail
  refine (HC _).mono ?_
  clear HC
  rintro x w' ⟨rfl, hbw⟩
  have hx := (Box.new w _ _ _).later hbw
  have hb : Below w.heap.size w w' := (below_box _ _).trans (hbw.mono (by simp))
  clear hbw
  obtain ⟨a0, a1, a2⟩ := hx.cells
  obtain ⟨f0, f1, f2⟩ := hx.free
  go_wp2_with fail
  exact bodyPost_ret (v := .agg #[.string p, .string S, .bool o]) (by simp [results, Try.results33, go_sem, a0, a1, a2]) rfl ⟨rfl, ((hb.setCell (Nat.le_refl _) _).setCell (Nat.le_refl _) _).setCell (Nat.le_refl _) _⟩
set_option maxHeartbeats 1000000 in
/-- Of, the document's -/
theorem of28 (p : ByteArray) (w : World) (hp : p.size ≤ 800000) :
    Calls Try.prog 28 #[.string p] w fun x w' => x = .returned (.agg #[.string p, .string (sucS p.data.toList), .bool (sucO p.data.toList)]) ∧ Below w.heap.size w w' := by
  have HC := fun w => succ48 _ p w rfl hp
  generalize sucS p.data.toList = S at *
  generalize sucO p.data.toList = o at *
  go_enter Try.func28, Try.ntmps28
  go_wp2_with fail
  refine (HC _).mono ?_
  clear HC
  rintro x w' ⟨rfl, hbw⟩
  have hx := (Box.new w _ _ _).later hbw
  have hb : Below w.heap.size w w' := (below_box _ _).trans (hbw.mono (by simp))
  clear hbw
  obtain ⟨a0, a1, a2⟩ := hx.cells
  obtain ⟨f0, f1, f2⟩ := hx.free
  go_wp2_with fail
  exact bodyPost_ret (v := .agg #[.string p, .string S, .bool o]) (by simp [results, Try.results28, go_sem, a0, a1, a2]) rfl ⟨rfl, ((hb.setCell (Nat.le_refl _) _).setCell (Nat.le_refl _) _).setCell (Nat.le_refl _) _⟩

/-- whether a range is a part of another one -/
def insideR (a b : Rng) : Bool := emptyR a || (!bytesLess a.lo b.lo && (!b.e || (a.e && !bytesLess b.hi a.hi)))
theorem le_not (x y : List UInt8) : (bytesLess x y || x == y) = !bytesLess y x := by
  cases h : bytesLess y x
  · cases h' : bytesLess x y
    · have := less_same h h'
      subst this
      simp
    · rfl
  · rw [less_asymm h]
    cases hb : (x == y)
    · rfl
    · have := eq_of_beq hb
      subst this
      rw [less_self] at h
      cases h
theorem le_str (x y : ByteArray) : (bytesLess x.toList y.toList || x.toList == y.toList) = !bytesLess y.data.toList x.data.toList := by
  rw [Lib.toList_data, Lib.toList_data, le_not]
theorem inside_less (lo hi lo' hi' : ByteArray) (e e' : Bool) : insideR (rg lo hi e) (rg lo' hi' e') = (emptyR (rg lo hi e) || (!bytesLess lo.toList lo'.toList && (!e' || (e && (bytesLess hi.toList hi'.toList || hi.toList == hi'.toList))))) := by
  rw [le_str, less_str]; rfl
set_option maxHeartbeats 1000000 in
theorem inside37 (lo hi lo' hi' : ByteArray) (e e' : Bool) (w : World) :
    Calls Try.prog 37 #[.agg #[.string lo, .string hi, .bool e], .agg #[.string lo', .string hi', .bool e']] w fun x w' => x = .returned (.bool (insideR (rg lo hi e) (rg lo' hi' e'))) ∧ Below w.heap.size w w' := by
  rw [inside_less]
  have HE := empty51 lo hi e
  generalize emptyR (rg lo hi e) = E at *
  go_enter Try.func37, Try.ntmps37
  go_wp2_with fail
  refine (HE _).mono ?_
  clear HE
  rintro x w' ⟨rfl, hbw⟩
  have hx := ((Box.new w (.string lo) (.string hi) (.bool e)).alloc (.cells #[.string lo', .string hi', .bool e'] 34)).later hbw
  have hy := (Box.new (w.alloc (.cells #[.string lo, .string hi, .bool e] 34)) (.string lo') (.string hi') (.bool e')).later hbw
  have hb : Below w.heap.size w w' := (Below.alloc (below_box _ _) (by simp) _).trans (hbw.mono (by simp; omega))
  clear hbw
  rw [show (w.alloc (.cells #[.string lo, .string hi, .bool e] 34)).heap.size = w.heap.size + 1 by simp] at hy
  obtain ⟨a0, a1, a2⟩ := hx.cells
  obtain ⟨b0, b1, b2⟩ := hy.cells
  generalize w.heap.size + 1 = k1 at *
  cases E
  · cases h1 : bytesLess lo.toList lo'.toList
    · cases e'
      · go_wp2_with fail
        go_ret
        exact ⟨ret_bool (by rw [h1]; rfl), hb⟩
      · cases e
        · go_wp2_with fail
          go_ret
          exact ⟨ret_bool (by rw [h1]; rfl), hb⟩
        · cases h2 : bytesLess hi.toList hi'.toList
          · cases h3 : (hi.toList == hi'.toList)
            all_goals
              go_wp2_with fail
              go_ret
              exact ⟨ret_bool (by rw [h1, h2, h3]; rfl), hb⟩
          · go_wp2_with fail
            go_ret
            exact ⟨ret_bool (by rw [h1, h2]; rfl), hb⟩
    · go_wp2_with fail
      go_ret
      exact ⟨ret_bool (by rw [h1]; rfl), hb⟩
  · go_wp2_with fail
    go_ret
    exact ⟨rfl, hb⟩
/-- whether all keys of a range begin with so many bytes of its first key, as the document asks it -/
theorem inside_all (r : Rng) (n : Nat) (h : emptyR r = false) : insideR r (ofR (r.lo.take n)) = allN r n := by
  unfold insideR allN
  rw [h]
  simp only [ofR, has_le (has_take r.lo n), Bool.not_false, Bool.true_and, Bool.false_or]
  cases succ (r.lo.take n) <;> simp
end Go.Proofs.Ytobbgndabmnbcaa.Key
