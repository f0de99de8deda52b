/-
  Contracts of In and Of, the program's and the document's.
-/
import Derived.Test.YtknjemmhcjihfaaSucc
namespace Go.Proofs.Ytknjemmhcjihfaa.Key
open Go.RowKit
open Go.Op (bytesLess)

/-- a range that is handed in -/
def rg (lo hi : ByteArray) (e : Bool) : Rng := ⟨lo.data.toList, hi.data.toList, e⟩
/-- a range as a value -/
def rv (r : Rng) : Value := .agg #[.string (str r.lo), .string (str r.hi), .bool r.e]
theorem rv_rg (lo hi : ByteArray) (e : Bool) : rv (rg lo hi e) = .agg #[.string lo, .string hi, .bool e] := by simp [rv, rg, str_eq]
theorem in_less (lo hi k : ByteArray) (e : Bool) : inR (rg lo hi e) k.data.toList = (!bytesLess k.toList lo.toList && (!e || bytesLess k.toList hi.toList)) := by
  rw [less_str, less_str]; rfl
theorem empty_less (lo hi : ByteArray) (e : Bool) : emptyR (rg lo hi e) = (e && !bytesLess lo.toList hi.toList) := by
  rw [less_str, emptyR_eq]; rfl

/-- a block that holds a range -/
def Box (w : World) (k : Nat) (v0 v1 v2 : Value) : Prop := w.heap[k]? = some (.cells #[v0, v1, v2] 83 (0, 0))
theorem Box.new (w : World) (v0 v1 v2 : Value) : Box (w.alloc (.cells #[v0, v1, v2] 83)) w.heap.size v0 v1 v2 := Go.heap_alloc_new _ _
theorem Box.lt {w : World} {k : Nat} {v0 v1 v2 : Value} (h : Box w k v0 v1 v2) : k < w.heap.size := (Array.getElem?_eq_some_iff.1 h).1
theorem Box.later {w w' : World} {k : Nat} {v0 v1 v2 : Value} (h : Box w k v0 v1 v2) (hb : Below w.heap.size w w') : Box w' k v0 v1 v2 := (hb.block k h.lt).trans h
theorem Box.alloc {w : World} {k : Nat} {v0 v1 v2 : Value} (h : Box w k v0 v1 v2) (o : Obj) : Box (w.alloc o) k v0 v1 v2 := h.later ((Below.refl _ _).alloc (Nat.le_refl _) o)
theorem Box.cells {w : World} {k : Nat} {v0 v1 v2 : Value} (h : Box w k v0 v1 v2) : w.cell? ⟨k, 0, none⟩ = some v0 ∧ w.cell? ⟨k, 1, none⟩ = some v1 ∧ w.cell? ⟨k, 2, none⟩ = some v2 :=
  ⟨cell_of_row _ _ 0 _ _ _ h, cell_of_row _ _ 1 _ _ _ h, cell_of_row _ _ 2 _ _ _ h⟩
theorem Box.free {w : World} {k : Nat} {v0 v1 v2 : Value} (h : Box w k v0 v1 v2) : w.frozen? ⟨k, 0, none⟩ = false ∧ w.frozen? ⟨k, 1, none⟩ = false ∧ w.frozen? ⟨k, 2, none⟩ = false :=
  ⟨frozen_of_row _ _ 0 _ _ h, frozen_of_row _ _ 1 _ _ h, frozen_of_row _ _ 2 _ _ h⟩
theorem below_box (w : World) (o : Obj) : Below w.heap.size w (w.alloc o) := (Below.refl _ _).alloc (Nat.le_refl _) o

set_option maxHeartbeats 1000000 in
/-- In, the program's -/
theorem in56 (lo hi k : ByteArray) (e : Bool) (w : World) :
    Calls Try.prog 56 #[.agg #[.string lo, .string hi, .bool e], .string k] w fun x w' => x = .returned (.bool (inR (rg lo hi e) k.data.toList)) ∧ Below w.heap.size w w' := by
  rw [in_less]
  cases h1 : bytesLess k.toList lo.toList
  · cases e
    · go_enter Try.func56, Try.ntmps56
      go_wp2_with fail
      go_ret
      exact ⟨rfl, below_box _ _⟩
    · cases h2 : bytesLess k.toList hi.toList
      all_goals
        go_enter Try.func56, Try.ntmps56
        go_wp2_with fail
        go_ret
        exact ⟨rfl, below_box _ _⟩
  · go_enter Try.func56, Try.ntmps56
    go_wp2_with fail
    go_ret
    exact ⟨rfl, below_box _ _⟩
set_option maxHeartbeats 1000000 in
/-- In, the document's -/
theorem in60 (lo hi k : ByteArray) (e : Bool) (w : World) :
    Calls Try.prog 60 #[.agg #[.string lo, .string hi, .bool e], .string k] w fun x w' => x = .returned (.bool (inR (rg lo hi e) k.data.toList)) ∧ Below w.heap.size w w' := by
  rw [in_less]
  cases h1 : bytesLess k.toList lo.toList
  · cases e
    · go_enter Try.func60, Try.ntmps60
      go_wp2_with fail
      go_ret
      exact ⟨rfl, below_box _ _⟩
    · cases h2 : bytesLess k.toList hi.toList
      all_goals
        go_enter Try.func60, Try.ntmps60
        go_wp2_with fail
        go_ret
        exact ⟨rfl, below_box _ _⟩
  · go_enter Try.func60, Try.ntmps60
    go_wp2_with fail
    go_ret
    exact ⟨rfl, below_box _ _⟩

set_option maxHeartbeats 1000000 in
/-- Of, the program's -/
theorem of64 (p : ByteArray) (w : World) (hp : p.size ≤ 800000) :
    Calls Try.prog 64 #[.string p] w fun x w' => x = .returned (.agg #[.string p, .string (sucS p.data.toList), .bool (sucO p.data.toList)]) ∧ Below w.heap.size w w' := by
  have HC := fun w => succ67 p w (by omega)
  generalize sucS p.data.toList = S at *
  generalize sucO p.data.toList = o at *
  go_enter Try.func64, Try.ntmps64
  go_wp2_with fail
  refine (HC _).mono ?_
  clear HC
  rintro x w' ⟨rfl, hbw⟩
  have hx := (Box.new w _ _ _).later hbw
  have hb : Below w.heap.size w w' := (below_box _ _).trans (hbw.mono (by simp))
  clear hbw
  obtain ⟨a0, a1, a2⟩ := hx.cells
  obtain ⟨f0, f1, f2⟩ := hx.free
  go_wp2_with fail
  exact bodyPost_ret (v := .agg #[.string p, .string S, .bool o]) (by simp [results, Try.results64, go_sem, a0, a1, a2]) rfl ⟨rfl, ((hb.setCell (Nat.le_refl _) _).setCell (Nat.le_refl _) _).setCell (Nat.le_refl _) _⟩
/-- whether a range is a part of another one -/
def insideR (a b : Rng) : Bool := emptyR a || (!bytesLess a.lo b.lo && (!b.e || (a.e && !bytesLess b.hi a.hi)))
theorem le_not (x y : List UInt8) : (bytesLess x y || x == y) = !bytesLess y x := by
  cases h : bytesLess y x
  · cases h' : bytesLess x y
    · have := less_same h h'
      subst this
      simp
    · rfl
  · rw [less_asymm h]
    cases hb : (x == y)
    · rfl
    · have := eq_of_beq hb
      subst this
      rw [less_self] at h
      cases h
theorem le_str (x y : ByteArray) : (bytesLess x.toList y.toList || x.toList == y.toList) = !bytesLess y.data.toList x.data.toList := by
  rw [Lib.toList_data, Lib.toList_data, le_not]
/-- a range as a value, of texts -/
abbrev av (lo hi : ByteArray) (e : Bool) : Value := .agg #[.string lo, .string hi, .bool e]
end Go.Proofs.Ytknjemmhcjihfaa.Key
