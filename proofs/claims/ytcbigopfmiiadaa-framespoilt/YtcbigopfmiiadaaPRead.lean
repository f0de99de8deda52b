/-
  A reader in memory ('Rd'), and the contracts of Left, Fail and ahead.
-/
import Derived.Test.YtcbigopfmiiadaaPAid
import Derived.BigQuiet
import Derived.RegionTactic
import Derived.WalkSmall
namespace Go.Proofs.Ytcbigopfmiiadaa.Pack
open Go.RowKit

theorem grown_trans {a b c : World} {row : Option Nat} (h : a.grownBy b row) (k : b.grownBy c row) : a.grownBy c row :=
  ⟨k.os.trans h.os, k.tape.trans h.tape, k.output.trans h.output, Nat.le_trans h.size k.size, fun i hi hne => (k.block i (Nat.lt_of_lt_of_le hi h.size) hne).trans (h.block i hi hne)⟩
theorem grown_below {w w' : World} (h : Below w.heap.size w w') (row : Option Nat) : w.grownBy w' row :=
  ⟨h.os, h.tape, h.output, h.size, fun i hi _ => h.block i hi⟩

/-- a reader of the bytes zs, at the place p, with the error e: its struct is block k, its bytes lie in a block from B on and ahead of k -/
def Rd (w : World) (B k : Nat) (zs : List Int) (p : Nat) (e : Int) : Prop :=
  ∃ a cap, w.heap[k]? = some (.cells #[.slice a zs.length cap, .int .i64 (p : Int), .int .i64 e] 55 (0, 0)) ∧ Bytes w a zs ∧ Byt zs ∧ (∀ ad, a = some ad → zs ≠ [] → B ≤ ad.block ∧ ad.block < k) ∧
    B ≤ k ∧ p ≤ zs.length ∧ zs.length ≤ cap ∧ zs.length ≤ 100000 ∧ cap ≤ 9223372036854775807

theorem Rd.grown {w w' : World} {B k p g : Nat} {zs : List Int} {e : Int} (h : Rd w B k zs p e) (hg : w.grownBy w' (some g)) (hne : g < B ∨ k < g) : Rd w' B k zs p e := by
  obtain ⟨a, cap, h1, h2, h3, h4, h5, h6⟩ := h
  have hk : k < w.heap.size := (Array.getElem?_eq_some_iff.1 h1).1
  refine ⟨a, cap, (hg.block k hk (by simp; omega)).trans h1, h2.grown hg (fun ad had hz => ?_), h3, h4, h5, h6⟩
  have := h4 ad had hz
  simp
  omega
theorem Rd.later {w w' : World} {B k p : Nat} {zs : List Int} {e : Int} (h : Rd w B k zs p e) (hb : Below w.heap.size w w') : Rd w' B k zs p e := by
  obtain ⟨a, cap, h1, h2, h6⟩ := h
  have hk : k < w.heap.size := (Array.getElem?_eq_some_iff.1 h1).1
  exact ⟨a, cap, (hb.block k hk).trans h1, h2.later hb, h6⟩
theorem Rd.lt {w : World} {B k p : Nat} {zs : List Int} {e : Int} (h : Rd w B k zs p e) : k < w.heap.size ∧ B ≤ k := by
  obtain ⟨a, cap, h1, h2, h3, h4, h5, h6⟩ := h
  exact ⟨(Array.getElem?_eq_some_iff.1 h1).1, h5⟩
/-- what the walk reads of it -/
theorem Rd.cells {w : World} {B k p : Nat} {zs : List Int} {e : Int} (h : Rd w B k zs p e) : ∃ a cap, w.cell? ⟨k, 0, none⟩ = some (.slice a zs.length cap) ∧ w.cell? ⟨k, 1, none⟩ = some (.int .i64 (p : Int)) ∧ w.cell? ⟨k, 2, none⟩ = some (.int .i64 e) ∧
    w.frozen? ⟨k, 1, none⟩ = false ∧ w.frozen? ⟨k, 2, none⟩ = false ∧ Bytes w a zs ∧ (∀ ad, a = some ad → zs ≠ [] → B ≤ ad.block ∧ ad.block < k) ∧ p ≤ zs.length ∧ zs.length ≤ cap ∧ zs.length ≤ 100000 ∧ cap ≤ 9223372036854775807 := by
  obtain ⟨a, cap, h1, h2, h3, h4, h5, h6⟩ := h
  exact ⟨a, cap, cell_of_row w k 0 _ 55 _ h1, cell_of_row w k 1 _ 55 _ h1, cell_of_row w k 2 _ 55 _ h1, frozen_of_row w k 1 _ 55 h1, frozen_of_row w k 2 _ 55 h1, h2, h4, h6⟩
theorem Rd.setP {w : World} {B k p : Nat} {zs : List Int} {e : Int} (h : Rd w B k zs p e) (q : Nat) (hq : q ≤ zs.length) : Rd (w.setCell ⟨k, 1, none⟩ (.int .i64 (q : Int))) B k zs q e ∧ w.grownBy (w.setCell ⟨k, 1, none⟩ (.int .i64 (q : Int))) (some k) := by
  have hg : w.grownBy (w.setCell ⟨k, 1, none⟩ (.int .i64 (q : Int))) (some k) := ⟨rfl, rfl, rfl, by simp, fun i _ hi => heap_setCell_other w ⟨k, 1, none⟩ i _ (fun e => hi (by simp [e]))⟩
  obtain ⟨a, cap, h1, h2, h3, h4, h5, h6, h7⟩ := h
  refine ⟨⟨a, cap, by rw [heap_setCell_same w k 1 _ 55 _ h1]; rfl, h2.grown hg (fun ad had hz => ?_), h3, h4, h5, hq, h7⟩, hg⟩
  have := h4 ad had hz
  simp
  omega
theorem Rd.setE {w : World} {B k p : Nat} {zs : List Int} {e : Int} (h : Rd w B k zs p e) (x : Int) : Rd (w.setCell ⟨k, 2, none⟩ (.int .i64 x)) B k zs p x ∧ w.grownBy (w.setCell ⟨k, 2, none⟩ (.int .i64 x)) (some k) := by
  have hg : w.grownBy (w.setCell ⟨k, 2, none⟩ (.int .i64 x)) (some k) := ⟨rfl, rfl, rfl, by simp, fun i _ hi => heap_setCell_other w ⟨k, 2, none⟩ i _ (fun e => hi (by simp [e]))⟩
  obtain ⟨a, cap, h1, h2, h3, h4, h5, h6⟩ := h
  refine ⟨⟨a, cap, by rw [heap_setCell_same w k 2 _ 55 _ h1]; rfl, h2.grown hg (fun ad had hz => ?_), h3, h4, h5, h6⟩, hg⟩
  have := h4 ad had hz
  simp
  omega

theorem left_any {w : World} {B k p : Nat} {zs : List Int} {e : Int} (h : Rd w B k zs p e) :
    Calls Try.prog 46 #[.pointer (some ⟨k, 0, none⟩)] w fun x w' => x = .returned (.int .i64 ((zs.length - p : Nat) : Int)) ∧ Below w.heap.size w w' := by
  obtain ⟨a, cap, c0, c1, c2, f1, f2, hb, hlt, hp, hc, hm, hm'⟩ := h.cells
  have e0 : ((zs.length : Int) - (p : Int)) = ((zs.length - p : Nat) : Int) := by omega
  go_enter Try.func46, Try.ntmps46
  go_wp2
  go_quiet (fail)
  go_wp2
  go_ret
  exact ⟨rfl, below_drewN (Below.refl _ _) _⟩
theorem left_nil (w : World) : Calls Try.prog 46 #[.pointer none] w fun x w' => x = .returned (.int .i64 0) ∧ w' = w := by
  go_enter Try.func46, Try.ntmps46
  go_wp2
  go_ret
  exact ⟨rfl, rfl⟩
/-- the error behind Fail -/
def failE (e x : Int) : Int := if e = 0 then x else e
theorem fail_any {w : World} {B k p : Nat} {zs : List Int} {e : Int} (h : Rd w B k zs p e) (x : Int) :
    Calls Try.prog 47 #[.pointer (some ⟨k, 0, none⟩), .int .i64 x] w fun y w' => y = .returned (.tuple #[]) ∧ Rd w' B k zs p (failE e x) ∧ w.grownBy w' (some k) := by
  obtain ⟨a, cap, c0, c1, c2, f1, f2, _⟩ := h.cells
  by_cases he : e = 0
  · subst he
    have R := hid (h.setE x)
    clear h
    go_enter Try.func47, Try.ntmps47
    go_wp2
    go_end0
    exact ⟨rfl, R.out⟩
  · have hd : (e == 0) = false := by simpa using he
    have e1 : failE e x = e := if_neg he
    rw [e1]
    have R := hid h
    clear h
    go_enter Try.func47, Try.ntmps47
    go_wp2
    go_end0
    exact ⟨rfl, R.out, World.grownBy.refl _ _⟩
theorem fail_nil (w : World) (x : Int) : Calls Try.prog 47 #[.pointer none, .int .i64 x] w fun y w' => y = .returned (.tuple #[]) ∧ w' = w := by
  go_enter Try.func47, Try.ntmps47
  go_wp2
  go_end0
  exact ⟨rfl, rfl⟩

theorem ahead_nil (w : World) (m : Int) : Calls Try.prog 42 #[.pointer none, .int .i64 m] w fun x w' => x = .returned (.slice none 0 0) ∧ w' = w := by
  go_enter Try.func42, Try.ntmps42
  go_wp2
  go_ret
  exact ⟨rfl, rfl⟩
theorem ahead_bad {w : World} {B k p : Nat} {zs : List Int} {e : Int} (h : Rd w B k zs p e) (he : e ≠ 0) (m : Int) :
    Calls Try.prog 42 #[.pointer (some ⟨k, 0, none⟩), .int .i64 m] w fun x w' => x = .returned (.slice none 0 0) ∧ w' = w := by
  obtain ⟨a, cap, c0, c1, c2, f1, f2, _⟩ := h.cells
  have hd : (e == 0) = false := by simpa using he
  have hd' : (e != 0) = true := by simpa using he
  go_enter Try.func42, Try.ntmps42
  go_wp2
  go_ret
  exact ⟨rfl, rfl⟩
theorem ahead_short {w : World} {B k p : Nat} {zs : List Int} (h : Rd w B k zs p 0) (m : Nat) (hm : zs.length < p + m) :
    Calls Try.prog 42 #[.pointer (some ⟨k, 0, none⟩), .int .i64 (m : Int)] w fun x w' => x = .returned (.slice none 0 0) ∧ Rd w' B k zs p 2 ∧ w.grownBy w' (some k) := by
  obtain ⟨a, cap, c0, c1, c2, f1, f2, _, _, hp, _, hz, _⟩ := h.cells
  have hd : zs.length - p < m := by omega
  go_enter Try.func42, Try.ntmps42
  go_wp2_with fail
  refine (left_any h).mono ?_
  rintro x w1 ⟨rfl, hb⟩
  have h1 := h.later hb
  generalize zs.length - p = d at *
  go_wp2_with fail
  refine (fail_any h1 2).mono ?_
  rintro x w2 ⟨rfl, hr, hg⟩
  go_wp2
  go_ret
  exact ⟨rfl, hr, grown_trans (grown_below hb _) hg⟩
theorem ahead_ok {w : World} {B k p : Nat} {zs : List Int} (h : Rd w B k zs p 0) (m : Nat) (hm0 : 0 < m) (hm : p + m ≤ zs.length) :
    Calls Try.prog 42 #[.pointer (some ⟨k, 0, none⟩), .int .i64 (m : Int)] w fun x w' => ∃ b off c, x = .returned (.slice (some ⟨b, off, none⟩) m c) ∧ Bytes w' (some ⟨b, off, none⟩) ((zs.drop p).take m) ∧ Below w.heap.size w w' ∧ b < k ∧ m ≤ c ∧ c ≤ 9223372036854775807 := by
  obtain ⟨a, cap, c0, c1, c2, f1, f2, _, _, hp, _, hz, _⟩ := h.cells
  have hd : ¬ zs.length - p < m := by omega
  have hpm : p + m - p = m := by omega
  go_enter Try.func42, Try.ntmps42
  go_wp2_with fail
  refine (left_any h).mono ?_
  rintro x w1 ⟨rfl, hb⟩
  have h1 := h.later hb
  clear c0 c1 c2 f1 f2
  obtain ⟨a, cap, c0, c1, c2, f1, f2, hby, hbl, hp, hc, hz, hcm⟩ := h1.cells
  have hne : zs ≠ [] := fun e => by subst e; simp at hm; omega
  obtain ⟨b, off, rfl, hcell⟩ : ∃ b off, a = some ⟨b, off, none⟩ ∧ Bytes w1 (some ⟨b, off, none⟩) zs := by
    rcases hby with rfl | ⟨b, off, rfl, hc⟩
    · exact absurd rfl hne
    · exact ⟨b, off, rfl, .inr ⟨b, off, rfl, hc⟩⟩
  have hbk := (hbl _ rfl hne).2
  have hout := hid ((hcell.drop p).take m)
  clear hbl hby hcell h h1
  go_wp2_with fail
  go_quiet (fail)
  go_wp2
  go_ret
  exact ⟨b, off + p, cap - p, (by show Ending.returned (Value.slice (some ⟨b, off + p, none⟩) (p + m - p) (cap - p)) = _; rw [hpm]), hout.out, below_drewN hb _, hbk, by omega, by omega⟩
end Go.Proofs.Ytcbigopfmiiadaa.Pack
