/-
  What PackBack wants besides: puts of a number that is cut to its kind, and what a reader takes where a writing stands.
-/
import Derived.Test.YtkefkjpacfgbdaaNew
import Derived.Test.YtkefkjpacfgbdaaRef2
namespace Go.Proofs.Ytkefkjpacfgbdaa.Pack
open Go.RowKit

theorem Put_1m (n : Nat) (a : Option Addr) (l cap : Nat) (zs : List Int) (w : World) (hl : zs.length = l) (hb : Bytes w a zs) (hnil : a = none → l = 0 ∧ cap = 0) (hm : l ≤ 100000) :
    Calls Try.prog 8 #[.slice a l cap, .int .u8 ((n : Int) % 256)] w fun e w' => ∃ v, e = .returned v ∧ Own w' w.heap.size v (zs ++ be 1 n) ∧ Below w.heap.size w w' := by
  have H := Put_1 (n % 256) (by omega) a l cap zs w hl hb hnil hm
  rw [Int.natCast_emod, show be 1 (n % 256) = be 1 n from be_mod 1 n] at H
  exact H
theorem Put_2m (n : Nat) (a : Option Addr) (l cap : Nat) (zs : List Int) (w : World) (hl : zs.length = l) (hb : Bytes w a zs) (hnil : a = none → l = 0 ∧ cap = 0) (hm : l ≤ 100000) :
    Calls Try.prog 9 #[.slice a l cap, .int .u16 ((n : Int) % 65536)] w fun e w' => ∃ v, e = .returned v ∧ Own w' w.heap.size v (zs ++ be 2 n) ∧ Below w.heap.size w w' := by
  have H := Put_2 (n % 65536) (by omega) a l cap zs w hl hb hnil hm
  rw [Int.natCast_emod, show be 2 (n % 65536) = be 2 n from be_mod 2 n] at H
  exact H
theorem Put_4m (n : Nat) (a : Option Addr) (l cap : Nat) (zs : List Int) (w : World) (hl : zs.length = l) (hb : Bytes w a zs) (hnil : a = none → l = 0 ∧ cap = 0) (hm : l ≤ 100000) :
    Calls Try.prog 10 #[.slice a l cap, .int .u32 ((n : Int) % 4294967296)] w fun e w' => ∃ v, e = .returned v ∧ Own w' w.heap.size v (zs ++ be 4 n) ∧ Below w.heap.size w w' := by
  have H := Put_4 (n % 4294967296) (by omega) a l cap zs w hl hb hnil hm
  rw [Int.natCast_emod, show be 4 (n % 4294967296) = be 4 n from be_mod 4 n] at H
  exact H

/-- a number where its writing stands -/
theorem g_at (A C : List Int) (s n p : Nat) (hp : A.length = p) : gV (A ++ (be s n ++ C)) p 0 s = n % 256 ^ s ∧ gP (A ++ (be s n ++ C)) p 0 s = p + s ∧ gE (A ++ (be s n ++ C)) p 0 s = 0 := by
  subst hp
  have hl : A.length + s ≤ (A ++ (be s n ++ C)).length := by simp [be_length]
  obtain ⟨g1, g2, g3⟩ := g_ok hl
  refine ⟨?_, g2, g3⟩
  rw [g1, List.drop_left]
  have : (be s n ++ C).take s = be s n := by
    have h := List.take_left (l₁ := be s n) (l₂ := C)
    rwa [be_length] at h
  rw [this, val_be]
theorem getD_at (A C : List Int) (x : Int) (p : Nat) (hp : A.length = p) : (A ++ x :: C).getD p 0 = x := by
  subst hp
  simp [List.getD]
/-- a text where its writing stands, at the end -/
theorem t_at (A : List Int) (s : ByteArray) (hs : s.size ≤ 255) (p : Nat) (hp : A.length = p) : tS (A ++ txt s) p 0 255 = s ∧ tP (A ++ txt s) p 0 255 = (A ++ txt s).length ∧ tE (A ++ txt s) p 0 255 = 0 := by
  rw [txt_short s hs]
  have hN : tN (A ++ (s.size : Int) :: nums s) p = s.size := by
    unfold tN
    rw [getD_at A _ _ p hp]
    simp
  have hl : (A ++ (s.size : Int) :: nums s).length = p + 1 + s.size := by simp [nums_length, hp]; omega
  obtain ⟨g1, g2, g3⟩ := t_ok (zs := A ++ (s.size : Int) :: nums s) (p := p) (most := 255) (by omega) (by rw [hN]; omega) (by rw [hN]; omega)
  refine ⟨?_, by rw [g2, hN, hl], g3⟩
  rw [g1, hN]
  have h1 : (A ++ (s.size : Int) :: nums s).drop (p + 1) = nums s := by
    subst hp
    rw [List.drop_append]
    simp
  rw [h1, List.take_of_length_le (by rw [nums_length]; exact Nat.le_refl _), str_nums]
end Go.Proofs.Ytkefkjpacfgbdaa.Pack
