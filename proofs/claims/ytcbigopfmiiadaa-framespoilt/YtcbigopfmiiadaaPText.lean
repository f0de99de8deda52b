/-
  Contracts of GetText, End and New.
-/
import Derived.Test.YtcbigopfmiiadaaPTake
namespace Go.Proofs.Ytcbigopfmiiadaa.Pack
open Go.RowKit

/-- what a reader of zs, at p, with the error e, takes for a text of at most so many bytes; its place and its error then -/
def tN (zs : List Int) (p : Nat) : Nat := (zs.getD p 0).toNat
def tS (zs : List Int) (p : Nat) (e most : Int) : ByteArray := if e = 0 ∧ p + 1 ≤ zs.length ∧ (tN zs p : Int) ≤ max most 0 ∧ p + 1 + tN zs p ≤ zs.length then strOfNums ((zs.drop (p + 1)).take (tN zs p)) else ⟨#[]⟩
def tP (zs : List Int) (p : Nat) (e most : Int) : Nat := if e = 0 ∧ p + 1 ≤ zs.length ∧ (tN zs p : Int) ≤ max most 0 ∧ p + 1 + tN zs p ≤ zs.length then p + 1 + tN zs p else p
def tE (zs : List Int) (p : Nat) (e most : Int) : Int := if e ≠ 0 then e else if ¬ p + 1 ≤ zs.length then 2 else if max most 0 < (tN zs p : Int) then 4 else if p + 1 + tN zs p ≤ zs.length then 0 else 2
theorem t_ok {zs : List Int} {p : Nat} {most : Int} (h1 : p + 1 ≤ zs.length) (h2 : (tN zs p : Int) ≤ max most 0) (h3 : p + 1 + tN zs p ≤ zs.length) :
    tS zs p 0 most = strOfNums ((zs.drop (p + 1)).take (tN zs p)) ∧ tP zs p 0 most = p + 1 + tN zs p ∧ tE zs p 0 most = 0 := by
  have h2' : ¬ max most 0 < (tN zs p : Int) := by omega
  unfold tS tP tE
  rw [if_pos ⟨rfl, h1, h2, h3⟩, if_pos ⟨rfl, h1, h2, h3⟩, if_neg (by omega), if_neg (by omega), if_neg h2', if_pos h3]
  exact ⟨rfl, rfl, rfl⟩
theorem t_bad {zs : List Int} {p : Nat} {e most : Int} (h : e ≠ 0) : tS zs p e most = ⟨#[]⟩ ∧ tP zs p e most = p ∧ tE zs p e most = e := by
  unfold tS tP tE
  rw [if_neg (fun x => h x.1), if_neg (fun x => h x.1), if_pos h]
  exact ⟨rfl, rfl, rfl⟩
theorem t_none {zs : List Int} {p : Nat} {most : Int} (h : ¬ p + 1 ≤ zs.length) : tS zs p 0 most = ⟨#[]⟩ ∧ tP zs p 0 most = p ∧ tE zs p 0 most = 2 := by
  unfold tS tP tE
  rw [if_neg (fun x => h x.2.1), if_neg (fun x => h x.2.1), if_neg (by omega), if_pos h]
  exact ⟨rfl, rfl, rfl⟩
theorem t_long {zs : List Int} {p : Nat} {most : Int} (h1 : p + 1 ≤ zs.length) (h : max most 0 < (tN zs p : Int)) : tS zs p 0 most = ⟨#[]⟩ ∧ tP zs p 0 most = p ∧ tE zs p 0 most = 4 := by
  have h' : ¬ (tN zs p : Int) ≤ max most 0 := by omega
  unfold tS tP tE
  rw [if_neg (fun x => h' x.2.2.1), if_neg (fun x => h' x.2.2.1), if_neg (by omega), if_neg (by omega), if_pos h]
  exact ⟨rfl, rfl, rfl⟩
theorem t_short {zs : List Int} {p : Nat} {most : Int} (h1 : p + 1 ≤ zs.length) (h2 : (tN zs p : Int) ≤ max most 0) (h3 : ¬ p + 1 + tN zs p ≤ zs.length) : tS zs p 0 most = ⟨#[]⟩ ∧ tP zs p 0 most = p ∧ tE zs p 0 most = 2 := by
  have h2' : ¬ max most 0 < (tN zs p : Int) := by omega
  unfold tS tP tE
  rw [if_neg (fun x => h3 x.2.2.2), if_neg (fun x => h3 x.2.2.2), if_neg (by omega), if_neg (by omega), if_neg h2', if_neg h3]
  exact ⟨rfl, rfl, rfl⟩

theorem head_of (zs : List Int) (p : Nat) (h : p + 1 ≤ zs.length) : ((zs.drop p).take 1) = [zs.getD p 0] := by
  rw [List.drop_eq_getElem_cons (by omega), List.take_succ_cons, List.take_zero]
  simp [List.getD, List.getElem?_eq_getElem (show p < zs.length by omega)]
theorem tN_le {zs : List Int} (hz : Byt zs) (p : Nat) : zs.getD p 0 = ((tN zs p : Nat) : Int) ∧ tN zs p ≤ 255 := by
  have := byt_getD hz p
  unfold tN
  omega

/-- what End tells -/
def endE (n p : Nat) (e : Int) : Int := if e = 0 ∧ p < n then 4 else e
end Go.Proofs.Ytcbigopfmiiadaa.Pack
