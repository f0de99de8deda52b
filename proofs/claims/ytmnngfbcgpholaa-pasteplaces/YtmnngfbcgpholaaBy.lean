/-
  Contracts of byEdge, byMsg, byPairs, and of the document's on and Get.
-/
import Derived.Test.YtmnngfbcgpholaaPiv
namespace Go.Proofs.Ytmnngfbcgpholaa.Key
open Go.RowKit
open Go.Op (bytesLess)

theorem below_five {B k : Nat} {w w' : World} (h : Below B w w') (hk : B ≤ k) (v0 v1 v2 v3 v4 : Value) :
    Below B w (((((w'.setCell ⟨k, 0, none⟩ v0).setCell ⟨k, 1, none⟩ v1).setCell ⟨k, 2, none⟩ v2).setCell ⟨k, 3, none⟩ v3).setCell ⟨k, 4, none⟩ v4) :=
  ((((h.setCell (p := ⟨k, 0, none⟩) hk _).setCell (p := ⟨k, 1, none⟩) hk _).setCell (p := ⟨k, 2, none⟩) hk _).setCell (p := ⟨k, 3, none⟩) hk _).setCell (p := ⟨k, 4, none⟩) hk _
/-- where a key leads by an edge -/
def byE (e : E) (k : List UInt8) : Wy := if upB (lf e.strip e.add) k then ⟨2, ⟨#[]⟩, e.blk, e.deep, upS (lf e.strip e.add) k⟩ else noWay
/-- .. by a message -/
def byM (m : M) (k : List UInt8) : Wy := if m.kind = 1 then toVal m.val else if m.kind = 3 then byE ⟨m.blk, m.deep, m.key, m.add⟩ k else noWay

/-- the pair of a key -/
def isK (k : List UInt8) (p : Pr) : Bool := p.key.data.toList == k
def getP (ps : List Pr) (k : List UInt8) : Option Pr := ps.find? (isK k)
def getV (ps : List Pr) (k : List UInt8) : ByteArray := ((getP ps k).map (·.val)).getD ⟨#[]⟩
def getB (ps : List Pr) (k : List UInt8) : Bool := (getP ps k).isSome
def pairW (ps : List Pr) (k : List UInt8) : Wy := if getB ps k then toVal (getV ps k) else noWay
theorem find_at {α : Type} (p : α → Bool) : ∀ (l : List α) (j : Nat) (h : j < l.length), (l.take j).any p = false → p l[j] = true → l.find? p = some l[j]
  | [], j, h, _, _ => by simp at h
  | x :: l, 0, _, _, hp => by simp at hp; simp [hp]
  | x :: l, j + 1, h, ha, hp => by
    rw [List.take_succ_cons, List.any_cons, Bool.or_eq_false_iff] at ha
    rw [List.find?_cons, ha.1]
    exact find_at p l j (by simpa using h) ha.2 (by simpa using hp)
theorem found_at {ps : List Pr} {k : List UInt8} {j : Nat} {x : Pr} (hx : ps[j]? = some x) (h1 : (ps.take j).any (isK k) = false) (h2 : isK k x = true) : ps.find? (isK k) = some x := by
  obtain ⟨hj, rfl⟩ := List.getElem?_eq_some_iff.1 hx
  exact find_at (isK k) ps j hj h1 h2
theorem find_no {α : Type} (p : α → Bool) (l : List α) (h : l.any p = false) : l.find? p = none := by
  rw [List.find?_eq_none]
  intro x hx hp
  rw [List.any_eq_true.2 ⟨x, hx, hp⟩] at h
  cases h
theorem isK_str (k : ByteArray) (p : Pr) : (p.key.toList == k.toList) = isK k.data.toList p := by rw [isK, Lib.toList_data, Lib.toList_data]

end Go.Proofs.Ytmnngfbcgpholaa.Key
