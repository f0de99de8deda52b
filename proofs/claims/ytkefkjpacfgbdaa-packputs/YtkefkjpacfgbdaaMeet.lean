/-
  Where the orders of a region that draws meet again: what follows is shown once.
-/
import Derived.Orders
namespace Go.Proofs.Ytkefkjpacfgbdaa.Pack

/-- what follows, shown once, for whatever world of the class and whatever new row -/
theorem meet {p : Prop} {G : World → Nat → Nat → Prop} {C : World → Prop} (main : (∀ u g c, C u → G u g c) → p) (cont : ∀ u g c, C u → G u g c) : p := main cont
/-- the same operations have come up, in another order -/
theorem wpAny_listed {P : Program} {md : Region.Mode} {ops : Array Oper} {Q : Exit → Act → World → Prop} {fuel : Nat} {l l' : Array Bool} {a : Act} {w : World} (h : l' = l) (H : wpAny P md ops Q fuel l a w) : wpAny P md ops Q fuel l' a w := by
  subst h
  exact H
end Go.Proofs.Ytkefkjpacfgbdaa.Pack
