/-
  An operation of a region that is not wanted. No program is named here.
-/
import Derived.Test.YtknjemmhcjihfaaQuiet
namespace Go.Proofs.Ytknjemmhcjihfaa.Key
open Go.RowKit

theorem quiet_skip {P : Program} {ops : Array Oper} {C : World → Prop} {K : Act → Prop} {a : Act} {o : Oper} (hw : Region.wanted o (yielded ops a.tmps) = false)
    (h : K (a.put o.dst undef)) : if Region.wanted o (yielded ops a.tmps) then o.quiet P a C K else K (a.put o.dst undef) := by
  rw [if_neg (by rw [hw]; simp)]
  exact h

end Go.Proofs.Ytknjemmhcjihfaa.Key
