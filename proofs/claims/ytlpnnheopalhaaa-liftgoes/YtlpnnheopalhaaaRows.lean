/-
  No cell of these rows narrows 'for every input' (looked for: loops, veiled, ifaces, maps, wideKeys, modest, calm, conditions, laid).
  DERIVED. THE GIVEN ROWS OF THIS SEAT. 5 by the template 'for every input the law returns true; each argument reads behind the call as it read before'; 0 by the template 'total and deterministic' (their statements: YtlpnnheopalhaaaTotals.lean).
  GIVEN WITH THE SEED: the statements are not yours to turn. If you find one false, say at which input.
  Laid BY PROGRAM, IN A SANDBOX (cutbox-rows.mjs): the forced cells as the released guide's own fill.sh prints them over the translation 3ee03d73177c6bfa… (all of the seat's roots in one cut). By AI agents, Wed Nov 11 2026. No macro, syntax, notation, axiom, sorry.
-/
import Derived.Test.YtlpnnheopalhaaaChecked
import GoSem.Claim
import GoSem.ClaimJoined
import GoSem.ClaimMapViews
import Derived.JoinedTies
import Derived.KernelRfl
namespace Go.Proofs.Ytlpnnheopalhaaa
/- THE CELL 'sum', in the pinned program and in every row, IS THE sha256 OF THE DUMP (.gsa) THAT YtlpnnheopalhaaaProg.lean LOADS. Nothing in Lean hashes anything: it is a label: what it is worth is what the hold of that sum in a sandbox is worth. -/
noncomputable def Try.pinned : Pinned := { name := "ytlpnnheopalhaaa", sum := "3ee03d73177c6bfa6fb7585bbcee9aff34d2c23bcea50f583a901e93607e5695", checked := Try.checked }
namespace Rows
def none {H : Type} : Left H := { results := [], args := [] }

/-- 'marcotlaw04.LiftGoes': WHATEVER THE INPUT: true; the input reads as it did. -/
def liftGoesSpec : ChangeSpec := { name := "liftGoes", fn := fun _ => fun
  | [d1, d2, d3] => { results := [.lit (.bool true)], args := [d1, d2, d3] }
  | _ => none }
def liftGoesRow : OpenClaim := { program := "ytlpnnheopalhaaa", sum := "3ee03d73177c6bfa6fb7585bbcee9aff34d2c23bcea50f583a901e93607e5695", func := "marcot/marcotlaw04.LiftGoes", spec := "liftGoes", recurses := true, apart := false }
def LiftGoesSaid : Prop := liftGoesRow.holds Try.pinned (OpenSpec.ofChange liftGoesSpec)

/-- ITS FALSE NEIGHBOUR: 'it returns false'. Refute it at one input. -/
def liftGoesWrong : ChangeSpec := { name := "liftGoes", fn := fun _ => fun
  | [d1, d2, d3] => { results := [.lit (.bool false)], args := [d1, d2, d3] }
  | _ => none }
def LiftGoesWrongFalsely : Prop := liftGoesRow.holds Try.pinned (OpenSpec.ofChange liftGoesWrong)

/-- 'marcotlaw04.LiftBack': WHATEVER THE INPUT: true; the input reads as it did. -/
def liftBackSpec : ChangeSpec := { name := "liftBack", fn := fun _ => fun
  | [d1, d2, d3] => { results := [.lit (.bool true)], args := [d1, d2, d3] }
  | _ => none }
def liftBackRow : OpenClaim := { program := "ytlpnnheopalhaaa", sum := "3ee03d73177c6bfa6fb7585bbcee9aff34d2c23bcea50f583a901e93607e5695", func := "marcot/marcotlaw04.LiftBack", spec := "liftBack", apart := false }
def LiftBackSaid : Prop := liftBackRow.holds Try.pinned (OpenSpec.ofChange liftBackSpec)

/-- ITS FALSE NEIGHBOUR: 'it returns false'. Refute it at one input. -/
def liftBackWrong : ChangeSpec := { name := "liftBack", fn := fun _ => fun
  | [d1, d2, d3] => { results := [.lit (.bool false)], args := [d1, d2, d3] }
  | _ => none }
def LiftBackWrongFalsely : Prop := liftBackRow.holds Try.pinned (OpenSpec.ofChange liftBackWrong)

/-- 'marcotlaw04.LiftJoins': WHATEVER THE INPUT: true; the input reads as it did. -/
def liftJoinsSpec : ChangeSpec := { name := "liftJoins", fn := fun _ => fun
  | [d1, d2, d3] => { results := [.lit (.bool true)], args := [d1, d2, d3] }
  | _ => none }
def liftJoinsRow : OpenClaim := { program := "ytlpnnheopalhaaa", sum := "3ee03d73177c6bfa6fb7585bbcee9aff34d2c23bcea50f583a901e93607e5695", func := "marcot/marcotlaw04.LiftJoins", spec := "liftJoins", apart := false }
def LiftJoinsSaid : Prop := liftJoinsRow.holds Try.pinned (OpenSpec.ofChange liftJoinsSpec)

/-- ITS FALSE NEIGHBOUR: 'it returns false'. Refute it at one input. -/
def liftJoinsWrong : ChangeSpec := { name := "liftJoins", fn := fun _ => fun
  | [d1, d2, d3] => { results := [.lit (.bool false)], args := [d1, d2, d3] }
  | _ => none }
def LiftJoinsWrongFalsely : Prop := liftJoinsRow.holds Try.pinned (OpenSpec.ofChange liftJoinsWrong)

/-- 'marcotlaw04.LiftThree': WHATEVER THE INPUT: true; the input reads as it did. -/
def liftThreeSpec : ChangeSpec := { name := "liftThree", fn := fun _ => fun
  | [d1, d2, d3] => { results := [.lit (.bool true)], args := [d1, d2, d3] }
  | _ => none }
def liftThreeRow : OpenClaim := { program := "ytlpnnheopalhaaa", sum := "3ee03d73177c6bfa6fb7585bbcee9aff34d2c23bcea50f583a901e93607e5695", func := "marcot/marcotlaw04.LiftThree", spec := "liftThree", apart := false }
def LiftThreeSaid : Prop := liftThreeRow.holds Try.pinned (OpenSpec.ofChange liftThreeSpec)

/-- ITS FALSE NEIGHBOUR: 'it returns false'. Refute it at one input. -/
def liftThreeWrong : ChangeSpec := { name := "liftThree", fn := fun _ => fun
  | [d1, d2, d3] => { results := [.lit (.bool false)], args := [d1, d2, d3] }
  | _ => none }
def LiftThreeWrongFalsely : Prop := liftThreeRow.holds Try.pinned (OpenSpec.ofChange liftThreeWrong)

/-- 'marcotlaw04.LiftOver': WHATEVER THE INPUT: true; the input reads as it did. -/
def liftOverSpec : ChangeSpec := { name := "liftOver", fn := fun _ => fun
  | [d1, d2, d3] => { results := [.lit (.bool true)], args := [d1, d2, d3] }
  | _ => none }
def liftOverRow : OpenClaim := { program := "ytlpnnheopalhaaa", sum := "3ee03d73177c6bfa6fb7585bbcee9aff34d2c23bcea50f583a901e93607e5695", func := "marcot/marcotlaw04.LiftOver", spec := "liftOver", apart := false }
def LiftOverSaid : Prop := liftOverRow.holds Try.pinned (OpenSpec.ofChange liftOverSpec)

/-- ITS FALSE NEIGHBOUR: 'it returns false'. Refute it at one input. -/
def liftOverWrong : ChangeSpec := { name := "liftOver", fn := fun _ => fun
  | [d1, d2, d3] => { results := [.lit (.bool false)], args := [d1, d2, d3] }
  | _ => none }
def LiftOverWrongFalsely : Prop := liftOverRow.holds Try.pinned (OpenSpec.ofChange liftOverWrong)

/- THE SECOND FORM. 'bulk': how many values and letters a reading holds, each counted each time it is reached (what is shared counts as often as it is met; a slice's spare places count too). A statement '..UptoSaid' is the law's where the arguments, and the package variables that the reading takes, are together of bulk at most 1048576: NARROWER than '..Said'. Prove '..Said' where nothing that the law and all that it calls make is longer than what came in: it says more and counts as full. Else prove '..UptoSaid'. A law counts once. -/
mutual
def uptoBulk {H : Type} : DataW H → Nat
  | .lit (.string bytes) => bytes.length + 1
  | .lit _ => 1
  | .nil => 1
  | .ptr d => uptoBulk d + 1
  | .slice elems spare => uptoBulkAll elems + uptoBulkAll spare + 1
  | .agg parts => uptoBulkAll parts + 1
  | .iface _ d => uptoBulk d + 1
  | .map entries => uptoBulkEntries entries + 1
  | .held _ => 1
def uptoBulkAll {H : Type} : List (DataW H) → Nat
  | [] => 0
  | d :: r => uptoBulk d + uptoBulkAll r
def uptoBulkEntries {H : Type} : List (Lit × DataW H) → Nat
  | [] => 0
  | x :: r => uptoBulkEntry x + uptoBulkEntries r
def uptoBulkEntry {H : Type} : Lit × DataW H → Nat
  | (.string bytes, d) => bytes.length + uptoBulk d + 1
  | (_, d) => uptoBulk d + 1
 end
def uptoSmall : (H : Type) → List (DataW H) → Bool := fun _ ds => decide (uptoBulkAll ds ≤ 1048576)
def OpenSpec.upto (s : _root_.Go.ChangeSpec) : _root_.Go.OpenSpec := { _root_.Go.OpenSpec.ofChange s with cond := some uptoSmall }

/-- 'marcotlaw04.LiftGoes', WHERE WHAT IT READS IS OF BULK AT MOST 1048576: true; the input reads as it did. -/
def liftGoesUptoRow : OpenClaim := { program := "ytlpnnheopalhaaa", sum := "3ee03d73177c6bfa6fb7585bbcee9aff34d2c23bcea50f583a901e93607e5695", func := "marcot/marcotlaw04.LiftGoes", spec := "liftGoes", recurses := true, apart := false, narrowed := true }
def LiftGoesUptoSaid : Prop := liftGoesUptoRow.holds Try.pinned (OpenSpec.upto liftGoesSpec)

/-- 'marcotlaw04.LiftBack', WHERE WHAT IT READS IS OF BULK AT MOST 1048576: true; the input reads as it did. -/
def liftBackUptoRow : OpenClaim := { program := "ytlpnnheopalhaaa", sum := "3ee03d73177c6bfa6fb7585bbcee9aff34d2c23bcea50f583a901e93607e5695", func := "marcot/marcotlaw04.LiftBack", spec := "liftBack", apart := false, narrowed := true }
def LiftBackUptoSaid : Prop := liftBackUptoRow.holds Try.pinned (OpenSpec.upto liftBackSpec)

/-- 'marcotlaw04.LiftJoins', WHERE WHAT IT READS IS OF BULK AT MOST 1048576: true; the input reads as it did. -/
def liftJoinsUptoRow : OpenClaim := { program := "ytlpnnheopalhaaa", sum := "3ee03d73177c6bfa6fb7585bbcee9aff34d2c23bcea50f583a901e93607e5695", func := "marcot/marcotlaw04.LiftJoins", spec := "liftJoins", apart := false, narrowed := true }
def LiftJoinsUptoSaid : Prop := liftJoinsUptoRow.holds Try.pinned (OpenSpec.upto liftJoinsSpec)

/-- 'marcotlaw04.LiftThree', WHERE WHAT IT READS IS OF BULK AT MOST 1048576: true; the input reads as it did. -/
def liftThreeUptoRow : OpenClaim := { program := "ytlpnnheopalhaaa", sum := "3ee03d73177c6bfa6fb7585bbcee9aff34d2c23bcea50f583a901e93607e5695", func := "marcot/marcotlaw04.LiftThree", spec := "liftThree", apart := false, narrowed := true }
def LiftThreeUptoSaid : Prop := liftThreeUptoRow.holds Try.pinned (OpenSpec.upto liftThreeSpec)

/-- 'marcotlaw04.LiftOver', WHERE WHAT IT READS IS OF BULK AT MOST 1048576: true; the input reads as it did. -/
def liftOverUptoRow : OpenClaim := { program := "ytlpnnheopalhaaa", sum := "3ee03d73177c6bfa6fb7585bbcee9aff34d2c23bcea50f583a901e93607e5695", func := "marcot/marcotlaw04.LiftOver", spec := "liftOver", apart := false, narrowed := true }
def LiftOverUptoSaid : Prop := liftOverUptoRow.holds Try.pinned (OpenSpec.upto liftOverSpec)

end Rows
end Go.Proofs.Ytlpnnheopalhaaa
