/-
  No cell of these rows narrows 'for every input' (looked for: loops, veiled, ifaces, maps, wideKeys, modest, calm, conditions, laid).
  DERIVED. THE GIVEN ROWS OF THIS SEAT. 4 by the template 'for every input the law returns true; each argument reads behind the call as it read before'; 0 by the template 'total and deterministic' (their statements: YtlkcoaencliajaaTotals.lean).
  GIVEN WITH THE SEED: the statements are not yours to turn. If you find one false, say at which input.
  Laid BY PROGRAM, IN A SANDBOX (cutbox-rows.mjs): the forced cells as the released guide's own fill.sh prints them over the translation 705ee0315aec1d69… (all of the seat's roots in one cut). By AI agents, Wed Nov 11 2026. No macro, syntax, notation, axiom, sorry.
-/
import Derived.Test.YtlkcoaencliajaaChecked
import GoSem.Claim
import GoSem.ClaimJoined
import GoSem.ClaimMapViews
import Derived.JoinedTies
import Derived.KernelRfl
namespace Go.Proofs.Ytlkcoaencliajaa
/- THE CELL 'sum', in the pinned program and in every row, IS THE sha256 OF THE DUMP (.gsa) THAT YtlkcoaencliajaaProg.lean LOADS. Nothing in Lean hashes anything: it is a label: what it is worth is what the hold of that sum in a sandbox is worth. -/
noncomputable def Try.pinned : Pinned := { name := "ytlkcoaencliajaa", sum := "705ee0315aec1d694c539dfc9fef685ab6884fd571311a3d7081c991ea615318", checked := Try.checked }
namespace Rows
def none {H : Type} : Left H := { results := [], args := [] }

/-- 'marcotlaw12.SplitPieces': WHATEVER THE INPUT: true; the input reads as it did. -/
def splitPiecesSpec : ChangeSpec := { name := "splitPieces", fn := fun _ => fun
  | [d1, d2, d3, d4] => { results := [.lit (.bool true)], args := [d1, d2, d3, d4] }
  | _ => none }
def splitPiecesRow : OpenClaim := { program := "ytlkcoaencliajaa", sum := "705ee0315aec1d694c539dfc9fef685ab6884fd571311a3d7081c991ea615318", func := "marcot/marcotlaw12.SplitPieces", spec := "splitPieces", unfollowed := true, recurses := true, apart := false }
def SplitPiecesSaid : Prop := splitPiecesRow.holds Try.pinned (OpenSpec.ofChange splitPiecesSpec)

/-- ITS FALSE NEIGHBOUR: 'it returns false'. Refute it at one input. -/
def splitPiecesWrong : ChangeSpec := { name := "splitPieces", fn := fun _ => fun
  | [d1, d2, d3, d4] => { results := [.lit (.bool false)], args := [d1, d2, d3, d4] }
  | _ => none }
def SplitPiecesWrongFalsely : Prop := splitPiecesRow.holds Try.pinned (OpenSpec.ofChange splitPiecesWrong)

/-- 'marcotlaw12.SplitLeads': WHATEVER THE INPUT: true; the input reads as it did. -/
def splitLeadsSpec : ChangeSpec := { name := "splitLeads", fn := fun _ => fun
  | [d1, d2, d3, d4, d5] => { results := [.lit (.bool true)], args := [d1, d2, d3, d4, d5] }
  | _ => none }
def splitLeadsRow : OpenClaim := { program := "ytlkcoaencliajaa", sum := "705ee0315aec1d694c539dfc9fef685ab6884fd571311a3d7081c991ea615318", func := "marcot/marcotlaw12.SplitLeads", spec := "splitLeads", unfollowed := true, recurses := true, apart := false }
def SplitLeadsSaid : Prop := splitLeadsRow.holds Try.pinned (OpenSpec.ofChange splitLeadsSpec)

/-- ITS FALSE NEIGHBOUR: 'it returns false'. Refute it at one input. -/
def splitLeadsWrong : ChangeSpec := { name := "splitLeads", fn := fun _ => fun
  | [d1, d2, d3, d4, d5] => { results := [.lit (.bool false)], args := [d1, d2, d3, d4, d5] }
  | _ => none }
def SplitLeadsWrongFalsely : Prop := splitLeadsRow.holds Try.pinned (OpenSpec.ofChange splitLeadsWrong)

/-- 'marcotlaw12.SplitHalves': WHATEVER THE INPUT: true; the input reads as it did. -/
def splitHalvesSpec : ChangeSpec := { name := "splitHalves", fn := fun _ => fun
  | [d] => { results := [.lit (.bool true)], args := [d] }
  | _ => none }
def splitHalvesRow : OpenClaim := { program := "ytlkcoaencliajaa", sum := "705ee0315aec1d694c539dfc9fef685ab6884fd571311a3d7081c991ea615318", func := "marcot/marcotlaw12.SplitHalves", spec := "splitHalves", unfollowed := true, recurses := true, apart := false }
def SplitHalvesSaid : Prop := splitHalvesRow.holds Try.pinned (OpenSpec.ofChange splitHalvesSpec)

/-- ITS FALSE NEIGHBOUR: 'it returns false'. Refute it at one input. -/
def splitHalvesWrong : ChangeSpec := { name := "splitHalves", fn := fun _ => fun
  | [d] => { results := [.lit (.bool false)], args := [d] }
  | _ => none }
def SplitHalvesWrongFalsely : Prop := splitHalvesRow.holds Try.pinned (OpenSpec.ofChange splitHalvesWrong)

/-- 'marcotlaw12.SplitJoins': WHATEVER THE INPUT: true; the input reads as it did. -/
def splitJoinsSpec : ChangeSpec := { name := "splitJoins", fn := fun _ => fun
  | [d1, d2, d3, d4] => { results := [.lit (.bool true)], args := [d1, d2, d3, d4] }
  | _ => none }
def splitJoinsRow : OpenClaim := { program := "ytlkcoaencliajaa", sum := "705ee0315aec1d694c539dfc9fef685ab6884fd571311a3d7081c991ea615318", func := "marcot/marcotlaw12.SplitJoins", spec := "splitJoins", recurses := true, apart := false }
def SplitJoinsSaid : Prop := splitJoinsRow.holds Try.pinned (OpenSpec.ofChange splitJoinsSpec)

/-- ITS FALSE NEIGHBOUR: 'it returns false'. Refute it at one input. -/
def splitJoinsWrong : ChangeSpec := { name := "splitJoins", fn := fun _ => fun
  | [d1, d2, d3, d4] => { results := [.lit (.bool false)], args := [d1, d2, d3, d4] }
  | _ => none }
def SplitJoinsWrongFalsely : Prop := splitJoinsRow.holds Try.pinned (OpenSpec.ofChange splitJoinsWrong)

/- THE SECOND FORM. 'bulk': how many values and letters a reading holds, each counted each time it is reached (what is shared counts as often as it is met; a slice's spare places count too). A statement '..UptoSaid' is the law's where the arguments, and the package variables that the reading takes, are together of bulk at most 1048576: NARROWER than '..Said'. Prove '..Said' where nothing that the law and all that it calls make is longer than what came in: it says more and counts as full. Else prove '..UptoSaid'. A law counts once. -/
mutual
def uptoBulk {H : Type} : DataW H → Nat
  | .lit (.string bytes) => bytes.length + 1
  | .lit _ => 1
  | .nil => 1
  | .ptr d => uptoBulk d + 1
  | .slice elems spare => uptoBulkAll elems + uptoBulkAll spare + 1
  | .agg parts => uptoBulkAll parts + 1
  | .iface _ d => uptoBulk d + 1
  | .map entries => uptoBulkEntries entries + 1
  | .held _ => 1
def uptoBulkAll {H : Type} : List (DataW H) → Nat
  | [] => 0
  | d :: r => uptoBulk d + uptoBulkAll r
def uptoBulkEntries {H : Type} : List (Lit × DataW H) → Nat
  | [] => 0
  | x :: r => uptoBulkEntry x + uptoBulkEntries r
def uptoBulkEntry {H : Type} : Lit × DataW H → Nat
  | (.string bytes, d) => bytes.length + uptoBulk d + 1
  | (_, d) => uptoBulk d + 1
 end
def uptoSmall : (H : Type) → List (DataW H) → Bool := fun _ ds => decide (uptoBulkAll ds ≤ 1048576)
def OpenSpec.upto (s : _root_.Go.ChangeSpec) : _root_.Go.OpenSpec := { _root_.Go.OpenSpec.ofChange s with cond := some uptoSmall }

/-- 'marcotlaw12.SplitPieces', WHERE WHAT IT READS IS OF BULK AT MOST 1048576: true; the input reads as it did. -/
def splitPiecesUptoRow : OpenClaim := { program := "ytlkcoaencliajaa", sum := "705ee0315aec1d694c539dfc9fef685ab6884fd571311a3d7081c991ea615318", func := "marcot/marcotlaw12.SplitPieces", spec := "splitPieces", unfollowed := true, recurses := true, apart := false, narrowed := true }
def SplitPiecesUptoSaid : Prop := splitPiecesUptoRow.holds Try.pinned (OpenSpec.upto splitPiecesSpec)

/-- 'marcotlaw12.SplitLeads', WHERE WHAT IT READS IS OF BULK AT MOST 1048576: true; the input reads as it did. -/
def splitLeadsUptoRow : OpenClaim := { program := "ytlkcoaencliajaa", sum := "705ee0315aec1d694c539dfc9fef685ab6884fd571311a3d7081c991ea615318", func := "marcot/marcotlaw12.SplitLeads", spec := "splitLeads", unfollowed := true, recurses := true, apart := false, narrowed := true }
def SplitLeadsUptoSaid : Prop := splitLeadsUptoRow.holds Try.pinned (OpenSpec.upto splitLeadsSpec)

/-- 'marcotlaw12.SplitHalves', WHERE WHAT IT READS IS OF BULK AT MOST 1048576: true; the input reads as it did. -/
def splitHalvesUptoRow : OpenClaim := { program := "ytlkcoaencliajaa", sum := "705ee0315aec1d694c539dfc9fef685ab6884fd571311a3d7081c991ea615318", func := "marcot/marcotlaw12.SplitHalves", spec := "splitHalves", unfollowed := true, recurses := true, apart := false, narrowed := true }
def SplitHalvesUptoSaid : Prop := splitHalvesUptoRow.holds Try.pinned (OpenSpec.upto splitHalvesSpec)

/-- 'marcotlaw12.SplitJoins', WHERE WHAT IT READS IS OF BULK AT MOST 1048576: true; the input reads as it did. -/
def splitJoinsUptoRow : OpenClaim := { program := "ytlkcoaencliajaa", sum := "705ee0315aec1d694c539dfc9fef685ab6884fd571311a3d7081c991ea615318", func := "marcot/marcotlaw12.SplitJoins", spec := "splitJoins", recurses := true, apart := false, narrowed := true }
def SplitJoinsUptoSaid : Prop := splitJoinsUptoRow.holds Try.pinned (OpenSpec.upto splitJoinsSpec)

end Rows
end Go.Proofs.Ytlkcoaencliajaa
