/-
  No cell of these rows narrows 'for every input' (looked for: loops, veiled, ifaces, maps, wideKeys, modest, calm, conditions, laid).
  DERIVED. THE GIVEN ROWS OF THIS SEAT. 3 by the template 'for every input the law returns true; each argument reads behind the call as it read before'; 0 by the template 'total and deterministic' (their statements: YtegmpfmhlpdmhaaTotals.lean).
  GIVEN WITH THE SEED: the statements are not yours to turn. If you find one false, say at which input.
  Laid BY PROGRAM, IN A SANDBOX (cutbox-rows.mjs): the forced cells as the released guide's own fill.sh prints them over the translation 56f4a9471ae2d873… (all of the seat's roots in one cut). By AI agents, Wed Nov 11 2026. No macro, syntax, notation, axiom, sorry.
-/
import Derived.Test.YtegmpfmhlpdmhaaChecked
import GoSem.Claim
import GoSem.ClaimJoined
import GoSem.ClaimMapViews
import Derived.JoinedTies
import Derived.KernelRfl
namespace Go.Proofs.Ytegmpfmhlpdmhaa
/- THE CELL 'sum', in the pinned program and in every row, IS THE sha256 OF THE DUMP (.gsa) THAT YtegmpfmhlpdmhaaProg.lean LOADS. Nothing in Lean hashes anything: it is a label: what it is worth is what the hold of that sum in a sandbox is worth. -/
noncomputable def Try.pinned : Pinned := { name := "ytegmpfmhlpdmhaa", sum := "56f4a9471ae2d873f962fd10004f50eeeb287f8657a79a99c6ec575cfaa33b31", checked := Try.checked }
namespace Rows
def none {H : Type} : Left H := { results := [], args := [] }

/-- 'marcotlaw10.MeanGets': WHATEVER THE INPUT: true; the input reads as it did. -/
def meanGetsSpec : ChangeSpec := { name := "meanGets", fn := fun _ => fun
  | [d1, d2, d3] => { results := [.lit (.bool true)], args := [d1, d2, d3] }
  | _ => none }
def meanGetsRow : OpenClaim := { program := "ytegmpfmhlpdmhaa", sum := "56f4a9471ae2d873f962fd10004f50eeeb287f8657a79a99c6ec575cfaa33b31", func := "marcot/marcotlaw10.MeanGets", spec := "meanGets", unfollowed := true, recurses := true, plainKeys := false, apart := false }
def MeanGetsSaid : Prop := meanGetsRow.holds Try.pinned (OpenSpec.ofChange meanGetsSpec)

/-- ITS FALSE NEIGHBOUR: 'it returns false'. Refute it at one input. -/
def meanGetsWrong : ChangeSpec := { name := "meanGets", fn := fun _ => fun
  | [d1, d2, d3] => { results := [.lit (.bool false)], args := [d1, d2, d3] }
  | _ => none }
def MeanGetsWrongFalsely : Prop := meanGetsRow.holds Try.pinned (OpenSpec.ofChange meanGetsWrong)

/-- 'marcotlaw10.MeanAgrees': WHATEVER THE INPUT: true; the input reads as it did. -/
def meanAgreesSpec : ChangeSpec := { name := "meanAgrees", fn := fun _ => fun
  | [d1, d2, d3, d4] => { results := [.lit (.bool true)], args := [d1, d2, d3, d4] }
  | _ => none }
def meanAgreesRow : OpenClaim := { program := "ytegmpfmhlpdmhaa", sum := "56f4a9471ae2d873f962fd10004f50eeeb287f8657a79a99c6ec575cfaa33b31", func := "marcot/marcotlaw10.MeanAgrees", spec := "meanAgrees", unfollowed := true, recurses := true, plainKeys := false, apart := false }
def MeanAgreesSaid : Prop := meanAgreesRow.holds Try.pinned (OpenSpec.ofChange meanAgreesSpec)

/-- ITS FALSE NEIGHBOUR: 'it returns false'. Refute it at one input. -/
def meanAgreesWrong : ChangeSpec := { name := "meanAgrees", fn := fun _ => fun
  | [d1, d2, d3, d4] => { results := [.lit (.bool false)], args := [d1, d2, d3, d4] }
  | _ => none }
def MeanAgreesWrongFalsely : Prop := meanAgreesRow.holds Try.pinned (OpenSpec.ofChange meanAgreesWrong)

/-- 'marcotlaw10.MeanParts': WHATEVER THE INPUT: true; the input reads as it did. -/
def meanPartsSpec : ChangeSpec := { name := "meanParts", fn := fun _ => fun
  | [d1, d2, d3, d4, d5] => { results := [.lit (.bool true)], args := [d1, d2, d3, d4, d5] }
  | _ => none }
def meanPartsRow : OpenClaim := { program := "ytegmpfmhlpdmhaa", sum := "56f4a9471ae2d873f962fd10004f50eeeb287f8657a79a99c6ec575cfaa33b31", func := "marcot/marcotlaw10.MeanParts", spec := "meanParts", unfollowed := true, recurses := true, plainKeys := false, apart := false }
def MeanPartsSaid : Prop := meanPartsRow.holds Try.pinned (OpenSpec.ofChange meanPartsSpec)

/-- ITS FALSE NEIGHBOUR: 'it returns false'. Refute it at one input. -/
def meanPartsWrong : ChangeSpec := { name := "meanParts", fn := fun _ => fun
  | [d1, d2, d3, d4, d5] => { results := [.lit (.bool false)], args := [d1, d2, d3, d4, d5] }
  | _ => none }
def MeanPartsWrongFalsely : Prop := meanPartsRow.holds Try.pinned (OpenSpec.ofChange meanPartsWrong)

/- THE SECOND FORM. 'bulk': how many values and letters a reading holds, each counted each time it is reached (what is shared counts as often as it is met; a slice's spare places count too). A statement '..UptoSaid' is the law's where the arguments, and the package variables that the reading takes, are together of bulk at most 1048576: NARROWER than '..Said'. Prove '..Said' where nothing that the law and all that it calls make is longer than what came in: it says more and counts as full. Else prove '..UptoSaid'. A law counts once. -/
mutual
def uptoBulk {H : Type} : DataW H → Nat
  | .lit (.string bytes) => bytes.length + 1
  | .lit _ => 1
  | .nil => 1
  | .ptr d => uptoBulk d + 1
  | .slice elems spare => uptoBulkAll elems + uptoBulkAll spare + 1
  | .agg parts => uptoBulkAll parts + 1
  | .iface _ d => uptoBulk d + 1
  | .map entries => uptoBulkEntries entries + 1
  | .held _ => 1
def uptoBulkAll {H : Type} : List (DataW H) → Nat
  | [] => 0
  | d :: r => uptoBulk d + uptoBulkAll r
def uptoBulkEntries {H : Type} : List (Lit × DataW H) → Nat
  | [] => 0
  | x :: r => uptoBulkEntry x + uptoBulkEntries r
def uptoBulkEntry {H : Type} : Lit × DataW H → Nat
  | (.string bytes, d) => bytes.length + uptoBulk d + 1
  | (_, d) => uptoBulk d + 1
 end
def uptoSmall : (H : Type) → List (DataW H) → Bool := fun _ ds => decide (uptoBulkAll ds ≤ 1048576)
def OpenSpec.upto (s : _root_.Go.ChangeSpec) : _root_.Go.OpenSpec := { _root_.Go.OpenSpec.ofChange s with cond := some uptoSmall }

/-- 'marcotlaw10.MeanGets', WHERE WHAT IT READS IS OF BULK AT MOST 1048576: true; the input reads as it did. -/
def meanGetsUptoRow : OpenClaim := { program := "ytegmpfmhlpdmhaa", sum := "56f4a9471ae2d873f962fd10004f50eeeb287f8657a79a99c6ec575cfaa33b31", func := "marcot/marcotlaw10.MeanGets", spec := "meanGets", unfollowed := true, recurses := true, plainKeys := false, apart := false, narrowed := true }
def MeanGetsUptoSaid : Prop := meanGetsUptoRow.holds Try.pinned (OpenSpec.upto meanGetsSpec)

/-- 'marcotlaw10.MeanAgrees', WHERE WHAT IT READS IS OF BULK AT MOST 1048576: true; the input reads as it did. -/
def meanAgreesUptoRow : OpenClaim := { program := "ytegmpfmhlpdmhaa", sum := "56f4a9471ae2d873f962fd10004f50eeeb287f8657a79a99c6ec575cfaa33b31", func := "marcot/marcotlaw10.MeanAgrees", spec := "meanAgrees", unfollowed := true, recurses := true, plainKeys := false, apart := false, narrowed := true }
def MeanAgreesUptoSaid : Prop := meanAgreesUptoRow.holds Try.pinned (OpenSpec.upto meanAgreesSpec)

/-- 'marcotlaw10.MeanParts', WHERE WHAT IT READS IS OF BULK AT MOST 1048576: true; the input reads as it did. -/
def meanPartsUptoRow : OpenClaim := { program := "ytegmpfmhlpdmhaa", sum := "56f4a9471ae2d873f962fd10004f50eeeb287f8657a79a99c6ec575cfaa33b31", func := "marcot/marcotlaw10.MeanParts", spec := "meanParts", unfollowed := true, recurses := true, plainKeys := false, apart := false, narrowed := true }
def MeanPartsUptoSaid : Prop := meanPartsUptoRow.holds Try.pinned (OpenSpec.upto meanPartsSpec)

end Rows
end Go.Proofs.Ytegmpfmhlpdmhaa
