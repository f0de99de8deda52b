/-
  No cell of these rows narrows 'for every input' (looked for: loops, veiled, ifaces, maps, wideKeys, modest, calm, conditions, laid).
  DERIVED. THE GIVEN ROWS OF THIS SEAT. 4 by the template 'for every input the law returns true; each argument reads behind the call as it read before'; 0 by the template 'total and deterministic' (their statements: YthhlimkcnppkaaaTotals.lean).
  GIVEN WITH THE SEED: the statements are not yours to turn. If you find one false, say at which input.
  Laid BY PROGRAM, IN A SANDBOX (cutbox-rows.mjs): the forced cells as the released guide's own fill.sh prints them over the translation cde4255a0bd6052f… (all of the seat's roots in one cut). By AI agents, Wed Nov 11 2026. No macro, syntax, notation, axiom, sorry.
-/
import Derived.Test.YthhlimkcnppkaaaChecked
import GoSem.Claim
import GoSem.ClaimJoined
import GoSem.ClaimMapViews
import Derived.JoinedTies
import Derived.KernelRfl
namespace Go.Proofs.Ythhlimkcnppkaaa
/- THE CELL 'sum', in the pinned program and in every row, IS THE sha256 OF THE DUMP (.gsa) THAT YthhlimkcnppkaaaProg.lean LOADS. Nothing in Lean hashes anything: it is a label: what it is worth is what the hold of that sum in a sandbox is worth. -/
noncomputable def Try.pinned : Pinned := { name := "ythhlimkcnppkaaa", sum := "cde4255a0bd6052fe464396d2046c307d980f12aa9079c72f993f0158c0b92f5", checked := Try.checked }
namespace Rows
def none {H : Type} : Left H := { results := [], args := [] }

/-- 'marcotlaw11.TrimParts': WHATEVER THE INPUT: true; the input reads as it did. -/
def trimPartsSpec : ChangeSpec := { name := "trimParts", fn := fun _ => fun
  | [d1, d2, d3] => { results := [.lit (.bool true)], args := [d1, d2, d3] }
  | _ => none }
def trimPartsRow : OpenClaim := { program := "ythhlimkcnppkaaa", sum := "cde4255a0bd6052fe464396d2046c307d980f12aa9079c72f993f0158c0b92f5", func := "marcot/marcotlaw11.TrimParts", spec := "trimParts", unfollowed := true, recurses := true, apart := false }
def TrimPartsSaid : Prop := trimPartsRow.holds Try.pinned (OpenSpec.ofChange trimPartsSpec)

/-- ITS FALSE NEIGHBOUR: 'it returns false'. Refute it at one input. -/
def trimPartsWrong : ChangeSpec := { name := "trimParts", fn := fun _ => fun
  | [d1, d2, d3] => { results := [.lit (.bool false)], args := [d1, d2, d3] }
  | _ => none }
def TrimPartsWrongFalsely : Prop := trimPartsRow.holds Try.pinned (OpenSpec.ofChange trimPartsWrong)

/-- 'marcotlaw11.TrimLeads': WHATEVER THE INPUT: true; the input reads as it did. -/
def trimLeadsSpec : ChangeSpec := { name := "trimLeads", fn := fun _ => fun
  | [d1, d2, d3, d4] => { results := [.lit (.bool true)], args := [d1, d2, d3, d4] }
  | _ => none }
def trimLeadsRow : OpenClaim := { program := "ythhlimkcnppkaaa", sum := "cde4255a0bd6052fe464396d2046c307d980f12aa9079c72f993f0158c0b92f5", func := "marcot/marcotlaw11.TrimLeads", spec := "trimLeads", unfollowed := true, recurses := true, apart := false }
def TrimLeadsSaid : Prop := trimLeadsRow.holds Try.pinned (OpenSpec.ofChange trimLeadsSpec)

/-- ITS FALSE NEIGHBOUR: 'it returns false'. Refute it at one input. -/
def trimLeadsWrong : ChangeSpec := { name := "trimLeads", fn := fun _ => fun
  | [d1, d2, d3, d4] => { results := [.lit (.bool false)], args := [d1, d2, d3, d4] }
  | _ => none }
def TrimLeadsWrongFalsely : Prop := trimLeadsRow.holds Try.pinned (OpenSpec.ofChange trimLeadsWrong)

/-- 'marcotlaw11.TrimTwice': WHATEVER THE INPUT: true; the input reads as it did. -/
def trimTwiceSpec : ChangeSpec := { name := "trimTwice", fn := fun _ => fun
  | [d1, d2, d3, d4, d5] => { results := [.lit (.bool true)], args := [d1, d2, d3, d4, d5] }
  | _ => none }
def trimTwiceRow : OpenClaim := { program := "ythhlimkcnppkaaa", sum := "cde4255a0bd6052fe464396d2046c307d980f12aa9079c72f993f0158c0b92f5", func := "marcot/marcotlaw11.TrimTwice", spec := "trimTwice", unfollowed := true, recurses := true, apart := false }
def TrimTwiceSaid : Prop := trimTwiceRow.holds Try.pinned (OpenSpec.ofChange trimTwiceSpec)

/-- ITS FALSE NEIGHBOUR: 'it returns false'. Refute it at one input. -/
def trimTwiceWrong : ChangeSpec := { name := "trimTwice", fn := fun _ => fun
  | [d1, d2, d3, d4, d5] => { results := [.lit (.bool false)], args := [d1, d2, d3, d4, d5] }
  | _ => none }
def TrimTwiceWrongFalsely : Prop := trimTwiceRow.holds Try.pinned (OpenSpec.ofChange trimTwiceWrong)

/-- 'marcotlaw11.TrimShifts': WHATEVER THE INPUT: true; the input reads as it did. -/
def trimShiftsSpec : ChangeSpec := { name := "trimShifts", fn := fun _ => fun
  | [d1, d2, d3] => { results := [.lit (.bool true)], args := [d1, d2, d3] }
  | _ => none }
def trimShiftsRow : OpenClaim := { program := "ythhlimkcnppkaaa", sum := "cde4255a0bd6052fe464396d2046c307d980f12aa9079c72f993f0158c0b92f5", func := "marcot/marcotlaw11.TrimShifts", spec := "trimShifts", unfollowed := true, recurses := true, apart := false }
def TrimShiftsSaid : Prop := trimShiftsRow.holds Try.pinned (OpenSpec.ofChange trimShiftsSpec)

/-- ITS FALSE NEIGHBOUR: 'it returns false'. Refute it at one input. -/
def trimShiftsWrong : ChangeSpec := { name := "trimShifts", fn := fun _ => fun
  | [d1, d2, d3] => { results := [.lit (.bool false)], args := [d1, d2, d3] }
  | _ => none }
def TrimShiftsWrongFalsely : Prop := trimShiftsRow.holds Try.pinned (OpenSpec.ofChange trimShiftsWrong)

/- THE SECOND FORM. 'bulk': how many values and letters a reading holds, each counted each time it is reached (what is shared counts as often as it is met; a slice's spare places count too). A statement '..UptoSaid' is the law's where the arguments, and the package variables that the reading takes, are together of bulk at most 1048576: NARROWER than '..Said'. Prove '..Said' where nothing that the law and all that it calls make is longer than what came in: it says more and counts as full. Else prove '..UptoSaid'. A law counts once. -/
mutual
def uptoBulk {H : Type} : DataW H → Nat
  | .lit (.string bytes) => bytes.length + 1
  | .lit _ => 1
  | .nil => 1
  | .ptr d => uptoBulk d + 1
  | .slice elems spare => uptoBulkAll elems + uptoBulkAll spare + 1
  | .agg parts => uptoBulkAll parts + 1
  | .iface _ d => uptoBulk d + 1
  | .map entries => uptoBulkEntries entries + 1
  | .held _ => 1
def uptoBulkAll {H : Type} : List (DataW H) → Nat
  | [] => 0
  | d :: r => uptoBulk d + uptoBulkAll r
def uptoBulkEntries {H : Type} : List (Lit × DataW H) → Nat
  | [] => 0
  | x :: r => uptoBulkEntry x + uptoBulkEntries r
def uptoBulkEntry {H : Type} : Lit × DataW H → Nat
  | (.string bytes, d) => bytes.length + uptoBulk d + 1
  | (_, d) => uptoBulk d + 1
 end
def uptoSmall : (H : Type) → List (DataW H) → Bool := fun _ ds => decide (uptoBulkAll ds ≤ 1048576)
def OpenSpec.upto (s : _root_.Go.ChangeSpec) : _root_.Go.OpenSpec := { _root_.Go.OpenSpec.ofChange s with cond := some uptoSmall }

/-- 'marcotlaw11.TrimParts', WHERE WHAT IT READS IS OF BULK AT MOST 1048576: true; the input reads as it did. -/
def trimPartsUptoRow : OpenClaim := { program := "ythhlimkcnppkaaa", sum := "cde4255a0bd6052fe464396d2046c307d980f12aa9079c72f993f0158c0b92f5", func := "marcot/marcotlaw11.TrimParts", spec := "trimParts", unfollowed := true, recurses := true, apart := false, narrowed := true }
def TrimPartsUptoSaid : Prop := trimPartsUptoRow.holds Try.pinned (OpenSpec.upto trimPartsSpec)

/-- 'marcotlaw11.TrimLeads', WHERE WHAT IT READS IS OF BULK AT MOST 1048576: true; the input reads as it did. -/
def trimLeadsUptoRow : OpenClaim := { program := "ythhlimkcnppkaaa", sum := "cde4255a0bd6052fe464396d2046c307d980f12aa9079c72f993f0158c0b92f5", func := "marcot/marcotlaw11.TrimLeads", spec := "trimLeads", unfollowed := true, recurses := true, apart := false, narrowed := true }
def TrimLeadsUptoSaid : Prop := trimLeadsUptoRow.holds Try.pinned (OpenSpec.upto trimLeadsSpec)

/-- 'marcotlaw11.TrimTwice', WHERE WHAT IT READS IS OF BULK AT MOST 1048576: true; the input reads as it did. -/
def trimTwiceUptoRow : OpenClaim := { program := "ythhlimkcnppkaaa", sum := "cde4255a0bd6052fe464396d2046c307d980f12aa9079c72f993f0158c0b92f5", func := "marcot/marcotlaw11.TrimTwice", spec := "trimTwice", unfollowed := true, recurses := true, apart := false, narrowed := true }
def TrimTwiceUptoSaid : Prop := trimTwiceUptoRow.holds Try.pinned (OpenSpec.upto trimTwiceSpec)

/-- 'marcotlaw11.TrimShifts', WHERE WHAT IT READS IS OF BULK AT MOST 1048576: true; the input reads as it did. -/
def trimShiftsUptoRow : OpenClaim := { program := "ythhlimkcnppkaaa", sum := "cde4255a0bd6052fe464396d2046c307d980f12aa9079c72f993f0158c0b92f5", func := "marcot/marcotlaw11.TrimShifts", spec := "trimShifts", unfollowed := true, recurses := true, apart := false, narrowed := true }
def TrimShiftsUptoSaid : Prop := trimShiftsUptoRow.holds Try.pinned (OpenSpec.upto trimShiftsSpec)

end Rows
end Go.Proofs.Ythhlimkcnppkaaa
