/-
  No cell of these rows narrows 'for every input' (looked for: loops, veiled, ifaces, maps, wideKeys, modest, calm, conditions, laid).
  DERIVED. THE GIVEN ROWS OF THIS SEAT. 3 by the template 'for every input the law returns true; each argument reads behind the call as it read before'; 0 by the template 'total and deterministic' (their statements: YtmnngfbcgpholaaTotals.lean).
  GIVEN WITH THE SEED: the statements are not yours to turn. If you find one false, say at which input.
  Laid BY PROGRAM, IN A SANDBOX (cutbox-rows.mjs): the forced cells as the released guide's own fill.sh prints them over the translation 59de5ef8005aef7f… (all of the seat's roots in one cut). By AI agents, Wed Nov 11 2026. No macro, syntax, notation, axiom, sorry.
-/
import Derived.Test.YtmnngfbcgpholaaChecked
import GoSem.Claim
import GoSem.ClaimJoined
import GoSem.ClaimMapViews
import Derived.JoinedTies
import Derived.KernelRfl
namespace Go.Proofs.Ytmnngfbcgpholaa
/- THE CELL 'sum', in the pinned program and in every row, IS THE sha256 OF THE DUMP (.gsa) THAT YtmnngfbcgpholaaProg.lean LOADS. Nothing in Lean hashes anything: it is a label: what it is worth is what the hold of that sum in a sandbox is worth. -/
noncomputable def Try.pinned : Pinned := { name := "ytmnngfbcgpholaa", sum := "59de5ef8005aef7f026bcc194ca2e1ea8b7411a822763dfa66f4e3764cc87885", checked := Try.checked }
namespace Rows
def none {H : Type} : Left H := { results := [], args := [] }

/-- 'marcotlaw13.PastePlaces': WHATEVER THE INPUT: true; the input reads as it did. -/
def pastePlacesSpec : ChangeSpec := { name := "pastePlaces", fn := fun _ => fun
  | [d1, d2] => { results := [.lit (.bool true)], args := [d1, d2] }
  | _ => none }
def pastePlacesRow : OpenClaim := { program := "ytmnngfbcgpholaa", sum := "59de5ef8005aef7f026bcc194ca2e1ea8b7411a822763dfa66f4e3764cc87885", func := "marcot/marcotlaw13.PastePlaces", spec := "pastePlaces", unfollowed := true, recurses := true, apart := false }
def PastePlacesSaid : Prop := pastePlacesRow.holds Try.pinned (OpenSpec.ofChange pastePlacesSpec)

/-- ITS FALSE NEIGHBOUR: 'it returns false'. Refute it at one input. -/
def pastePlacesWrong : ChangeSpec := { name := "pastePlaces", fn := fun _ => fun
  | [d1, d2] => { results := [.lit (.bool false)], args := [d1, d2] }
  | _ => none }
def PastePlacesWrongFalsely : Prop := pastePlacesRow.holds Try.pinned (OpenSpec.ofChange pastePlacesWrong)

/-- 'marcotlaw13.PasteSizes': WHATEVER THE INPUT: true; the input reads as it did. -/
def pasteSizesSpec : ChangeSpec := { name := "pasteSizes", fn := fun _ => fun
  | [d] => { results := [.lit (.bool true)], args := [d] }
  | _ => none }
def pasteSizesRow : OpenClaim := { program := "ytmnngfbcgpholaa", sum := "59de5ef8005aef7f026bcc194ca2e1ea8b7411a822763dfa66f4e3764cc87885", func := "marcot/marcotlaw13.PasteSizes", spec := "pasteSizes", unfollowed := true, recurses := true, apart := false }
def PasteSizesSaid : Prop := pasteSizesRow.holds Try.pinned (OpenSpec.ofChange pasteSizesSpec)

/-- ITS FALSE NEIGHBOUR: 'it returns false'. Refute it at one input. -/
def pasteSizesWrong : ChangeSpec := { name := "pasteSizes", fn := fun _ => fun
  | [d] => { results := [.lit (.bool false)], args := [d] }
  | _ => none }
def PasteSizesWrongFalsely : Prop := pasteSizesRow.holds Try.pinned (OpenSpec.ofChange pasteSizesWrong)

/-- 'marcotlaw13.PasteDeep': WHATEVER THE INPUT: true; the input reads as it did. -/
def pasteDeepSpec : ChangeSpec := { name := "pasteDeep", fn := fun _ => fun
  | [d] => { results := [.lit (.bool true)], args := [d] }
  | _ => none }
def pasteDeepRow : OpenClaim := { program := "ytmnngfbcgpholaa", sum := "59de5ef8005aef7f026bcc194ca2e1ea8b7411a822763dfa66f4e3764cc87885", func := "marcot/marcotlaw13.PasteDeep", spec := "pasteDeep", unfollowed := true, recurses := true, apart := false }
def PasteDeepSaid : Prop := pasteDeepRow.holds Try.pinned (OpenSpec.ofChange pasteDeepSpec)

/-- ITS FALSE NEIGHBOUR: 'it returns false'. Refute it at one input. -/
def pasteDeepWrong : ChangeSpec := { name := "pasteDeep", fn := fun _ => fun
  | [d] => { results := [.lit (.bool false)], args := [d] }
  | _ => none }
def PasteDeepWrongFalsely : Prop := pasteDeepRow.holds Try.pinned (OpenSpec.ofChange pasteDeepWrong)

/- THE SECOND FORM. 'bulk': how many values and letters a reading holds, each counted each time it is reached (what is shared counts as often as it is met; a slice's spare places count too). A statement '..UptoSaid' is the law's where the arguments, and the package variables that the reading takes, are together of bulk at most 1048576: NARROWER than '..Said'. Prove '..Said' where nothing that the law and all that it calls make is longer than what came in: it says more and counts as full. Else prove '..UptoSaid'. A law counts once. -/
mutual
def uptoBulk {H : Type} : DataW H → Nat
  | .lit (.string bytes) => bytes.length + 1
  | .lit _ => 1
  | .nil => 1
  | .ptr d => uptoBulk d + 1
  | .slice elems spare => uptoBulkAll elems + uptoBulkAll spare + 1
  | .agg parts => uptoBulkAll parts + 1
  | .iface _ d => uptoBulk d + 1
  | .map entries => uptoBulkEntries entries + 1
  | .held _ => 1
def uptoBulkAll {H : Type} : List (DataW H) → Nat
  | [] => 0
  | d :: r => uptoBulk d + uptoBulkAll r
def uptoBulkEntries {H : Type} : List (Lit × DataW H) → Nat
  | [] => 0
  | x :: r => uptoBulkEntry x + uptoBulkEntries r
def uptoBulkEntry {H : Type} : Lit × DataW H → Nat
  | (.string bytes, d) => bytes.length + uptoBulk d + 1
  | (_, d) => uptoBulk d + 1
 end
def uptoSmall : (H : Type) → List (DataW H) → Bool := fun _ ds => decide (uptoBulkAll ds ≤ 1048576)
def OpenSpec.upto (s : _root_.Go.ChangeSpec) : _root_.Go.OpenSpec := { _root_.Go.OpenSpec.ofChange s with cond := some uptoSmall }

/-- 'marcotlaw13.PastePlaces', WHERE WHAT IT READS IS OF BULK AT MOST 1048576: true; the input reads as it did. -/
def pastePlacesUptoRow : OpenClaim := { program := "ytmnngfbcgpholaa", sum := "59de5ef8005aef7f026bcc194ca2e1ea8b7411a822763dfa66f4e3764cc87885", func := "marcot/marcotlaw13.PastePlaces", spec := "pastePlaces", unfollowed := true, recurses := true, apart := false, narrowed := true }
def PastePlacesUptoSaid : Prop := pastePlacesUptoRow.holds Try.pinned (OpenSpec.upto pastePlacesSpec)

/-- 'marcotlaw13.PasteSizes', WHERE WHAT IT READS IS OF BULK AT MOST 1048576: true; the input reads as it did. -/
def pasteSizesUptoRow : OpenClaim := { program := "ytmnngfbcgpholaa", sum := "59de5ef8005aef7f026bcc194ca2e1ea8b7411a822763dfa66f4e3764cc87885", func := "marcot/marcotlaw13.PasteSizes", spec := "pasteSizes", unfollowed := true, recurses := true, apart := false, narrowed := true }
def PasteSizesUptoSaid : Prop := pasteSizesUptoRow.holds Try.pinned (OpenSpec.upto pasteSizesSpec)

/-- 'marcotlaw13.PasteDeep', WHERE WHAT IT READS IS OF BULK AT MOST 1048576: true; the input reads as it did. -/
def pasteDeepUptoRow : OpenClaim := { program := "ytmnngfbcgpholaa", sum := "59de5ef8005aef7f026bcc194ca2e1ea8b7411a822763dfa66f4e3764cc87885", func := "marcot/marcotlaw13.PasteDeep", spec := "pasteDeep", unfollowed := true, recurses := true, apart := false, narrowed := true }
def PasteDeepUptoSaid : Prop := pasteDeepUptoRow.holds Try.pinned (OpenSpec.upto pasteDeepSpec)

end Rows
end Go.Proofs.Ytmnngfbcgpholaa
