/-
  Two items compared by how deep their nodes are, as a closure; items cloned.
-/
import Derived.Test.YtegmpfmhlpdmhaaGreatDeepG
import Derived.Test.YtegmpfmhlpdmhaaGreatRight
namespace Go.Proofs.YtegmpfmhlpdmhaaGreat.Key
open Go.RowKit
set_option linter.unusedVariables false
set_option linter.unusedSimpArgs false

def cmpI (x y : Int) : Int := if x < y then -1 else if y < x then 1 else 0
end Go.Proofs.YtegmpfmhlpdmhaaGreat.Key
