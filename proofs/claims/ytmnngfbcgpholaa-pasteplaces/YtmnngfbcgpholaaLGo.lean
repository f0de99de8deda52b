/-
  Contracts of Up, Down and Turn, the program's and the document's; blocks that hold a lift.
-/
import Derived.Test.YtmnngfbcgpholaaLCutRef
namespace Go.Proofs.Ytmnngfbcgpholaa.Key
open Go.RowKit
open Go.Op (bytesLess)

end Go.Proofs.Ytmnngfbcgpholaa.Key
