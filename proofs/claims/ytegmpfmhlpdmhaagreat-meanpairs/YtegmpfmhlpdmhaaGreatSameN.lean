/-
  Contracts of Same (of nodes), the program's and the document's.
-/
import Derived.Test.YtegmpfmhlpdmhaaGreatAlike
import Derived.Test.YtegmpfmhlpdmhaaGreatMayN
namespace Go.Proofs.YtegmpfmhlpdmhaaGreat.Key
open Go.RowKit Draw
open Go.Op (bytesLess)

theorem two_nodes (w : World) (o o' : Obj) : Below w.heap.size w ((w.alloc o).alloc o') := (below_box w o).alloc (by simp) _

end Go.Proofs.YtegmpfmhlpdmhaaGreat.Key
