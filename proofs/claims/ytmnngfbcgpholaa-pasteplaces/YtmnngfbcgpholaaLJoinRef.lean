/-
  Contract of Join, the document's.
-/
import Derived.Test.YtmnngfbcgpholaaLJoin
namespace Go.Proofs.Ytmnngfbcgpholaa.Key
open Go.RowKit
open Go.Op (bytesLess)

theorem join_cut {s p q d : ByteArray} {n : Nat} (hn : n = min p.size q.size) :
    ((p.extract 0 n).toList = (q.extract 0 n).toList → joS (joinO (lf s p) (lf q d)) = s ++ q.extract n q.size ∧ joA (joinO (lf s p) (lf q d)) = d ++ p.extract n p.size ∧ (joinO (lf s p) (lf q d)).isSome = true) ∧
    ((p.extract 0 n).toList ≠ (q.extract 0 n).toList → joinO (lf s p) (lf q d) = none) := by
  have h := join_min (lf s p) (lf q d)
  rw [show (lf s p).add.length = p.size from (Lib.size_eq p).symm, show (lf q d).strip.length = q.size from (Lib.size_eq q).symm, ← hn] at h
  rw [Lib.toList_data, Lib.toList_data, cut_data, cut_data]
  refine ⟨fun e => ?_, h.2⟩
  rw [h.1 e, str_append, str_append, drop_data, drop_data]
  exact ⟨rfl, rfl, rfl⟩

end Go.Proofs.Ytmnngfbcgpholaa.Key
