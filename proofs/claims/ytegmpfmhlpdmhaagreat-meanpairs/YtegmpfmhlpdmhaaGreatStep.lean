/-
  Sizes of a node that a call goes through.
-/
import Derived.Test.YtegmpfmhlpdmhaaGreatMayN
namespace Go.Proofs.YtegmpfmhlpdmhaaGreat.Key
/-- sizes that a call goes through -/
structure Small (n : Nd) : Prop where
  few : Few n
  kb : ∀ m ∈ n.bf, m.key.size ≤ 1000
  ab : ∀ m ∈ n.bf, m.add.size ≤ 1000
  ae : ∀ e ∈ n.ks, e.add.size ≤ 1000
  db : ∀ m ∈ n.bf, 0 ≤ m.deep ∧ m.deep ≤ 65535
  de : ∀ e ∈ n.ks, 0 ≤ e.deep ∧ e.deep ≤ 65535
end Go.Proofs.YtegmpfmhlpdmhaaGreat.Key
