/-
  Contract of Join, the document's.
-/
import Derived.Test.YtlkcoaencliajaaLJoin
namespace Go.Proofs.Ytlkcoaencliajaa.Key
open Go.RowKit
open Go.Op (bytesLess)

theorem join_cut {s p q d : ByteArray} {n : Nat} (hn : n = min p.size q.size) :
    ((p.extract 0 n).toList = (q.extract 0 n).toList → joS (joinO (lf s p) (lf q d)) = s ++ q.extract n q.size ∧ joA (joinO (lf s p) (lf q d)) = d ++ p.extract n p.size ∧ (joinO (lf s p) (lf q d)).isSome = true) ∧
    ((p.extract 0 n).toList ≠ (q.extract 0 n).toList → joinO (lf s p) (lf q d) = none) := by
  have h := join_min (lf s p) (lf q d)
  rw [show (lf s p).add.length = p.size from (Lib.size_eq p).symm, show (lf q d).strip.length = q.size from (Lib.size_eq q).symm, ← hn] at h
  rw [Lib.toList_data, Lib.toList_data, cut_data, cut_data]
  refine ⟨fun e => ?_, h.2⟩
  rw [h.1 e, str_append, str_append, drop_data, drop_data]
  exact ⟨rfl, rfl, rfl⟩

set_option maxRecDepth 100000 in
set_option maxHeartbeats 1000000 in
theorem join19_le (s p q d : ByteArray) (w : World) (hs : s.size ≤ 1000000) (hp : p.size ≤ 1000000) (hq : q.size ≤ 1000000) (hd : d.size ≤ 1000000) (hl : p.size ≤ q.size) :
    Calls Try.prog 64 #[lv s p, lv q d] w fun x w' => x = .returned (.tuple #[lv (joS (joinO (lf s p) (lf q d))) (joA (joinO (lf s p) (lf q d))), .bool (joinO (lf s p) (lf q d)).isSome]) ∧ Below w.heap.size w w' := by
  obtain ⟨hy, hn⟩ := join_cut (s := s) (p := p) (q := q) (d := d) (n := p.size) (by omega)
  have hle : w.heap.size ≤ w.heap.size + 1 + 1 := by omega
  have hl' : ¬ (q.size : Int) < (p.size : Int) := by omega
  rw [ByteArray.extract_zero_size] at hy hn
  cases hc : (p.toList == (q.extract 0 p.size).toList)
  · rw [hn (by simpa using hc)]
    show Calls Try.prog 64 #[lv s p, lv q d] w fun x w' => x = .returned (.tuple #[lv ⟨#[]⟩ ⟨#[]⟩, .bool false]) ∧ Below w.heap.size w w'
    clear hy hn
    go_enter Try.func64, Try.ntmps64
    go_wp2_with fail
    go_quiet (fail)
    go_wp2_with fail
    exact bodyPost_ret (v := .tuple #[lv ⟨#[]⟩ ⟨#[]⟩, .bool false]) (by simp [results, Try.results64, go_sem]) rfl ⟨rfl, ((below_drew (below_three _ _ _ _) _).setCell hle _).setCell hle _⟩
  · obtain ⟨e1, e2, e3⟩ := hy (by simpa using hc)
    rw [show d ++ p.extract p.size p.size = d by simp] at e2
    rw [e1, e2, e3]
    clear hy hn e1 e2 e3
    go_enter Try.func64, Try.ntmps64
    go_wp2_with fail
    go_quiet (fail)
    go_wp2_with fail
    go_region
    go_wp2_with fail
    exact bodyPost_ret (v := .tuple #[lv (s ++ q.extract p.size q.size) d, .bool true]) (by simp [results, Try.results64, go_sem]) rfl ⟨rfl, ((below_drew (below_three _ _ _ _) _).setCell hle _).setCell hle _⟩
set_option maxRecDepth 100000 in
set_option maxHeartbeats 1000000 in
theorem join19_gt (s p q d : ByteArray) (w : World) (hs : s.size ≤ 1000000) (hp : p.size ≤ 1000000) (hq : q.size ≤ 1000000) (hd : d.size ≤ 1000000) (hl : q.size < p.size) :
    Calls Try.prog 64 #[lv s p, lv q d] w fun x w' => x = .returned (.tuple #[lv (joS (joinO (lf s p) (lf q d))) (joA (joinO (lf s p) (lf q d))), .bool (joinO (lf s p) (lf q d)).isSome]) ∧ Below w.heap.size w w' := by
  obtain ⟨hy, hn⟩ := join_cut (s := s) (p := p) (q := q) (d := d) (n := q.size) (by omega)
  have hle : w.heap.size ≤ w.heap.size + 1 + 1 := by omega
  have hl' : (q.size : Int) < (p.size : Int) := by omega
  rw [ByteArray.extract_zero_size] at hy hn
  cases hc : ((p.extract 0 q.size).toList == q.toList)
  · rw [hn (by simpa using hc)]
    show Calls Try.prog 64 #[lv s p, lv q d] w fun x w' => x = .returned (.tuple #[lv ⟨#[]⟩ ⟨#[]⟩, .bool false]) ∧ Below w.heap.size w w'
    clear hy hn
    go_enter Try.func64, Try.ntmps64
    go_wp2_with fail
    go_quiet (fail)
    go_wp2_with fail
    exact bodyPost_ret (v := .tuple #[lv ⟨#[]⟩ ⟨#[]⟩, .bool false]) (by simp [results, Try.results64, go_sem]) rfl ⟨rfl, ((below_drew (below_three _ _ _ _) _).setCell hle _).setCell hle _⟩
  · obtain ⟨e1, e2, e3⟩ := hy (by simpa using hc)
    rw [show s ++ q.extract q.size q.size = s by simp] at e1
    rw [e1, e2, e3]
    clear hy hn e1 e2 e3
    go_enter Try.func64, Try.ntmps64
    go_wp2_with fail
    go_quiet (fail)
    go_wp2_with fail
    go_region
    go_wp2_with fail
    exact bodyPost_ret (v := .tuple #[lv s (d ++ p.extract q.size p.size), .bool true]) (by simp [results, Try.results64, go_sem]) rfl ⟨rfl, ((below_drew (below_three _ _ _ _) _).setCell hle _).setCell hle _⟩
/-- Join, the document's -/
theorem join19 (s p q d : ByteArray) (w : World) (hs : s.size ≤ 1000000) (hp : p.size ≤ 1000000) (hq : q.size ≤ 1000000) (hd : d.size ≤ 1000000) :
    Calls Try.prog 64 #[lv s p, lv q d] w fun x w' => x = .returned (.tuple #[lv (joS (joinO (lf s p) (lf q d))) (joA (joinO (lf s p) (lf q d))), .bool (joinO (lf s p) (lf q d)).isSome]) ∧ Below w.heap.size w w' := by
  rcases Nat.lt_or_ge q.size p.size with h | h
  · exact join19_gt s p q d w hs hp hq hd h
  · exact join19_le s p q d w hs hp hq hd h
end Go.Proofs.Ytlkcoaencliajaa.Key
