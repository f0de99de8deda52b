/-
  Contracts of Join, the program's and the document's, and the document's examples, as each statement asks them.
-/
import Derived.Test.YtlkcoaencliajaaLGo
import Derived.Laws.StructEq
namespace Go.Proofs.Ytlkcoaencliajaa.Key
open Go.RowKit
open Go.Op (bytesLess)

/-- what Join answers -/
def joS (o : Option Lft) : ByteArray := str ((o.map Lft.strip).getD [])
def joA (o : Option Lft) : ByteArray := str ((o.map Lft.add).getD [])
theorem join_front {s p q d : ByteArray} (h : has p.data.toList q.data.toList = true) :
    joS (joinO (lf s p) (lf q d)) = s ∧ joA (joinO (lf s p) (lf q d)) = upS (lf q d) p.data.toList ∧ (joinO (lf s p) (lf q d)).isSome = true := by
  have e : joinO (lf s p) (lf q d) = some ⟨s.data.toList, d.data.toList ++ p.data.toList.drop q.data.toList.length⟩ := by
    unfold joinO
    rw [show has (lf s p).add (lf q d).strip = true from h]
    rfl
  rw [e]
  refine ⟨str_eq s, ?_, rfl⟩
  unfold upS up
  rw [show has p.data.toList (lf q d).strip = true from h]
  rfl
theorem join_back {s p q d : ByteArray} (h0 : has p.data.toList q.data.toList = false) (h : has q.data.toList p.data.toList = true) :
    joS (joinO (lf s p) (lf q d)) = upS (lf p s) q.data.toList ∧ joA (joinO (lf s p) (lf q d)) = d ∧ (joinO (lf s p) (lf q d)).isSome = true := by
  have e : joinO (lf s p) (lf q d) = some ⟨s.data.toList ++ q.data.toList.drop p.data.toList.length, d.data.toList⟩ := by
    unfold joinO
    rw [show has (lf s p).add (lf q d).strip = false from h0, show has (lf q d).strip (lf s p).add = true from h]
    rfl
  rw [e]
  refine ⟨?_, str_eq d, rfl⟩
  unfold upS up
  rw [show has q.data.toList (lf p s).strip = true from h]
  rfl
theorem join_no {s p q d : ByteArray} (h0 : has p.data.toList q.data.toList = false) (h : has q.data.toList p.data.toList = false) : joinO (lf s p) (lf q d) = none := by
  unfold joinO
  rw [show has (lf s p).add (lf q d).strip = false from h0, show has (lf q d).strip (lf s p).add = false from h]
  rfl

theorem pairs3 {w w' : World} {v0 v1 x0 x1 y0 y1 : Value}
    (h : Below (((w.alloc (.cells #[v0, v1] 70)).alloc (.cells #[x0, x1] 70)).alloc (.cells #[y0, y1] 70)).heap.size
      (((w.alloc (.cells #[v0, v1] 70)).alloc (.cells #[x0, x1] 70)).alloc (.cells #[y0, y1] 70)) w') :
    Pair w' w.heap.size v0 v1 ∧ Pair w' (w.heap.size + 1) x0 x1 ∧ Pair w' (w.heap.size + 1 + 1) y0 y1 ∧ Below w.heap.size w w' := by
  have q0 := (((Pair.new w v0 v1).alloc (.cells #[x0, x1] 70)).alloc (.cells #[y0, y1] 70)).later h
  have q1 := ((Pair.new (w.alloc (.cells #[v0, v1] 70)) x0 x1).alloc (.cells #[y0, y1] 70)).later h
  have q2 := (Pair.new ((w.alloc (.cells #[v0, v1] 70)).alloc (.cells #[x0, x1] 70)) y0 y1).later h
  have s1 : (w.alloc (.cells #[v0, v1] 70)).heap.size = w.heap.size + 1 := by simp
  have s2 : ((w.alloc (.cells #[v0, v1] 70)).alloc (.cells #[x0, x1] 70)).heap.size = w.heap.size + 1 + 1 := by simp
  rw [s1] at q1
  rw [s2] at q2
  have hb : Below w.heap.size w (((w.alloc (.cells #[v0, v1] 70)).alloc (.cells #[x0, x1] 70)).alloc (.cells #[y0, y1] 70)) := (below_two _ _ _).alloc (by simp; omega) _
  exact ⟨q0, q1, q2, hb.trans (h.mono hb.size)⟩

set_option maxRecDepth 100000 in
set_option maxHeartbeats 1000000 in
/-- Join, the program's -/
theorem join18 (s p q d : ByteArray) (w : World) (hs : s.size ≤ 1000000) (hp : p.size ≤ 1000000) (hq : q.size ≤ 1000000) (hd : d.size ≤ 1000000) :
    Calls Try.prog 83 #[lv s p, lv q d] w fun x w' => x = .returned (.tuple #[lv (joS (joinO (lf s p) (lf q d))) (joA (joinO (lf s p) (lf q d))), .bool (joinO (lf s p) (lf q d)).isSome]) ∧ Below w.heap.size w w' := by
  have H1 := fun w => up11 q d p w hd hp
  cases h1 : has p.data.toList q.data.toList
  · rw [upB_eq h1, upS_no h1] at H1
    have H2 := fun w => down13 s p q w hs hq
    cases h2 : has q.data.toList p.data.toList
    · rw [upB_eq h2, upS_no h2] at H2
      rw [join_no h1 h2]
      show Calls Try.prog 83 #[lv s p, lv q d] w fun x w' => x = .returned (.tuple #[lv ⟨#[]⟩ ⟨#[]⟩, .bool false]) ∧ Below w.heap.size w w'
      clear h1 h2
      go_enter Try.func83, Try.ntmps83
      go_wp2_with fail
      refine (H1 _).mono ?_
      clear H1
      rintro x w1 ⟨rfl, hb1⟩
      obtain ⟨A1, B1, R1, hb1⟩ := pairs3 hb1
      have hle : w.heap.size ≤ w.heap.size + 1 + 1 := by omega
      obtain ⟨a0, a1⟩ := A1.cells
      obtain ⟨b0, b1⟩ := B1.cells
      obtain ⟨r0, r1⟩ := R1.cells
      generalize w.heap.size + 1 + 1 = k2 at *
      generalize w.heap.size + 1 = k1 at *
      go_wp2_with fail
      refine (H2 _).mono ?_
      clear H2
      rintro x w2 ⟨rfl, hb2⟩
      have R2 := R1.later hb2
      replace hb2 := hb1.trans (hb2.mono hb1.size)
      clear hb1 a0 a1 b0 b1 r0 r1
      obtain ⟨r0, r1⟩ := R2.cells
      obtain ⟨f0, f1⟩ := R2.free
      go_wp2_with fail
      exact bodyPost_ret (v := .tuple #[lv ⟨#[]⟩ ⟨#[]⟩, .bool false]) (by simp [results, Try.results83, go_sem, r0, r1]) rfl ⟨rfl, (hb2.setCell hle _).setCell hle _⟩
    · rw [upB_eq h2] at H2
      obtain ⟨e1, e2, e3⟩ := join_back (s := s) (d := d) h1 h2
      rw [e1, e2, e3]
      clear h1 h2 e1 e2 e3
      generalize upS (lf p s) q.data.toList = S at *
      go_enter Try.func83, Try.ntmps83
      go_wp2_with fail
      refine (H1 _).mono ?_
      clear H1
      rintro x w1 ⟨rfl, hb1⟩
      obtain ⟨A1, B1, R1, hb1⟩ := pairs3 hb1
      have hle : w.heap.size ≤ w.heap.size + 1 + 1 := by omega
      obtain ⟨a0, a1⟩ := A1.cells
      obtain ⟨b0, b1⟩ := B1.cells
      obtain ⟨r0, r1⟩ := R1.cells
      generalize w.heap.size + 1 + 1 = k2 at *
      generalize w.heap.size + 1 = k1 at *
      go_wp2_with fail
      refine (H2 _).mono ?_
      clear H2
      rintro x w2 ⟨rfl, hb2⟩
      have R2 := R1.later hb2
      have B2 := B1.later hb2
      replace hb2 := hb1.trans (hb2.mono hb1.size)
      clear hb1 a0 a1 b0 b1 r0 r1
      obtain ⟨b0, b1⟩ := B2.cells
      obtain ⟨r0, r1⟩ := R2.cells
      obtain ⟨f0, f1⟩ := R2.free
      go_wp2_with fail
      exact bodyPost_ret (v := .tuple #[lv S d, .bool true]) (by simp [results, Try.results83, go_sem, r0, r1]) rfl ⟨rfl, (hb2.setCell hle _).setCell hle _⟩
  · rw [upB_eq h1] at H1
    obtain ⟨e1, e2, e3⟩ := join_front (s := s) (d := d) h1
    rw [e1, e2, e3]
    clear h1 e1 e2 e3
    generalize upS (lf q d) p.data.toList = S at *
    go_enter Try.func83, Try.ntmps83
    go_wp2_with fail
    refine (H1 _).mono ?_
    clear H1
    rintro x w1 ⟨rfl, hb1⟩
    obtain ⟨A1, B1, R1, hb1⟩ := pairs3 hb1
    have hle : w.heap.size ≤ w.heap.size + 1 + 1 := by omega
    obtain ⟨a0, a1⟩ := A1.cells
    obtain ⟨r0, r1⟩ := R1.cells
    obtain ⟨f0, f1⟩ := R1.free
    generalize w.heap.size + 1 + 1 = k2 at *
    generalize w.heap.size + 1 = k1 at *
    go_wp2_with fail
    exact bodyPost_ret (v := .tuple #[lv s S, .bool true]) (by simp [results, Try.results83, go_sem, r0, r1]) rfl ⟨rfl, (hb1.setCell hle _).setCell hle _⟩

end Go.Proofs.Ytlkcoaencliajaa.Key
