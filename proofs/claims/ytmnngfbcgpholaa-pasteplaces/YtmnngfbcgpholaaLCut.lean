/-
  Contracts of Cut, the program's and the document's.
-/
import Derived.Test.YtmnngfbcgpholaaLx
namespace Go.Proofs.Ytmnngfbcgpholaa.Key
open Go.RowKit
open Go.Op (bytesLess)

theorem run_max_str {P : Program} (w : World) (ts : Array TypeId) (t : TypeId) (x y : ByteArray) : (Builtin.max_ ts t #[.string x, .string y]).run P w = .ok (.string (if bytesLess x.toList y.toList then y else x)) w := by
  cases h : bytesLess x.toList y.toList <;> simp [Builtin.max_, Builtin.max2, Op.stringOp, asBool, h]
/-- what Cut answers, of what it has gathered -/
def endCut (L H : ByteArray) (E b : Bool) : Value := if b then av ⟨#[]⟩ ⟨#[]⟩ true else av L H E

theorem boxes7 {w w' : World} {o0 o1 o4 o5 o6 : Obj} {v0 v1 v2 x0 x1 x2 : Value}
    (h : Below (((((((w.alloc o0).alloc o1).alloc (.cells #[v0, v1, v2] 55)).alloc (.cells #[x0, x1, x2] 55)).alloc o4).alloc o5).alloc o6).heap.size
      (((((((w.alloc o0).alloc o1).alloc (.cells #[v0, v1, v2] 55)).alloc (.cells #[x0, x1, x2] 55)).alloc o4).alloc o5).alloc o6) w') :
    Box w' (w.heap.size + 1 + 1) v0 v1 v2 ∧ Box w' (w.heap.size + 1 + 1 + 1) x0 x1 x2 ∧ Below w.heap.size w w' := by
  have q1 := Box.new ((w.alloc o0).alloc o1) v0 v1 v2
  have q2 := Box.new (((w.alloc o0).alloc o1).alloc (.cells #[v0, v1, v2] 55)) x0 x1 x2
  have q1' := (((((q1.alloc (.cells #[x0, x1, x2] 55)).alloc o4).alloc o5).alloc o6)).later h
  have q2' := ((((q2.alloc o4).alloc o5).alloc o6)).later h
  have s1 : ((w.alloc o0).alloc o1).heap.size = w.heap.size + 1 + 1 := by simp
  have s2 : (((w.alloc o0).alloc o1).alloc (.cells #[v0, v1, v2] 55)).heap.size = w.heap.size + 1 + 1 + 1 := by simp
  rw [s1] at q1'
  rw [s2] at q2'
  refine ⟨q1', q2', ?_⟩
  have hb : Below w.heap.size w (((((((w.alloc o0).alloc o1).alloc (.cells #[v0, v1, v2] 55)).alloc (.cells #[x0, x1, x2] 55)).alloc o4).alloc o5).alloc o6) :=
    ((((((((Below.refl _ _).alloc (Nat.le_refl _) _).alloc (by simp) _).alloc (by simp; omega) _).alloc (by simp; omega) _).alloc (by simp; omega) _).alloc (by simp; omega) _).alloc (by simp; omega) _)
  exact hb.trans (h.mono hb.size)

set_option maxRecDepth 100000 in
set_option maxHeartbeats 1000000 in
theorem cut23_ff (lo hi lo' hi' L : ByteArray) (w : World) (hL : (if bytesLess lo.toList lo'.toList then lo' else lo) = L) :
    Calls Try.prog 35 #[av lo hi false, av lo' hi' false] w fun x w' => x = .returned (endCut L ⟨#[]⟩ false (emptyR (rg L ⟨#[]⟩ false))) ∧ Below w.heap.size w w' := by
  have hm := fun W ts => run_max_str (P := Try.prog) W ts 9 lo lo'
  rw [hL] at hm
  have HE := empty25 L ⟨#[]⟩ false
  generalize emptyR (rg L ⟨#[]⟩ false) = b at *
  clear hL
  go_enter Try.func35, Try.ntmps35
  go_wp2_with fail
  refine wp_loop_rounds 3 ?_
  rw [rounds_succ]
  go_wp2_with fail
  rw [rounds_succ]
  go_wp2_with fail
  rw [rounds_succ]
  go_wp2_with fail
  refine (HE _).mono ?_
  clear HE
  rintro x w' ⟨rfl, hbw⟩
  obtain ⟨hz, hx, hb⟩ := boxes7 hbw
  clear hbw
  obtain ⟨a0, a1, a2⟩ := hz.cells
  obtain ⟨f0, f1, f2⟩ := hz.free
  obtain ⟨b0, b1, b2⟩ := hx.cells
  have hle : w.heap.size ≤ w.heap.size + 1 + 1 := by omega
  generalize w.heap.size + 1 + 1 + 1 = k5 at *
  generalize w.heap.size + 1 + 1 = k4 at *
  cases b
  · go_wp2_with fail
    exact bodyPost_ret (v := av L ⟨#[]⟩ false) (by simp [results, Try.results35, go_sem, a0, a1, a2]) rfl ⟨rfl, ((hb.setCell hle _).setCell hle _).setCell hle _⟩
  · go_wp2_with fail
    exact bodyPost_ret (v := av ⟨#[]⟩ ⟨#[]⟩ true) (by simp [results, Try.results35, go_sem, a0, a1, a2]) rfl ⟨rfl, ((hb.setCell hle _).setCell hle _).setCell hle _⟩

set_option maxRecDepth 100000 in
set_option maxHeartbeats 1000000 in
theorem cut23_tf (lo hi lo' hi' L : ByteArray) (w : World) (hL : (if bytesLess lo.toList lo'.toList then lo' else lo) = L) :
    Calls Try.prog 35 #[av lo hi true, av lo' hi' false] w fun x w' => x = .returned (endCut L hi true (emptyR (rg L hi true))) ∧ Below w.heap.size w w' := by
  have hm := fun W ts => run_max_str (P := Try.prog) W ts 9 lo lo'
  rw [hL] at hm
  have HE := empty25 L hi true
  generalize emptyR (rg L hi true) = b at *
  clear hL
  go_enter Try.func35, Try.ntmps35
  go_wp2_with fail
  refine wp_loop_rounds 3 ?_
  rw [rounds_succ]
  go_wp2_with fail
  rw [rounds_succ]
  go_wp2_with fail
  rw [rounds_succ]
  go_wp2_with fail
  refine (HE _).mono ?_
  clear HE
  rintro x w' ⟨rfl, hbw⟩
  obtain ⟨hz, hx, hb⟩ := boxes7 hbw
  clear hbw
  obtain ⟨a0, a1, a2⟩ := hz.cells
  obtain ⟨f0, f1, f2⟩ := hz.free
  obtain ⟨b0, b1, b2⟩ := hx.cells
  have hle : w.heap.size ≤ w.heap.size + 1 + 1 := by omega
  generalize w.heap.size + 1 + 1 + 1 = k5 at *
  generalize w.heap.size + 1 + 1 = k4 at *
  cases b
  · go_wp2_with fail
    exact bodyPost_ret (v := av L hi true) (by simp [results, Try.results35, go_sem, a0, a1, a2]) rfl ⟨rfl, ((hb.setCell hle _).setCell hle _).setCell hle _⟩
  · go_wp2_with fail
    exact bodyPost_ret (v := av ⟨#[]⟩ ⟨#[]⟩ true) (by simp [results, Try.results35, go_sem, a0, a1, a2]) rfl ⟨rfl, ((hb.setCell hle _).setCell hle _).setCell hle _⟩

set_option maxRecDepth 100000 in
set_option maxHeartbeats 1000000 in
theorem cut23_ft (lo hi lo' hi' L : ByteArray) (w : World) (hL : (if bytesLess lo.toList lo'.toList then lo' else lo) = L) :
    Calls Try.prog 35 #[av lo hi false, av lo' hi' true] w fun x w' => x = .returned (endCut L hi' true (emptyR (rg L hi' true))) ∧ Below w.heap.size w w' := by
  have hm := fun W ts => run_max_str (P := Try.prog) W ts 9 lo lo'
  rw [hL] at hm
  have HE := empty25 L hi' true
  generalize emptyR (rg L hi' true) = b at *
  clear hL
  go_enter Try.func35, Try.ntmps35
  go_wp2_with fail
  refine wp_loop_rounds 3 ?_
  rw [rounds_succ]
  go_wp2_with fail
  rw [rounds_succ]
  go_wp2_with fail
  rw [rounds_succ]
  go_wp2_with fail
  refine (HE _).mono ?_
  clear HE
  rintro x w' ⟨rfl, hbw⟩
  obtain ⟨hz, hx, hb⟩ := boxes7 hbw
  clear hbw
  obtain ⟨a0, a1, a2⟩ := hz.cells
  obtain ⟨f0, f1, f2⟩ := hz.free
  obtain ⟨b0, b1, b2⟩ := hx.cells
  have hle : w.heap.size ≤ w.heap.size + 1 + 1 := by omega
  generalize w.heap.size + 1 + 1 + 1 = k5 at *
  generalize w.heap.size + 1 + 1 = k4 at *
  cases b
  · go_wp2_with fail
    exact bodyPost_ret (v := av L hi' true) (by simp [results, Try.results35, go_sem, a0, a1, a2]) rfl ⟨rfl, ((hb.setCell hle _).setCell hle _).setCell hle _⟩
  · go_wp2_with fail
    exact bodyPost_ret (v := av ⟨#[]⟩ ⟨#[]⟩ true) (by simp [results, Try.results35, go_sem, a0, a1, a2]) rfl ⟨rfl, ((hb.setCell hle _).setCell hle _).setCell hle _⟩

set_option maxRecDepth 100000 in
set_option maxHeartbeats 1000000 in
theorem cut23_t0 (lo hi lo' hi' L : ByteArray) (w : World) (hL : (if bytesLess lo.toList lo'.toList then lo' else lo) = L) (h2 : bytesLess hi'.toList hi.toList = false) :
    Calls Try.prog 35 #[av lo hi true, av lo' hi' true] w fun x w' => x = .returned (endCut L hi true (emptyR (rg L hi true))) ∧ Below w.heap.size w w' := by
  have hm := fun W ts => run_max_str (P := Try.prog) W ts 9 lo lo'
  rw [hL] at hm
  have HE := empty25 L hi true
  generalize emptyR (rg L hi true) = b at *
  clear hL
  go_enter Try.func35, Try.ntmps35
  go_wp2_with fail
  refine wp_loop_rounds 3 ?_
  rw [rounds_succ]
  go_wp2_with fail
  rw [rounds_succ]
  go_wp2_with fail
  rw [rounds_succ]
  go_wp2_with fail
  refine (HE _).mono ?_
  clear HE
  rintro x w' ⟨rfl, hbw⟩
  obtain ⟨hz, hx, hb⟩ := boxes7 hbw
  clear hbw
  obtain ⟨a0, a1, a2⟩ := hz.cells
  obtain ⟨f0, f1, f2⟩ := hz.free
  obtain ⟨b0, b1, b2⟩ := hx.cells
  have hle : w.heap.size ≤ w.heap.size + 1 + 1 := by omega
  generalize w.heap.size + 1 + 1 + 1 = k5 at *
  generalize w.heap.size + 1 + 1 = k4 at *
  cases b
  · go_wp2_with fail
    exact bodyPost_ret (v := av L hi true) (by simp [results, Try.results35, go_sem, a0, a1, a2]) rfl ⟨rfl, ((hb.setCell hle _).setCell hle _).setCell hle _⟩
  · go_wp2_with fail
    exact bodyPost_ret (v := av ⟨#[]⟩ ⟨#[]⟩ true) (by simp [results, Try.results35, go_sem, a0, a1, a2]) rfl ⟨rfl, ((hb.setCell hle _).setCell hle _).setCell hle _⟩

set_option maxRecDepth 100000 in
set_option maxHeartbeats 1000000 in
theorem cut23_t1 (lo hi lo' hi' L : ByteArray) (w : World) (hL : (if bytesLess lo.toList lo'.toList then lo' else lo) = L) (h2 : bytesLess hi'.toList hi.toList = true) :
    Calls Try.prog 35 #[av lo hi true, av lo' hi' true] w fun x w' => x = .returned (endCut L hi' true (emptyR (rg L hi' true))) ∧ Below w.heap.size w w' := by
  have hm := fun W ts => run_max_str (P := Try.prog) W ts 9 lo lo'
  rw [hL] at hm
  have HE := empty25 L hi' true
  generalize emptyR (rg L hi' true) = b at *
  clear hL
  go_enter Try.func35, Try.ntmps35
  go_wp2_with fail
  refine wp_loop_rounds 3 ?_
  rw [rounds_succ]
  go_wp2_with fail
  rw [rounds_succ]
  go_wp2_with fail
  rw [rounds_succ]
  go_wp2_with fail
  refine (HE _).mono ?_
  clear HE
  rintro x w' ⟨rfl, hbw⟩
  obtain ⟨hz, hx, hb⟩ := boxes7 hbw
  clear hbw
  obtain ⟨a0, a1, a2⟩ := hz.cells
  obtain ⟨f0, f1, f2⟩ := hz.free
  obtain ⟨b0, b1, b2⟩ := hx.cells
  have hle : w.heap.size ≤ w.heap.size + 1 + 1 := by omega
  generalize w.heap.size + 1 + 1 + 1 = k5 at *
  generalize w.heap.size + 1 + 1 = k4 at *
  cases b
  · go_wp2_with fail
    exact bodyPost_ret (v := av L hi' true) (by simp [results, Try.results35, go_sem, a0, a1, a2]) rfl ⟨rfl, ((hb.setCell hle _).setCell hle _).setCell hle _⟩
  · go_wp2_with fail
    exact bodyPost_ret (v := av ⟨#[]⟩ ⟨#[]⟩ true) (by simp [results, Try.results35, go_sem, a0, a1, a2]) rfl ⟨rfl, ((hb.setCell hle _).setCell hle _).setCell hle _⟩
end Go.Proofs.Ytmnngfbcgpholaa.Key
