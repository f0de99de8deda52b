/-
  Contracts of Over, the document's.
-/
import Derived.Test.YthhlimkcnppkaaaLBoxes
namespace Go.Proofs.Ythhlimkcnppkaaa.Key
open Go.RowKit
open Go.Op (bytesLess)

theorem step3 {w2 w3 : World} {x0 x1 x2 : Value} (h : Below (w2.alloc (.cells #[x0, x1, x2] 29)).drew.heap.size (w2.alloc (.cells #[x0, x1, x2] 29)).drew w3) :
    Box w3 w2.heap.size x0 x1 x2 ∧ (∀ k v0 v1 v2, Box w2 k v0 v1 v2 → Box w3 k v0 v1 v2) ∧ ∀ w : World, Below w.heap.size w w2 → Below w.heap.size w w3 := by
  have p0 : Box (w2.alloc (.cells #[x0, x1, x2] 29)).drew w2.heap.size x0 x1 x2 := Box.new w2 x0 x1 x2
  refine ⟨p0.later h, fun k v0 v1 v2 hk => ?_, fun w hw => ?_⟩
  · have p1 : Box (w2.alloc (.cells #[x0, x1, x2] 29)).drew k v0 v1 v2 := hk.alloc _
    exact p1.later h
  · have hb := (hw.alloc hw.size (.cells #[x0, x1, x2] 29)).drew
    exact hb.trans (h.mono hb.size)

set_option maxHeartbeats 4000000 in
set_option maxRecDepth 100000 in
theorem core16 (s a lo hi S1 L H S2 : ByteArray) (e o1 E o2 b u2 : Bool) (w : World) (ha : a.size ≤ 1000000) (hL : L.size ≤ 1000000) (hH : H.size ≤ 1000000)
    (HO : ∀ w, Calls Try.prog 24 #[.string s] w fun x w' => x = .returned (av s S1 o1) ∧ Below w.heap.size w w')
    (HC : ∀ w, Calls Try.prog 33 #[av lo hi e, av s S1 o1] w fun x w' => x = .returned (av L H E) ∧ Below w.heap.size w w')
    (HE : ∀ w, Calls Try.prog 31 #[av L H E] w fun x w' => x = .returned (.bool b) ∧ Below w.heap.size w w')
    (HH : ∀ w, Calls Try.prog 40 #[.string H, .string s] w fun x w' => x = .returned (.bool u2) ∧ w' = w)
    (HS : ∀ w, Calls Try.prog 41 #[.string a] w fun x w' => x = .returned (.tuple #[.string S2, .bool o2]) ∧ Below w.heap.size w w')
    (hl : b = false → s.size ≤ L.size) (hh : u2 = true → s.size ≤ H.size) :
    Calls Try.prog 16 #[lv s a, av lo hi e] w fun x w' => x = .returned (overV b E u2 (av ⟨#[]⟩ ⟨#[]⟩ true) (av (a ++ L.extract s.size L.size) (a ++ H.extract s.size H.size) true) (av (a ++ L.extract s.size L.size) S2 o2)) ∧ Below w.heap.size w w' := by
  go_enter Try.func16, Try.ntmps16
  go_upto_region 1 with fail
  go_cut [5] from 9 to 13 (fun v wx => ∃ k, v = .pointer (some ⟨k, 0, none⟩) ∧ Begun w wx k s a L H E)
  case first =>
    clear HE HH HS
    go_region_with (first
      | (go_at_call 24; refine (HO _).mono ?_; rintro x w1 ⟨rfl, hb1⟩
         first
           | (with_reducible have q := boxes3 hb1; obtain ⟨A1, R1, Z1, hb1⟩ := q; obtain ⟨c0, c1, c2⟩ := R1.cells; have rl := R1.lt)
           | (with_reducible have q := boxes4f hb1; obtain ⟨A1, R1, Z1, F1, hb1⟩ := q; obtain ⟨c0, c1, c2⟩ := R1.cells; have nk := Nat.lt_succ_self (w.heap.size + 1 + 1)))
      | (go_at_call 33; refine (HC _).mono ?_; rintro x w2 ⟨rfl, hb2⟩
         first
           | (with_reducible have A2 := A1.later hb2; have Z2 := Z1.later hb2; have F2 := F1.later hb2; replace hb2 := hb1.trans (hb2.mono hb1.size); obtain ⟨f0, f1, f2⟩ := F2.free; obtain ⟨g0, g1, g2⟩ := F2.cells)
           | (with_reducible have A2 := A1.later hb2; have Z2 := Z1.later hb2; replace hb2 := hb1.trans (hb2.mono hb1.size))
           | (have A2 := (A1.alloc (.cells #[.string ⟨#[]⟩, .string ⟨#[]⟩, .bool false] 29)).later hb2; have Z2 := (Z1.alloc (.cells #[.string ⟨#[]⟩, .string ⟨#[]⟩, .bool false] 29)).later hb2; have F2 := (Box.new w1 (.string ⟨#[]⟩) (.string ⟨#[]⟩) (.bool false)).later hb2; have nk := Z1.lt; have hp := hb1.alloc hb1.size (.cells #[.string ⟨#[]⟩, .string ⟨#[]⟩, .bool false] 29); replace hb2 := hp.trans (hb2.mono hp.size); obtain ⟨f0, f1, f2⟩ := F2.free; obtain ⟨g0, g1, g2⟩ := F2.cells)))
    all_goals
      go_wp2_with fail
      go_meet
      case rel =>
        first
          | with_reducible exact ⟨_, rfl, begun_new L H E A2 Z2 hb2⟩
          | with_reducible exact ⟨_, rfl, begun_put L H E A2 Z2 F2 hb2 nk⟩
  case rest =>
    clear HO HC
    obtain ⟨k, rfl, A1, Z1, F1, hb1, nk⟩ := hcut
    have nz : w.heap.size ≤ w.heap.size + 1 + 1 := by omega
    have nz' : w.heap.size ≠ w.heap.size + 1 + 1 := by omega
    have zl := Z1.lt
    obtain ⟨a0, a1⟩ := A1.cells
    obtain ⟨f0, f1, f2⟩ := F1.cells
    generalize hkz : w.heap.size + 1 + 1 = kz at *
    clear hkz
    rcases Bool.eq_false_or_eq_true b with hb | hb
    · rw [hb] at HE
      have HB := hid hb
      clear hb
      go_wp2_with fail
      refine (HE _).mono ?_
      rintro x w2 ⟨rfl, hb2⟩
      have Z2 := Z1.later hb2
      have F2 := F1.later hb2
      replace hb2 := hb1.trans (hb2.mono hb1.size)
      clear a0 a1 f0 f1 f2 hb1
      obtain ⟨f0, f1, f2⟩ := F2.cells
      obtain ⟨z0, z1, z2⟩ := Z2.cells
      obtain ⟨y0, y1, y2⟩ := Z2.free
      go_wp2_with fail
      exact bodyPost_ret (v := av ⟨#[]⟩ ⟨#[]⟩ true) (by simp [results, Try.results16, go_sem, z0, z1, z2]) rfl ⟨by rw [HB.out]; rfl, ((hb2.setCell nz _).setCell nz _).setCell nz _⟩
    · rw [hb] at HE
      have hz := hl hb
      have hz' : (s.size : Int) ≤ (L.size : Int) := by omega
      have HB := hid hb
      clear hb
      go_wp2_with fail
      refine (HE _).mono ?_
      rintro x w2 ⟨rfl, hb2⟩
      have A2 := A1.later hb2
      have Z2 := Z1.later hb2
      have F2 := F1.later hb2
      replace hb2 := hb1.trans (hb2.mono hb1.size)
      clear a0 a1 f0 f1 f2 hb1 A1 Z1 F1
      obtain ⟨a0, a1⟩ := A2.cells
      obtain ⟨f0, f1, f2⟩ := F2.cells
      obtain ⟨z0, z1, z2⟩ := Z2.cells
      obtain ⟨y0, y1, y2⟩ := Z2.free
      have al := A2.lt
      have fl := F2.lt
      have zl := Z2.lt
      rcases Bool.eq_false_or_eq_true E with he | he
      · subst he
        rcases Bool.eq_false_or_eq_true u2 with hu | hu
        · have hy := hh hu
          have hy' : (s.size : Int) ≤ (H.size : Int) := by omega
          subst hu
          go_wp2_with fail
          go_region
          go_wp2_with fail
          refine (HH _).mono ?_
          rintro x w3 ⟨rfl, rfl⟩
          go_wp2_with fail
          go_region
          go_wp2_with fail
          obtain ⟨q0, q1, q2⟩ := ((Z2.put (.string (a ++ L.extract s.size L.size)) (.string (a ++ H.extract s.size H.size)) (.bool true)).alloc (.cells #[.string (a ++ L.extract s.size L.size), .string (a ++ H.extract s.size H.size), .bool true] 29)).cells
          exact bodyPost_ret (v := av (a ++ L.extract s.size L.size) (a ++ H.extract s.size H.size) true) (by simp [results, Try.results16, go_sem, q0, q1, q2]) rfl ⟨by rw [HB.out]; rfl, ((((((hb2.setCell nz _).setCell nz _).setCell nz _).alloc (by simpa using hb2.size) _).drew).drew)⟩
        · subst hu
          go_wp2_with fail
          go_region
          go_wp2_with fail
          refine (HH _).mono ?_
          rintro x w3 ⟨rfl, rfl⟩
          go_wp2_with fail
          refine (HS _).mono ?_
          rintro x w3 ⟨rfl, hb3⟩
          obtain ⟨T3, bx, hb3⟩ := step3 hb3
          have Z3 := bx _ _ _ _ Z2
          replace hb3 := hb3 w hb2
          have tl := hb2.size
          clear a0 a1 f0 f1 f2 z0 z1 z2 y0 y1 y2 bx
          generalize w2.heap.size = kt at *
          have n2 : kz ≠ kt := by omega
          have n2' := n2.symm
          obtain ⟨t0, t1, t2⟩ := T3.cells
          obtain ⟨x0, x1, x2⟩ := T3.free
          obtain ⟨z0, z1, z2⟩ := Z3.cells
          obtain ⟨y0, y1, y2⟩ := Z3.free
          go_wp2_with fail
          exact bodyPost_ret (v := av (a ++ L.extract s.size L.size) S2 o2) (by simp [results, Try.results16, go_sem, z0, z1, z2]) rfl ⟨by rw [HB.out]; rfl, ((((hb3.setCell tl _).setCell tl _).setCell nz _).setCell nz _).setCell nz _⟩
      · subst he
        go_wp2_with fail
        go_region
        go_wp2_with fail
        refine (HS _).mono ?_
        rintro x w3 ⟨rfl, hb3⟩
        obtain ⟨T3, bx, hb3⟩ := step3 hb3
        have Z3 := bx _ _ _ _ Z2
        replace hb3 := hb3 w hb2
        have tl := hb2.size
        clear a0 a1 f0 f1 f2 z0 z1 z2 y0 y1 y2 bx
        generalize w2.heap.size = kt at *
        have n2 : kz ≠ kt := by omega
        have n2' := n2.symm
        obtain ⟨t0, t1, t2⟩ := T3.cells
        obtain ⟨x0, x1, x2⟩ := T3.free
        obtain ⟨z0, z1, z2⟩ := Z3.cells
        obtain ⟨y0, y1, y2⟩ := Z3.free
        go_wp2_with fail
        exact bodyPost_ret (v := av (a ++ L.extract s.size L.size) S2 o2) (by simp [results, Try.results16, go_sem, z0, z1, z2]) rfl ⟨by rw [HB.out]; rfl, ((((hb3.setCell tl _).setCell tl _).setCell nz _).setCell nz _).setCell nz _⟩
end Go.Proofs.Ythhlimkcnppkaaa.Key
