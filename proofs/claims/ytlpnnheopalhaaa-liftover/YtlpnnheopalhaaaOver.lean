/-
  Contract of Over, the program's, by those of its callees.
-/
import Derived.Test.YtlpnnheopalhaaaBoxes
namespace Go.Proofs.Ytlpnnheopalhaaa.Key
open Go.RowKit
open Go.Op (bytesLess)

set_option maxHeartbeats 4000000 in
theorem core15 (s a lo hi S1 L H T S2 T2 : ByteArray) (e o1 E o2 b u u2 : Bool) (w : World)
    (HO : ∀ w, Calls Try.prog 24 #[.string s] w fun x w' => x = .returned (av s S1 o1) ∧ Below w.heap.size w w')
    (HC : ∀ w, Calls Try.prog 23 #[av lo hi e, av s S1 o1] w fun x w' => x = .returned (av L H E) ∧ Below w.heap.size w w')
    (HE : ∀ w, Calls Try.prog 25 #[av L H E] w fun x w' => x = .returned (.bool b) ∧ Below w.heap.size w w')
    (HO2 : ∀ w, Calls Try.prog 24 #[.string a] w fun x w' => x = .returned (av a S2 o2) ∧ Below w.heap.size w w')
    (HU : ∀ w, Calls Try.prog 11 #[lv s a, .string L] w fun x w' => x = .returned (.tuple #[.string T, .bool u]) ∧ Below w.heap.size w w')
    (HU2 : ∀ w, Calls Try.prog 11 #[lv s a, .string H] w fun x w' => x = .returned (.tuple #[.string T2, .bool u2]) ∧ Below w.heap.size w w') :
    Calls Try.prog 15 #[lv s a, av lo hi e] w fun x w' => x = .returned (overV b E u2 (av L H E) (av T T2 true) (av T S2 o2)) ∧ Below w.heap.size w w' := by
  go_enter Try.func15, Try.ntmps15
  go_upto_region 1 with fail
  go_cut [5] from 9 to 13 (fun v wx => ∃ k, v = .pointer (some ⟨k, 0, none⟩) ∧ Begun w wx k s a L H E)
  case first =>
    clear HE HO2 HU HU2
    go_region_with (first
      | (go_at_call 24; refine (HO _).mono ?_; rintro x w1 ⟨rfl, hb1⟩
         first
           | (with_reducible have q := boxes3 hb1; obtain ⟨A1, R1, Z1, hb1⟩ := q; obtain ⟨c0, c1, c2⟩ := R1.cells; have rl := R1.lt)
           | (with_reducible have q := boxes4f hb1; obtain ⟨A1, R1, Z1, F1, hb1⟩ := q; obtain ⟨c0, c1, c2⟩ := R1.cells; have nk := Nat.lt_succ_self (w.heap.size + 1 + 1)))
      | (go_at_call 23; refine (HC _).mono ?_; rintro x w2 ⟨rfl, hb2⟩
         first
           | (with_reducible have A2 := A1.later hb2; have Z2 := Z1.later hb2; have F2 := F1.later hb2; replace hb2 := hb1.trans (hb2.mono hb1.size); obtain ⟨f0, f1, f2⟩ := F2.free; obtain ⟨g0, g1, g2⟩ := F2.cells)
           | (with_reducible have A2 := A1.later hb2; have Z2 := Z1.later hb2; replace hb2 := hb1.trans (hb2.mono hb1.size))
           | (have A2 := (A1.alloc (.cells #[.string ⟨#[]⟩, .string ⟨#[]⟩, .bool false] 25)).later hb2; have Z2 := (Z1.alloc (.cells #[.string ⟨#[]⟩, .string ⟨#[]⟩, .bool false] 25)).later hb2; have F2 := (Box.new w1 (.string ⟨#[]⟩) (.string ⟨#[]⟩) (.bool false)).later hb2; have nk := Z1.lt; have hp := hb1.alloc hb1.size (.cells #[.string ⟨#[]⟩, .string ⟨#[]⟩, .bool false] 25); replace hb2 := hp.trans (hb2.mono hp.size); obtain ⟨f0, f1, f2⟩ := F2.free; obtain ⟨g0, g1, g2⟩ := F2.cells)))
    all_goals
      go_wp2_with fail
      go_meet
      case rel =>
        first
          | with_reducible exact ⟨_, rfl, begun_new L H E A2 Z2 hb2⟩
          | with_reducible exact ⟨_, rfl, begun_put L H E A2 Z2 F2 hb2 nk⟩
  case rest =>
    clear HO HC
    obtain ⟨k, rfl, A1, Z1, F1, hb1, nk⟩ := hcut
    have nz : w.heap.size ≤ w.heap.size + 1 + 1 := by omega
    have nz' : w.heap.size ≠ w.heap.size + 1 + 1 := by omega
    have zl := Z1.lt
    obtain ⟨a0, a1⟩ := A1.cells
    obtain ⟨f0, f1, f2⟩ := F1.cells
    generalize hkz : w.heap.size + 1 + 1 = kz at *
    clear hkz
    rcases Bool.eq_false_or_eq_true b with hb | hb
    · rw [hb] at HE
      have HB := hid hb
      clear hb
      go_wp2_with fail
      refine (HE _).mono ?_
      rintro x w2 ⟨rfl, hb2⟩
      have Z2 := Z1.later hb2
      have F2 := F1.later hb2
      replace hb2 := hb1.trans (hb2.mono hb1.size)
      clear a0 a1 f0 f1 f2 hb1
      obtain ⟨f0, f1, f2⟩ := F2.cells
      obtain ⟨z0, z1, z2⟩ := Z2.cells
      obtain ⟨y0, y1, y2⟩ := Z2.free
      go_wp2_with fail
      exact bodyPost_ret (v := av L H E) (by simp [results, Try.results15, go_sem, z0, z1, z2]) rfl ⟨by rw [HB.out]; rfl, ((hb2.setCell nz _).setCell nz _).setCell nz _⟩
    · rw [hb] at HE
      have HB := hid hb
      clear hb
      go_wp2_with fail
      refine (HE _).mono ?_
      rintro x w2 ⟨rfl, hb2⟩
      have A2 := A1.later hb2
      have Z2 := Z1.later hb2
      have F2 := F1.later hb2
      replace hb2 := hb1.trans (hb2.mono hb1.size)
      clear a0 a1 f0 f1 f2 hb1 A1 Z1 F1
      obtain ⟨a0, a1⟩ := A2.cells
      go_wp2_with fail
      refine (HO2 _).mono ?_
      rintro x w3 ⟨rfl, hb3⟩
      have A3 := A2.later hb3
      have Z3 := Z2.later hb3
      have F3 := F2.later hb3
      replace hb3 := hb2.trans (hb3.mono hb2.size)
      clear a0 a1 hb2 A2 Z2 F2
      obtain ⟨a0, a1⟩ := A3.cells
      obtain ⟨f0, f1, f2⟩ := F3.cells
      have al := A3.lt
      have fl := F3.lt
      have zl := Z3.lt
      go_wp2_with fail
      refine (HU _).mono ?_
      rintro x w4 ⟨rfl, hb4⟩
      have A4 := (A3.alloc (.cells #[.string a, .string S2, .bool o2] 25)).later hb4
      have Z4 := (Z3.alloc (.cells #[.string a, .string S2, .bool o2] 25)).later hb4
      have F4 := (F3.alloc (.cells #[.string a, .string S2, .bool o2] 25)).later hb4
      have T4 := (Box.new w3 (.string a) (.string S2) (.bool o2)).later hb4
      have hp := hb3.alloc hb3.size (.cells #[.string a, .string S2, .bool o2] 25)
      replace hb4 := hp.trans (hb4.mono hp.size)
      have tl := hb3.size
      clear a0 a1 f0 f1 f2 hb3 A3 Z3 F3 hp
      generalize w3.heap.size = kt at *
      have n1 : k ≠ kt := by omega
      have n2 : kz ≠ kt := by omega
      have n3 : w.heap.size ≠ kt := by omega
      obtain ⟨a0, a1⟩ := A4.cells
      obtain ⟨f0, f1, f2⟩ := F4.cells
      obtain ⟨t0, t1, t2⟩ := T4.cells
      obtain ⟨x0, x1, x2⟩ := T4.free
      obtain ⟨z0, z1, z2⟩ := Z4.cells
      obtain ⟨y0, y1, y2⟩ := Z4.free
      have n1' := n1.symm
      have n2' := n2.symm
      have n3' := n3.symm
      rcases Bool.eq_false_or_eq_true E with he | he
      · have HEE := hid he
        subst he
        go_wp2_with fail
        refine (HU2 _).mono ?_
        rintro x w5 ⟨rfl, hb5⟩
        have T5 := (T4.put0 (.string T)).later hb5
        have Z5 := (Z4.beside1 n2 (.string T)).later hb5
        have hp := hb4.setCell (p := ⟨kt, 0, none⟩) tl (.string T)
        replace hb5 := hp.trans (hb5.mono hp.size)
        clear a0 a1 f0 f1 f2 t0 t1 t2 x0 x1 x2 z0 z1 z2 y0 y1 y2 hp
        obtain ⟨t0, t1, t2⟩ := T5.cells
        obtain ⟨x0, x1, x2⟩ := T5.free
        obtain ⟨z0, z1, z2⟩ := Z5.cells
        obtain ⟨y0, y1, y2⟩ := Z5.free
        rcases Bool.eq_false_or_eq_true u2 with hu | hu
        · have HU3 := hid hu
          subst hu
          go_wp2_with fail
          exact bodyPost_ret (v := av T T2 true) (by simp [results, Try.results15, go_sem, z0, z1, z2]) rfl ⟨by rw [HB.out]; rfl, ((((hb5.setCell tl _).setCell tl _).setCell nz _).setCell nz _).setCell nz _⟩
        · have HU3 := hid hu
          subst hu
          go_wp2_with fail
          exact bodyPost_ret (v := av T S2 o2) (by simp [results, Try.results15, go_sem, z0, z1, z2]) rfl ⟨by rw [HB.out]; rfl, ((hb5.setCell nz _).setCell nz _).setCell nz _⟩
      · have HEE := hid he
        subst he
        go_wp2_with fail
        exact bodyPost_ret (v := av T S2 o2) (by simp [results, Try.results15, go_sem, z0, z1, z2]) rfl ⟨by rw [HB.out]; rfl, (((hb4.setCell tl _).setCell nz _).setCell nz _).setCell nz _⟩
end Go.Proofs.Ytlpnnheopalhaaa.Key
