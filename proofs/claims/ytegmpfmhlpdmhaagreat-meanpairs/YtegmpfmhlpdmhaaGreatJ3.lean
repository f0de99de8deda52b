/-
  Contract of Over, the program's, by those of its callees.
  Contracts of Over, the program's and the document's: the range to which a range goes.
-/
import Derived.Test.YtegmpfmhlpdmhaaGreatJ2
namespace Go.Proofs.YtegmpfmhlpdmhaaGreat.Key
open Go.RowKit
open Go.Op (bytesLess)

set_option maxRecDepth 100000 in
set_option maxHeartbeats 4000000 in
theorem core15 (s a lo hi S1 L H T S2 T2 : ByteArray) (e o1 E o2 b u u2 : Bool) (w : World)
    (HO : ∀ w, Calls Tryz.prog 80 #[.string s] w fun x w' => x = .returned (av s S1 o1) ∧ Below w.heap.size w w')
    (HC : ∀ w, Calls Tryz.prog 86 #[av lo hi e, av s S1 o1] w fun x w' => x = .returned (av L H E) ∧ Below w.heap.size w w')
    (HE : ∀ w, Calls Tryz.prog 43 #[av L H E] w fun x w' => x = .returned (.bool b) ∧ Below w.heap.size w w')
    (HO2 : ∀ w, Calls Tryz.prog 80 #[.string a] w fun x w' => x = .returned (av a S2 o2) ∧ Below w.heap.size w w')
    (HU : ∀ w, Calls Tryz.prog 63 #[lv s a, .string L] w fun x w' => x = .returned (.tuple #[.string T, .bool u]) ∧ Below w.heap.size w w')
    (HU2 : ∀ w, Calls Tryz.prog 63 #[lv s a, .string H] w fun x w' => x = .returned (.tuple #[.string T2, .bool u2]) ∧ Below w.heap.size w w') :
    Calls Tryz.prog 78 #[lv s a, av lo hi e] w fun x w' => x = .returned (overV b E u2 (av L H E) (av T T2 true) (av T S2 o2)) ∧ Below w.heap.size w w' := by
  go_enter Tryz.func78, Tryz.ntmps78
  go_upto_region 1 with fail
  go_cut [5] from 9 to 13 (fun v wx => ∃ k, v = .pointer (some ⟨k, 0, none⟩) ∧ Begun w wx k s a L H E)
  case first =>
    clear HE HO2 HU HU2
    go_region_with (first
      | (go_at_call 80; refine (HO _).mono ?_; rintro x w1 ⟨rfl, hb1⟩
         first
           | (with_reducible have q := boxes3 hb1; obtain ⟨A1, R1, Z1, hb1⟩ := q; obtain ⟨c0, c1, c2⟩ := R1.cells; have rl := R1.lt)
           | (with_reducible have q := boxes4f hb1; obtain ⟨A1, R1, Z1, F1, hb1⟩ := q; obtain ⟨c0, c1, c2⟩ := R1.cells; have nk := Nat.lt_succ_self (w.heap.size + 1 + 1)))
      | (go_at_call 86; refine (HC _).mono ?_; rintro x w2 ⟨rfl, hb2⟩
         first
           | (with_reducible have A2 := A1.later hb2; have Z2 := Z1.later hb2; have F2 := F1.later hb2; replace hb2 := hb1.trans (hb2.mono hb1.size); obtain ⟨f0, f1, f2⟩ := F2.free; obtain ⟨g0, g1, g2⟩ := F2.cells)
           | (with_reducible have A2 := A1.later hb2; have Z2 := Z1.later hb2; replace hb2 := hb1.trans (hb2.mono hb1.size))
           | (have A2 := (A1.alloc (.cells #[.string ⟨#[]⟩, .string ⟨#[]⟩, .bool false] 25)).later hb2; have Z2 := (Z1.alloc (.cells #[.string ⟨#[]⟩, .string ⟨#[]⟩, .bool false] 25)).later hb2; have F2 := (Box.new w1 (.string ⟨#[]⟩) (.string ⟨#[]⟩) (.bool false)).later hb2; have nk := Z1.lt; have hp := hb1.alloc hb1.size (.cells #[.string ⟨#[]⟩, .string ⟨#[]⟩, .bool false] 25); replace hb2 := hp.trans (hb2.mono hp.size); obtain ⟨f0, f1, f2⟩ := F2.free; obtain ⟨g0, g1, g2⟩ := F2.cells)))
    all_goals
      go_wp2_with fail
      go_meet
      case rel =>
        first
          | with_reducible exact ⟨_, rfl, begun_new L H E A2 Z2 hb2⟩
          | with_reducible exact ⟨_, rfl, begun_put L H E A2 Z2 F2 hb2 nk⟩
  case rest =>
    clear HO HC
    obtain ⟨k, rfl, A1, Z1, F1, hb1, nk⟩ := hcut
    have nz : w.heap.size ≤ w.heap.size + 1 + 1 := by omega
    have nz' : w.heap.size ≠ w.heap.size + 1 + 1 := by omega
    have zl := Z1.lt
    obtain ⟨a0, a1⟩ := A1.cells
    obtain ⟨f0, f1, f2⟩ := F1.cells
    generalize hkz : w.heap.size + 1 + 1 = kz at *
    clear hkz
    rcases Bool.eq_false_or_eq_true b with hb | hb
    · rw [hb] at HE
      have HB := hid hb
      clear hb
      go_wp2_with fail
      refine (HE _).mono ?_
      rintro x w2 ⟨rfl, hb2⟩
      have Z2 := Z1.later hb2
      have F2 := F1.later hb2
      replace hb2 := hb1.trans (hb2.mono hb1.size)
      clear a0 a1 f0 f1 f2 hb1
      obtain ⟨f0, f1, f2⟩ := F2.cells
      obtain ⟨z0, z1, z2⟩ := Z2.cells
      obtain ⟨y0, y1, y2⟩ := Z2.free
      go_wp2_with fail
      exact bodyPost_ret (v := av L H E) (by simp [results, Tryz.results78, go_sem, z0, z1, z2]) rfl ⟨by rw [HB.out]; rfl, ((hb2.setCell nz _).setCell nz _).setCell nz _⟩
    · rw [hb] at HE
      have HB := hid hb
      clear hb
      go_wp2_with fail
      refine (HE _).mono ?_
      rintro x w2 ⟨rfl, hb2⟩
      have A2 := A1.later hb2
      have Z2 := Z1.later hb2
      have F2 := F1.later hb2
      replace hb2 := hb1.trans (hb2.mono hb1.size)
      clear a0 a1 f0 f1 f2 hb1 A1 Z1 F1
      obtain ⟨a0, a1⟩ := A2.cells
      go_wp2_with fail
      refine (HO2 _).mono ?_
      rintro x w3 ⟨rfl, hb3⟩
      have A3 := A2.later hb3
      have Z3 := Z2.later hb3
      have F3 := F2.later hb3
      replace hb3 := hb2.trans (hb3.mono hb2.size)
      clear a0 a1 hb2 A2 Z2 F2
      obtain ⟨a0, a1⟩ := A3.cells
      obtain ⟨f0, f1, f2⟩ := F3.cells
      have al := A3.lt
      have fl := F3.lt
      have zl := Z3.lt
      go_wp2_with fail
      refine (HU _).mono ?_
      rintro x w4 ⟨rfl, hb4⟩
      have A4 := (A3.alloc (.cells #[.string a, .string S2, .bool o2] 25)).later hb4
      have Z4 := (Z3.alloc (.cells #[.string a, .string S2, .bool o2] 25)).later hb4
      have F4 := (F3.alloc (.cells #[.string a, .string S2, .bool o2] 25)).later hb4
      have T4 := (Box.new w3 (.string a) (.string S2) (.bool o2)).later hb4
      have hp := hb3.alloc hb3.size (.cells #[.string a, .string S2, .bool o2] 25)
      replace hb4 := hp.trans (hb4.mono hp.size)
      have tl := hb3.size
      clear a0 a1 f0 f1 f2 hb3 A3 Z3 F3 hp
      generalize w3.heap.size = kt at *
      have n1 : k ≠ kt := by omega
      have n2 : kz ≠ kt := by omega
      have n3 : w.heap.size ≠ kt := by omega
      obtain ⟨a0, a1⟩ := A4.cells
      obtain ⟨f0, f1, f2⟩ := F4.cells
      obtain ⟨t0, t1, t2⟩ := T4.cells
      obtain ⟨x0, x1, x2⟩ := T4.free
      obtain ⟨z0, z1, z2⟩ := Z4.cells
      obtain ⟨y0, y1, y2⟩ := Z4.free
      have n1' := n1.symm
      have n2' := n2.symm
      have n3' := n3.symm
      rcases Bool.eq_false_or_eq_true E with he | he
      · have HEE := hid he
        subst he
        go_wp2_with fail
        refine (HU2 _).mono ?_
        rintro x w5 ⟨rfl, hb5⟩
        have T5 := (T4.put0 (.string T)).later hb5
        have Z5 := (Z4.beside1 n2 (.string T)).later hb5
        have hp := hb4.setCell (p := ⟨kt, 0, none⟩) tl (.string T)
        replace hb5 := hp.trans (hb5.mono hp.size)
        clear a0 a1 f0 f1 f2 t0 t1 t2 x0 x1 x2 z0 z1 z2 y0 y1 y2 hp
        obtain ⟨t0, t1, t2⟩ := T5.cells
        obtain ⟨x0, x1, x2⟩ := T5.free
        obtain ⟨z0, z1, z2⟩ := Z5.cells
        obtain ⟨y0, y1, y2⟩ := Z5.free
        rcases Bool.eq_false_or_eq_true u2 with hu | hu
        · have HU3 := hid hu
          subst hu
          go_wp2_with fail
          exact bodyPost_ret (v := av T T2 true) (by simp [results, Tryz.results78, go_sem, z0, z1, z2]) rfl ⟨by rw [HB.out]; rfl, ((((hb5.setCell tl _).setCell tl _).setCell nz _).setCell nz _).setCell nz _⟩
        · have HU3 := hid hu
          subst hu
          go_wp2_with fail
          exact bodyPost_ret (v := av T S2 o2) (by simp [results, Tryz.results78, go_sem, z0, z1, z2]) rfl ⟨by rw [HB.out]; rfl, ((hb5.setCell nz _).setCell nz _).setCell nz _⟩
      · have HEE := hid he
        subst he
        go_wp2_with fail
        exact bodyPost_ret (v := av T S2 o2) (by simp [results, Tryz.results78, go_sem, z0, z1, z2]) rfl ⟨by rw [HB.out]; rfl, (((hb4.setCell tl _).setCell nz _).setCell nz _).setCell nz _⟩
end Go.Proofs.YtegmpfmhlpdmhaaGreat.Key

namespace Go.Proofs.YtegmpfmhlpdmhaaGreat.Key
open Go.RowKit
open Go.Op (bytesLess)

theorem succ_len : ∀ {p t : List UInt8}, succ p = some t → t.length ≤ p.length
  | [], _, h => by simp [succ] at h
  | x :: l, t, h => by
    cases hl : succ l with
    | some s =>
      rw [succ_cons_some hl] at h
      cases h
      have := succ_len hl
      simpa using this
    | none =>
      rw [succ_cons_none hl] at h
      split at h
      · cases h
      · cases h
        simp
theorem ofR_len (p : List UInt8) : (ofR p).hi.length ≤ p.length := by
  unfold ofR
  cases h : succ p with
  | none => simp
  | some s => simpa using succ_len h
theorem maxL_len {a b : List UInt8} {n : Nat} (ha : a.length ≤ n) (hb : b.length ≤ n) : (maxL a b).length ≤ n := by
  unfold maxL
  split
  · exact hb
  · exact ha
theorem minL_len {a b : List UInt8} {n : Nat} (ha : a.length ≤ n) (hb : b.length ≤ n) : (minL a b).length ≤ n := by
  unfold minL
  split
  · exact hb
  · exact ha
theorem cut_len {a b : Rng} {n : Nat} (h1 : a.lo.length ≤ n) (h2 : a.hi.length ≤ n) (h3 : b.lo.length ≤ n) (h4 : b.hi.length ≤ n) : (cutR a b).lo.length ≤ n ∧ (cutR a b).hi.length ≤ n := by
  unfold cutR
  split
  · exact ⟨Nat.zero_le _, Nat.zero_le _⟩
  · refine ⟨maxL_len h1 h3, ?_⟩
    unfold rawCut
    simp only
    split
    · split
      · exact minL_len h2 h4
      · exact h2
    · split
      · exact h4
      · exact Nat.zero_le _
theorem upB_has (l : Lft) (k : List UInt8) : upB l k = has k l.strip := up_has l k
theorem upS_has {l : Lft} {k : List UInt8} (h : has k l.strip = true) : upS l k = str (l.add ++ k.drop l.strip.length) := by
  unfold upS up
  rw [h]
  rfl
/-- the answer, by what Cut answers -/
theorem over_eq (s a : ByteArray) (r C : Rng) (hC : cutR r (ofR s.data.toList) = C) (v1 : Value) (T T2 : ByteArray) (h1 : emptyR C = true → v1 = av ⟨#[]⟩ ⟨#[]⟩ true) (h2 : emptyR C = false → T = str (a.data.toList ++ C.lo.drop s.data.toList.length))
    (h3 : has C.hi s.data.toList = true → T2 = str (a.data.toList ++ C.hi.drop s.data.toList.length)) :
    overV (emptyR C) C.e (has C.hi s.data.toList) v1 (av T T2 true) (av T (sucS a.data.toList) (sucO a.data.toList)) = rv (overR (lf s a) r) := by
  unfold overV overR
  rw [show (lf s a).strip = s.data.toList from rfl, hC]
  cases hE : emptyR C
  · rw [h2 hE]
    simp only [Bool.false_eq_true, if_false]
    cases hh : (C.e && has C.hi s.data.toList)
    · rfl
    · simp only [if_true]
      rw [h3 (Bool.and_eq_true _ _ ▸ hh).2]
      rfl
  · rw [h1 hE]
    rfl

theorem over15 (s a lo hi : ByteArray) (e : Bool) (w : World) (hs : s.size ≤ 800000) (ha : a.size ≤ 800000) (hlo : lo.size ≤ 800000) (hhi : hi.size ≤ 800000) :
    Calls Tryz.prog 78 #[lv s a, av lo hi e] w fun x w' => x = .returned (rv (overR (lf s a) (rg lo hi e))) ∧ Below w.heap.size w w' := by
  have hlen := cut_len (a := rg lo hi e) (b := ofR s.data.toList) (n := 800000) (by rw [show (rg lo hi e).lo = lo.data.toList from rfl, ← Lib.size_eq]; exact hlo) (by rw [show (rg lo hi e).hi = hi.data.toList from rfl, ← Lib.size_eq]; exact hhi)
    (by rw [show (ofR s.data.toList).lo = s.data.toList from rfl, ← Lib.size_eq]; exact hs) (Nat.le_trans (ofR_len _) (by rw [← Lib.size_eq]; exact hs))
  have HC0 : ∀ w, Calls Tryz.prog 86 #[av lo hi e, av s (sucS s.data.toList) (sucO s.data.toList)] w fun x w' => x = .returned (rv (cutR (rg lo hi e) (ofR s.data.toList))) ∧ Below w.heap.size w w' := fun w => cut23 lo hi e s (sucS s.data.toList) (sucO s.data.toList) w
  generalize hC : cutR (rg lo hi e) (ofR s.data.toList) = C at *
  rw [← over_eq s a (rg lo hi e) C hC (av (str C.lo) (str C.hi) C.e) (upS (lf s a) C.lo) (upS (lf s a) C.hi)
    (fun h => by rw [← hC] at h ⊢; rw [cut_none h]; rfl) (fun h => by rw [← hC] at h ⊢; exact upS_has (l := lf s a) (cut_first h)) (fun h => upS_has (l := lf s a) h), ← show upB (lf s a) C.hi = has C.hi s.data.toList from upB_has _ _]
  exact core15 s a lo hi (sucS s.data.toList) (str C.lo) (str C.hi) (upS (lf s a) C.lo) (sucS a.data.toList) (upS (lf s a) C.hi) e (sucO s.data.toList) C.e (sucO a.data.toList) (emptyR C) (upB (lf s a) C.lo) (upB (lf s a) C.hi) w
    (fun w => of24 s w hs) HC0 (empty25 (str C.lo) (str C.hi) C.e) (fun w => of24 a w ha) (fun w => up11 s a (str C.lo) w (by omega) (by rw [str_size]; omega)) (fun w => up11 s a (str C.hi) w (by omega) (by rw [str_size]; omega))

end Go.Proofs.YtegmpfmhlpdmhaaGreat.Key
