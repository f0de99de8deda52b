/-
  The walk of the statement MsgKeeps.
-/
import Derived.Test.YtobbgndabmnbcaaAwake
import Derived.Test.YtobbgndabmnbcaaKeep
namespace Go.Proofs.Ytobbgndabmnbcaa.Key
open Go.RowKit Draw
open Go.Op (bytesLess)

theorem not_great {l : List M} (h : greatL l = false) : l.length ≤ 60 ∧ ∀ m ∈ l, m.key.size ≤ 100 ∧ m.val.size ≤ 100 ∧ m.add.size ≤ 100 := by
  simp only [greatL, Bool.or_eq_false_iff, decide_eq_false_iff_not, Nat.not_lt] at h
  refine ⟨h.1, fun m hm => ?_⟩
  have := List.any_eq_false.1 h.2 m hm
  simp [greatM] at this
  omega

set_option maxRecDepth 100000 in
set_option maxHeartbeats 4000000 in
theorem keeps5 (a0 : Option Addr) (c0 : Nat) (l : List M) (lo hi : ByteArray) (e : Bool) (a k : ByteArray) (w : World) (hl : l.length ≤ maxLen) (hm : Msgs w a0 l) (ha : a.size ≤ maxLen) (hk : k.size ≤ maxLen) :
    Calls Try.prog 5 #[.slice a0 l.length c0, av lo hi e, .string a, .string k] w fun e w' => e = .returned (.bool true) ∧ Below w.heap.size w w' := by
  have R0 := Box.new w (.string lo) (.string hi) (.bool e)
  have hb0 : Below w.heap.size w (w.alloc (.cells #[.string lo, .string hi, .bool e] 34)) := below_box w _
  have hm0 := hm.later hb0
  have G1 := great7 a0 c0 l (w.alloc (.cells #[.string lo, .string hi, .bool e] 34)) hl hm0
  have G2 := great21 lo hi e
  unfold maxLen at ha hk
  cases g1 : greatL l
  case true =>
    rw [g1] at G1
    go_enter Try.func5, Try.ntmps5
    go_wp2_with fail
    refine G1.mono ?_
    rintro x w1 ⟨rfl, rfl⟩
    go_wp2_with fail
    refine (awake8 _).mono ?_
    rintro x w2 ⟨rfl, hb2⟩
    go_wp2_with fail
    go_ret
    exact ⟨rfl, hb0.trans (hb2.mono hb0.size)⟩
  case false =>
  rw [g1] at G1
  obtain ⟨hn, hms⟩ := not_great g1
  cases g2 : (decide (300 < lo.size) || decide (300 < hi.size))
  case true =>
    rw [g2] at G2
    obtain ⟨d0, d1, d2⟩ := R0.cells
    go_enter Try.func5, Try.ntmps5
    go_wp2_with fail
    refine G1.mono ?_
    rintro x w1 ⟨rfl, rfl⟩
    go_wp2_with fail
    refine (G2 _).mono ?_
    rintro x w1 ⟨rfl, hb1⟩
    have hb1 := hb0.trans (hb1.mono hb0.size)
    go_wp2_with fail
    refine (awake8 _).mono ?_
    rintro x w2 ⟨rfl, hb2⟩
    go_wp2_with fail
    go_ret
    exact ⟨rfl, hb1.trans (hb2.mono hb1.size)⟩
  case false =>
  rw [g2] at G2
  cases g3 : decide ((100 : Int) < (a.size : Int))
  case true =>
    obtain ⟨d0, d1, d2⟩ := R0.cells
    go_enter Try.func5, Try.ntmps5
    go_wp2_with fail
    refine G1.mono ?_
    rintro x w1 ⟨rfl, rfl⟩
    go_wp2_with fail
    refine (G2 _).mono ?_
    rintro x w1 ⟨rfl, hb1⟩
    have hb1 := hb0.trans (hb1.mono hb0.size)
    go_wp2_with fail
    refine (awake8 _).mono ?_
    rintro x w2 ⟨rfl, hb2⟩
    go_wp2_with fail
    go_ret
    exact ⟨rfl, hb1.trans (hb2.mono hb1.size)⟩
  case false =>
  cases g4 : decide ((100 : Int) < (k.size : Int))
  case true =>
    obtain ⟨d0, d1, d2⟩ := R0.cells
    go_enter Try.func5, Try.ntmps5
    go_wp2_with fail
    refine G1.mono ?_
    rintro x w1 ⟨rfl, rfl⟩
    go_wp2_with fail
    refine (G2 _).mono ?_
    rintro x w1 ⟨rfl, hb1⟩
    have hb1 := hb0.trans (hb1.mono hb0.size)
    go_wp2_with fail
    refine (awake8 _).mono ?_
    rintro x w2 ⟨rfl, hb2⟩
    go_wp2_with fail
    go_ret
    exact ⟨rfl, hb1.trans (hb2.mono hb1.size)⟩
  case false =>
  have ha' : a.size ≤ 100 := by simp at g3; omega
  have hk' : k.size ≤ 100 := by simp at g4; omega
  have IN := in22 lo hi (a ++ k) e
  rw [app_data] at IN
  have TR := fun w' (h : Msgs w' a0 l) => trim23 a0 c0 l lo hi e a w' (by omega) h (fun m h => by have := hms m h; omega) (by omega)
  have hsum : (a ++ k).size ≤ 200 := by rw [ByteArray.size_append]; omega
  cases g5 : inR (rg lo hi e) (a.data.toList ++ k.data.toList)
  case false =>
    rw [g5] at IN
    clear TR
    go_enter Try.func5, Try.ntmps5
    go_wp2_with fail
    refine G1.mono ?_
    rintro x w1 ⟨rfl, rfl⟩
    obtain ⟨d0, d1, d2⟩ := R0.cells
    go_wp2_with fail
    refine (G2 _).mono ?_
    rintro x w1 ⟨rfl, hb1⟩
    have R1 := R0.later hb1
    have hb1 := hb0.trans (hb1.mono hb0.size)
    clear d0 d1 d2
    obtain ⟨d0, d1, d2⟩ := R1.cells
    go_wp2_with fail
    refine (IN _).mono ?_
    rintro x w2 ⟨rfl, hb2⟩
    have hb2 := hb1.trans (hb2.mono hb1.size)
    go_wp2_with fail
    refine (awake8 _).mono ?_
    rintro x w3 ⟨rfl, hb3⟩
    go_wp2_with fail
    go_ret
    exact ⟨rfl, hb2.trans (hb3.mono hb2.size)⟩
  case true =>
  rw [g5] at IN
  have KP := hid (keeps l (rg lo hi e) a k.data.toList g5)
  have TS := hid (trim_sizes (l := l) (r := rg lo hi e) (a := a) (n := 1000) (fun m h => by have := hms m h; omega))
  have TL := hid (trim_length l (rg lo hi e) a)
  have HL2 := hid (fun w' (h : Msgs w' a0 l) => last17 a0 c0 l (a ++ k) w' hl h)
  rw [app_data] at HL2
  have HMS := hid hms
  clear g1 g2 g5 hms
  cases hB : trimB l (rg lo hi e) a
  case false =>
    rw [hB] at TR
    clear KP TS TL HL2
    go_enter Try.func5, Try.ntmps5
    go_wp2_with fail
    refine G1.mono ?_
    rintro x w1 ⟨rfl, rfl⟩
    obtain ⟨d0, d1, d2⟩ := R0.cells
    go_wp2_with fail
    refine (G2 _).mono ?_
    rintro x w1 ⟨rfl, hb1⟩
    have R1 := R0.later hb1
    have hb1 := hb0.trans (hb1.mono hb0.size)
    clear d0 d1 d2
    obtain ⟨d0, d1, d2⟩ := R1.cells
    go_wp2_with fail
    refine (IN _).mono ?_
    rintro x w2 ⟨rfl, hb2⟩
    have R2 := R1.later hb2
    have hb2 := hb1.trans (hb2.mono hb1.size)
    clear d0 d1 d2
    obtain ⟨d0, d1, d2⟩ := R2.cells
    go_wp2_with fail
    refine (TR _ (hm.later hb2)).mono ?_
    rintro x w3 ⟨⟨_, hx⟩, hb3⟩
    obtain rfl := hx rfl
    have hb3 := hb2.trans (hb3.mono hb2.size)
    go_wp2_with fail
    refine (awake8 _).mono ?_
    rintro x w4 ⟨rfl, hb4⟩
    go_wp2_with fail
    go_ret
    exact ⟨rfl, hb3.trans (hb4.mono hb3.size)⟩
  case true =>
  rw [hB] at TR
  obtain ⟨xk, HX⟩ := msOf_of _ TS.out
  have HX := hid HX
  replace KP := hid (KP.out hB)
  rw [HX.out] at KP TR TL
  rw [msOf_length] at TL
  have HL1 := hid (fun a c w' (h : Msgs w' a (msOf xk)) => last16 a c xk k w' (by have := TL.out; unfold maxLen; omega) h)
  generalize lastI (msOf xk) k.data.toList = I at *
  generalize lastI l (a.data.toList ++ k.data.toList) = J at *
  clear TS hB HX
  go_enter Try.func5, Try.ntmps5
  go_wp2_with fail
  refine G1.mono ?_
  rintro x w1 ⟨rfl, rfl⟩
  obtain ⟨d0, d1, d2⟩ := R0.cells
  go_wp2_with fail
  refine (G2 _).mono ?_
  rintro x w1 ⟨rfl, hb1⟩
  have R1 := R0.later hb1
  have hb1 := hb0.trans (hb1.mono hb0.size)
  clear d0 d1 d2
  obtain ⟨d0, d1, d2⟩ := R1.cells
  go_wp2_with fail
  refine (IN _).mono ?_
  rintro x w2 ⟨rfl, hb2⟩
  have R2 := R1.later hb2
  have hb2 := hb1.trans (hb2.mono hb1.size)
  clear d0 d1 d2
  obtain ⟨d0, d1, d2⟩ := R2.cells
  go_wp2_with fail
  refine (TR _ (hm.later hb2)).mono ?_
  rintro x w3 ⟨⟨hx, _⟩, hb3⟩
  obtain ⟨v, rfl, hv⟩ := hx rfl
  have hb3 := hb2.trans (hb3.mono hb2.size)
  obtain ⟨fa, cap, rfl, hfm, _⟩ := hv.form
  rw [msOf_length]
  clear d0 d1 d2 R0 R1 R2 G1 G2 IN TR hx hv hb0 hb1 hb2 hm0
  go_wp2_with fail
  refine (HL1.out _ _ _ hfm).mono ?_
  rintro x w4 ⟨rfl, hb4⟩
  have hfm4 := hfm.later hb4
  have hb4 := hb3.trans (hb4.mono hb3.size)
  clear hfm hb3 HL1
  go_wp2_with fail
  refine (HL2.out _ (hm.later hb4)).mono ?_
  rintro x w5 ⟨rfl, hb5⟩
  have hfm5 := hfm4.later hb5
  have hb5 := hb4.trans (hb5.mono hb4.size)
  have hm5 := hm.later hb5
  clear hfm4 hb4 HL2 hm
  rcases KP.out with ⟨rfl, rfl⟩ | ⟨i, n, hi, hn', rfl, rfl, hx, hs, hB⟩
  · go_wp2_with fail
    refine (awake8 _).mono ?_
    rintro x w6 ⟨rfl, hb6⟩
    go_wp2_with fail
    go_ret
    exact ⟨rfl, hb5.trans (hb6.mono hb5.size)⟩
  · clear KP
    obtain ⟨f0, f1, f2, f3⟩ := short_fields hB
    obtain ⟨b, off, rfl, h6⟩ := hm5.at hn'
    obtain ⟨g, goff, rfl, x6⟩ := hfm5.at hi
    rw [hx] at x6
    have HK := hid (short_key hB)
    have HG := hid (fun h3 => short_goto hB h3 hs)
    have hlx : ((i : Int) < (xk.length : Int)) := by rw [msOf_length] at hi; omega
    have hdx : decide ((xk.length : Int) ≤ (i : Int)) = false := by simp; omega
    have b1 := (HMS.out _ (List.getElem_mem hn')).1
    have b2 := (HMS.out _ (List.getElem_mem hn')).2.2
    have b3 := Nat.le_trans (short_size l[n] a) b1
    have b4 := short_add hB
    clear hs hB hx hm5 hfm5 HMS
    generalize l[n] = m at *
    generalize shortM m a = y at *
    obtain ⟨kd, ky, vl, bk, dp, ad⟩ := m
    obtain ⟨kd', ky', vl', bk', dp', ad'⟩ := y
    dsimp only at f0 f1 f2 f3 HK HG b1 b2 b3 b4
    subst f0 f1 f2 f3
    have hxl : xk.length ≤ 60 := by have := TL.out; omega
    have hi' : i < xk.length := by omega
    generalize xk.length = nx at *
    generalize l.length = nl at *
    clear TL hi hl g3 g4 ha hk
    have hbw6 : ∃ w6, Hid (w6 = w5) := ⟨_, hid rfl⟩
    clear hbw6
    have h6' := h6
    have x6' := x6
    obtain ⟨c0, c1, c2, c3, c4, c5⟩ := h6'
    obtain ⟨x0, x1, x2, x3, x4, x5⟩ := x6'
    dsimp only at c0 c1 c2 c3 c4 c5 x0 x1 x2 x3 x4 x5
    go_upto_region 9 with fail
    go_quiet (fail)
    by_cases h3 : kd' = 3
    · subst h3
      clear HK
      obtain ⟨g1, g2, g3⟩ := HG.out rfl
      have HS := has24 k ky'
      rw [g1] at HS
      have hks := has_size g1
      have HE := hid g3
      clear HG g1 g3
      go_wp2_with fail
      refine (HS _).mono ?_
      rintro x w6 ⟨rfl, rfl⟩
      clear HS
      go_upto_region 15 with fail
      clear c0 c1 c2 c3 c4 c5 x0 x1 x2 x3 x4 x5
      have hE := HE.out
      rw [ByteArray.size_append] at g2
      have q1 : ¬ 9223372036854775807 < ad'.size + (k.size - ky'.size) := by omega
      have q2 : ¬ 9223372036854775807 < a.size + k.size := by omega
      have q3 : ¬ 9223372036854775807 < ad.size + (a.size + k.size - ky.size) := by omega
      have q4 : (ky.size : Int) ≤ (a.size : Int) + (k.size : Int) := by omega
      clear hsum
      refine wp_region_quiet (C := fun u => Below w5.heap.size w5 u) (by kernel_rfl) (by kernel_rfl) ⟨rfl, rfl, rfl, Nat.le_refl _, fun _ _ => rfl⟩ ?_
      change wpQuiet _ _ _ _ (_ :: _) _
      repeat
        refine wpQuiet_step (fun K hK => ?_)
        first
          | refine quiet_val ?_ (by kernel_rfl) ?_ ?_
            rotate_left
            · intro u hu
              obtain ⟨c0, c1, c2, c3, c4, c5⟩ := h6.later hu
              obtain ⟨x0, x1, x2, x3, x4, x5⟩ := x6.later hu
              dsimp only at c0 c1 c2 c3 c4 c5 x0 x1 x2 x3 x4 x5
              go_simp
              with_reducible rfl
          | refine quiet_call (.bool true) 8 #[] (by kernel_rfl) ?_ (fun u hu => (awake8 u).mono fun x u' h => ⟨h.1, hu.trans (h.2.mono hu.size)⟩) ?_
            · intro u hu
              go_simp
              done
        go_simp
        refine hK _ ?_
        clear hK K
      refine wpQuiet_nil (fun u hu => ?_)
      go_wp2_with fail
      go_ret
      exact ⟨rfl, hb5.trans (hu.mono hb5.size)⟩
    · have h3' : (kd' == 3) = false := by simp; omega
      have HK := hid (HK.out h3)
      clear HG h3
      go_upto_region 12 with fail
      clear c0 c1 c2 c3 c4 c5 x0 x1 x2 x3 x4 x5
      obtain rfl := HK.out
      clear HK
      have q1 : ¬ 9223372036854775807 < a.size + ky'.size := by omega
      refine wp_region_quiet (C := fun u => Below w5.heap.size w5 u) (by kernel_rfl) (by kernel_rfl) ⟨rfl, rfl, rfl, Nat.le_refl _, fun _ _ => rfl⟩ ?_
      change wpQuiet _ _ _ _ (_ :: _) _
      repeat
        refine wpQuiet_step (fun K hK => ?_)
        first
          | refine quiet_val ?_ (by kernel_rfl) ?_ ?_
            rotate_left
            · intro u hu
              obtain ⟨c0, c1, c2, c3, c4, c5⟩ := h6.later hu
              obtain ⟨x0, x1, x2, x3, x4, x5⟩ := x6.later hu
              dsimp only at c0 c1 c2 c3 c4 c5 x0 x1 x2 x3 x4 x5
              go_simp
              with_reducible rfl
          | refine quiet_call (.bool true) 8 #[] (by kernel_rfl) ?_ (fun u hu => (awake8 u).mono fun x u' h => ⟨h.1, hu.trans (h.2.mono hu.size)⟩) ?_
            · intro u hu
              go_simp
              done
        go_simp
        refine hK _ ?_
        clear hK K
      refine wpQuiet_nil (fun u hu => ?_)
      go_wp2_with fail
      go_ret
      exact ⟨rfl, hb5.trans (hu.mono hb5.size)⟩
end Go.Proofs.Ytobbgndabmnbcaa.Key
