/-
  The document's disk by value: 'Write'.
-/
import Derived.Test.YtklfpoojpfomeaaDg
namespace Go.Proofs.Ytklfpoojpfomeaa.Key
open Go.RowKit Draw
set_option linter.unusedVariables false
set_option linter.unusedSimpArgs false

theorem Wrs.news {w : World} {a : Option Addr} {l : List Wr} (h : Wrs w a l) : ∀ adr, a = some adr → ∀ j u, (l.flatMap Wr.cells)[j]? = some u → w.cell? (adr.add j) = some u := by
  rintro adr rfl
  rcases h with rfl | ⟨b, off, he, _, hc⟩
  · intro j u hu; simp at hu
  · simp only [Option.some.injEq] at he
    subst he
    refine flat_news Wr.cells 2 (by omega) (fun _ => rfl) fun i hi q u hu => ?_
    obtain ⟨c0, c1⟩ := hc i hi
    have hq : q < 2 := by have := (List.getElem?_eq_some_iff.1 hu).1; simpa [Wr.cells] using this
    match q, hq with
    | 0, _ => rw [← hu]; exact c0
    | 1, _ => rw [← hu]; exact c1

set_option maxRecDepth 100000 in
set_option maxHeartbeats 4000000 in
theorem write23 (d : Dk) (k : Int) (b : List UInt8) (ba : Option Addr) (bc : Nat) (ka wa : Option Addr) (kc wc : Nat) (w : World) (hl : d.kept.length ≤ 90000 ∧ d.waits.length ≤ 90000) (h : DLies w d ka wa) (hw0 : wa = none → wc = 0) (hB : Bytes w ba (nums (str b))) (hb0 : ba = none → b.length = 0 ∧ bc = 0) (hb1 : b.length ≤ maxLen) (hf : 0 ≤ d.falls ∧ d.falls < 1000000) (hfu : (Lit.int .i64 d.fuse).wf = true) :
    Calls Try.prog 23 #[dv d ka wa kc wc, .int .i64 k, .slice ba b.length bc] w fun x w' => (∃ wa' wc', x = .returned (.tuple #[.int .i64 (writeD d k b).1, dv (writeD d k b).2 ka wa' kc wc']) ∧ DLies w' (writeD d k b).2 ka wa' ∧ (wa' = none → wc' = 0)) ∧ Below w.heap.size w w' := by
  obtain ⟨nn, kp, wt, dn, fl, fu⟩ := d
  dsimp only [dv] at *
  have hbl : ∀ c c', Below w.heap.size w ((w.alloc (.cells c 31)).alloc (.cells c' 31)).drew := fun c c' => ((below_box w (.cells c 31)).trans ((below_box _ (.cells c' 31)).mono (by simp [World.size_alloc]))).drew
  have HR := hid (show writeD ⟨nn, kp, wt, dn, fl, fu⟩ k b = if dn = true then (17, ⟨nn, kp, wt, dn, fl, fu⟩) else if k < 0 ∨ nn ≤ k then (6, ⟨nn, kp, wt, dn, fl, fu⟩) else if 2048 < b.length then (4, ⟨nn, kp, wt, dn, fl, fu⟩) else if fu = 0 then (17, fallD (waitD ⟨nn, kp, wt, dn, fl, fu⟩ k b)) else if 0 < fu then (0, { waitD ⟨nn, kp, wt, dn, fl, fu⟩ k b with fuse := fu - 1 }) else (0, waitD ⟨nn, kp, wt, dn, fl, fu⟩ k b) from rfl)
  generalize writeD ⟨nn, kp, wt, dn, fl, fu⟩ k b = RD at *
  cases dn
  case true =>
    have HR1 := hid (HR.out.trans (if_pos rfl))
    clear HR
    go_enter Try.func23, Try.ntmps23
    go_wp2_with fail
    go_region
    go_wp2_with fail
    exact bodyPost_ret (v := .tuple #[.int .i64 17, .agg #[.int .i64 nn, .slice ka kp.length kc, .slice wa wt.length wc, .bool true, .int .i64 fl, .int .i64 fu]]) (by simp [results, Try.results23, go_sem]) rfl ⟨⟨wa, wc, by rw [HR1.out], by rw [HR1.out]; exact h.later (hbl _ _), hw0⟩, hbl _ _⟩
  case false =>
    have HR0 := hid (HR.out.trans (if_neg (by decide)))
    clear HR
    by_cases hr : k < 0 ∨ nn ≤ k
    · have HR1 := hid (HR0.out.trans (if_pos hr))
      by_cases h0 : k < 0
      · have hd : decide (k < 0) = true := decide_eq_true h0
        go_enter Try.func23, Try.ntmps23
        go_wp2_with fail
        go_region
        go_wp2_with fail
        exact bodyPost_ret (v := .tuple #[.int .i64 6, .agg #[.int .i64 nn, .slice ka kp.length kc, .slice wa wt.length wc, .bool false, .int .i64 fl, .int .i64 fu]]) (by simp [results, Try.results23, go_sem]) rfl ⟨⟨wa, wc, by rw [HR1.out], by rw [HR1.out]; exact h.later (hbl _ _), hw0⟩, hbl _ _⟩
      · have h1 : nn ≤ k := by omega
        have hd : decide (k < 0) = false := decide_eq_false h0
        have hd1 : decide (nn ≤ k) = true := decide_eq_true h1
        have hd2 : decide (k < nn) = false := decide_eq_false (by omega)
        go_enter Try.func23, Try.ntmps23
        go_wp2_with fail
        go_region
        go_wp2_with fail
        exact bodyPost_ret (v := .tuple #[.int .i64 6, .agg #[.int .i64 nn, .slice ka kp.length kc, .slice wa wt.length wc, .bool false, .int .i64 fl, .int .i64 fu]]) (by simp [results, Try.results23, go_sem]) rfl ⟨⟨wa, wc, by rw [HR1.out], by rw [HR1.out]; exact h.later (hbl _ _), hw0⟩, hbl _ _⟩
    · have HRx := hid (HR0.out.trans (if_neg hr))
      have h0 : ¬ k < 0 := by omega
      have h1 : ¬ nn ≤ k := by omega
      have hd : decide (k < 0) = false := decide_eq_false h0
      have hd1 : decide (nn ≤ k) = false := decide_eq_false h1
      have hd2 : decide (k < nn) = true := decide_eq_true (by omega)
      clear hr HR0
      by_cases hlen : 2048 < b.length
      · have HR1 := hid (HRx.out.trans (if_pos hlen))
        have hl1 : (2048 : Int) < (b.length : Int) := by omega
        have hld : decide ((2048 : Int) < (b.length : Int)) = true := decide_eq_true hl1
        go_enter Try.func23, Try.ntmps23
        go_wp2_with fail
        go_region
        go_wp2_with fail
        exact bodyPost_ret (v := .tuple #[.int .i64 4, .agg #[.int .i64 nn, .slice ka kp.length kc, .slice wa wt.length wc, .bool false, .int .i64 fl, .int .i64 fu]]) (by simp [results, Try.results23, go_sem]) rfl ⟨⟨wa, wc, by rw [HR1.out], by rw [HR1.out]; exact h.later (hbl _ _), hw0⟩, hbl _ _⟩
      · have hb2048 : b.length ≤ 2048 := by omega
        have hld : decide ((2048 : Int) < (b.length : Int)) = false := decide_eq_false (by omega)
        have HRy := hid (HRx.out.trans (if_neg hlen))
        have e1 : waitD ⟨nn, kp, wt, false, fl, fu⟩ k b = ⟨nn, kp, wt ++ [⟨k, wholeD b⟩], false, fl, fu⟩ := rfl
        rw [e1] at HRy
        clear e1 HRx hbl hlen
        obtain ⟨hk0, hw0'⟩ := h
        dsimp only at hk0 hw0' hl hfu hf hw0
        have HWH := hid (fun (u : World) => whole22 b u hb2048)
        obtain ⟨S, hS⟩ : ∃ S, wholeD b = S := ⟨_, rfl⟩
        rw [hS] at HWH HRy
        clear hS
        have HBb := hid (fun (u : World) (hu : Below w.heap.size w u) => conv_str (hB.later hu) b.length bc (by rw [nums_length, str_size]) hb0)
        simp only [str_nums] at HBb
        obtain ⟨WT2, hWT⟩ : ∃ WT2, wt ++ [⟨k, S⟩] = WT2 := ⟨_, rfl⟩
        obtain ⟨n2, hn2⟩ : ∃ n2, WT2.length = n2 := ⟨_, rfl⟩
        have HN2 := hid hn2
        have HWT := hid hWT
        obtain ⟨kpn, hkp⟩ : ∃ kpn, kp.length = kpn := ⟨_, rfl⟩
        have HKP := hid hkp
        rw [hWT] at HRy
        rw [hkp] at hl ⊢
        obtain ⟨n, hn⟩ : ∃ n, wt.length = n := ⟨_, rfl⟩
        have HN := hid hn
        rw [hn] at hl ⊢
        obtain ⟨bl, hbl⟩ : ∃ bl, b.length = bl := ⟨_, rfl⟩
        rw [hbl] at hld hb2048 HBb hb0 ⊢
        clear hn2 hkp hn hbl hWT hb1 hB
        go_enter Try.func23, Try.ntmps23
        go_upto_region 1 with fail
        obtain ⟨T1, T2, bb⟩ := boxes w nn (.slice ka kpn kc) (.slice wa n wc) false fl fu
        have hk1 := hk0.later bb
        have hw1 := hw0'.later bb
        clear hk0 hw0'
        generalize (w.alloc (.cells #[.int .i64 nn, .slice ka kpn kc, .slice wa n wc, .bool false, .int .i64 fl, .int .i64 fu] 31)).alloc (.cells #[.int .i64 0, .slice none 0 0, .slice none 0 0, .bool false, .int .i64 0, .int .i64 0] 31) = w1 at *
        generalize hB1 : w.heap.size = b1 at *
        have hne : b1 + 1 ≠ b1 := by omega
        have hlb2 : b1 ≤ b1 + 1 := by omega
        generalize b1 + 1 = b2 at *
        have HB1 := hid hB1
        clear hB1
        have hs1 := bb.size
        rw [HB1.out] at hs1
        have HT := hid (And.intro T1 (And.intro T2 hk1))
        obtain ⟨c0, c1, c2, c3, c4, c5⟩ := T1.cells
        go_upto_region 7 with fail
        clear c0 c1 c2 c3 c4 c5
        have bx2 := below_box w1 (.cells #[] 51)
        have o2 := wrs_made w1
        obtain ⟨c0, c1, c2, c3, c4, c5⟩ := (T1.later bx2).cells
        have hnw := (hw1.later bx2).news
        have hwn : wa = none → n = 0 ∧ wc = 0 := fun e => ⟨by
          subst e
          have hq : wt = [] := by
            rcases hw1 with hq | ⟨x, y, hq, _⟩
            · exact hq
            · cases hq
          rw [← HN.out, hq]
          rfl, hw0 e⟩
        have HWB := hid (fun (u : World) (hu : Below w1.heap.size w1 u) => bb.trans (hu.mono hs1))
        clear T1 T2 hk1 hw1 bb hw0
        go_upto_region 9 with (first | (at_builtin; refine appGen Wr.cells 2 24 29 51 _ (by omega) (fun _ => rfl) Try.underlying29 info51 rfl (by omega) oneW (w0 := w1) rfl _ _ rfl w1.heap.size _ [] rfl o2 wa n wc wt rfl hwn HN.out hnw (by simp; omega) (by rw [World.size_alloc]; omega) bx2 ?_; intro v3 w3 o3 hb3 _; clear o2 hnw bx2 c0 c1 c2 c3 c4 c5) | fail)
        have hcv := HBb.out w3 (HWB.out w3 hb3)
        have hs3 := hb3.size
        go_wp2_with fail
        refine (HWH.out w3).mono ?_
        rintro e w4 ⟨rfl, hb4⟩
        have o4 := row_later o3 hb4
        have hb14 := hb3.trans (hb4.mono hs3)
        have hC := one_write w4 ⟨k, S⟩
        have bx := below_box w4 (.cells #[.int .i64 k, .string (str S)] 51)
        have o5 := row_later o4 bx
        have hb15 := hb14.trans (bx.mono hb14.size)
        have hs4 := hb14.size
        obtain ⟨oa, on, oc, hov⟩ := row_slice o4
        subst hov
        clear o3 o4 hcv hb4 hb14 hb3 bx
        dsimp only at hC
        simp only [List.nil_append] at o5
        go_upto_region 10 with (first | (at_builtin; refine appGen Wr.cells 2 24 29 51 _ (by omega) (fun _ => rfl) Try.underlying29 info51 rfl (by omega) oneW (w0 := w1) rfl _ _ rfl w1.heap.size _ wt rfl o5 (some ⟨w4.heap.size, 0, none⟩) 1 1 [⟨k, S⟩] rfl (by simp) rfl hC (by rw [HN.out]; omega) (by rw [World.size_alloc]; omega) hb15 ?_; intro v6 w6 o6 hb6 _; rw [HWT.out] at o6; obtain ⟨a6, c6, hv6, hW6⟩ := row_wrs o6; rw [HN2.out] at hv6; subst hv6; have hB6 := HT.out.1.later hb6; obtain ⟨c0, c1, c2, c3, c4, c5⟩ := hB6.cells; have f2 := hB6.free 2; clear o5 o6 hb15 hC) | fail)
        have hB7 := hB6.set2 (.slice a6 n2 c6)
        have hR7 := (HT.out.2.1.later hb6).other hne 2 (.slice a6 n2 c6)
        have hK7 := (HT.out.2.2.later hb6).set hB6 2 (.slice a6 n2 c6)
        have hW7 := hW6.set hB6 2 (.slice a6 n2 c6)
        have hbb7 := below_at (HWB.out w6 hb6) b1 (Nat.le_refl _) (Nat.le_trans hs1 hb6.size) 2 (.slice a6 n2 c6)
        have HZ6 := hid (fun (e : a6 = none) => show c6 = 0 by
          subst e
          have hq : WT2 = [] := by
            rcases hW6 with hq | ⟨x, y, hq, _⟩
            · exact hq
            · cases hq
          rw [← HWT.out] at hq
          simp at hq)
        clear c0 c1 c2 c3 c4 c5 f2 hB6 hW6 hb6 HT hs4 hs3 HWB hwn
        generalize w6.setCell ⟨b1, 2, none⟩ (.slice a6 n2 c6) = w7 at *
        have HL7 := hid (And.intro hK7 hW7)
        have HB7 := hid hbb7
        have hs7 := hbb7.size
        rw [HB1.out] at hs7
        clear hK7 hW7 hbb7
        by_cases h0f : fu = 0
        · subst h0f
          have HR1 := hid (HRy.out.trans (if_pos rfl))
          have HFA := fall25 ⟨nn, kp, WT2, false, fl, 0⟩ ka a6 kc c6 w7 hf HL7.out
          dsimp only [dv, fallD] at HFA
          rw [if_neg (by decide), HKP.out, HN2.out] at HFA
          obtain ⟨c0, c1, c2, c3, c4, c5⟩ := hB7.cells
          go_wp2_with fail
          refine HFA.mono ?_
          rintro e w8 ⟨rfl, hb8⟩
          have R8 := hR7.later hb8
          have hb18 := HB7.out.trans (hb8.mono hs7)
          have HL8 := DLies.later (d := ⟨nn, kp, WT2, false, fl, 0⟩) HL7.out hb8
          clear c0 c1 c2 c3 c4 c5 HFA hb8 hB7 hR7
          obtain ⟨z0, z1, z2, z3, z4, z5⟩ := R8.cells
          have f0 := R8.free 0
          have f1 := R8.free 1
          have f2 := R8.free 2
          have f3 := R8.free 3
          have f4 := R8.free 4
          have f5 := R8.free 5
          obtain ⟨q5, q6⟩ := R8.fill (n' := nn) (k' := .slice ka kpn kc) (wv' := .slice a6 n2 c6) (dn' := true) (fl' := (fl + 1)) (fu' := 0)
          have HC9 := hid ((q5).cells)
          have HL9 := hid (And.intro ((HL8.1.beside R8 q6)) ((HL8.2.beside R8 q6)))
          have hs8 := hb18.size
          rw [HB1.out] at hs8
          have HB9 := hid ((hb18.grown q6 hs8 (fun k hk => by cases hk; exact hlb2)))
          clear q5 q6 hs8 R8 HL8 hb18
          go_wp2_with fail
          refine bodyPost_ret (v := .tuple #[.int .i64 17, .agg #[.int .i64 nn, .slice ka kpn kc, .slice a6 n2 c6, .bool true, .int .i64 (fl + 1), .int .i64 0]]) ?_ rfl ?_
          · obtain ⟨e0, e1, e2, e3, e4, e5⟩ := HC9.out
            simp [results, Try.results23, go_sem, e0, e1, e2, e3, e4, e5]
          · exact ⟨⟨a6, c6, by rw [HR1.out, ← HKP.out, ← HN2.out] <;> rfl, by rw [HR1.out]; exact HL9.out, HZ6.out⟩, by rw [HB1.out]; exact HB9.out⟩
        · have HR0 := hid (HRy.out.trans (if_neg h0f))
          have hd0 : decide (fu = 0) = false := decide_eq_false h0f
          by_cases h1f : 0 < fu
          · have HR1 := hid (HR0.out.trans (if_pos h1f))
            have hd1 : decide (0 < fu) = true := decide_eq_true h1f
            have hfw : IntKind.i64.wrap (fu - 1) = fu - 1 := by
              rw [IntKind.wrap_i64]
              unfold Lit.wf at hfu
              simp only [Bool.and_eq_true, decide_eq_true_eq] at hfu
              simp [IntKind.max, IntKind.min, IntKind.bits, IntKind.signed] at hfu
              omega
            obtain ⟨c0, c1, c2, c3, c4, c5⟩ := hB7.cells
            have f5 := hB7.free 5
            have hB8 := hB7.set5 (fu - 1)
            have R8 := hR7.other hne 5 (.int .i64 (fu - 1))
            have HL8 : DLies (w7.setCell ⟨b1, 5, none⟩ (.int .i64 (fu - 1))) ⟨nn, kp, WT2, false, fl, fu⟩ ka a6 := ⟨HL7.out.1.set hB7 5 _, HL7.out.2.set hB7 5 _⟩
            have hb18 := below_at HB7.out b1 (Nat.le_refl _) hs7 5 (.int .i64 (fu - 1))
            have HH := hid (And.intro hB8 (And.intro R8 (And.intro HL8 hb18)))
            clear hB8 R8 HL8 hb18 hB7 hR7
            go_upto_region 14 with fail
            clear c0 c1 c2 c3 c4 c5 f5
            generalize w7.setCell ⟨b1, 5, none⟩ (.int .i64 (fu - 1)) = w8 at *
            obtain ⟨hB8, R8, HL8, hb18⟩ := HH.out
            obtain ⟨c0, c1, c2, c3, c4, c5⟩ := hB8.cells
            clear hB8 HH
            obtain ⟨z0, z1, z2, z3, z4, z5⟩ := R8.cells
            have f0 := R8.free 0
            have f1 := R8.free 1
            have f2 := R8.free 2
            have f3 := R8.free 3
            have f4 := R8.free 4
            have f5 := R8.free 5
            obtain ⟨q5, q6⟩ := R8.fill (n' := nn) (k' := .slice ka kpn kc) (wv' := .slice a6 n2 c6) (dn' := false) (fl' := fl) (fu' := (fu - 1))
            have HC9 := hid ((q5.later (Below.refl _ _).drew).cells)
            have HL9 := hid (And.intro ((HL8.1.beside R8 q6).later (Below.refl _ _).drew) ((HL8.2.beside R8 q6).later (Below.refl _ _).drew))
            have hs8 := hb18.size
            rw [HB1.out] at hs8
            have HB9 := hid ((hb18.grown q6 hs8 (fun k hk => by cases hk; exact hlb2)).drew)
            clear q5 q6 hs8 R8 HL8 hb18
            go_region
            go_wp2_with fail
            refine bodyPost_ret (v := .tuple #[.int .i64 0, .agg #[.int .i64 nn, .slice ka kpn kc, .slice a6 n2 c6, .bool false, .int .i64 fl, .int .i64 (fu - 1)]]) ?_ rfl ?_
            · obtain ⟨e0, e1, e2, e3, e4, e5⟩ := HC9.out
              simp [results, Try.results23, go_sem, e0, e1, e2, e3, e4, e5]
            · exact ⟨⟨a6, c6, by rw [HR1.out, ← HKP.out, ← HN2.out] <;> rfl, by rw [HR1.out]; exact HL9.out, HZ6.out⟩, by rw [HB1.out]; exact HB9.out⟩
          · have HR1 := hid (HR0.out.trans (if_neg h1f))
            have hd1 : decide (0 < fu) = false := decide_eq_false h1f
            obtain ⟨c0, c1, c2, c3, c4, c5⟩ := hB7.cells
            have R8 := hR7
            have HL8 : DLies w7 ⟨nn, kp, WT2, false, fl, fu⟩ ka a6 := HL7.out
            have hb18 := HB7.out
            clear hB7 hR7
            go_upto_region 14 with fail
            obtain ⟨z0, z1, z2, z3, z4, z5⟩ := R8.cells
            have f0 := R8.free 0
            have f1 := R8.free 1
            have f2 := R8.free 2
            have f3 := R8.free 3
            have f4 := R8.free 4
            have f5 := R8.free 5
            obtain ⟨q5, q6⟩ := R8.fill (n' := nn) (k' := .slice ka kpn kc) (wv' := .slice a6 n2 c6) (dn' := false) (fl' := fl) (fu' := fu)
            have HC9 := hid ((q5.later (Below.refl _ _).drew).cells)
            have HL9 := hid (And.intro ((HL8.1.beside R8 q6).later (Below.refl _ _).drew) ((HL8.2.beside R8 q6).later (Below.refl _ _).drew))
            have hs8 := hb18.size
            rw [HB1.out] at hs8
            have HB9 := hid ((hb18.grown q6 hs8 (fun k hk => by cases hk; exact hlb2)).drew)
            clear q5 q6 hs8 R8 HL8 hb18
            go_region
            go_wp2_with fail
            refine bodyPost_ret (v := .tuple #[.int .i64 0, .agg #[.int .i64 nn, .slice ka kpn kc, .slice a6 n2 c6, .bool false, .int .i64 fl, .int .i64 fu]]) ?_ rfl ?_
            · obtain ⟨e0, e1, e2, e3, e4, e5⟩ := HC9.out
              simp [results, Try.results23, go_sem, e0, e1, e2, e3, e4, e5]
            · exact ⟨⟨a6, c6, by rw [HR1.out, ← HKP.out, ← HN2.out] <;> rfl, by rw [HR1.out]; exact HL9.out, HZ6.out⟩, by rw [HB1.out]; exact HB9.out⟩
end Go.Proofs.Ytklfpoojpfomeaa.Key
