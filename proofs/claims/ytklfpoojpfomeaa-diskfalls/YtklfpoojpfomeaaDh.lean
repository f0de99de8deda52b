/-
  The document's disk by value: 'Back'.
-/
import Derived.Test.YtklfpoojpfomeaaDf
namespace Go.Proofs.Ytklfpoojpfomeaa.Key
open Go.RowKit Draw
set_option linter.unusedVariables false
set_option linter.unusedSimpArgs false
theorem comesD_len (keep : List Bool) (torn : Int) (n : Nat) (l : List Wr) (i : Nat) (w : Wr) : (comesD keep torn n l i w).length ≤ l.length + 1 := by
  unfold comesD
  split
  · exact putD_len l _
  split
  · exact putD_len l w
  · omega
theorem comesAllD_len (keep : List Bool) (torn : Int) (n : Nat) (m : List Wr) : ∀ (l : List Wr) (i : Nat), (comesAllD keep torn n l i m).length ≤ l.length + m.length := by
  induction m with
  | nil => intro l i; simp [comesAllD]
  | cons x m ih =>
    intro l i
    have h1 := ih (comesD keep torn n l i x) (i + 1)
    have h2 := comesD_len keep torn n l i x
    rw [comesAllD, List.length_cons]
    omega
theorem comes_at (keep : List Bool) (torn : Int) (n : Nat) {l m : List Wr} {j : Nat} {x : Wr} (h : m[j]? = some x) : comesAllD keep torn n l 0 (m.take (j + 1)) = comesD keep torn n (comesAllD keep torn n l 0 (m.take j)) j x := by
  have hj := (List.getElem?_eq_some_iff.1 h).1
  rw [List.take_add_one, h]
  show comesAllD keep torn n l 0 (m.take j ++ [x]) = _
  rw [comesAllD_snoc, List.length_take, Nat.zero_add, Nat.min_eq_left (by omega)]
theorem cut_drop (l : List UInt8) (n : Nat) : (str l).extract n (str l).size = str (l.drop n) := by
  apply ByteArray.ext
  apply Array.toList_inj.1
  rw [str_size]
  simp [str, List.take_of_length_le]
theorem slice_take (l : List UInt8) (M : Int) (n : Nat) (h0 : 0 ≤ M) (h1 : M ≤ (l.length : Int)) (hn : M.toNat = n) (u : World) :
    (Instr.slice 9 (.string (str l)) none (some (.int .i64 M)) none).run Try.prog u = .ok (.string (str (l.take n))) u := by
  have h2 : M ≤ ((str l).size : Int) := by rw [str_size]; exact h1
  have := run_slice_string_h (P := Try.prog) u 9 (str l) Try.underlying9 .i64 M h0 h2
  rw [this, hn, cut_eq, str_data]
theorem slice_drop (l : List UInt8) (M : Int) (n : Nat) (h0 : 0 ≤ M) (h1 : M ≤ (l.length : Int)) (hn : M.toNat = n) (u : World) :
    (Instr.slice 9 (.string (str l)) (some (.int .i64 M)) none none).run Try.prog u = .ok (.string (str (l.drop n))) u := by
  have h2 : M ≤ ((str l).size : Int) := by rw [str_size]; exact h1
  have := run_slice_string_l (P := Try.prog) u 9 (str l) Try.underlying9 .i64 M h0 h2
  rw [this, hn, cut_drop]
set_option maxRecDepth 100000 in
set_option maxHeartbeats 8000000 in
theorem back26 (d : Dk) (ka wa : Option Addr) (kc wc : Nat) (w : World) (hl : d.kept.length + d.waits.length ≤ 90000) (h : DLies w d ka wa) (hok : d.Ok) (hf : 0 ≤ d.falls ∧ d.falls < 1000000) (keep : List Bool) (ba : Option Addr) (bc : Nat) (hkeep : ∀ u, Below w.heap.size w u → Bools u ba keep) (hkl : keep.length ≤ maxLen) (torn at_ : Int) :
    Calls Try.prog 26 #[dv d ka wa kc wc, .slice ba keep.length bc, .int .i64 torn, .int .i64 at_] w fun x w' => (∃ ka' kc' wa' wc', x = .returned (dv (backD d keep torn at_) ka' wa' kc' wc') ∧ DLies w' (backD d keep torn at_) ka' wa' ∧ (wa' = none → wc' = 0)) ∧ Below w.heap.size w w' := by
  obtain ⟨nn, kp, wt, dn, fl, fu⟩ := d
  dsimp only [dv] at *
  obtain ⟨hk0, hw0⟩ := h
  obtain ⟨hok1, hok2⟩ := hok
  dsimp only at hk0 hw0 hok1 hok2
  obtain ⟨FL, hFL⟩ : ∃ FL, fallD ⟨nn, kp, wt, dn, fl, fu⟩ = ⟨nn, kp, wt, true, FL, fu⟩ := by unfold fallD; cases dn <;> exact ⟨_, rfl⟩
  have HRes := hid (show backD ⟨nn, kp, wt, dn, fl, fu⟩ keep torn at_ = ⟨nn, comesAllD keep torn (byD at_) kp 0 (wt.take wt.length), [], false, FL, -1⟩ by rw [List.take_length]; unfold backD; rw [hFL])
  generalize backD ⟨nn, kp, wt, dn, fl, fu⟩ keep torn at_ = DD at *
  have HFA := hid (fun (u : World) (hu : Below w.heap.size w u) => fall25 ⟨nn, kp, wt, dn, fl, fu⟩ ka wa kc wc u hf ⟨hk0.later hu, hw0.later hu⟩)
  rw [hFL] at HFA
  dsimp only [dv] at HFA
  clear hFL
  have HS := hid (fun j x (hx : wt[j]? = some x) => comes_at keep torn (byD at_) (l := kp) hx)
  have HLn := hid (fun j => show (comesAllD keep torn (byD at_) kp 0 (wt.take j)).length ≤ 90000 by
    have h1 := comesAllD_len keep torn (byD at_) (wt.take j) kp 0
    have h2 : (wt.take j).length ≤ wt.length := by rw [List.length_take]; omega
    omega)
  have HWh := hid (fun j => show Whl (comesAllD keep torn (byD at_) kp 0 (wt.take j)) from Whl.comesAll (fun x hx => hok2 x (List.mem_of_mem_take hx)) keep torn (byD_le at_) hok1 0)
  have H0 := hid (show comesAllD keep torn (byD at_) kp 0 (wt.take 0) = kp from rfl)
  obtain ⟨FT, hFT⟩ : ∃ FT : Nat → List Wr, ∀ j, comesAllD keep torn (byD at_) kp 0 (wt.take j) = FT j := ⟨_, fun _ => rfl⟩
  simp only [hFT] at HRes HS HLn H0 HWh
  clear hFT hok1
  have HOK := hid hok2
  have hwl : wt.length ≤ 90000 := by omega
  clear hl hok2
  obtain ⟨n, hnn⟩ : ∃ n, wt.length = n := ⟨_, rfl⟩
  rw [hnn] at HRes hwl HFA ⊢
  have HN := hid hnn
  obtain ⟨kl, hkk⟩ : ∃ kl, keep.length = kl := ⟨_, rfl⟩
  rw [hkk] at hkl ⊢
  have HKL := hid hkk
  have HBO := hid hkeep
  unfold maxLen at hkl
  clear hnn hkk hkeep
  obtain ⟨M, hM⟩ : ∃ M, min (max at_ 0) 2048 = M := ⟨_, rfl⟩
  have hM0 : 0 ≤ M := by omega
  have hM2 : M ≤ ((2048 : Nat) : Int) := by omega
  obtain ⟨nb, hnb⟩ : ∃ nb, byD at_ = nb := ⟨_, rfl⟩
  have hMn : M.toNat = nb := by rw [← hnb, ← hM]; rfl
  have hnb2 : nb ≤ 2048 := by omega
  rw [hnb] at HS
  clear hnb
  obtain ⟨kpn, hkp⟩ : ∃ kpn, kp.length = kpn := ⟨_, rfl⟩
  have HKP := hid hkp
  rw [hkp] at HFA ⊢
  clear hkp
  go_enter Try.func26, Try.ntmps26
  go_upto_region 1 with fail
  obtain ⟨T1, T2, bb⟩ := boxes w nn (.slice ka kpn kc) (.slice wa n wc) dn fl fu
  have hk1 := hk0.later bb
  have hw1 := hw0.later bb
  clear hk0 hw0
  have HFA1 := HFA.out _ bb
  generalize (w.alloc (.cells #[.int .i64 nn, .slice ka kpn kc, .slice wa n wc, .bool dn, .int .i64 fl, .int .i64 fu] 31)).alloc (.cells #[.int .i64 0, .slice none 0 0, .slice none 0 0, .bool false, .int .i64 0, .int .i64 0] 31) = w1 at *
  generalize hB1 : w.heap.size = b1 at *
  have hne : b1 + 1 ≠ b1 := by omega
  have hlb2 : b1 ≤ b1 + 1 := by omega
  generalize b1 + 1 = b2 at *
  have HB1 := hid hB1
  clear hB1 HFA
  obtain ⟨c0, c1, c2, c3, c4, c5⟩ := T1.cells
  have HT := hid (And.intro T1 (And.intro T2 (And.intro hk1 (And.intro hw1 bb))))
  have hs1 := bb.size
  rw [HB1.out] at hs1
  clear T1 T2 hk1 hw1 bb
  go_wp2_with fail
  refine HFA1.mono ?_
  rintro e w2 ⟨rfl, hb2⟩
  clear c0 c1 c2 c3 c4 c5 HFA1
  obtain ⟨T1, T2, hk1, hw1, bb⟩ := HT.out
  have R1 := T1.later hb2
  have R2 := T2.later hb2
  have hk2 := hk1.later hb2
  have hw2 := hw1.later hb2
  have hb12 := bb.trans (hb2.mono hs1)
  obtain ⟨c0, c1, c2, c3, c4, c5⟩ := R1.cells
  have f0 := R1.free 0
  have f1 := R1.free 1
  have f2 := R1.free 2
  have f3 := R1.free 3
  have f4 := R1.free 4
  have f5 := R1.free 5
  obtain ⟨q5, q6⟩ := R1.fill (n' := nn) (k' := .slice ka kpn kc) (wv' := .slice wa n wc) (dn' := true) (fl' := FL) (fu' := fu)
  have q7 : DB _ b2 0 (.slice none 0 0) (.slice none 0 0) false 0 0 := (q6.block b2 R2.lt (fun e => hne (Option.some.inj e))).trans R2
  have HQ := hid (And.intro q5 (And.intro q7 (And.intro (hk2.beside R1 q6) (And.intro (hw2.beside R1 q6) (hb12.grown q6 (by have := hb12.size; rw [HB1.out] at this; exact this) (fun k hk => by cases hk; exact Nat.le_refl _))))))
  clear T1 T2 hk1 hw1 bb R1 R2 hk2 hw2 hb12 q5 q6 q7 HT hb2
  go_upto_region 2 with fail
  clear c0 c1 c2 c3 c4 c5 f0 f1 f2 f3 f4 f5
  generalize (((((w2.setCell ⟨b1, 0, none⟩ (.int .i64 nn)).setCell ⟨b1, 1, none⟩ (.slice ka kpn kc)).setCell ⟨b1, 2, none⟩ (.slice wa n wc)).setCell ⟨b1, 3, none⟩ (.bool true)).setCell ⟨b1, 4, none⟩ (.int .i64 FL)).setCell ⟨b1, 5, none⟩ (.int .i64 fu) = w3 at *
  obtain ⟨c0, c1, c2, c3, c4, c5⟩ := HQ.out.1.cells
  go_wp2_with fail
  clear c0 c1 c2 c3 c4 c5
  go_loopw [20] (fun i wr => ∃ (j : Nat), j ≤ n ∧ i = .int .i64 j ∧ ∃ ka1 kc1, (DB wr b1 nn (.slice ka1 (FT j).length kc1) (.slice wa n wc) true FL fu ∧ Wrs wr ka1 (FT j)) ∧ Wrs wr wa wt ∧ DB wr b2 0 (.slice none 0 0) (.slice none 0 0) false 0 0 ∧ Below b1 w wr) (fun i _ => n - (intOf i).toNat)
  case atStart =>
    obtain ⟨q1, q2, q3, q4, q5⟩ := HQ.out
    exact ⟨0, Nat.zero_le _, rfl, ka, kc, by rw [H0.out, HKP.out]; exact ⟨q1, q3⟩, q4, q2, q5⟩
  case round =>
    obtain ⟨j, hj, rfl, ka1, kc1, ⟨hBX, hKK⟩, hWW, hRX, hb⟩ := hrel
    clear HQ H0
    have hsz := hb.size
    rw [HB1.out] at hsz
    by_cases hlt : j < n
    · have hlt' : j < wt.length := by rw [HN.out]; exact hlt
      have hKl := HLn.out j
      have hWhK := HWh.out j
      obtain ⟨x, hx⟩ : ∃ x, wt[j]? = some x := ⟨_, List.getElem?_eq_getElem hlt'⟩
      have hxe : wt[j] = x := by rw [List.getElem?_eq_getElem hlt'] at hx; exact Option.some.inj hx
      have hxl : x.b.length = 2048 := HOK.out x (List.mem_of_getElem? hx)
      have HKj := hid (HS.out j x hx)
      have HWW0 := hid hWW
      obtain ⟨b7, o7, hA, x0, x1⟩ := hWW.at hlt'
      subst hA
      rw [hxe] at x0 x1
      clear hx hxe hlt' hWW
      obtain ⟨xi, xb⟩ := x
      dsimp only at *
      obtain ⟨K, hK⟩ : ∃ K, FT j = K := ⟨_, rfl⟩
      have HKn0 := hid hK
      rw [hK] at hBX hKK hKl HKj hWhK
      clear hK
      obtain ⟨Kn, hKn⟩ : ∃ Kn, K.length = Kn := ⟨_, rfl⟩
      have HKn := hid hKn
      rw [hKn] at hBX
      clear hKn
      have Bx := below_box wr (.cells #[.int .i64 xi, .string (str xb)] 51)
      have hTB : (wr.alloc (.cells #[.int .i64 xi, .string (str xb)] 51)).heap[wr.heap.size]? = some (.cells #[.int .i64 xi, .string (str xb)] 51 (0, 0)) := Go.heap_alloc_new _ _
      have ht11 : wr.heap.size < (wr.alloc (.cells #[.int .i64 xi, .string (str xb)] 51)).heap.size := by rw [World.size_alloc]; omega
      have HBX := hid hBX
      have HKK := hid hKK
      have HWW := HWW0
      have HRX := hid hRX
      have HBB := hid hb
      have HBw := hid Bx
      have HTB := hid hTB
      have hBb := HBO.out _ (hb.trans (Bx.mono hsz))
      obtain ⟨cc0, cc1, cc2, cc3, cc4, cc5⟩ := hBX.cells
      obtain ⟨c0, c1, c2, c3, c4, c5⟩ := (hBX.later Bx).cells
      have HBBo := hid hBb
      clear hTB hBX hKK hRX hb Bx hBb
      by_cases ht : (j : Int) = torn
      · have HKt0 := hid (show FT (j + 1) = putD K ⟨xi, xb.take nb ++ (lastD K xi (wholeD [])).drop nb⟩ by rw [HKj.out]; unfold comesD; rw [if_pos ht])
        have HLA := hid (fun (u : World) (hu : Below (wr.alloc (.cells #[.int .i64 xi, .string (str xb)] 51)).heap.size (wr.alloc (.cells #[.int .i64 xi, .string (str xb)] 51)) u) => last29 ka1 kc1 K xi (wholeD []) u (by unfold maxLen; omega) ((HKK.out.later HBw.out).later hu))
        have hLl0 := hWhK.last xi (wholeD_len [])
        obtain ⟨LL, hLL⟩ : ∃ LL, lastD K xi (wholeD []) = LL := ⟨_, rfl⟩
        rw [hLL] at HLA HKt0 hLl0
        rw [HKn.out] at HLA
        have hLl := hLl0
        obtain ⟨TB, hTBe⟩ : ∃ TB, xb.take nb ++ LL.drop nb = TB := ⟨_, rfl⟩
        have hSZ : ¬ 9223372036854775807 < (str (xb.take nb)).size + (str (LL.drop nb)).size := by rw [str_size, str_size, List.length_take, List.length_drop, hxl, hLl]; omega
        rw [hTBe] at HKt0
        have HKt := HKt0
        clear hLL HKj hLl0 HKt0
        subst ht
        go_upto_region 8 with fail
        clear c0 c1 c2 c3 c4 c5 cc0 cc1 cc2 cc3 cc4 cc5 x0 x1
        have hTB := HTB.out
        have T0 := cell_of_row _ wr.heap.size 0 _ 51 _ hTB
        have T1 := cell_of_row _ wr.heap.size 1 _ 51 _ hTB
        simp only [List.getElem?_toArray, List.getElem?_cons_zero, List.getElem?_cons_succ] at T0 T1
        have hBX := HBX.out.later HBw.out
        obtain ⟨t11, ht11e⟩ : ∃ t11, wr.heap.size = t11 := ⟨_, rfl⟩
        have HT11 := hid ht11e
        rw [ht11e] at hTB T0 T1 ht11 ⊢
        clear ht11e HTB
        generalize (wr.alloc (.cells #[.int .i64 xi, .string (str xb)] 51)) = wb at *
        refine region_new [(some 31, [], true), (some 32, [(0, 31)], true), (some 33, [], true), (some 34, [(1, 32), (2, 33)], true), (some 35, [], true), (some 36, [(4, 35)], true), (some 37, [], true), (some 38, [(6, 37)], true), (some 39, [], true), (some 40, [(5, 36), (7, 38), (8, 39)], true), (some 41, [], true), (some 42, [(9, 40), (10, 41)], true), (some 43, [(3, 34), (11, 42)], true), (some 44, [], true), (none, [(13, 44), (12, 43)], true)]
          (fun i Y u => match i with | 0 => Y = .pointer (some ⟨t11, 1, none⟩) | 1 => Y = .string (str xb) | 2 => Y = .int .i64 M | 3 => Y = .string (str (xb.take nb)) | 4 => Y = .pointer (some ⟨b1, 1, none⟩) | 5 => Y = .slice ka1 Kn kc1 | 6 => Y = .pointer (some ⟨t11, 0, none⟩) | 7 => Y = .int .i64 xi | 8 => Y = .string (str (wholeD [])) | 9 => Y = .string (str LL) | 10 => Y = .int .i64 M | 11 => Y = .string (str (LL.drop nb)) | 12 => Y = .string (str (xb.take nb ++ LL.drop nb)) | 13 => Y = .pointer (some ⟨t11, 1, none⟩) | _ => True)
          (fun j v u u' hb hv => ?_) (by kernel_rfl) 14 (by kernel_rfl) [(some 31, [], true), (some 32, [(0, 31)], true), (some 33, [], true), (some 34, [(1, 32), (2, 33)], true), (some 35, [], true), (some 36, [(4, 35)], true), (some 37, [], true), (some 38, [(6, 37)], true), (some 39, [], true), (some 40, [(5, 36), (7, 38), (8, 39)], true), (some 41, [], true), (some 42, [(9, 40), (10, 41)], true), (some 43, [(3, 34), (11, 42)], true), (some 44, [], true)] rfl _ rfl rfl rfl (by kernel_rfl) ⟨?_, ?_, ?_, ?_, ?_, ?_, ?_, ?_, ?_, ?_, ?_, ?_, ?_, ?_, trivial⟩ ?_
        · match j with
          | 0 => exact hv
          | 1 => exact hv
          | 2 => exact hv
          | 3 => exact hv
          | 4 => exact hv
          | 5 => exact hv
          | 6 => exact hv
          | 7 => exact hv
          | 8 => exact hv
          | 9 => exact hv
          | 10 => exact hv
          | 11 => exact hv
          | 12 => exact hv
          | 13 => exact hv
          | _ + 14 => trivial
        · rintro u hu
          replace hu : Below wb.heap.size wb u := hu
          exact opYields_val (.pointer (some ⟨t11, 1, none⟩)) (by kernel_rfl) (by go_simp) ⟨Below.refl _ _, rfl⟩
        · rintro u hu _ rfl
          replace hu : Below wb.heap.size wb u := hu
          have t1 : u.cell? ⟨t11, 1, none⟩ = some (.string (str xb)) := (hu.cell (p := ⟨t11, 1, none⟩) ht11).trans T1
          exact opYields_val (.string (str xb)) (by kernel_rfl) (by go_simp) ⟨Below.refl _ _, rfl⟩
        · rintro u hu
          replace hu : Below wb.heap.size wb u := hu
          exact opYields_val (.int .i64 M) (by kernel_rfl) (by go_simp) ⟨Below.refl _ _, rfl⟩
        · rintro u hu _ rfl _ rfl
          replace hu : Below wb.heap.size wb u := hu
          refine opYields_val (.string (str (xb.take nb))) (by kernel_rfl) ?_ ⟨Below.refl _ _, rfl⟩
          have hs := slice_take xb M nb hM0 (by rw [hxl]; exact hM2) hMn u
          go_simp
        · rintro u hu
          replace hu : Below wb.heap.size wb u := hu
          exact opYields_val (.pointer (some ⟨b1, 1, none⟩)) (by kernel_rfl) (by go_simp) ⟨Below.refl _ _, rfl⟩
        · rintro u hu _ rfl
          replace hu : Below wb.heap.size wb u := hu
          obtain ⟨c0, c1, c2, c3, c4, c5⟩ := (hBX.later hu).cells
          exact opYields_val (.slice ka1 Kn kc1) (by kernel_rfl) (by go_simp) ⟨Below.refl _ _, rfl⟩
        · rintro u hu
          replace hu : Below wb.heap.size wb u := hu
          exact opYields_val (.pointer (some ⟨t11, 0, none⟩)) (by kernel_rfl) (by go_simp) ⟨Below.refl _ _, rfl⟩
        · rintro u hu _ rfl
          replace hu : Below wb.heap.size wb u := hu
          have t0 : u.cell? ⟨t11, 0, none⟩ = some (.int .i64 xi) := (hu.cell (p := ⟨t11, 0, none⟩) ht11).trans T0
          exact opYields_val (.int .i64 xi) (by kernel_rfl) (by go_simp) ⟨Below.refl _ _, rfl⟩
        · rintro u hu
          replace hu : Below wb.heap.size wb u := hu
          refine opYields_call 22 #[.string (str [])] (by kernel_rfl) (by go_simp <;> rfl) ((whole22 [] u (by decide)).mono ?_)
          rintro e u1 ⟨rfl, hu1⟩
          exact ⟨_, rfl, hu1, rfl⟩
        · rintro u hu _ rfl _ rfl _ rfl
          replace hu : Below wb.heap.size wb u := hu
          refine opYields_call 29 #[.slice ka1 Kn kc1, .int .i64 xi, .string (str (wholeD []))] (by kernel_rfl) (by go_simp) ((HLA.out u hu).mono ?_)
          rintro e u1 ⟨rfl, hu1⟩
          exact ⟨_, rfl, hu1, rfl⟩
        · rintro u hu
          replace hu : Below wb.heap.size wb u := hu
          exact opYields_val (.int .i64 M) (by kernel_rfl) (by go_simp) ⟨Below.refl _ _, rfl⟩
        · rintro u hu _ rfl _ rfl
          replace hu : Below wb.heap.size wb u := hu
          refine opYields_val (.string (str (LL.drop nb))) (by kernel_rfl) ?_ ⟨Below.refl _ _, rfl⟩
          have hs := slice_drop LL M nb hM0 (by rw [hLl]; exact hM2) hMn u
          go_simp
        · rintro u hu _ rfl _ rfl
          replace hu : Below wb.heap.size wb u := hu
          refine opYields_val (.string (str (xb.take nb ++ LL.drop nb))) (by kernel_rfl) ?_ ⟨Below.refl _ _, rfl⟩
          have hsz := hSZ
          go_simp
          rw [str_append, str_data, str_data, hTBe]
        · rintro u hu
          replace hu : Below wb.heap.size wb u := hu
          exact opYields_val (.pointer (some ⟨t11, 1, none⟩)) (by kernel_rfl) (by go_simp) ⟨Below.refl _ _, rfl⟩
        · intro u hu x0 e0 x1 e1 x2 e2 x3 e3 x4 e4 x5 e5 x6 e6 x7 e7 x8 e8 x9 e9 x10 e10 x11 e11 x12 e12 x13 e13
          change opYields Try.prog _ _ _ u _
          simp only [Act.put, List.setIfInBounds_toArray, List.set_cons_zero, List.set_cons_succ]
          obtain rfl : x0 = .pointer (some ⟨t11, 1, none⟩) := e0
          obtain rfl : x1 = .string (str xb) := e1
          obtain rfl : x2 = .int .i64 M := e2
          obtain rfl : x3 = .string (str (xb.take nb)) := e3
          obtain rfl : x4 = .pointer (some ⟨b1, 1, none⟩) := e4
          obtain rfl : x5 = .slice ka1 Kn kc1 := e5
          obtain rfl : x6 = .pointer (some ⟨t11, 0, none⟩) := e6
          obtain rfl : x7 = .int .i64 xi := e7
          obtain rfl : x8 = .string (str (wholeD [])) := e8
          obtain rfl : x9 = .string (str LL) := e9
          obtain rfl : x10 = .int .i64 M := e10
          obtain rfl : x11 = .string (str (LL.drop nb)) := e11
          obtain rfl : x12 = .string (str (xb.take nb ++ LL.drop nb)) := e12
          obtain rfl : x13 = .pointer (some ⟨t11, 1, none⟩) := e13
          replace hu : Below wb.heap.size wb u := hu
          have t1 : u.cell? ⟨t11, 1, none⟩ = some (.string (str xb)) := (hu.cell (p := ⟨t11, 1, none⟩) ht11).trans T1
          have hTu : u.heap[t11]? = some (.cells #[.int .i64 xi, .string (str xb)] 51 (0, 0)) := (hu.block t11 ht11).trans hTB
          have f1 := frozen_of_row u t11 1 _ 51 hTu
          have hB8 := hid (below_at (HBw.out.trans (hu.mono HBw.out.size)) t11 (Nat.le_of_eq HT11.out) (Nat.le_trans HBw.out.size hu.size) 1 (.string (str TB)))
          have hT8 : (u.setCell ⟨t11, 1, none⟩ (.string (str TB))).heap[t11]? = some (.cells #[.int .i64 xi, .string (str TB)] 51 (0, 0)) := (heap_setCell_same u t11 1 _ 51 _ hTu).trans rfl
          have HT8 := hid hT8
          rw [hTBe]
          refine opYields_put (u' := u.setCell ⟨t11, 1, none⟩ (.string (str TB))) (by kernel_rfl) (by go_simp) ?_
          clear t1 f1 hTu hT8
          generalize u.setCell ⟨t11, 1, none⟩ (.string (str TB)) = w8 at *
          clear hBX T0 T1 hTB hu
          have T8 := HT8.out
          have T0 : w8.cell? ⟨t11, 0, none⟩ = some (.int .i64 xi) := cell_of_row w8 t11 0 _ 51 _ T8
          have T1 : w8.cell? ⟨t11, 1, none⟩ = some (.string (str TB)) := cell_of_row w8 t11 1 _ 51 _ T8
          have hBX := HBX.out.later hB8.out
          obtain ⟨c0, c1, c2, c3, c4, c5⟩ := hBX.cells
          have HPU := put33 ka1 kc1 K ⟨xi, TB⟩ w8 hKl (HKK.out.later hB8.out)
          dsimp only at HPU
          rw [HKn.out] at HPU
          clear T8 hBX
          go_wp2_with fail
          refine HPU.mono ?_
          rintro e w9 ⟨⟨a17, c17, rfl, h17⟩, hb9⟩
          clear HPU T0 T1 c0 c1 c2 c3 c4 c5
          have hB9 := hB8.out.trans (hb9.mono hB8.out.size)
          have hX9 := HBX.out.later hB9
          obtain ⟨c0, c1, c2, c3, c4, c5⟩ := hX9.cells
          have f1 := hX9.free 1
          have q1 := hX9.set1 (.slice a17 (putD K ⟨xi, TB⟩).length c17)
          have q2 := h17.set hX9 1 (.slice a17 (putD K ⟨xi, TB⟩).length c17)
          have q3 := (HWW.out.later hB9).set hX9 1 (.slice a17 (putD K ⟨xi, TB⟩).length c17)
          have q4 := (HRX.out.later hB9).other hne 1 (.slice a17 (putD K ⟨xi, TB⟩).length c17)
          have q5 := below_at (HBB.out.trans (hB9.mono hsz)) b1 (Nat.le_refl _) (Nat.le_trans hsz hB9.size) 1 (.slice a17 (putD K ⟨xi, TB⟩).length c17)
          have HF := hid (And.intro q1 (And.intro q2 (And.intro q3 (And.intro q4 q5))))
          clear q1 q2 q3 q4 q5 hX9 hB9 hb9 h17
          go_wp2_with fail
          obtain ⟨q1, q2, q3, q4, q5⟩ := HF.out
          go_roundw
          case rel => exact ⟨j + 1, by omega, by go_num, a17, c17, by rw [HKt.out]; exact ⟨q1, q2⟩, q3, q4, q5⟩
          case measure => simp [intOf]; omega
      · have hd : decide ((j : Int) = torn) = false := decide_eq_false ht
        have HKs := hid (show FT (j + 1) = if keep[j]?.getD false = true then putD K ⟨xi, xb⟩ else K by rw [HKj.out]; unfold comesD; rw [if_neg ht])
        clear HKj
        have HBX0 := HBX
        have HKK0 := HKK
        have HRX0 := HRX
        by_cases hjk : j < kl
        · have hdk : decide ((kl : Int) ≤ (j : Int)) = false := decide_eq_false (by omega)
          have hdk2 : decide ((j : Int) < (kl : Int)) = true := decide_eq_true (by omega)
          have hjk' : j < keep.length := by rw [HKL.out]; exact hjk
          obtain ⟨kv, hkv⟩ : ∃ kv, keep[j]? = some kv := ⟨_, List.getElem?_eq_getElem hjk'⟩
          obtain ⟨kb, ko, hKA, kc0⟩ : ∃ kb ko, ba = some ⟨kb, ko, none⟩ ∧ (wr.alloc (.cells #[.int .i64 xi, .string (str xb)] 51)).cell? ⟨kb, ko + j, none⟩ = some (.bool kv) := by
            rcases HBBo.out with h0 | ⟨b, o, e, hc⟩
            · rw [h0] at hjk'; simp at hjk'
            · have := hc j hjk'
              rw [List.getElem?_eq_getElem hjk'] at hkv
              rw [Option.some.inj hkv] at this
              exact ⟨b, o, e, this⟩
          subst hKA
          rw [hkv] at HKs
          clear hkv HBBo hjk'
          cases kv
          · have HKt := hid (HKs.out.trans (if_neg (by simp)))
            clear HKs
            go_wp2_with fail
            go_roundw
            case rel => exact ⟨j + 1, by omega, by go_num, ka1, kc1, by rw [HKt.out, HKn.out]; exact ⟨HBX.out.later HBw.out, HKK.out.later HBw.out⟩, HWW.out.later HBw.out, HRX.out.later HBw.out, HBB.out.trans (HBw.out.mono hsz)⟩
            case measure => simp [intOf]; omega
          · have HKt := hid (HKs.out.trans (if_pos (by simp)))
            clear HKs
            go_upto_region 10 with fail
            clear c0 c1 c2 c3 c4 c5 cc0 cc1 cc2 cc3 cc4 cc5 x0 x1 kc0
            have hB8 := HBw
            have HT8 := HTB
            obtain ⟨t11, ht11e⟩ : ∃ t11, wr.heap.size = t11 := ⟨_, rfl⟩
            rw [ht11e] at HT8 ⊢
            clear ht11e HTB ht11
            generalize (wr.alloc (.cells #[.int .i64 xi, .string (str xb)] 51)) = w8 at *
            have T8 := HT8.out
            have T0 : w8.cell? ⟨t11, 0, none⟩ = some (.int .i64 xi) := cell_of_row w8 t11 0 _ 51 _ T8
            have T1 : w8.cell? ⟨t11, 1, none⟩ = some (.string (str xb)) := cell_of_row w8 t11 1 _ 51 _ T8
            have hBX := HBX.out.later hB8.out
            obtain ⟨c0, c1, c2, c3, c4, c5⟩ := hBX.cells
            have HPU := put33 ka1 kc1 K ⟨xi, xb⟩ w8 hKl (HKK.out.later hB8.out)
            dsimp only at HPU
            rw [HKn.out] at HPU
            clear T8 hBX
            go_wp2_with fail
            refine HPU.mono ?_
            rintro e w9 ⟨⟨a17, c17, rfl, h17⟩, hb9⟩
            clear HPU T0 T1 c0 c1 c2 c3 c4 c5
            have hB9 := hB8.out.trans (hb9.mono hB8.out.size)
            have hX9 := HBX.out.later hB9
            obtain ⟨c0, c1, c2, c3, c4, c5⟩ := hX9.cells
            have f1 := hX9.free 1
            have q1 := hX9.set1 (.slice a17 (putD K ⟨xi, xb⟩).length c17)
            have q2 := h17.set hX9 1 (.slice a17 (putD K ⟨xi, xb⟩).length c17)
            have q3 := (HWW.out.later hB9).set hX9 1 (.slice a17 (putD K ⟨xi, xb⟩).length c17)
            have q4 := (HRX.out.later hB9).other hne 1 (.slice a17 (putD K ⟨xi, xb⟩).length c17)
            have q5 := below_at (HBB.out.trans (hB9.mono hsz)) b1 (Nat.le_refl _) (Nat.le_trans hsz hB9.size) 1 (.slice a17 (putD K ⟨xi, xb⟩).length c17)
            have HF := hid (And.intro q1 (And.intro q2 (And.intro q3 (And.intro q4 q5))))
            clear q1 q2 q3 q4 q5 hX9 hB9 hb9 h17
            go_wp2_with fail
            obtain ⟨q1, q2, q3, q4, q5⟩ := HF.out
            go_roundw
            case rel => exact ⟨j + 1, by omega, by go_num, a17, c17, by rw [HKt.out]; exact ⟨q1, q2⟩, q3, q4, q5⟩
            case measure => simp [intOf]; omega
        · have hdk : decide ((kl : Int) ≤ (j : Int)) = true := decide_eq_true (by omega)
          have hkn : keep[j]? = none := List.getElem?_eq_none (by rw [HKL.out]; omega)
          rw [hkn] at HKs
          have HKt := hid (HKs.out.trans (if_neg (by simp)))
          clear HKs hkn HBBo
          go_wp2_with fail
          go_roundw
          case rel => exact ⟨j + 1, by omega, by go_num, ka1, kc1, by rw [HKt.out, HKn.out]; exact ⟨HBX.out.later HBw.out, HKK.out.later HBw.out⟩, HWW.out.later HBw.out, HRX.out.later HBw.out, HBB.out.trans (HBw.out.mono hsz)⟩
          case measure => simp [intOf]; omega
    · obtain rfl : j = n := by omega
      have hKl := HLn.out j
      generalize FT j = K at *
      generalize hKn : K.length = Kn at *
      have HKn := hid hKn
      clear hKn
      have Bx := below_box wr (.cells #[] 51)
      have hB1 := hBX.later Bx
      have hB2 := hB1.set2 (.slice (some ⟨wr.heap.size, 0, none⟩) 0 0)
      have hR1 := (hRX.later Bx).other hne 2 (.slice (some ⟨wr.heap.size, 0, none⟩) 0 0)
      have hK1 := (hKK.later Bx).set hB1 2 (.slice (some ⟨wr.heap.size, 0, none⟩) 0 0)
      have hbb := below_at (hb.trans (Bx.mono hsz)) b1 (Nat.le_refl _) (by rw [World.size_alloc]; omega) 2 (.slice (some ⟨wr.heap.size, 0, none⟩) 0 0)
      obtain ⟨c0, c1, c2, c3, c4, c5⟩ := hB1.cells
      have f2 := hB1.free 2
      have HF := hid (And.intro hB2 (And.intro hR1 (And.intro hK1 hbb)))
      clear Bx hB1 hB2 hR1 hK1 hbb hWW hBX hRX hKK hb
      go_upto_region 13 with fail
      generalize (wr.alloc (.cells #[] 51)).setCell ⟨b1, 2, none⟩ (.slice (some ⟨wr.heap.size, 0, none⟩) 0 0) = w8 at *
      generalize wr.heap.size = k0 at *
      clear c0 c1 c2 c3 c4 c5 f2
      obtain ⟨q1, q2, q3, q4⟩ := HF.out
      clear HF
      have hs4 := q4.size
      rw [HB1.out] at hs4
      have r1 := q1.set5 (-1)
      have r2 := q2.other hne 5 (.int .i64 (-1))
      have r3 := q3.set q1 5 (.int .i64 (-1))
      have r4 := below_at q4 b1 (Nat.le_refl _) hs4 5 (.int .i64 (-1))
      have s1 := r1.set3 false
      have s2 := r2.other hne 3 (.bool false)
      have s3 := r3.set r1 3 (.bool false)
      have s4 := below_at r4 b1 (Nat.le_refl _) (by have := r4.size; rw [HB1.out] at this; exact this) 3 (.bool false)
      obtain ⟨c0, c1, c2, c3, c4, c5⟩ := q1.cells
      have f5 := q1.free 5
      have f3 := q1.free 3
      have HG := hid (And.intro s1 (And.intro s2 (And.intro s3 s4)))
      clear q1 q2 q3 q4 r1 r2 r3 r4 s1 s2 s3 s4 hs4
      go_upto_region 15 with fail
      clear c0 c1 c2 c3 c4 c5 f5 f3
      generalize (w8.setCell ⟨b1, 5, none⟩ (.int .i64 (-1))).setCell ⟨b1, 3, none⟩ (.bool false) = w9 at *
      obtain ⟨q1, q2, q3, q4⟩ := HG.out
      clear HG
      obtain ⟨c0, c1, c2, c3, c4, c5⟩ := q1.cells
      obtain ⟨z0, z1, z2, z3, z4, z5⟩ := q2.cells
      have f0 := q2.free 0
      have f1 := q2.free 1
      have f2 := q2.free 2
      have f3 := q2.free 3
      have f4 := q2.free 4
      have f5 := q2.free 5
      obtain ⟨q5, q6⟩ := q2.fill (n' := nn) (k' := .slice ka1 Kn kc1) (wv' := .slice (some ⟨k0, 0, none⟩) 0 0) (dn' := false) (fl' := FL) (fu' := -1)
      have HK9 := hid (q3.beside q2 q6)
      have HC9 := hid q5.cells
      have hs4 := q4.size
      rw [HB1.out] at hs4
      have HB9 := hid (q4.grown q6 hs4 (fun k hk => by cases hk; exact hlb2))
      clear q1 q2 q3 q4 q5 q6 hs4
      go_wp2_with fail
      refine bodyPost_ret (v := .agg #[.int .i64 nn, .slice ka1 Kn kc1, .slice (some ⟨k0, 0, none⟩) 0 0, .bool false, .int .i64 FL, .int .i64 (-1)]) ?_ rfl ?_
      · obtain ⟨e0, e1, e2, e3, e4, e5⟩ := HC9.out
        simp [results, Try.results26, go_sem, e0, e1, e2, e3, e4, e5]
      · exact ⟨⟨ka1, kc1, some ⟨k0, 0, none⟩, 0, by rw [HRes.out, ← HKn.out] <;> rfl, by rw [HRes.out]; exact ⟨HK9.out, .inl rfl⟩, fun e => by cases e⟩, by rw [HB1.out]; exact HB9.out⟩
end Go.Proofs.Ytklfpoojpfomeaa.Key
