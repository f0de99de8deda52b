/-
  Contract of the document's Get (frames).
-/
import Derived.Test.YtcbigopfmiiadaaFp
import Derived.Test.YtcbigopfmiiadaaPGet
namespace Go.Proofs.Ytcbigopfmiiadaa.Frm
open Go.RowKit Crc
open Pack (be val)
set_option linter.unusedVariables false
set_option linter.unusedSimpArgs false
/-- bytes handed back, somewhere in memory -/
def BytesOut (w : World) (v : Value) (zs : List Int) : Prop := ∃ a c, v = .slice a zs.length c ∧ Bytes w a zs ∧ (a = none → zs.length = 0 ∧ c = 0) ∧ zs.length ≤ c
theorem BytesOut.later {w w' : World} {v : Value} {zs : List Int} (h : BytesOut w v zs) (hb : Below w.heap.size w w') : BytesOut w' v zs := by
  obtain ⟨a, c, h1, h2, h3⟩ := h
  exact ⟨a, c, h1, h2.later hb, h3⟩
theorem BytesOut.own {w : World} {B : Nat} {v : Value} {zs : List Int} (h : Own w B v zs) : BytesOut w v zs := by
  obtain ⟨a, c, h1, h2, h3, _, h4⟩ := h.form
  exact ⟨a, c, h1, h2, h3, h4⟩
theorem BytesOut.part {w : World} {b off : Nat} {zs : List Int} {c : Nat} (h : Bytes w (some ⟨b, off, none⟩) zs) (p n : Nat) (hn : p + n ≤ zs.length) (hc : zs.length ≤ c) : BytesOut w (.slice (some ⟨b, off + p, none⟩) n (c - p)) ((zs.drop p).take n) := by
  have hl : ((zs.drop p).take n).length = n := by rw [List.length_take, List.length_drop]; omega
  refine ⟨some ⟨b, off + p, none⟩, c - p, by rw [hl], ?_, (fun e => by cases e), by omega⟩
  rcases h with h | ⟨b', o', e, hc'⟩
  · exact .inl (by rw [h]; simp)
  · cases e
    refine .inr ⟨b, off + p, rfl, fun i hi => ?_⟩
    have := hc' (p + i) (by omega)
    rw [Nat.add_assoc, this]
    congr 2
    simp only [List.getD, List.getElem?_take_of_lt (show i < n by omega), List.getElem?_drop]
set_option maxRecDepth 100000 in
set_option maxHeartbeats 4000000 in
theorem refGet (kind at_ : Nat) (hk : kind < 256) (ha : at_ < 4294967296) (a : Option Addr) (n cap : Nat) (zs : List Int) (w : World) (hn : zs.length = n) (hb : Bytes w a zs) (hz : Byt zs) (hc : n ≤ cap) (hcm : cap ≤ maxLen) (hm : n ≤ 90000) :
    Calls Try.prog 11 #[.int .u8 (kind : Int), .int .u32 (at_ : Int), .slice a n cap] w fun e w' => (∃ v, e = .returned (.tuple #[v, .int .i64 (getZ kind at_ zs).2]) ∧ BytesOut w' v (getZ kind at_ zs).1) ∧ Below w.heap.size w w' := by
  unfold maxLen at hcm
  have HFR := frame_of hz (kind := kind) (at_ := at_)
  have HR := hid (show getZ kind at_ zs = if zs.length ≠ 2048 then ([], 3) else if fitsB zs = false then ([], 5) else if zs.getD 0 0 ≠ (kind : Int) then ([], 7) else if val ((zs.drop 1).take 4) ≠ at_ then ([], 1) else if 2024 < lenZ zs then ([], 3) else if (zs.drop (7 + lenZ zs)).take (2037 - lenZ zs) ≠ List.replicate (2037 - lenZ zs) 0 then ([], 3) else ((zs.drop 7).take (lenZ zs), 0) from rfl)
  generalize getZ kind at_ zs = RR at *
  rw [hn] at HR HFR
  have HM := hid (show BytesOut (w.alloc (.cells #[] 5)) (.slice (some ⟨w.heap.size, 0, none⟩) 0 0) [] from BytesOut.own (Own.made w))
  have hb0 : Below w.heap.size w (w.alloc (.cells #[] 5)) := (Below.refl _ _).alloc (Nat.le_refl _) _
  have HB0 := hid hb0
  by_cases hl : n = 2048
  case neg =>
    have HR1 := hid (HR.out.trans (if_pos hl))
    have hd : decide ((n : Int) = 2048) = false := decide_eq_false (by omega)
    clear HR HFR hb0 hn hb hz
    go_enter Try.func11, Try.ntmps11
    go_wp2_with fail
    exact bodyPost_ret (v := .tuple #[.slice (some ⟨w.heap.size, 0, none⟩) 0 0, .int .i64 3]) (by simp [results, Try.results11, go_sem]) rfl ⟨⟨_, by rw [HR1.out], by rw [HR1.out]; exact HM.out⟩, HB0.out⟩
  case pos =>
    have HRa := hid (HR.out.trans (if_neg (by simpa using hl)))
    subst hl
    clear HR hm
    obtain ⟨ab, ao, hA⟩ : ∃ ab ao, a = some ⟨ab, ao, none⟩ := by
      rcases hb with h | ⟨b, off, e, _⟩
      · rw [h] at hn; simp at hn
      · exact ⟨b, off, e⟩
    subst hA
    have hbw := hb.later hb0
    have HFt := ref_fits_any (some ⟨ab, ao, none⟩) 2048 cap zs (w.alloc (.cells #[] 5)) hn hbw hz hc (by omega)
    have HBy := hid (fun (u : World) (hu : Below w.heap.size w u) => hb.later hu)
    have HMl := hid (fun (u : World) (hu : Below (w.alloc (.cells #[] 5)).heap.size (w.alloc (.cells #[] 5)) u) => HM.out.later hu)
    have hs0 := hb0.size
    by_cases hf : fitsB zs = false
    · have HR1 := hid (HRa.out.trans (if_pos hf))
      rw [hf] at HFt
      clear HRa HFR hb0 hbw hn hb hz
      go_enter Try.func11, Try.ntmps11
      go_wp2_with fail
      refine HFt.mono ?_
      rintro e w2 ⟨rfl, hb2⟩
      have HB2 := hid (HB0.out.trans (hb2.mono hs0))
      have HM2 := hid (HMl.out w2 hb2)
      clear hb2 HFt HMl
      go_wp2_with fail
      exact bodyPost_ret (v := .tuple #[.slice (some ⟨w.heap.size, 0, none⟩) 0 0, .int .i64 5]) (by simp [results, Try.results11, go_sem]) rfl ⟨⟨_, by rw [HR1.out], by rw [HR1.out]; exact HM2.out⟩, HB2.out⟩
    · have HRb := hid (HRa.out.trans (if_neg hf))
      have hft : fitsB zs = true := by simpa using hf
      rw [hft] at HFt
      clear HRa
      have hg0 := byt_getD hz 0
      obtain ⟨k0, hk0⟩ : ∃ k0 : Int, zs.getD 0 0 = k0 := ⟨_, rfl⟩
      have HX0 := hid (fun (u : World) (hu : Below w.heap.size w u) => show u.cell? ⟨ab, ao, none⟩ = some (.int .u8 k0) by
        rcases HBy.out u hu with h | ⟨b, off, e, hc⟩
        · rw [h] at hn; simp at hn
        · cases e
          have := hc 0 (by omega)
          rw [Nat.add_zero, hk0] at this
          exact this)
      rw [hk0] at HRb hg0
      by_cases hkd : k0 = (kind : Int)
      case neg =>
        have HR1 := hid (HRb.out.trans (if_pos hkd))
        have hd : decide (k0 = (kind : Int)) = false := decide_eq_false hkd
        clear HRb HFR hb0 hbw hn hb hz
        go_enter Try.func11, Try.ntmps11
        go_wp2_with fail
        refine HFt.mono ?_
        rintro e w2 ⟨rfl, hb2⟩
        have HB2 := hid (HB0.out.trans (hb2.mono hs0))
        have HM2 := hid (HMl.out w2 hb2)
        have x0 := HX0.out w2 HB2.out
        clear hb2 HFt HMl
        go_wp2_with fail
        exact bodyPost_ret (v := .tuple #[.slice (some ⟨w.heap.size, 0, none⟩) 0 0, .int .i64 7]) (by simp [results, Try.results11, go_sem]) rfl ⟨⟨_, by rw [HR1.out], by rw [HR1.out]; exact HM2.out⟩, HB2.out⟩
      case pos =>
        have HRc := hid (HRb.out.trans (if_neg (by simpa using hkd)))
        clear HRb
        have HG4 := hid (fun (u : World) (hu : Below w.heap.size w u) => Pack.ref_get (p := 1) (e := 0) (n := 2048) (c := cap) 4 (show Pack.Byt zs from hz) (show Pack.Bytes u _ zs from HBy.out u hu) hn (by omega) (by omega) (by omega) (by omega))
        obtain ⟨g1, g2, g3⟩ := Pack.g_ok (zs := zs) (p := 1) (s := 4) (by omega)
        rw [g1, g2, g3] at HG4
        have HG2 := hid (fun (u : World) (hu : Below w.heap.size w u) => Pack.ref_get (p := 5) (e := 0) (n := 2048) (c := cap) 2 (show Pack.Byt zs from hz) (show Pack.Bytes u _ zs from HBy.out u hu) hn (by omega) (by omega) (by omega) (by omega))
        obtain ⟨g1', g2', g3'⟩ := Pack.g_ok (zs := zs) (p := 5) (s := 2) (by omega)
        rw [g1', g2', g3'] at HG2
        clear g1 g2 g3 g1' g2' g3'
        have hv4 := Pack.val_lt (zs := (zs.drop 1).take 4) (fun z hq => hz z (List.mem_of_mem_drop (List.mem_of_mem_take hq)))
        have hv2 := Pack.val_lt (zs := (zs.drop 5).take 2) (fun z hq => hz z (List.mem_of_mem_drop (List.mem_of_mem_take hq)))
        have hl4 : ((zs.drop 1).take 4).length = 4 := by rw [List.length_take, List.length_drop]; omega
        have hl2 : ((zs.drop 5).take 2).length = 2 := by rw [List.length_take, List.length_drop]; omega
        rw [hl4] at hv4
        rw [hl2] at hv2
        have HFR' := hid (HFR rfl hft (hk0.trans hkd))
        have HL := hid (show lenZ zs = val ((zs.drop 5).take 2) from rfl)
        rw [HL.out] at HFR' HRc
        generalize val ((zs.drop 1).take 4) = pl at *
        generalize val ((zs.drop 5).take 2) = ln at *
        clear HFR hl4 hl2 HL
        subst hkd
        have hw1 : IntKind.u64.wrap (at_ : Int) = (at_ : Int) := by simp [IntKind.wrap, IntKind.signed, IntKind.bits]; omega
        by_cases hpl : pl = at_
        case neg =>
          have HR1 := hid (HRc.out.trans (if_pos hpl))
          have hd : decide ((pl : Int) = (at_ : Int)) = false := decide_eq_false (by omega)
          clear HRc HFR' hb0 hbw hn hb hz
          go_enter Try.func11, Try.ntmps11
          go_wp2_with fail
          refine HFt.mono ?_
          rintro e w2 ⟨rfl, hb2⟩
          have HB2 := hid (HB0.out.trans (hb2.mono hs0))
          have HM2 := hid (HMl.out w2 hb2)
          have x0 := HX0.out w2 HB2.out
          have HC := HG4.out w2 HB2.out
          clear hb2 HFt HMl
          go_wp2_with fail
          refine HC.mono ?_
          rintro e w3 ⟨rfl, hb3⟩
          have Bx := (Below.refl w3.heap.size w3).alloc (Nat.le_refl _) (.cells #[.slice (some ⟨ab, ao, none⟩) 2048 cap, .int .i64 5, .int .i64 0] 49)
          have HB3 := hid (HB2.out.trans ((hb3.trans (Bx.mono hb3.size)).mono HB2.out.size))
          have HM3 := hid (HM2.out.later (hb3.trans (Bx.mono hb3.size)))
          clear hb3 HC Bx
          go_wp2_with fail
          exact bodyPost_ret (v := .tuple #[.slice (some ⟨w.heap.size, 0, none⟩) 0 0, .int .i64 1]) (by simp [results, Try.results11, go_sem]) rfl ⟨⟨_, by rw [HR1.out], by rw [HR1.out]; exact HM3.out⟩, HB3.out⟩
        case pos =>
          have HRd := hid (HRc.out.trans (if_neg (by simpa using hpl)))
          have HFR2 := hid (HFR'.out hpl)
          subst hpl
          clear HRc HFR'
          have hln : ln < 65536 := hv2
          by_cases hbig : 2024 < ln
          · have HR1 := hid (HRd.out.trans (if_pos hbig))
            have hd : decide ((2024 : Int) < (ln : Int)) = true := decide_eq_true (by omega)
            clear HRd HFR2 hb0 hbw hn hb hz
            go_enter Try.func11, Try.ntmps11
            go_wp2_with fail
            refine HFt.mono ?_
            rintro e w2 ⟨rfl, hb2⟩
            have HB2 := hid (HB0.out.trans (hb2.mono hs0))
            have HM2 := hid (HMl.out w2 hb2)
            have x0 := HX0.out w2 HB2.out
            have HC := HG4.out w2 HB2.out
            clear hb2 HFt HMl
            go_wp2_with fail
            refine HC.mono ?_
            rintro e w3 ⟨rfl, hb3⟩
            have Bx := (Below.refl w3.heap.size w3).alloc (Nat.le_refl _) (.cells #[.slice (some ⟨ab, ao, none⟩) 2048 cap, .int .i64 5, .int .i64 0] 49)
            have HB3 := hid (HB2.out.trans ((hb3.trans (Bx.mono hb3.size)).mono HB2.out.size))
            have HM3 := hid (HM2.out.later (hb3.trans (Bx.mono hb3.size)))
            have HC2 := HG2.out _ HB3.out
            clear hb3 HC Bx
            go_wp2_with fail
            refine HC2.mono ?_
            rintro e w4 ⟨rfl, hb4⟩
            have Bx := (Below.refl w4.heap.size w4).alloc (Nat.le_refl _) (.cells #[.slice (some ⟨ab, ao, none⟩) 2048 cap, .int .i64 7, .int .i64 0] 49)
            have HB4 := hid (HB3.out.trans ((hb4.trans (Bx.mono hb4.size)).mono HB3.out.size))
            have HM4 := hid (HM3.out.later (hb4.trans (Bx.mono hb4.size)))
            clear hb4 HC2 Bx
            go_wp2_with fail
            exact bodyPost_ret (v := .tuple #[.slice (some ⟨w.heap.size, 0, none⟩) 0 0, .int .i64 3]) (by simp [results, Try.results11, go_sem]) rfl ⟨⟨_, by rw [HR1.out], by rw [HR1.out]; exact HM4.out⟩, HB4.out⟩
          · have HRe := hid (HRd.out.trans (if_neg hbig))
            have hd : decide ((2024 : Int) < (ln : Int)) = false := decide_eq_false (by omega)
            have HIF := HFR2.out (by omega)
            have HPt := hid (fun (u : World) (hu : Below w.heap.size w u) => BytesOut.part (HBy.out u hu) 7 ln (by rw [hn]; omega) (by rw [hn]; exact hc))
            obtain ⟨BD, hBD⟩ : ∃ BD, (zs.drop 7).take ln = BD := ⟨_, rfl⟩
            have hbl : BD.length = ln := by rw [← hBD, List.length_take, List.length_drop]; omega
            have hbz : Byt BD := fun z hq => hz z (by rw [← hBD] at hq; exact List.mem_of_mem_drop (List.mem_of_mem_take hq))
            rw [hBD] at HRe HIF HPt
            have HPz := hid (show putZ kind pl BD = (markZ (bodyZ kind pl BD), 0) by unfold putZ; rw [if_neg (by rw [hbl]; omega)])
            have HPW := hid (fun (u : World) (c' : Nat) (hu : Bytes u (some ⟨ab, ao + 7, none⟩) BD) => refPut kind pl hk ha (some ⟨ab, ao + 7, none⟩) ln c' BD u hbl hu hbz (fun e => by cases e) (by omega))
            rw [HPz.out] at HPW
            have hWl : (markZ (bodyZ kind pl BD)).length = 2048 := put_length (by rw [hbl]; omega)
            have hWz : Byt (markZ (bodyZ kind pl BD)) := byt_mark (byt_body hk hbz)
            generalize markZ (bodyZ kind pl BD) = WW at *
            have hE := str_eq WW zs hWz hz
            have hw3 : IntKind.i64.wrap (ln : Int) = (ln : Int) := by rw [IntKind.wrap_i64]; omega
            have hw4 : IntKind.i64.wrap (7 + (ln : Int)) = 7 + (ln : Int) := by rw [IntKind.wrap_i64]; omega
            have hw5 : (0 : Int) ≤ 7 := by omega
            have hw6 : (7 : Int) ≤ 7 + (ln : Int) := by omega
            have hw7 : 7 + (ln : Int) ≤ (cap : Int) := by omega
            have hw8 : (7 + (ln : Int)).toNat = 7 + ln := by omega
            have hw9 : 7 + ln - 7 = ln := by omega
            have HHZ := hid hz
            have HHN := hid hn
            clear HRd HFR2 hb0 hbw hb hBD hz hn HPz
            go_enter Try.func11, Try.ntmps11
            go_wp2_with fail
            refine HFt.mono ?_
            rintro e w2 ⟨rfl, hb2⟩
            have HB2 := hid (HB0.out.trans (hb2.mono hs0))
            have HM2 := hid (HMl.out w2 hb2)
            have x0 := HX0.out w2 HB2.out
            have HC := HG4.out w2 HB2.out
            clear hb2 HFt HMl
            go_wp2_with fail
            refine HC.mono ?_
            rintro e w3 ⟨rfl, hb3⟩
            have Bx := (Below.refl w3.heap.size w3).alloc (Nat.le_refl _) (.cells #[.slice (some ⟨ab, ao, none⟩) 2048 cap, .int .i64 5, .int .i64 0] 49)
            have HB3 := hid (HB2.out.trans ((hb3.trans (Bx.mono hb3.size)).mono HB2.out.size))
            have HM3 := hid (HM2.out.later (hb3.trans (Bx.mono hb3.size)))
            have HC2 := HG2.out _ HB3.out
            clear hb3 HC Bx
            go_wp2_with fail
            refine HC2.mono ?_
            rintro e w4 ⟨rfl, hb4⟩
            have Bx := (Below.refl w4.heap.size w4).alloc (Nat.le_refl _) (.cells #[.slice (some ⟨ab, ao, none⟩) 2048 cap, .int .i64 7, .int .i64 0] 49)
            have HB4 := hid (HB3.out.trans ((hb4.trans (Bx.mono hb4.size)).mono HB3.out.size))
            have HM4 := hid (HM3.out.later (hb4.trans (Bx.mono hb4.size)))
            have HPb := HPt.out _ HB4.out
            have yb : Bytes (w4.alloc (.cells #[.slice (some ⟨ab, ao, none⟩) 2048 cap, .int .i64 7, .int .i64 0] 49)) (some ⟨ab, ao + 7, none⟩) BD := by
              obtain ⟨a', c', e, hy, _⟩ := HPb
              cases e
              exact hy
            have HC3 := HPW.out _ (cap - 7) yb
            have HPB := hid HPb
            clear hb4 HC2 Bx yb HPb
            go_wp2_with fail
            refine HC3.mono ?_
            rintro e w5 ⟨⟨v5, rfl, o5⟩, hb5⟩
            have HB5 := hid (HB4.out.trans (hb5.mono HB4.out.size))
            have HM5 := hid (HM4.out.later hb5)
            have HP5 := hid (HPB.out.later hb5)
            obtain ⟨a5, c5, hv5, y5, n5, _, _⟩ := o5.form
            rw [hWl] at hv5 n5
            subst hv5
            have hcv1 := conv_str y5 2048 c5 hWl n5
            have hcv2 := conv_str (HBy.out w5 HB5.out) 2048 cap HHN.out (fun e => by cases e)
            clear hb5 HC3 o5 y5
            by_cases hz0 : (zs.drop (7 + ln)).take (2037 - ln) = List.replicate (2037 - ln) 0
            · have HR1 := hid (HRe.out.trans (if_neg (by simpa using hz0)))
              have hW := HIF.2 hz0
              rw [decide_eq_true hW] at hE
              clear HIF hz0 HRe hW
              go_wp2_with fail
              exact bodyPost_ret (v := .tuple #[.slice (some ⟨ab, ao + 7, none⟩) ln (cap - 7), .int .i64 0]) (by simp [results, Try.results11, go_sem]) rfl ⟨⟨_, by rw [HR1.out], by rw [HR1.out]; exact HP5.out⟩, HB5.out⟩
            · have HR1 := hid (HRe.out.trans (if_pos hz0))
              rw [decide_eq_false (fun e => hz0 (HIF.1 e))] at hE
              clear HIF hz0 HRe
              go_wp2_with fail
              exact bodyPost_ret (v := .tuple #[.slice (some ⟨w.heap.size, 0, none⟩) 0 0, .int .i64 3]) (by simp [results, Try.results11, go_sem]) rfl ⟨⟨_, by rw [HR1.out], by rw [HR1.out]; exact HM5.out⟩, HB5.out⟩
end Go.Proofs.Ytcbigopfmiiadaa.Frm
