/-
  Contract of the program's Get (frames).
-/
import Derived.Test.YtcbigopfmiiadaaFb
namespace Go.Proofs.Ytcbigopfmiiadaa.Frm
open Go.RowKit Crc
open Pack (be val)
set_option linter.unusedVariables false
set_option linter.unusedSimpArgs false

theorem row_below {B : Nat} {w wa w1 : World} {k : Nat} (h : Below B w wa) (hg : wa.grownBy w1 (some k)) (hs : B ≤ wa.heap.size) (hk : B ≤ k) : Below B w w1 := h.grown hg hs fun k' e => by cases e; exact hk
theorem Rd_mono {w : World} {B B' k p : Nat} {zs : List Int} {e : Int} (h : Pack.Rd w B k zs p e) (hB : B' ≤ B) : Pack.Rd w B' k zs p e := by
  obtain ⟨a, cap, h1, h2, h3, h4, h5, h6⟩ := h
  exact ⟨a, cap, h1, h2, h3, fun ad e1 e2 => ⟨Nat.le_trans hB (h4 ad e1 e2).1, (h4 ad e1 e2).2⟩, Nat.le_trans hB h5, h6⟩
theorem val_one {zs : List Int} (hl : 7 ≤ zs.length) : val (((zs.take 7).drop 0).take 1) = (zs.getD 0 0).toNat := by
  cases zs with
  | nil => simp at hl
  | cons x r => simp [val]
theorem cut_at (zs : List Int) (p s : Nat) (h : p + s ≤ 7) : ((zs.take 7).drop p).take s = (zs.drop p).take s := by
  rw [List.drop_take, List.take_take]
  congr 1
  omega
set_option maxRecDepth 100000 in
set_option maxHeartbeats 4000000 in
theorem goGet (kind at_ : Nat) (hk : kind < 256) (ha : at_ < 4294967296) (a : Option Addr) (n cap : Nat) (zs : List Int) (w : World) (hn : zs.length = n) (hb : Bytes w a zs) (hz : Byt zs) (hc : n ≤ cap) (hcm : cap ≤ maxLen) (hm : n ≤ 90000) :
    Calls Try.prog 9 #[.int .u8 (kind : Int), .int .u32 (at_ : Int), .slice a n cap] w fun e w' => (∃ v, e = .returned (.tuple #[v, .int .i64 (getZ kind at_ zs).2]) ∧ BytesOut w' v (getZ kind at_ zs).1) ∧ Below w.heap.size w w' := by
  unfold maxLen at hcm
  have HR := hid (show getZ kind at_ zs = if zs.length ≠ 2048 then ([], 3) else if fitsB zs = false then ([], 5) else if zs.getD 0 0 ≠ (kind : Int) then ([], 7) else if val ((zs.drop 1).take 4) ≠ at_ then ([], 1) else bodyG (lenZ zs) zs from rfl)
  generalize getZ kind at_ zs = RR at *
  rw [hn] at HR
  by_cases hl : n = 2048
  case neg =>
    have HR1 := hid (HR.out.trans (if_pos hl))
    have hd : decide ((n : Int) = 2048) = false := decide_eq_false (by omega)
    clear HR hn hb hz
    go_enter Try.func9, Try.ntmps9
    go_wp2_with fail
    exact bodyPost_ret (v := .tuple #[.slice none 0 0, .int .i64 3]) (by simp [results, Try.results9, go_sem]) rfl ⟨⟨_, by rw [HR1.out], by rw [HR1.out]; exact out_nil _⟩, Below.refl _ _⟩
  case pos =>
    have HRa := hid (HR.out.trans (if_neg (by simpa using hl)))
    subst hl
    clear HR hm
    obtain ⟨ab, ao, hA⟩ : ∃ ab ao, a = some ⟨ab, ao, none⟩ := by
      rcases hb with h | ⟨b, off, e, _⟩
      · rw [h] at hn; simp at hn
      · exact ⟨b, off, e⟩
    subst hA
    have HFt := fits_any (some ⟨ab, ao, none⟩) 2048 cap zs w hn hb hz hc (by omega)
    have HBy := hid (fun (u : World) (hu : Below w.heap.size w u) => hb.later hu)
    have hc7 : (7 : Int) ≤ (cap : Int) := by omega
    have hl7 : (zs.take 7).length = 7 := by rw [List.length_take]; omega
    have HNw := hid (fun (u : World) (hu : Below w.heap.size w u) => Pack.New_any (some ⟨ab, ao, none⟩) 7 cap (zs.take 7) u hl7 (show Pack.Bytes u _ _ from Pack.Bytes.take (hb.later hu) 7) (show Pack.Byt _ from hz.take 7) (fun e => by cases e) (by omega))
    have HBo := hid (fun (ln : Nat) (hln : ln < 65536) (u : World) (hu : Below w.heap.size w u) => body21 ab ao cap ln zs u hn (hb.later hu) hc hcm hln)
    obtain ⟨g1, g2, g3⟩ := Pack.g_ok (zs := zs.take 7) (p := 0) (s := 1) (by omega)
    obtain ⟨g4, g5, g6⟩ := Pack.g_ok (zs := zs.take 7) (p := 1) (s := 4) (by omega)
    obtain ⟨g7, g8, g9⟩ := Pack.g_ok (zs := zs.take 7) (p := 5) (s := 2) (by omega)
    rw [val_one (by omega)] at g1
    rw [cut_at zs 1 4 (by omega)] at g4
    rw [cut_at zs 5 2 (by omega)] at g7
    have hg0 := byt_getD hz 0
    have hv4 := Pack.val_lt (zs := (zs.drop 1).take 4) (fun z hq => hz z (List.mem_of_mem_drop (List.mem_of_mem_take hq)))
    have hv2 := Pack.val_lt (zs := (zs.drop 5).take 2) (fun z hq => hz z (List.mem_of_mem_drop (List.mem_of_mem_take hq)))
    have hl4 : ((zs.drop 1).take 4).length = 4 := by rw [List.length_take, List.length_drop]; omega
    have hl2 : ((zs.drop 5).take 2).length = 2 := by rw [List.length_take, List.length_drop]; omega
    rw [hl4] at hv4
    rw [hl2] at hv2
    have HL := hid (show lenZ zs = val ((zs.drop 5).take 2) from rfl)
    rw [HL.out] at HRa
    have HG1 := hid (fun (u : World) (k : Nat) (hr : Pack.Rd u w.heap.size k (zs.take 7) 0 0) => Pack.Get_1 hr)
    have HG4 := hid (fun (u : World) (k : Nat) (hr : Pack.Rd u w.heap.size k (zs.take 7) 1 0) => Pack.Get_4 hr)
    have HG2 := hid (fun (u : World) (k : Nat) (hr : Pack.Rd u w.heap.size k (zs.take 7) 5 0) => Pack.Get_2 hr)
    rw [g1, g2, g3] at HG1
    rw [g4, g5, g6] at HG4
    rw [g7, g8, g9] at HG2
    obtain ⟨k0, hk0⟩ : ∃ k0 : Nat, (zs.getD 0 0).toNat = k0 := ⟨_, rfl⟩
    have hkk : zs.getD 0 0 = (k0 : Int) := by omega
    rw [hk0] at HG1
    rw [hkk] at HRa
    have hk0b : k0 < 256 := by omega
    generalize val ((zs.drop 1).take 4) = pl at *
    generalize val ((zs.drop 5).take 2) = ln at *
    generalize zs.take 7 = Z7 at *
    generalize fitsB zs = FB at *
    have HBG := hid (show bodyG ln zs = bodyG ln zs from rfl)
    have hlnb : ln < 65536 := hv2
    clear hl4 hl2 HL g1 g2 g3 g4 g5 g6 g7 g8 g9 hg0 hk0 hkk hb hz hn hl7 HBy
    cases FB with
    | false =>
      have HR1 := hid (HRa.out.trans (if_pos rfl))
      clear HRa HNw HBo HG1 HG4 HG2 HBG
      go_enter Try.func9, Try.ntmps9
      go_wp2_with fail
      refine HFt.mono ?_
      rintro e w2 ⟨rfl, hb2⟩
      have HB2 := hid hb2
      clear hb2 HFt
      go_wp2_with fail
      exact bodyPost_ret (v := .tuple #[.slice none 0 0, .int .i64 5]) (by simp [results, Try.results9, go_sem]) rfl ⟨⟨_, by rw [HR1.out], by rw [HR1.out]; exact out_nil _⟩, HB2.out⟩
    | true =>
      have HRb := hid (HRa.out.trans (if_neg (by simp)))
      clear HRa
      by_cases hkd : k0 = kind
      case neg =>
        have HR1 := hid (HRb.out.trans (if_pos (by omega)))
        have hd : decide ((k0 : Int) = (kind : Int)) = false := decide_eq_false (by omega)
        clear HRb HBo HG4 HG2 HBG
        go_enter Try.func9, Try.ntmps9
        go_wp2_with fail
        refine HFt.mono ?_
        rintro e w2 ⟨rfl, hb2⟩
        have HB2 := hid hb2
        have HC := HNw.out w2 hb2
        clear hb2 HFt
        go_wp2_with fail
        refine HC.mono ?_
        rintro e w3 ⟨k, rfl, r3, hb3⟩
        have hb3' := HB2.out.trans (hb3.mono HB2.out.size)
        have HB3 := hid hb3'
        have hkb : w2.heap.size ≤ k := r3.lt.2
        have r3' : Pack.Rd w3 w.heap.size k Z7 0 0 := Rd_mono r3 HB2.out.size
        have HC1 := HG1.out w3 k r3'
        have HKB := hid (Nat.le_trans HB2.out.size hkb)
        clear hb3 HC hb3' r3 r3' hkb
        go_wp2_with fail
        refine HC1.mono ?_
        rintro e w4 ⟨rfl, r4, hg4⟩
        have HB4 := hid (row_below HB3.out hg4 HB3.out.size HKB.out)
        have HR4 := hid r4
        clear r4 hg4 HC1
        go_wp2_with fail
        exact bodyPost_ret (v := .tuple #[.slice none 0 0, .int .i64 7]) (by simp [results, Try.results9, go_sem]) rfl ⟨⟨_, by rw [HR1.out], by rw [HR1.out]; exact out_nil _⟩, HB4.out⟩
      case pos =>
        subst hkd
        have HRc := hid (HRb.out.trans (if_neg (by simp)))
        clear HRb
        by_cases hpl : pl = at_
        case neg =>
          have HR1 := hid (HRc.out.trans (if_pos hpl))
          have hd : decide ((pl : Int) = (at_ : Int)) = false := decide_eq_false (by omega)
          clear HRc HBo HG2 HBG
          go_enter Try.func9, Try.ntmps9
          go_wp2_with fail
          refine HFt.mono ?_
          rintro e w2 ⟨rfl, hb2⟩
          have HB2 := hid hb2
          have HC := HNw.out w2 hb2
          clear hb2 HFt
          go_wp2_with fail
          refine HC.mono ?_
          rintro e w3 ⟨k, rfl, r3, hb3⟩
          have hb3' := HB2.out.trans (hb3.mono HB2.out.size)
          have HB3 := hid hb3'
          have hkb : w2.heap.size ≤ k := r3.lt.2
          have r3' : Pack.Rd w3 w.heap.size k Z7 0 0 := Rd_mono r3 HB2.out.size
          have HC1 := HG1.out w3 k r3'
          have HKB := hid (Nat.le_trans HB2.out.size hkb)
          clear hb3 HC hb3' r3 r3' hkb
          go_wp2_with fail
          refine HC1.mono ?_
          rintro e w4 ⟨rfl, r4, hg4⟩
          have HB4 := hid (row_below HB3.out hg4 HB3.out.size HKB.out)
          have HR4 := hid r4
          clear r4 hg4 HC1
          go_wp2_with fail
          refine (HG4.out w4 k HR4.out).mono ?_
          rintro e w5 ⟨rfl, r5, hg5⟩
          have HB5 := hid (row_below HB4.out hg5 HB4.out.size HKB.out)
          have HR5 := hid r5
          clear r5 hg5
          go_wp2_with fail
          exact bodyPost_ret (v := .tuple #[.slice none 0 0, .int .i64 1]) (by simp [results, Try.results9, go_sem]) rfl ⟨⟨_, by rw [HR1.out], by rw [HR1.out]; exact out_nil _⟩, HB5.out⟩
        case pos =>
          subst hpl
          have HR1 := hid (HRc.out.trans (if_neg (by simp)))
          have HBo1 := hid (HBo.out ln hlnb)
          have hw3 : IntKind.i64.wrap (ln : Int) = (ln : Int) := by rw [IntKind.wrap_i64]; omega
          clear HRc HBo HBG
          generalize bodyG ln zs = BG at *
          go_enter Try.func9, Try.ntmps9
          go_wp2_with fail
          refine HFt.mono ?_
          rintro e w2 ⟨rfl, hb2⟩
          have HB2 := hid hb2
          have HC := HNw.out w2 hb2
          clear hb2 HFt
          go_wp2_with fail
          refine HC.mono ?_
          rintro e w3 ⟨k, rfl, r3, hb3⟩
          have hb3' := HB2.out.trans (hb3.mono HB2.out.size)
          have HB3 := hid hb3'
          have hkb : w2.heap.size ≤ k := r3.lt.2
          have r3' : Pack.Rd w3 w.heap.size k Z7 0 0 := Rd_mono r3 HB2.out.size
          have HC1 := HG1.out w3 k r3'
          have HKB := hid (Nat.le_trans HB2.out.size hkb)
          clear hb3 HC hb3' r3 r3' hkb
          go_wp2_with fail
          refine HC1.mono ?_
          rintro e w4 ⟨rfl, r4, hg4⟩
          have HB4 := hid (row_below HB3.out hg4 HB3.out.size HKB.out)
          have HR4 := hid r4
          clear r4 hg4 HC1
          go_wp2_with fail
          refine (HG4.out w4 k HR4.out).mono ?_
          rintro e w5 ⟨rfl, r5, hg5⟩
          have HB5 := hid (row_below HB4.out hg5 HB4.out.size HKB.out)
          have HR5 := hid r5
          clear r5 hg5
          go_wp2_with fail
          refine (HG2.out w5 k HR5.out).mono ?_
          rintro e w6 ⟨rfl, r6, hg6⟩
          have HB6 := hid (row_below HB5.out hg6 HB5.out.size HKB.out)
          have HCb := HBo1.out w6 HB6.out
          clear r6 hg6
          go_wp2_with fail
          refine HCb.mono ?_
          rintro e w7 ⟨⟨v7, rfl, o7⟩, hb7⟩
          have HO := hid o7
          have HB7 := hid (HB6.out.trans (hb7.mono HB6.out.size))
          clear o7 hb7
          go_wp2_with fail
          exact bodyPost_ret (v := .tuple #[v7, .int .i64 BG.2]) (by simp [results, Try.results9, go_sem]) rfl ⟨⟨_, by rw [HR1.out], by rw [HR1.out]; exact HO.out⟩, HB7.out⟩
end Go.Proofs.Ytcbigopfmiiadaa.Frm
