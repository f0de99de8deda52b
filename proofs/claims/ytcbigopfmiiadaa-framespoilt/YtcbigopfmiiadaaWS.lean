/-
  The walk of the statement FrameSpoilt.
-/
import Derived.Test.YtcbigopfmiiadaaFa
import Derived.Test.YtcbigopfmiiadaaCSpoil
import Derived.Deep.AppendLies
namespace Go.Proofs.Ytcbigopfmiiadaa.Frm
open Go.RowKit Crc
open Pack (be val)
set_option linter.unusedVariables false
set_option linter.unusedSimpArgs false

set_option maxRecDepth 100000 in
set_option maxHeartbeats 2000000 in
theorem spoilt5 (kind at_ : Nat) (hk : kind < 256) (ha : at_ < 4294967296) (a : Option Addr) (n cap : Nat) (zs : List Int) (p x : Int) (w : World) (hn : zs.length = n) (hb : Bytes w a zs) (hz : Byt zs) (hnil : a = none → n = 0 ∧ cap = 0) (hm : n ≤ 9223372036854775807)
    (hp0 : -9223372036854775808 ≤ p) (hp1 : p ≤ 9223372036854775807) (hx0 : 0 ≤ x) (hx1 : x ≤ 4294967295) :
    Calls Try.prog 5 #[.int .u8 (kind : Int), .int .u32 (at_ : Int), .slice a n cap, .int .i64 p, .int .u32 x] w fun e w' => e = .returned (.bool true) ∧ Below w.heap.size w w' := by
  have HP := goPut kind at_ hk ha a n cap zs w hn hb hz hnil hm
  by_cases h1 : 2024 < n
  · rw [put_great (kind := kind) (at_ := at_) (body := zs) (by omega)] at HP
    clear hn hb hz hnil
    go_enter Try.func5, Try.ntmps5
    go_wp2_with fail
    refine HP.mono ?_
    rintro e w1 ⟨⟨v1, rfl, o1⟩, hb1⟩
    obtain ⟨a1, c1, rfl, y1, n1, _, hc1⟩ := o1.form
    have HB1 := hid hb1
    clear o1 hb1 HP y1 n1 hc1
    go_wp2_with fail
    refine (awake6 _).mono ?_
    rintro e wz ⟨rfl, hbz⟩
    have HZ := hid (HB1.out.trans (hbz.mono HB1.out.size))
    clear hbz
    go_wp2_with fail
    go_ret
    exact ⟨rfl, HZ.out⟩
  · rw [put_small (kind := kind) (at_ := at_) (body := zs) (by omega)] at HP
    by_cases h2 : p < 0
    · have hd2 : decide (p < 0) = true := decide_eq_true (by omega)
      clear hn hb hz hnil
      go_enter Try.func5, Try.ntmps5
      go_wp2_with fail
      refine HP.mono ?_
      rintro e w1 ⟨⟨v1, rfl, o1⟩, hb1⟩
      obtain ⟨a1, c1, rfl, y1, n1, _, hc1⟩ := o1.form
      have HB1 := hid hb1
      clear o1 hb1 HP y1 n1 hc1
      go_wp2_with fail
      refine (awake6 _).mono ?_
      rintro e wz ⟨rfl, hbz⟩
      have HZ := hid (HB1.out.trans (hbz.mono HB1.out.size))
      clear hbz
      go_wp2_with fail
      go_ret
      exact ⟨rfl, HZ.out⟩
    have hd2 : decide (p < 0) = false := decide_eq_false (by omega)
    by_cases h3 : 2044 < p
    · have hd3 : decide (2044 < p) = true := decide_eq_true (by omega)
      clear hn hb hz hnil
      go_enter Try.func5, Try.ntmps5
      go_wp2_with fail
      refine HP.mono ?_
      rintro e w1 ⟨⟨v1, rfl, o1⟩, hb1⟩
      obtain ⟨a1, c1, rfl, y1, n1, _, hc1⟩ := o1.form
      have HB1 := hid hb1
      clear o1 hb1 HP y1 n1 hc1
      go_wp2_with fail
      refine (awake6 _).mono ?_
      rintro e wz ⟨rfl, hbz⟩
      have HZ := hid (HB1.out.trans (hbz.mono HB1.out.size))
      clear hbz
      go_wp2_with fail
      go_ret
      exact ⟨rfl, HZ.out⟩
    have hd3 : decide (2044 < p) = false := decide_eq_false (by omega)
    by_cases h4 : x = 0
    · subst h4
      clear hn hb hz hnil
      go_enter Try.func5, Try.ntmps5
      go_wp2_with fail
      refine HP.mono ?_
      rintro e w1 ⟨⟨v1, rfl, o1⟩, hb1⟩
      obtain ⟨a1, c1, rfl, y1, n1, _, hc1⟩ := o1.form
      have HB1 := hid hb1
      clear o1 hb1 HP y1 n1 hc1
      go_wp2_with fail
      refine (awake6 _).mono ?_
      rintro e wz ⟨rfl, hbz⟩
      have HZ := hid (HB1.out.trans (hbz.mono HB1.out.size))
      clear hbz
      go_wp2_with fail
      go_ret
      exact ⟨rfl, HZ.out⟩
    have hd4 : decide (x = 0) = false := decide_eq_false h4
    have hd4' : (x == 0) = false := by simp [h4]
    obtain ⟨k, rfl⟩ := Int.eq_ofNat_of_zero_le (show 0 ≤ p by omega)
    obtain ⟨y, rfl⟩ := Int.eq_ofNat_of_zero_le hx0
    have hy : y < 4294967296 := by omega
    have hy0 : y ≠ 0 := by omega
    have hk4 : k + 4 ≤ 2048 := by omega
    have hMl : (markZ (bodyZ kind at_ zs)).length = 2048 := put_length (by omega)
    have hMz : Byt (markZ (bodyZ kind at_ zs)) := byt_mark (byt_body hk hz)
    have hw1 : IntKind.u8.wrap ((kind : Int) + 1) = (((kind + 1) % 256 : Nat) : Int) := by simp [IntKind.wrap, IntKind.signed, IntKind.bits]
    have hw2 : IntKind.u32.wrap ((at_ : Int) + 1) = (((at_ + 1) % 4294967296 : Nat) : Int) := by simp [IntKind.wrap, IntKind.signed, IntKind.bits]
    have e1 := get_kind (kind := kind) (at_ := at_) (k' := (kind + 1) % 256) (a' := at_) (body := zs) (by omega) (by omega)
    have e2 := get_place (kind := kind) (at_ := at_) (a' := (at_ + 1) % 4294967296) (body := zs) ha (by omega) (by omega)
    have e3 := get_spoilt (kind := kind) (at_ := at_) (k' := kind) (a' := at_) hk hz (by omega) k y hk4 hy hy0
    have HG := hid (fun (K A : Nat) (hK : K < 256) (hA : A < 4294967296) (X : List Int) (hX : X.length = 2048) (hXz : Byt X) (u : World) (q : Option Addr) (c : Nat) (yy : Bytes u q X) (hc : 2048 ≤ c) (hcm : c ≤ maxLen) => goGet K A hK hA q 2048 c X u hX yy hXz hc hcm (by omega))
    have HK1 := hid (fun (u : World) (q : Option Addr) (c : Nat) (yy : Bytes u q (markZ (bodyZ kind at_ zs))) (hc : 2048 ≤ c) (hcm : c ≤ maxLen) => HG.out ((kind + 1) % 256) at_ (by omega) ha _ hMl hMz u q c yy hc hcm)
    have HK2 := hid (fun (u : World) (q : Option Addr) (c : Nat) (yy : Bytes u q (markZ (bodyZ kind at_ zs))) (hc : 2048 ≤ c) (hcm : c ≤ maxLen) => HG.out kind ((at_ + 1) % 4294967296) hk (by omega) _ hMl hMz u q c yy hc hcm)
    have HK3 := hid (fun (u : World) (q : Option Addr) (c : Nat) (yy : Bytes u q (spl (markZ (bodyZ kind at_ zs)) k y 4)) (hc : 2048 ≤ c) (hcm : c ≤ maxLen) => HG.out kind at_ hk ha _ ((spl_length _ k y 4).trans hMl) (spl_byt _ k y 4 hMz) u q c yy hc hcm)
    rw [e1] at HK1
    rw [e2] at HK2
    rw [e3] at HK3
    generalize (kind + 1) % 256 = K1 at *
    generalize (at_ + 1) % 4294967296 = A1 at *
    generalize markZ (bodyZ kind at_ zs) = M at *
    have HML := hid hMl
    have HMZ := hid hMz
    clear hn hb hz hnil e1 e2 e3 HG hMl hMz h4
    go_enter Try.func5, Try.ntmps5
    go_wp2_with fail
    refine HP.mono ?_
    rintro e w1 ⟨⟨v1, rfl, o1⟩, hb1⟩
    have o1 : Own w1 w.heap.size v1 M := o1
    obtain ⟨g, c1, rfl, hg0, hg1⟩ := World.ownsRow.form o1 (by have := HML.out; omega)
    have hc1 := o1.cap' rfl
    have hcm1 := Pack.Own.cap (show Pack.Own w1 w.heap.size _ M from o1)
    rw [HML.out] at o1 hc1 ⊢
    have y1 := o1.bytes' HML.out
    have HC := HK1.out w1 _ c1 y1 hc1 hcm1
    have HB1 := hid hb1
    have HY := hid (fun (u : World) (hu : Below w1.heap.size w1 u) => (show Bytes u _ M from y1.later hu))
    have HO := hid (fun (u : World) (hu : Below w1.heap.size w1 u) => o1.later hu)
    have HCC := hid (And.intro hc1 hcm1)
    have HGG := hid hg0
    clear o1 hb1 y1 HP hc1 hcm1 hg1 HK1
    go_wp2_with fail
    refine HC.mono ?_
    rintro e w2 ⟨⟨v2, rfl, o2⟩, hb2⟩
    obtain ⟨a2, c2, rfl, _, _, _⟩ := o2
    have HB2 := hid hb2
    have HD := HK2.out w2 _ c1 (HY.out w2 hb2) HCC.out.1 HCC.out.2
    clear hb2 HC HK2
    go_wp2_with fail
    refine HD.mono ?_
    rintro e w3 ⟨⟨v3, rfl, o3⟩, hb3⟩
    obtain ⟨a3, c3, rfl, _, _, _⟩ := o3
    have hb3' := HB2.out.trans (hb3.mono HB2.out.size)
    have o4 := HO.out w3 hb3'
    have hb4 := HB1.out.trans (hb3'.mono HB1.out.size)
    have HHb := hid hb4
    clear hb3 hb3' HB2 HB1 HD HY HO hb4
    go_wp2_with fail
    go_loopw [17, 18] (fun x i wr => ∃ j : Nat, j ≤ 4 ∧ i = .int .i64 j ∧ x = .int .u32 ((y / 256 ^ j : Nat) : Int) ∧ Own wr w.heap.size (.slice (some ⟨g, 0, none⟩) 2048 c1) (spl M k y j) ∧ Below w.heap.size w wr) (fun _ i _ => 4 - (intOf i).toNat)
    case atStart => exact ⟨0, by omega, rfl, by simp, o4, HHb.out⟩
    case round =>
      obtain ⟨j, hj, rfl, rfl, ho, hb⟩ := hrel
      have hx1 := HML.out
      have hx3 := HMZ.out
      have hlj := spl_length M k y j
      by_cases hj4 : j < 4
      · have hcj := ho.at' (hlj.trans hx1) (k + j) (by omega)
        have hfj := ho.free (hlj.trans hx1) (k + j)
        have hzb := byt_getD (spl_byt M k y j hx3) (k + j)
        have HO := fun (z : Int) (hz : (spl M k y j).getD (k + j) 0 = z) => ho.spoil hx1 hz
        generalize hz : (spl M k y j).getD (k + j) 0 = z at *
        have HO' := hid (HO z rfl)
        have hxo := xor_u8 z (y / 256 ^ j) hzb.1 hzb.2
        have hpd := hid (pow_div y j)
        have hyl : y / 256 ^ j < 4294967296 := Nat.lt_of_le_of_lt (Nat.div_le_self _ _) hy
        have hg0 := HGG.out
        clear HO hz hlj ho hx1 hx3 o4
        generalize y / 256 ^ j = Y at *
        go_wp2
        go_roundw
        case rel => exact ⟨j + 1, by omega, by go_num, val_u32 (by rw [← hpd.out]; omega), HO'.out, hb.setCell hg0 _⟩
        case measure => simp [intOf]; omega
      · obtain rfl : j = 4 := by omega
        have hbv := ho.bytes' (hlj.trans hx1)
        have HE := HK3.out wr _ c1 hbv HCC.out.1 HCC.out.2
        have HB5 := hid hb
        clear hj4 hlj ho hbv hx1 hx3 o4 HK3 hb
        go_wp2_with fail
        refine HE.mono ?_
        rintro e w5 ⟨⟨v5, rfl, o5⟩, hb5⟩
        obtain ⟨a5, c5, rfl, _, _, _⟩ := o5
        have HB6 := hid (HB5.out.trans (hb5.mono HB5.out.size))
        clear hb5 HB5 HE
        go_wp2_with fail
        refine (awake6 _).mono ?_
        rintro e wz ⟨rfl, hbz⟩
        have HZ := hid (HB6.out.trans (hbz.mono HB6.out.size))
        clear hbz
        go_wp2_with fail
        go_ret
        exact ⟨rfl, HZ.out⟩
end Go.Proofs.Ytcbigopfmiiadaa.Frm
