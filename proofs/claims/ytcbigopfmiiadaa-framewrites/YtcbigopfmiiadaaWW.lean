/-
  The walk of the statement FrameWrites.
-/
import Derived.Test.YtcbigopfmiiadaaFa
namespace Go.Proofs.Ytcbigopfmiiadaa.Frm
open Go.RowKit Crc
open Pack (be val)
set_option linter.unusedVariables false
set_option linter.unusedSimpArgs false

set_option maxRecDepth 100000 in
set_option maxHeartbeats 2000000 in
theorem writes3 (kind at_ : Nat) (hk : kind < 256) (ha : at_ < 4294967296) (a : Option Addr) (n cap : Nat) (zs : List Int) (w : World) (hn : zs.length = n) (hb : Bytes w a zs) (hz : Byt zs) (hnil : a = none → n = 0 ∧ cap = 0) :
    Calls Try.prog 3 #[.int .u8 (kind : Int), .int .u32 (at_ : Int), .slice a n cap] w fun e w' => e = .returned (.bool true) ∧ Below w.heap.size w w' := by
  by_cases h0 : 3000 < n
  · have hd0 : decide ((3000 : Int) < (n : Int)) = true := decide_eq_true (by omega)
    have HB0 := hid (Below.refl w.heap.size w)
    clear hn hb hz hnil
    go_enter Try.func3, Try.ntmps3
    go_wp2_with fail
    refine (awake6 _).mono ?_
    rintro e wz ⟨rfl, hbz⟩
    have HZ := hid (HB0.out.trans (hbz.mono HB0.out.size))
    clear hbz
    go_wp2_with fail
    go_ret
    exact ⟨rfl, HZ.out⟩
  · have hd0 : decide ((3000 : Int) < (n : Int)) = false := decide_eq_false (by omega)
    have HP := goPut kind at_ hk ha a n cap zs w hn hb hz hnil (by omega)
    have HQ := hid (fun (u : World) (hu : Below w.heap.size w u) => refPut kind at_ hk ha a n cap zs u hn (hb.later hu) hz hnil (by omega))
    have HBy := hid (fun (u : World) (hu : Below w.heap.size w u) => conv_str (hb.later hu) n cap hn hnil)
    by_cases h1 : 2024 < n
    · have e1 := put_great (kind := kind) (at_ := at_) (body := zs) (by omega)
      rw [e1] at HP HQ
      clear hn hb hz hnil e1 HBy
      go_enter Try.func3, Try.ntmps3
      go_wp2_with fail
      refine HP.mono ?_
      rintro e w1 ⟨⟨v1, rfl, o1⟩, hb1⟩
      obtain ⟨a1, c1, rfl, y1, n1, _, hc1⟩ := o1.form
      have HB1 := hid hb1
      have HC := HQ.out w1 hb1
      clear o1 hb1 HP HQ
      go_wp2_with fail
      refine HC.mono ?_
      rintro e w2 ⟨⟨v2, rfl, o2⟩, hb2⟩
      obtain ⟨a2, c2, rfl, y2, n2, _, hc2⟩ := o2.form
      have hcv1 := conv_str (y1.later hb2) 0 c1 rfl n1
      have hcv2 := conv_str y2 0 c2 rfl n2
      have HB2 := hid (HB1.out.trans (hb2.mono HB1.out.size))
      clear o2 hb2 y1 y2 n1 n2 HB1 HC
      generalize strOfNums [] = S at *
      go_wp2_with fail
      refine (awake6 _).mono ?_
      rintro e wz ⟨rfl, hbz⟩
      have HZ := hid (HB2.out.trans (hbz.mono HB2.out.size))
      clear hbz
      go_wp2_with fail
      go_ret
      exact ⟨rfl, HZ.out⟩
    · have e1 := put_small (kind := kind) (at_ := at_) (body := zs) (by omega)
      have hMl : (markZ (bodyZ kind at_ zs)).length = 2048 := put_length (by omega)
      have hMz : Byt (markZ (bodyZ kind at_ zs)) := byt_mark (byt_body hk hz)
      have hG := get_put (kind := kind) (at_ := at_) (body := zs) ha (by omega)
      have HG := hid (fun (u : World) (x : Option Addr) (c : Nat) (y : Bytes u x (markZ (bodyZ kind at_ zs))) (hc : 2048 ≤ c) (hcm : c ≤ maxLen) => goGet kind at_ hk ha x 2048 c _ u hMl y hMz hc hcm (by omega))
      rw [e1] at HP HQ
      rw [hG] at HG
      generalize markZ (bodyZ kind at_ zs) = M at *
      have HML := hid hMl
      clear hb hz hnil e1 hG hMl
      have HN := hid hn
      clear hn
      go_enter Try.func3, Try.ntmps3
      go_wp2_with fail
      refine HP.mono ?_
      rintro e w1 ⟨⟨v1, rfl, o1⟩, hb1⟩
      obtain ⟨a1, c1, rfl, y1, n1, _, hc1⟩ := o1.form
      have hcm1 := Pack.Own.cap (show Pack.Own w1 w.heap.size _ M from o1)
      rw [HML.out] at n1 hc1 ⊢
      have HB1 := hid hb1
      have HC := HQ.out w1 hb1
      clear o1 hb1 HP HQ
      go_wp2_with fail
      refine HC.mono ?_
      rintro e w2 ⟨⟨v2, rfl, o2⟩, hb2⟩
      obtain ⟨a2, c2, rfl, y2, n2, _, hc2⟩ := o2.form
      rw [HML.out] at n2 hc2 ⊢
      have hcv1 := conv_str (y1.later hb2) 2048 c1 HML.out n1
      have hcv2 := conv_str y2 2048 c2 HML.out n2
      have HB2 := hid (HB1.out.trans (hb2.mono HB1.out.size))
      have HD := HG.out w2 a1 c1 (y1.later hb2) hc1 hcm1
      clear o2 hb2 y1 y2 n1 n2 HB1 HC HG
      generalize strOfNums M = S at *
      go_wp2_with fail
      refine HD.mono ?_
      rintro e w3 ⟨⟨v3, rfl, o3⟩, hb3⟩
      obtain ⟨a3, c3, rfl, y3, n3, hc3⟩ := o3
      rw [HN.out] at n3 hc3 ⊢
      have HB3 := hid (HB2.out.trans (hb3.mono HB2.out.size))
      have hcv3 := conv_str y3 n c3 HN.out n3
      have hcv4 := HBy.out w3 HB3.out
      clear hcv1 hcv2 hb3 y3 n3 HB2 HD HBy
      generalize strOfNums zs = T at *
      go_wp2_with fail
      refine (awake6 _).mono ?_
      rintro e wz ⟨rfl, hbz⟩
      have HZ := hid (HB3.out.trans (hbz.mono HB3.out.size))
      clear hbz
      go_wp2_with fail
      go_ret
      exact ⟨rfl, HZ.out⟩
end Go.Proofs.Ytcbigopfmiiadaa.Frm
