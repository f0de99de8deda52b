/-
  The walk of the statement FrameReads.
-/
import Derived.Test.YtcbigopfmiiadaaFa
namespace Go.Proofs.Ytcbigopfmiiadaa.Frm
open Go.RowKit Crc
open Pack (be val)
set_option linter.unusedVariables false
set_option linter.unusedSimpArgs false

theorem byt_get {b : List Int} (hb : Byt b) (kind at_ : Nat) : Byt (getZ kind at_ b).1 := by
  have hnil : Byt ([] : List Int) := fun z hz => by simp at hz
  unfold getZ
  repeat' split
  all_goals first | exact hnil | exact fun z hz => hb z (List.mem_of_mem_drop (List.mem_of_mem_take hz))
set_option maxRecDepth 100000 in
set_option maxHeartbeats 2000000 in
theorem reads4 (kind at_ : Nat) (hk : kind < 256) (ha : at_ < 4294967296) (a : Option Addr) (n cap : Nat) (zs : List Int) (mk : Bool) (w : World) (hn : zs.length = n) (hb : Bytes w a zs) (hz : Byt zs) (hnil : a = none → n = 0 ∧ cap = 0) :
    Calls Try.prog 4 #[.int .u8 (kind : Int), .int .u32 (at_ : Int), .slice a n cap, .bool mk] w fun e w' => e = .returned (.bool true) ∧ Below w.heap.size w w' := by
  by_cases h0 : 3000 < n
  · have hd0 : decide ((3000 : Int) < (n : Int)) = true := decide_eq_true (by omega)
    have HB0 := hid (Below.refl w.heap.size w)
    clear hn hb hz hnil
    go_enter Try.func4, Try.ntmps4
    go_wp2_with fail
    refine (awake6 _).mono ?_
    rintro e wz ⟨rfl, hbz⟩
    have HZ := hid (HB0.out.trans (hbz.mono HB0.out.size))
    clear hbz
    go_wp2_with fail
    go_ret
    exact ⟨rfl, HZ.out⟩
  · have hd0 : decide ((3000 : Int) < (n : Int)) = false := decide_eq_false (by omega)
    have hb0 : Below w.heap.size w (w.alloc (.cells #[] 5)) := (Below.refl _ _).alloc (Nat.le_refl _) _
    cases mk with
    | true =>
      go_enter Try.func4, Try.ntmps4
      go_upto_region 5 with (first | (at_builtin; refine Crc.app rfl _ _ rfl w.heap.size _ [] rfl (Own.made w) a n cap zs rfl hnil hn (hb.later hb0) (by simp; omega) (by simp) ?_; intro v1 w1 o1 hg1) | fail)
      have hb1 := (Own.made w).below hb0 (Nat.le_refl _) (by simp) hg1
      rw [List.nil_append] at o1
      obtain ⟨a1, c1, rfl, y1, n1, _, hc1⟩ := o1.form
      rw [hn] at n1 hc1 ⊢
      have HMk := ref_mark_any a1 n c1 zs w1 hn y1 hz n1 (by omega)
      have HB1 := hid hb1
      clear o1 hg1 hb1 y1 n1 hc1 hb hb0 hnil
      go_wp2_with fail
      refine HMk.mono ?_
      rintro e wo ⟨v2, rfl, o2, hb2⟩
      have hbo := HB1.out.trans (hb2.mono HB1.out.size)
      have hOz : Byt (zs ++ le (more 0 zs)) := hz.append (byt_le _)
      have hOl : (zs ++ le (more 0 zs)).length = n + 4 := by rw [List.length_append, hn]; rfl
      generalize zs ++ le (more 0 zs) = O at *
      have hon : O.length ≤ 3004 := by omega
      obtain ⟨ao, co, rfl, hyo, hnilo, _, hoc⟩ := o2.form
      have hocm := Pack.Own.cap (show Pack.Own wo _ _ O from o2)
      clear o2 hb2 hn hz HMk HB1
      clear hOl
      obtain ⟨OL, hOl⟩ : ∃ OL, O.length = OL := ⟨_, rfl⟩
      rw [hOl] at hnilo hoc hon ⊢
      have HG := hid (fun (u : World) (y : Bytes u ao O) => goGet kind at_ hk ha ao OL co O u hOl y hOz hoc hocm (by omega))
      have HR := hid (fun (u : World) (y : Bytes u ao O) => refGet kind at_ hk ha ao OL co O u hOl y hOz hoc hocm (by omega))
      have hGz := byt_get hOz kind at_
      have hPG := fun (cc : List Int) => put_get hOz (kind := kind) (at_ := at_) (c := cc)
      generalize hGG : getZ kind at_ O = G at *
      obtain ⟨GL, GE⟩ := G
      have HPG := hid (fun (h : GE = 0) => hPG GL (by rw [h]))
      have HHZ := hid hGz
      have HOL := hid hOl
      have HON := hid hnilo
      have HCO := hid (fun (u : World) (hu : Below wo.heap.size wo u) => conv_str (hyo.later hu) OL co hOl hnilo)
      have HYO := hid (fun (u : World) (hu : Below wo.heap.size wo u) => hyo.later hu)
      have HD := HG.out wo hyo
      clear hPG hGG hGz hOl hOz hnilo HG hyo hoc hocm
      go_wp2_with fail
      refine HD.mono ?_
      rintro e w3 ⟨⟨v3, rfl, o3⟩, hb3⟩
      obtain ⟨a3, c3, rfl, y3, n3, hc3⟩ := o3
      have HB3 := hid hb3
      have HE := HR.out w3 (HYO.out w3 hb3)
      obtain ⟨gl, hgl⟩ : ∃ gl, GL.length = gl := ⟨_, rfl⟩
      have y3 : Bytes w3 a3 GL := y3
      have HGL := hid hgl
      rw [show (GL, GE).1.length = gl from hgl] at n3 hc3 ⊢
      clear hb3 HD HR hgl
      go_wp2_with fail
      refine HE.mono ?_
      rintro e w4 ⟨⟨v4, rfl, o4⟩, hb4⟩
      obtain ⟨a4, c4, rfl, y4, n4, hc4⟩ := o4
      have y4 : Bytes w4 a4 GL := y4
      rw [show (GL, GE).1.length = gl from HGL.out] at n4 hc4 ⊢
      have hcv1 := conv_str (y3.later hb4) gl c3 HGL.out n3
      have hcv2 := conv_str y4 gl c4 HGL.out n4
      have HB4 := hid (HB3.out.trans (hb4.mono HB3.out.size))
      have HBw := hid (hbo.trans (HB4.out.mono hbo.size))
      have y3' := y3.later hb4
      clear hb4 y3 y4 n4 HB3 HE hbo
      generalize strOfNums GL = S at *
      by_cases hge : GE = 0
      · have HP1 := (HPG.out hge).1
        have HP2 := (HPG.out hge).2
        have HK := goPut kind at_ hk ha a3 gl c3 GL w4 HGL.out y3' (HHZ.out) n3 (by rw [HGL.out] at HP1; omega)
        rw [HP2] at HK
        subst hge
        clear HP1 HP2 HPG HHZ y3' n3
        go_wp2_with fail
        refine HK.mono ?_
        rintro e w5 ⟨⟨v5, rfl, o5⟩, hb5⟩
        obtain ⟨a5, c5, rfl, y5, n5, _, hc5⟩ := o5.form
        have y5 : Bytes w5 a5 O := y5
        rw [show (O, (0 : Int)).1.length = OL from HOL.out] at n5 hc5 ⊢
        have HB5 := hid (HB4.out.trans (hb5.mono HB4.out.size))
        have HBv := hid (HBw.out.trans (hb5.mono HBw.out.size))
        have hcv3 := conv_str y5 OL c5 HOL.out n5
        have hcv4 := HCO.out w5 HB5.out
        clear hcv1 hcv2 o5 hb5 y5 n5 HB4 HBw HK HCO HYO
        generalize strOfNums O = T at *
        go_wp2_with fail
        refine (awake6 _).mono ?_
        rintro e wz ⟨rfl, hbz⟩
        have HZ := hid (HBv.out.trans (hbz.mono HBv.out.size))
        clear hbz
        go_wp2_with fail
        go_ret
        exact ⟨rfl, HZ.out⟩
      · have hd : decide (GE = 0) = false := decide_eq_false hge
        clear HPG HHZ y3' n3 HCO HYO
        go_wp2_with fail
        refine (awake6 _).mono ?_
        rintro e wz ⟨rfl, hbz⟩
        have HZ := hid (HBw.out.trans (hbz.mono HBw.out.size))
        clear hbz
        go_wp2_with fail
        go_ret
        exact ⟨rfl, HZ.out⟩
    | false =>
      go_enter Try.func4, Try.ntmps4
      go_upto_region 5 with (first | (at_builtin; refine Crc.app rfl _ _ rfl w.heap.size _ [] rfl (Own.made w) a n cap zs rfl hnil hn (hb.later hb0) (by simp; omega) (by simp) ?_; intro v1 wo o1 hg1) | fail)
      have hbo := (Own.made w).below hb0 (Nat.le_refl _) (by simp) hg1
      rw [List.nil_append] at o1
      have hOz := hz
      have hon : zs.length ≤ 3004 := by omega
      clear hb hb0 hnil hg1 hz hn
      generalize zs = O at *
      obtain ⟨ao, co, rfl, hyo, hnilo, _, hoc⟩ := o1.form
      have hocm := Pack.Own.cap (show Pack.Own wo _ _ O from o1)
      clear o1
      obtain ⟨OL, hOl⟩ : ∃ OL, O.length = OL := ⟨_, rfl⟩
      rw [hOl] at hnilo hoc hon ⊢
      have HG := hid (fun (u : World) (y : Bytes u ao O) => goGet kind at_ hk ha ao OL co O u hOl y hOz hoc hocm (by omega))
      have HR := hid (fun (u : World) (y : Bytes u ao O) => refGet kind at_ hk ha ao OL co O u hOl y hOz hoc hocm (by omega))
      have hGz := byt_get hOz kind at_
      have hPG := fun (cc : List Int) => put_get hOz (kind := kind) (at_ := at_) (c := cc)
      generalize hGG : getZ kind at_ O = G at *
      obtain ⟨GL, GE⟩ := G
      have HPG := hid (fun (h : GE = 0) => hPG GL (by rw [h]))
      have HHZ := hid hGz
      have HOL := hid hOl
      have HON := hid hnilo
      have HCO := hid (fun (u : World) (hu : Below wo.heap.size wo u) => conv_str (hyo.later hu) OL co hOl hnilo)
      have HYO := hid (fun (u : World) (hu : Below wo.heap.size wo u) => hyo.later hu)
      have HD := HG.out wo hyo
      clear hPG hGG hGz hOl hOz hnilo HG hyo hoc hocm
      go_wp2_with fail
      refine HD.mono ?_
      rintro e w3 ⟨⟨v3, rfl, o3⟩, hb3⟩
      obtain ⟨a3, c3, rfl, y3, n3, hc3⟩ := o3
      have HB3 := hid hb3
      have HE := HR.out w3 (HYO.out w3 hb3)
      obtain ⟨gl, hgl⟩ : ∃ gl, GL.length = gl := ⟨_, rfl⟩
      have y3 : Bytes w3 a3 GL := y3
      have HGL := hid hgl
      rw [show (GL, GE).1.length = gl from hgl] at n3 hc3 ⊢
      clear hb3 HD HR hgl
      go_wp2_with fail
      refine HE.mono ?_
      rintro e w4 ⟨⟨v4, rfl, o4⟩, hb4⟩
      obtain ⟨a4, c4, rfl, y4, n4, hc4⟩ := o4
      have y4 : Bytes w4 a4 GL := y4
      rw [show (GL, GE).1.length = gl from HGL.out] at n4 hc4 ⊢
      have hcv1 := conv_str (y3.later hb4) gl c3 HGL.out n3
      have hcv2 := conv_str y4 gl c4 HGL.out n4
      have HB4 := hid (HB3.out.trans (hb4.mono HB3.out.size))
      have HBw := hid (hbo.trans (HB4.out.mono hbo.size))
      have y3' := y3.later hb4
      clear hb4 y3 y4 n4 HB3 HE hbo
      generalize strOfNums GL = S at *
      by_cases hge : GE = 0
      · have HP1 := (HPG.out hge).1
        have HP2 := (HPG.out hge).2
        have HK := goPut kind at_ hk ha a3 gl c3 GL w4 HGL.out y3' (HHZ.out) n3 (by rw [HGL.out] at HP1; omega)
        rw [HP2] at HK
        subst hge
        clear HP1 HP2 HPG HHZ y3' n3
        go_wp2_with fail
        refine HK.mono ?_
        rintro e w5 ⟨⟨v5, rfl, o5⟩, hb5⟩
        obtain ⟨a5, c5, rfl, y5, n5, _, hc5⟩ := o5.form
        have y5 : Bytes w5 a5 O := y5
        rw [show (O, (0 : Int)).1.length = OL from HOL.out] at n5 hc5 ⊢
        have HB5 := hid (HB4.out.trans (hb5.mono HB4.out.size))
        have HBv := hid (HBw.out.trans (hb5.mono HBw.out.size))
        have hcv3 := conv_str y5 OL c5 HOL.out n5
        have hcv4 := HCO.out w5 HB5.out
        clear hcv1 hcv2 o5 hb5 y5 n5 HB4 HBw HK HCO HYO
        generalize strOfNums O = T at *
        go_wp2_with fail
        refine (awake6 _).mono ?_
        rintro e wz ⟨rfl, hbz⟩
        have HZ := hid (HBv.out.trans (hbz.mono HBv.out.size))
        clear hbz
        go_wp2_with fail
        go_ret
        exact ⟨rfl, HZ.out⟩
      · have hd : decide (GE = 0) = false := decide_eq_false hge
        clear HPG HHZ y3' n3 HCO HYO
        go_wp2_with fail
        refine (awake6 _).mono ?_
        rintro e wz ⟨rfl, hbz⟩
        have HZ := hid (HBw.out.trans (hbz.mono HBw.out.size))
        clear hbz
        go_wp2_with fail
        go_ret
        exact ⟨rfl, HZ.out⟩
end Go.Proofs.Ytcbigopfmiiadaa.Frm
