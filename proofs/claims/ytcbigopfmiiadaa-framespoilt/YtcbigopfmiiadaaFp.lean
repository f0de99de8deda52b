/-
  Contract of the document's Put (frames).
-/
import Derived.Test.YtcbigopfmiiadaaFr
import Derived.Test.YtcbigopfmiiadaaCRef
import Derived.Test.YtcbigopfmiiadaaPRef
import Derived.Deep.Cut
namespace Go.Proofs.Ytcbigopfmiiadaa.Frm
open Go.RowKit Crc
open Pack (be val)
set_option linter.unusedVariables false
set_option linter.unusedSimpArgs false
def slLen (v : Value) : Nat := match v with | .slice _ n _ => n | _ => 0
theorem own_mono {w : World} {B B' : Nat} {v : Value} {zs : List Int} (h : Own w B v zs) (hB : B' ≤ B) : Own w B' v zs := Pack.Own.mono h hB
theorem byt_pack {zs : List Int} (h : Byt zs) : Pack.Byt zs := h
set_option maxRecDepth 100000 in
set_option maxHeartbeats 2000000 in
theorem refPut (kind at_ : Nat) (hk : kind < 256) (ha : at_ < 4294967296) (a : Option Addr) (n cap : Nat) (zs : List Int) (w : World) (hn : zs.length = n) (hb : Bytes w a zs) (hz : Byt zs) (hnil : a = none → n = 0 ∧ cap = 0) (hm : n ≤ 90000) :
    Calls Try.prog 8 #[.int .u8 (kind : Int), .int .u32 (at_ : Int), .slice a n cap] w fun e w' => (∃ v, e = .returned (.tuple #[v, .int .i64 (putZ kind at_ zs).2]) ∧ Own w' w.heap.size v (putZ kind at_ zs).1) ∧ Below w.heap.size w w' := by
  have HR := hid (show putZ kind at_ zs = if 2024 < zs.length then ([], 4) else (markZ (bodyZ kind at_ zs), 0) from rfl)
  generalize putZ kind at_ zs = RR at *
  rw [hn] at HR
  by_cases hl : 2024 < n
  · have HR1 := hid (HR.out.trans (if_pos hl))
    have hd : decide ((2024 : Int) < (n : Int)) = true := decide_eq_true (by omega)
    have HM := hid (Own.made w)
    have HB := hid ((Below.refl w.heap.size w).alloc (Nat.le_refl _) (.cells #[] 5))
    clear HR hn hb hz hnil
    go_enter Try.func8, Try.ntmps8
    go_wp2_with fail
    exact bodyPost_ret (v := .tuple #[.slice (some ⟨w.heap.size, 0, none⟩) 0 0, .int .i64 4]) (by simp [results, Try.results8, go_sem]) rfl ⟨⟨_, by rw [HR1.out], by rw [HR1.out]; exact HM.out⟩, HB.out⟩
  · have HR1 := hid (HR.out.trans (if_neg hl))
    have hd : decide ((2024 : Int) < (n : Int)) = false := decide_eq_false (by omega)
    have HBZ := hid (show bodyZ kind at_ zs = (kind : Int) :: (be 4 at_ ++ be 2 n) ++ zs ++ List.replicate (2037 - n) 0 by unfold bodyZ headZ; rw [hn])
    have HBB := hid (byt_body (kind := kind) (at_ := at_) hk hz)
    have HBT := hid (bodyZ_length (kind := kind) (at_ := at_) (body := zs) (by omega))
    generalize bodyZ kind at_ zs = BZ at *
    clear HR
    have hw1 : IntKind.u64.wrap (at_ : Int) = (at_ : Int) := by simp [IntKind.wrap, IntKind.signed, IntKind.bits]; omega
    have hw2 : IntKind.u64.wrap (n : Int) = (n : Int) := by simp [IntKind.wrap, IntKind.signed, IntKind.bits]; omega
    have b1 : Below w.heap.size w (w.alloc (.cells #[.int .u8 (kind : Int)] 5)) := (Below.refl _ _).alloc (Nat.le_refl _) _
    have y1 : Bytes (w.alloc (.cells #[.int .u8 (kind : Int)] 5)) (some ⟨w.heap.size, 0, none⟩) [(kind : Int)] := Crc.digits_lie _ _ _ _ rfl
    have HP4 := Pack.ref_put_4 at_ (by omega) (some ⟨w.heap.size, 0, none⟩) 1 1 [(kind : Int)] (w.alloc (.cells #[.int .u8 (kind : Int)] 5)) rfl y1 (fun e => by cases e) (by omega)
    have HB1 := hid b1
    have HBy := hid (fun (u : World) (hu : Below w.heap.size w u) => hb.later hu)
    have HZ := hid hz
    clear b1 y1 hb hz
    go_enter Try.func8, Try.ntmps8
    go_wp2_with fail
    refine HP4.mono ?_
    rintro e w2 ⟨v2, rfl, o2, hb2⟩
    have o2 : Own w2 (w.alloc (.cells #[.int .u8 (kind : Int)] 5)).heap.size v2 ([(kind : Int)] ++ be 4 at_) := o2
    obtain ⟨a2, c2, rfl, y2, n2, _, _⟩ := o2.form
    have hl2 : ([(kind : Int)] ++ be 4 at_).length = 5 := by rw [List.length_append, Pack.be_length]; rfl
    rw [hl2] at n2 ⊢
    have HP2 := Pack.ref_put_2 n (by omega) a2 5 c2 ([(kind : Int)] ++ be 4 at_) w2 hl2 y2 n2 (by omega)
    have HB2 := hid (HB1.out.trans (hb2.mono HB1.out.size))
    clear o2 y2 hb2 HP4 HB1
    go_wp2_with fail
    refine HP2.mono ?_
    rintro e w3 ⟨v3, rfl, o3, hb3⟩
    have o3 : Own w3 w2.heap.size v3 ([(kind : Int)] ++ be 4 at_ ++ be 2 n) := o3
    have hl3 : ([(kind : Int)] ++ be 4 at_ ++ be 2 n).length = 7 := by rw [List.length_append, hl2, Pack.be_length]
    have HB3 := hid (HB2.out.trans (hb3.mono HB2.out.size))
    have hs2 := HB2.out.size
    have hs3 := hb3.size
    have y3 := HBy.out w3 HB3.out
    clear HP2 hb3 HB2
    obtain ⟨a3, c3, hv3, _, _, hbk3, _⟩ := o3.form
    rw [hl3] at hv3
    subst hv3
    go_upto_region 7 with (first | (at_builtin; refine Crc.app rfl _ _ rfl w2.heap.size _ ([(kind : Int)] ++ be 4 at_ ++ be 2 n) rfl o3 a n cap zs rfl hnil hn y3 (by rw [hl3]; omega) hs3 ?_; intro v4 w4 o4 hg4) | fail)
    have hb4 := o3.below (Below.refl w2.heap.size w3) (Nat.le_refl _) hs3 hg4
    have HB4 := hid (HB3.out.trans (hb4.mono hs2))
    have o4' := own_mono o4 hs2
    have hs4 := hb4.size
    have hl4 : ([(kind : Int)] ++ be 4 at_ ++ be 2 n ++ zs).length = 7 + n := by rw [List.length_append, hl3, hn]
    have HHd := hid (show (kind : Int) :: (be 4 at_ ++ be 2 n) ++ zs = [(kind : Int)] ++ be 4 at_ ++ be 2 n ++ zs by simp)
    obtain ⟨H, hH⟩ : ∃ H, [(kind : Int)] ++ be 4 at_ ++ be 2 n ++ zs = H := ⟨_, rfl⟩
    rw [hH] at o4' hl4 HHd
    have o5 := o4'
    clear o4 o4' o3 y3 hg4 hb4 hbk3 hH
    go_loopw [8] (fun v wr => ∃ (j : Nat), 7 + n + j ≤ 2044 ∧ Own wr w.heap.size v (H ++ List.replicate j 0) ∧ Below w.heap.size w wr) (fun v _ => 2044 - slLen v)
    case atStart => exact ⟨0, by omega, by simpa using o5, HB4.out⟩
    case round =>
      obtain ⟨j, hj, ow, hb⟩ := hrel
      obtain ⟨oa, oc, rfl, oy, on, _, _⟩ := ow.form
      have hlw : (H ++ List.replicate j (0 : Int)).length = 7 + n + j := by rw [List.length_append, hl4, List.length_replicate]
      rw [hlw] at ow on ⊢
      by_cases hlt : 7 + n + j < 2044
      · have hd7 : decide (((7 + n + j : Nat) : Int) < 2044) = true := decide_eq_true (by omega)
        obtain ⟨q, hq⟩ : ∃ q, 7 + n + j = q := ⟨_, rfl⟩
        rw [hq] at ow on hd7 hlw ⊢
        have HQ := hid hq
        have hq2 : q < 2044 := by omega
        clear hq oy
        go_wp2_with (first | (at_builtin; refine Crc.app1 (w0 := w) rfl _ _ rfl w.heap.size _ (H ++ List.replicate j 0) rfl ow 0 rfl (by omega) (Nat.le_refl _) hb ?_; intro v6 w6 o6 hb6) | fail)
        have HQ' := HQ.out
        go_roundw
        case rel => exact ⟨j + 1, by omega, by rw [List.replicate_succ', ← List.append_assoc]; exact o6, hb6⟩
        case measure =>
          obtain ⟨a6, c6, rfl, _⟩ := o6.form
          show 2044 - slLen (.slice a6 _ c6) < 2044 - slLen (.slice oa q oc)
          simp only [slLen, List.length_append, List.length_singleton, hlw]
          omega
      · have hj0 : 7 + n + j = 2044 := by omega
        have hjn : j = 2037 - n := by omega
        rw [hj0] at ow on ⊢
        have hd7 : decide (((2044 : Nat) : Int) < 2044) = false := by decide
        have hBZ2 : H ++ List.replicate j 0 = BZ := by rw [HBZ.out, HHd.out, hjn]
        rw [hBZ2] at ow oy
        have HMk := Crc.ref_mark_any oa 2044 oc BZ wr HBT.out oy HBB.out on (by omega)
        have HBw := hid hb
        clear ow oy hb
        go_wp2_with fail
        refine HMk.mono ?_
        rintro e w7 ⟨v7, rfl, o7, hb7⟩
        have HO := hid (own_mono o7 HBw.out.size)
        have HB7 := hid (HBw.out.trans (hb7.mono HBw.out.size))
        clear o7 hb7 HMk HBw
        go_wp2_with fail
        exact bodyPost_ret (v := .tuple #[v7, .int .i64 0]) (by simp [results, Try.results8, go_sem]) rfl ⟨⟨_, by rw [HR1.out], by rw [HR1.out]; exact HO.out⟩, HB7.out⟩
end Go.Proofs.Ytcbigopfmiiadaa.Frm
