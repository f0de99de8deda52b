/-
  Contract of the program's Put (frames).
-/
import Derived.Test.YtcbigopfmiiadaaFz
import Derived.Test.YtcbigopfmiiadaaFp
import Derived.Test.YtcbigopfmiiadaaPPut
namespace Go.Proofs.Ytcbigopfmiiadaa.Frm
open Go.RowKit Crc
open Pack (be val)
set_option linter.unusedVariables false
set_option linter.unusedSimpArgs false
set_option maxRecDepth 100000 in
set_option maxHeartbeats 2000000 in
theorem goPut (kind at_ : Nat) (hk : kind < 256) (ha : at_ < 4294967296) (a : Option Addr) (n cap : Nat) (zs : List Int) (w : World) (hn : zs.length = n) (hb : Bytes w a zs) (hz : Byt zs) (hnil : a = none → n = 0 ∧ cap = 0) (hm : n ≤ 9223372036854775807) :
    Calls Try.prog 7 #[.int .u8 (kind : Int), .int .u32 (at_ : Int), .slice a n cap] w fun e w' => (∃ v, e = .returned (.tuple #[v, .int .i64 (putZ kind at_ zs).2]) ∧ Own w' w.heap.size v (putZ kind at_ zs).1) ∧ Below w.heap.size w w' := by
  have HR := hid (show putZ kind at_ zs = if 2024 < zs.length then ([], 4) else (markZ (bodyZ kind at_ zs), 0) from rfl)
  generalize putZ kind at_ zs = RR at *
  rw [hn] at HR
  by_cases hl : 2024 < n
  · have HR1 := hid (HR.out.trans (if_pos hl))
    have hd : decide ((2024 : Int) < (n : Int)) = true := decide_eq_true (by omega)
    clear HR hn hb hz hnil
    go_enter Try.func7, Try.ntmps7
    go_wp2_with fail
    exact bodyPost_ret (v := .tuple #[.slice none 0 0, .int .i64 4]) (by simp [results, Try.results7, go_sem]) rfl ⟨⟨_, by rw [HR1.out], by rw [HR1.out]; exact World.ownsRow_nil _ _ _ _⟩, Below.refl _ _⟩
  · have HR1 := hid (HR.out.trans (if_neg hl))
    have hd : decide ((2024 : Int) < (n : Int)) = false := decide_eq_false (by omega)
    have HBZ := hid (show bodyZ kind at_ zs = (kind : Int) :: (be 4 at_ ++ be 2 n) ++ zs ++ List.replicate (2037 - n) 0 by unfold bodyZ headZ; rw [hn])
    have HBB := hid (byt_body (kind := kind) (at_ := at_) hk hz)
    have HBT := hid (bodyZ_length (kind := kind) (at_ := at_) (body := zs) (by omega))
    generalize bodyZ kind at_ zs = BZ at *
    clear HR
    have hw2 : IntKind.u16.wrap (n : Int) = (n : Int) := by simp [IntKind.wrap, IntKind.signed, IntKind.bits]; omega
    have HP1 := Pack.Put_1 kind hk none 0 0 [] w rfl (.inl rfl) (fun _ => ⟨rfl, rfl⟩) (by omega)
    have HBy := hid (fun (u : World) (hu : Below w.heap.size w u) => hb.later hu)
    have HZ := hid hz
    clear hb hz
    go_enter Try.func7, Try.ntmps7
    go_wp2_with fail
    refine HP1.mono ?_
    rintro e w1 ⟨v1, rfl, o1, hb1⟩
    have o1 : Own w1 w.heap.size v1 ([] ++ be 1 kind) := o1
    rw [List.nil_append, ← Pack.be_1 kind hk] at o1
    obtain ⟨a1, c1, rfl, y1, n1, _, _⟩ := o1.form
    have hl1 : [(kind : Int)].length = 1 := rfl
    rw [hl1] at n1 ⊢
    have HP4 := Pack.Put_4 at_ ha a1 1 c1 [(kind : Int)] w1 hl1 y1 n1 (by omega)
    have HB1 := hid hb1
    clear o1 y1 hb1 HP1
    go_wp2_with fail
    refine HP4.mono ?_
    rintro e w2 ⟨v2, rfl, o2, hb2⟩
    have o2 : Own w2 w1.heap.size v2 ([(kind : Int)] ++ be 4 at_) := o2
    obtain ⟨a2, c2, rfl, y2, n2, _, _⟩ := o2.form
    have hl2 : ([(kind : Int)] ++ be 4 at_).length = 5 := by rw [List.length_append, Pack.be_length]; rfl
    rw [hl2] at n2 ⊢
    have HP2 := Pack.Put_2 n (by omega) a2 5 c2 ([(kind : Int)] ++ be 4 at_) w2 hl2 y2 n2 (by omega)
    have HB2 := hid (HB1.out.trans (hb2.mono HB1.out.size))
    clear o2 y2 hb2 HP4 HB1
    go_wp2_with fail
    refine HP2.mono ?_
    rintro e w3 ⟨v3, rfl, o3, hb3⟩
    have o3 : Own w3 w2.heap.size v3 ([(kind : Int)] ++ be 4 at_ ++ be 2 n) := o3
    have hl3 : ([(kind : Int)] ++ be 4 at_ ++ be 2 n).length = 7 := by rw [List.length_append, hl2, Pack.be_length]
    have HB3 := hid (HB2.out.trans (hb3.mono HB2.out.size))
    have hs2 := HB2.out.size
    have hs3 := hb3.size
    have y3 := HBy.out w3 HB3.out
    clear HP2 hb3 HB2
    obtain ⟨a3, c3, hv3, _, _, hbk3, _⟩ := o3.form
    rw [hl3] at hv3
    subst hv3
    go_upto_region 7 with (first | (at_builtin; refine Crc.app rfl _ _ rfl w2.heap.size _ ([(kind : Int)] ++ be 4 at_ ++ be 2 n) rfl o3 a n cap zs rfl hnil hn y3 (by rw [hl3]; omega) hs3 ?_; intro v4 w4 o4 hg4) | fail)
    have hb4 := o3.below (Below.refl w2.heap.size w3) (Nat.le_refl _) hs3 hg4
    have HB4 := hid (HB3.out.trans (hb4.mono hs2))
    have o4' := own_mono o4 hs2
    have hs4 := hb4.size
    have hl4 : ([(kind : Int)] ++ be 4 at_ ++ be 2 n ++ zs).length = 7 + n := by rw [List.length_append, hl3, hn]
    have HHd := hid (show (kind : Int) :: (be 4 at_ ++ be 2 n) ++ zs = [(kind : Int)] ++ be 4 at_ ++ be 2 n ++ zs by simp)
    obtain ⟨H, hH⟩ : ∃ H, [(kind : Int)] ++ be 4 at_ ++ be 2 n ++ zs = H := ⟨_, rfl⟩
    rw [hH] at o4' hl4 HHd
    have o5 := o4'
    clear o4 o4' o3 y3 hg4 hb4 hbk3 hH
    obtain ⟨a4, c4, rfl, _, _, _, _⟩ := o5.form
    rw [hl4] at o5 ⊢
    have hsub : (2044 : Int) - ((7 + n : Nat) : Int) = ((2037 - n : Nat) : Int) := by omega
    have hbs : w.heap.size ≤ w4.heap.size := HB4.out.size
    obtain ⟨Z, hZ⟩ : ∃ Z, 2037 - n = Z := ⟨_, rfl⟩
    rw [hZ] at hsub HBZ
    have hZ1 : 0 < Z := by omega
    have hZ2 : 7 + n + Z = 2044 := by omega
    obtain ⟨L, hL⟩ : ∃ L, 7 + n = L := ⟨_, rfl⟩
    rw [hL] at o5 hl4 hsub hZ2 ⊢
    have hwz : IntKind.i64.wrap (2044 - (L : Int)) = (Z : Int) := by rw [IntKind.wrap_i64]; omega
    have hH0 : 0 < H.length := by omega
    have hH1 : H.length + Z ≤ 1000000 := by omega
    clear hZ hL
    go_upto_region 8 with (first | (at_builtin; refine appZ rfl _ _ rfl w.heap.size _ H rfl o5 hH0 Z rfl hZ1 hH1 hbs ?_; intro v5 w5 o6 hg5) | fail)
    have hb5 := o5.below HB4.out (Nat.le_refl _) hbs hg5
    have hBZ2 : H ++ List.replicate Z 0 = BZ := by rw [HBZ.out, HHd.out]
    rw [hBZ2] at o6
    obtain ⟨a6, c6, rfl, y6, n6, _, _⟩ := o6.form
    rw [HBT.out] at n6 ⊢
    have HMk := Crc.mark_any a6 2044 c6 BZ w5 HBT.out y6 HBB.out n6 (by omega)
    have HBw := hid hb5
    clear o5 o6 y6 hb5 hg5
    go_wp2_with fail
    refine HMk.mono ?_
    rintro e w7 ⟨v7, rfl, o7, hb7⟩
    have HO := hid (own_mono o7 HBw.out.size)
    have HB7 := hid (HBw.out.trans (hb7.mono HBw.out.size))
    clear o7 hb7 HMk HBw
    go_wp2_with fail
    exact bodyPost_ret (v := .tuple #[v7, .int .i64 0]) (by simp [results, Try.results7, go_sem]) rfl ⟨⟨_, by rw [HR1.out], by rw [HR1.out]; exact HO.out⟩, HB7.out⟩
end Go.Proofs.Ytcbigopfmiiadaa.Frm
