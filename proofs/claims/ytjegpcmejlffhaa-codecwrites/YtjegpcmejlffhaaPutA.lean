/-
  Contracts of the program's writing of nodes: putEdge, putMsg.
-/
import Derived.Test.YtjegpcmejlffhaaRw
import Derived.Test.YtjegpcmejlffhaaPk
namespace Go.Proofs.Ytjegpcmejlffhaa.Cod
set_option linter.unusedSimpArgs false
set_option linter.unusedVariables false
open Go.RowKit
open Pack (be txt Own Bytes)
open Key (M E Pr Nd Pl nv Lies mayI ev mv)

theorem own_form {w : World} {B : Nat} {v : Value} {zs : List Int} {n : Nat} (h : Own w B v zs) (hn : zs.length = n) : ∃ a c, v = .slice a n c ∧ Bytes w a zs ∧ (a = none → n = 0 ∧ c = 0) := by
  subst hn
  obtain ⟨a, c, h1, h2, h3, _⟩ := h.form
  exact ⟨a, c, h1, h2, h3⟩
theorem txt_le (s : ByteArray) : (txt s).length ≤ 256 := by
  unfold txt
  rw [List.length_cons, Pack.nums_length, ByteArray.size_extract]
  omega

set_option maxRecDepth 100000 in
set_option maxHeartbeats 2000000 in
theorem putEdge39 (e : E) (b0 : 0 ≤ e.blk) (b1 : e.blk < 4294967296) (d0 : 0 ≤ e.deep) (d1 : e.deep < 65536) (h1 : e.strip.size ≤ maxLen) (h2 : e.add.size ≤ maxLen) (a0 : Option Addr) (n0 c0 : Nat) (zs : List Int) (w : World) (hn0 : zs.length = n0) (hby0 : Bytes w a0 zs) (hnil0 : a0 = none → n0 = 0 ∧ c0 = 0) (hm0 : n0 ≤ 90000) :
    Calls Try.prog 39 #[.slice a0 n0 c0, ev e] w fun x w' => ∃ v, x = .returned v ∧ Own w' w.heap.size v (zs ++ wE e) ∧ Below w.heap.size w w' := by
  obtain ⟨bk, dp, st, ad⟩ := e
  dsimp only at b0 b1 d0 d1 h1 h2
  obtain ⟨b, rfl⟩ := Int.eq_ofNat_of_zero_le b0
  obtain ⟨d, rfl⟩ := Int.eq_ofNat_of_zero_le d0
  replace b1 : b < 4294967296 := by omega
  replace d1 : d < 65536 := by omega
  clear b0 d0
  have R0 := Row.new w #[.int .u32 (b : Int), .int .u16 (d : Int), .string st, .string ad] 51
  have HB := one_box w (.cells #[.int .u32 (b : Int), .int .u16 (d : Int), .string st, .string ad] 51)
  replace hby0 := hby0.later HB
  have hT1 := txt_le st
  have hT2 := txt_le ad
  go_enter Try.func39, Try.ntmps39
  go_upto_region 1 with fail
  generalize hW : w.alloc (.cells #[.int .u32 (b : Int), .int .u16 (d : Int), .string st, .string ad] 51) = w0 at *
  clear hW
  generalize hk0 : w.heap.size = k0 at *
  have d0 : w0.cell? ⟨k0, 0, none⟩ = some (.int .u32 (b : Int)) := R0.cell 0
  go_wp2_with fail
  refine (Pack.Put_4 b b1 a0 n0 c0 zs w0 hn0 hby0 hnil0 (by omega)).mono ?_
  rintro x w1 ⟨v, rfl, ho1, hb⟩
  obtain ⟨n1, hn1⟩ : ∃ n, (zs ++ be 4 b).length = n := ⟨_, rfl⟩
  have hm1 : n1 ≤ 90004 := by rw [← hn1, List.length_append]; simp only [Pack.be_length, hn0]; omega
  obtain ⟨a1, c1, rfl, hby1, hnil1⟩ := own_form ho1 hn1
  replace R0 := R0.later hb
  have hle1 := HB.size
  replace HB := HB.trans (hb.mono (by omega))
  clear hb d0 hby0 hnil0
  have d0 : w1.cell? ⟨k0, 1, none⟩ = some (.int .u16 (d : Int)) := R0.cell 1
  go_wp2_with fail
  refine (Pack.Put_2 d d1 a1 n1 c1 (zs ++ be 4 b) w1 hn1 hby1 hnil1 (by omega)).mono ?_
  rintro x w2 ⟨v, rfl, ho2, hb⟩
  obtain ⟨n2, hn2⟩ : ∃ n, ((zs ++ be 4 b) ++ be 2 d).length = n := ⟨_, rfl⟩
  have hm2 : n2 ≤ 90006 := by rw [← hn2, List.length_append]; simp only [Pack.be_length, hn1]; omega
  obtain ⟨a2, c2, rfl, hby2, hnil2⟩ := own_form ho2 hn2
  replace R0 := R0.later hb
  have hle2 := HB.size
  replace HB := HB.trans (hb.mono (by omega))
  clear hb d0 hby1 hnil1 ho1
  have d0 : w2.cell? ⟨k0, 2, none⟩ = some (.string st) := R0.cell 2
  go_wp2_with fail
  refine (Pack.PutText_any st h1 a2 n2 c2 ((zs ++ be 4 b) ++ be 2 d) w2 hn2 hby2 hnil2 (by omega)).mono ?_
  rintro x w3 ⟨v, rfl, ho3, hb⟩
  obtain ⟨n3, hn3⟩ : ∃ n, (((zs ++ be 4 b) ++ be 2 d) ++ txt st).length = n := ⟨_, rfl⟩
  have hm3 : n3 ≤ 90300 := by rw [← hn3, List.length_append]; simp only [Pack.be_length, hn2]; omega
  obtain ⟨a3, c3, rfl, hby3, hnil3⟩ := own_form ho3 hn3
  replace R0 := R0.later hb
  have hle3 := HB.size
  replace HB := HB.trans (hb.mono (by omega))
  clear hb d0 hby2 hnil2 ho2
  have d0 : w3.cell? ⟨k0, 3, none⟩ = some (.string ad) := R0.cell 3
  go_wp2_with fail
  refine (Pack.PutText_any ad h2 a3 n3 c3 (((zs ++ be 4 b) ++ be 2 d) ++ txt st) w3 hn3 hby3 hnil3 (by omega)).mono ?_
  rintro x w4 ⟨v, rfl, ho4, hb⟩
  obtain ⟨n4, hn4⟩ : ∃ n, ((((zs ++ be 4 b) ++ be 2 d) ++ txt st) ++ txt ad).length = n := ⟨_, rfl⟩
  have hm4 : n4 ≤ 90600 := by rw [← hn4, List.length_append]; simp only [Pack.be_length, hn3]; omega
  obtain ⟨a4, c4, rfl, hby4, hnil4⟩ := own_form ho4 hn4
  replace R0 := R0.later hb
  have hle4 := HB.size
  replace HB := HB.trans (hb.mono (by omega))
  clear hb d0 hby3 hnil3 ho3
  have hz : (((zs ++ be 4 b) ++ be 2 d) ++ txt st) ++ txt ad = zs ++ wE ⟨(b : Int), (d : Int), st, ad⟩ := by
    simp only [wE, Int.toNat_natCast, List.append_assoc]
  rw [hz] at ho4
  go_wp2
  go_ret
  exact ⟨_, rfl, ho4.mono (by omega), by rw [hk0]; exact HB⟩
end Go.Proofs.Ytjegpcmejlffhaa.Cod
