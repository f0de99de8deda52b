/-
  Contract of the program's putMsg.
-/
import Derived.Test.YtjegpcmejlffhaaPutA
namespace Go.Proofs.Ytjegpcmejlffhaa.Cod
set_option linter.unusedSimpArgs false
set_option linter.unusedVariables false
open Go.RowKit
open Pack (be txt Own Bytes)
open Key (M E Pr Nd Pl nv Lies mayI ev mv)

theorem wM_put (b d : Int) (ky vl ad : ByteArray) : wM ⟨1, ky, vl, b, d, ad⟩ = be 1 1 ++ (txt ky ++ txt vl) := rfl
theorem wM_goto (b d : Nat) (ky vl ad : ByteArray) : wM ⟨3, ky, vl, b, d, ad⟩ = be 1 3 ++ (txt ky ++ (be 4 b ++ (be 2 d ++ txt ad))) := rfl
theorem wM_none (q : Nat) (b d : Int) (ky vl ad : ByteArray) (h1 : ¬ q = 1) (h3 : ¬ q = 3) : wM ⟨q, ky, vl, b, d, ad⟩ = be 1 q ++ txt ky := by
  have e : wT ⟨q, ky, vl, b, d, ad⟩ = [] := by
    unfold wT
    rw [if_neg (by dsimp only; omega), if_neg (by dsimp only; omega)]
  unfold wM
  rw [e, List.append_nil]
  rfl

set_option maxRecDepth 100000 in
set_option maxHeartbeats 2000000 in
theorem putMsg40 (m : M) (q0 : 0 ≤ m.kind) (q1 : m.kind < 256) (b0 : 0 ≤ m.blk) (b1 : m.blk < 4294967296) (d0 : 0 ≤ m.deep) (d1 : m.deep < 65536) (h1 : m.key.size ≤ maxLen) (h2 : m.val.size ≤ maxLen) (h3 : m.add.size ≤ maxLen) (a0 : Option Addr) (n0 c0 : Nat) (zs : List Int) (w : World) (hn0 : zs.length = n0) (hby0 : Bytes w a0 zs) (hnil0 : a0 = none → n0 = 0 ∧ c0 = 0) (hm0 : n0 ≤ 90000) :
    Calls Try.prog 40 #[.slice a0 n0 c0, mv m] w fun x w' => ∃ v, x = .returned v ∧ Own w' w.heap.size v (zs ++ wM m) ∧ Below w.heap.size w w' := by
  obtain ⟨kd, ky, vl, bk, dp, ad⟩ := m
  dsimp only at q0 q1 b0 b1 d0 d1 h1 h2 h3
  obtain ⟨q, rfl⟩ := Int.eq_ofNat_of_zero_le q0
  obtain ⟨b, rfl⟩ := Int.eq_ofNat_of_zero_le b0
  obtain ⟨d, rfl⟩ := Int.eq_ofNat_of_zero_le d0
  replace q1 : q < 256 := by omega
  replace b1 : b < 4294967296 := by omega
  replace d1 : d < 65536 := by omega
  clear b0 d0 q0
  have R0 := Row.new w #[.int .u8 (q : Int), .string ky, .string vl, .int .u32 (b : Int), .int .u16 (d : Int), .string ad] 60
  have HB := one_box w (.cells #[.int .u8 (q : Int), .string ky, .string vl, .int .u32 (b : Int), .int .u16 (d : Int), .string ad] 60)
  replace hby0 := hby0.later HB
  have hT1 := txt_le ky
  have hT2 := txt_le vl
  have hT3 := txt_le ad
  go_enter Try.func40, Try.ntmps40
  go_upto_region 1 with fail
  generalize hW : w.alloc (.cells #[.int .u8 (q : Int), .string ky, .string vl, .int .u32 (b : Int), .int .u16 (d : Int), .string ad] 60) = w0 at *
  clear hW
  generalize hk0 : w.heap.size = k0 at *
  have d0 : w0.cell? ⟨k0, 0, none⟩ = some (.int .u8 (q : Int)) := R0.cell 0
  go_wp2_with fail
  refine (Pack.Put_1 q q1 a0 n0 c0 zs w0 hn0 hby0 hnil0 (by omega)).mono ?_
  rintro x w1 ⟨v, rfl, ho1, hb⟩
  obtain ⟨n1, hn1⟩ : ∃ n, (zs ++ be 1 q).length = n := ⟨_, rfl⟩
  have hm1 : n1 ≤ 90001 := by rw [← hn1, List.length_append]; simp only [Pack.be_length, hn0]; omega
  obtain ⟨a1, c1, rfl, hby1, hnil1⟩ := own_form ho1 hn1
  replace R0 := R0.later hb
  have hle1 := HB.size
  replace HB := HB.trans (hb.mono (by omega))
  clear hb d0 hby0 hnil0
  have d0 : w1.cell? ⟨k0, 1, none⟩ = some (.string ky) := R0.cell 1
  go_wp2_with fail
  refine (Pack.PutText_any ky h1 a1 n1 c1 (zs ++ be 1 q) w1 hn1 hby1 hnil1 (by omega)).mono ?_
  rintro x w2 ⟨v, rfl, ho2, hb⟩
  obtain ⟨n2, hn2⟩ : ∃ n, ((zs ++ be 1 q) ++ txt ky).length = n := ⟨_, rfl⟩
  have hm2 : n2 ≤ 90300 := by rw [← hn2, List.length_append]; simp only [Pack.be_length, hn1]; omega
  obtain ⟨a2, c2, rfl, hby2, hnil2⟩ := own_form ho2 hn2
  replace R0 := R0.later hb
  have hle2 := HB.size
  replace HB := HB.trans (hb.mono (by omega))
  clear hb d0 hby1 hnil1 ho1
  by_cases m1 : q = 1
  · subst m1
    have hR : Row w2 k0 #[.int .u8 1, .string ky, .string vl, .int .u32 (b : Int), .int .u16 (d : Int), .string ad] 60 := R0
    replace R0 := hR
    clear hR
    have dq : w2.cell? ⟨k0, 0, none⟩ = some (.int .u8 1) := R0.cell 0
    have d0 : w2.cell? ⟨k0, 2, none⟩ = some (.string vl) := R0.cell 2
    go_wp2_with fail
    refine (Pack.PutText_any vl h2 a2 n2 c2 ((zs ++ be 1 1) ++ txt ky) w2 hn2 hby2 hnil2 (by omega)).mono ?_
    rintro x w3 ⟨v, rfl, ho3, hb⟩
    obtain ⟨n3, hn3⟩ : ∃ n, (((zs ++ be 1 1) ++ txt ky) ++ txt vl).length = n := ⟨_, rfl⟩
    have hm3 : n3 ≤ 90600 := by rw [← hn3, List.length_append]; simp only [Pack.be_length, hn2]; omega
    obtain ⟨a3, c3, rfl, hby3, hnil3⟩ := own_form ho3 hn3
    replace R0 := R0.later hb
    have hle3 := HB.size
    replace HB := HB.trans (hb.mono (by omega))
    clear hb d0 hby2 hnil2 ho2
    have hz : ((zs ++ be 1 1) ++ txt ky) ++ txt vl = zs ++ wM ⟨((1 : Nat) : Int), ky, vl, (b : Int), (d : Int), ad⟩ := by
      show _ = zs ++ (be 1 1 ++ (txt ky ++ txt vl))
      simp only [List.append_assoc]
    rw [hz] at ho3
    go_wp2
    go_ret
    exact ⟨_, rfl, ho3.mono (by omega), by rw [hk0]; exact HB⟩
  · by_cases m3 : q = 3
    · subst m3
      have hR : Row w2 k0 #[.int .u8 3, .string ky, .string vl, .int .u32 (b : Int), .int .u16 (d : Int), .string ad] 60 := R0
      replace R0 := hR
      clear hR m1
      have dq : w2.cell? ⟨k0, 0, none⟩ = some (.int .u8 3) := R0.cell 0
      have d0 : w2.cell? ⟨k0, 3, none⟩ = some (.int .u32 (b : Int)) := R0.cell 3
      go_wp2_with fail
      refine (Pack.Put_4 b b1 a2 n2 c2 ((zs ++ be 1 3) ++ txt ky) w2 hn2 hby2 hnil2 (by omega)).mono ?_
      rintro x w3 ⟨v, rfl, ho3, hb⟩
      obtain ⟨n3, hn3⟩ : ∃ n, (((zs ++ be 1 3) ++ txt ky) ++ be 4 b).length = n := ⟨_, rfl⟩
      have hm3 : n3 ≤ 90304 := by rw [← hn3, List.length_append]; simp only [Pack.be_length, hn2]; omega
      obtain ⟨a3, c3, rfl, hby3, hnil3⟩ := own_form ho3 hn3
      replace R0 := R0.later hb
      have hle3 := HB.size
      replace HB := HB.trans (hb.mono (by omega))
      clear hb d0 hby2 hnil2 ho2
      have d0 : w3.cell? ⟨k0, 4, none⟩ = some (.int .u16 (d : Int)) := R0.cell 4
      go_wp2_with fail
      refine (Pack.Put_2 d d1 a3 n3 c3 (((zs ++ be 1 3) ++ txt ky) ++ be 4 b) w3 hn3 hby3 hnil3 (by omega)).mono ?_
      rintro x w4 ⟨v, rfl, ho4, hb⟩
      obtain ⟨n4, hn4⟩ : ∃ n, ((((zs ++ be 1 3) ++ txt ky) ++ be 4 b) ++ be 2 d).length = n := ⟨_, rfl⟩
      have hm4 : n4 ≤ 90306 := by rw [← hn4, List.length_append]; simp only [Pack.be_length, hn3]; omega
      obtain ⟨a4, c4, rfl, hby4, hnil4⟩ := own_form ho4 hn4
      replace R0 := R0.later hb
      have hle4 := HB.size
      replace HB := HB.trans (hb.mono (by omega))
      clear hb d0 hby3 hnil3 ho3
      have d0 : w4.cell? ⟨k0, 5, none⟩ = some (.string ad) := R0.cell 5
      go_wp2_with fail
      refine (Pack.PutText_any ad h3 a4 n4 c4 ((((zs ++ be 1 3) ++ txt ky) ++ be 4 b) ++ be 2 d) w4 hn4 hby4 hnil4 (by omega)).mono ?_
      rintro x w5 ⟨v, rfl, ho5, hb⟩
      obtain ⟨n5, hn5⟩ : ∃ n, (((((zs ++ be 1 3) ++ txt ky) ++ be 4 b) ++ be 2 d) ++ txt ad).length = n := ⟨_, rfl⟩
      have hm5 : n5 ≤ 90600 := by rw [← hn5, List.length_append]; simp only [Pack.be_length, hn4]; omega
      obtain ⟨a5, c5, rfl, hby5, hnil5⟩ := own_form ho5 hn5
      replace R0 := R0.later hb
      have hle5 := HB.size
      replace HB := HB.trans (hb.mono (by omega))
      clear hb d0 hby4 hnil4 ho4
      have hz : ((((zs ++ be 1 3) ++ txt ky) ++ be 4 b) ++ be 2 d) ++ txt ad = zs ++ wM ⟨((3 : Nat) : Int), ky, vl, (b : Int), (d : Int), ad⟩ := by
        show _ = zs ++ (be 1 3 ++ (txt ky ++ (be 4 b ++ (be 2 d ++ txt ad))))
        simp only [List.append_assoc]
      rw [hz] at ho5
      go_wp2
      go_ret
      exact ⟨_, rfl, ho5.mono (by omega), by rw [hk0]; exact HB⟩
    · have hne1 : ((q : Int) == 1) = false := by simp; omega
      have hne3 : ((q : Int) == 3) = false := by simp; omega
      have hz := wM_none q (b : Int) (d : Int) ky vl ad m1 m3
      have dq : w2.cell? ⟨k0, 0, none⟩ = some (.int .u8 (q : Int)) := R0.cell 0
      rw [List.append_assoc, ← hz] at ho2
      clear m1 m3 hz
      go_wp2
      go_ret
      exact ⟨_, rfl, ho2.mono (by omega), by rw [hk0]; exact HB⟩
end Go.Proofs.Ytjegpcmejlffhaa.Cod
