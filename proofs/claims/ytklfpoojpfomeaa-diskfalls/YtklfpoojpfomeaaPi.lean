/-
  The document's example.
-/
import Derived.Test.YtklfpoojpfomeaaPh
namespace Go.Proofs.Ytklfpoojpfomeaa.Draw
open Go Go.RowKit
set_option linter.unusedVariables false
/-- whatever order is drawn, of a region whose operations leave what was there -/
theorem region_each {P : Program} {ops : Array Oper} {id : Nat} {Q : Exit → Act → World → Prop} {a0 : Act} {w : World} (tab : List Row) (V : Nat → Value → World → Prop) (hV : ∀ j v u u', Below u.heap.size u u' → V j v u → V j v u')
    (hm : P.follows .mixedOrders = true) (hB : tabB ops tab = true) (hops : eachOp P ops (fun u => Below w.heap.size w u) (fun _ u u' => Below u.heap.size u u') V a0 ops.toList tab 0) (hend : ∀ u, Below w.heap.size w u → givingAll V u (fun a => Q .normal a u) tab 0 a0) : (Code.region id ops true).wp P Q a0 w :=
  wp_region_each tab (fun u => Below w.heap.size w u) (fun _ u u' => Below u.heap.size u u') V hm hB (Below.refl _ _).drew (fun _ u u' h h' => h.trans (h'.mono h.size)) (fun i j v u u' _ _ hr hv => hV j v u u' hr hv) hops hend
end Go.Proofs.Ytklfpoojpfomeaa.Draw
namespace Go.Proofs.Ytklfpoojpfomeaa.Key
open Go.RowKit Go.Maps Draw
set_option linter.unusedVariables false
set_option linter.unusedSimpArgs false
theorem awakeD : readD (backD (writeD (writeD ⟨3, [], [], false, 0, -1⟩ 0 [97]).2 0 [98]).2 [true, false] (-1) 0) 0 = (wholeD [97], 0) := by
  have e1 : writeD ⟨3, [], [], false, 0, -1⟩ 0 [97] = (0, ⟨3, [], [⟨0, wholeD [97]⟩], false, 0, -1⟩) := by
    unfold writeD
    rw [if_neg (by decide), if_neg (by decide), if_neg (by decide), if_neg (by decide), if_neg (by decide)]
    rfl
  rw [e1]
  have e2 : writeD ⟨3, [], [⟨0, wholeD [97]⟩], false, 0, -1⟩ 0 [98] = (0, ⟨3, [], [⟨0, wholeD [97]⟩, ⟨0, wholeD [98]⟩], false, 0, -1⟩) := by
    unfold writeD
    rw [if_neg (by decide), if_neg (by decide), if_neg (by decide), if_neg (by decide), if_neg (by decide)]
    rfl
  rw [e2]
  have e3 : backD ⟨3, [], [⟨0, wholeD [97]⟩, ⟨0, wholeD [98]⟩], false, 0, -1⟩ [true, false] (-1) 0 = ⟨3, [⟨0, wholeD [97]⟩], [], false, 1, -1⟩ := by
    unfold backD
    have a1 : comesD [true, false] (-1) (byD 0) [] 0 ⟨0, wholeD [97]⟩ = [⟨0, wholeD [97]⟩] := by
      unfold comesD
      rw [if_neg (by decide), if_pos (by decide)]
      rfl
    have a2 : comesD [true, false] (-1) (byD 0) [⟨0, wholeD [97]⟩] (0 + 1) ⟨0, wholeD [98]⟩ = [⟨0, wholeD [97]⟩] := by
      unfold comesD
      rw [if_neg (by decide), if_neg (by decide)]
    have : comesAllD [true, false] (-1) (byD 0) [] 0 [⟨0, wholeD [97]⟩, ⟨0, wholeD [98]⟩] = [⟨0, wholeD [97]⟩] := by
      rw [comesAllD, a1, comesAllD, a2, comesAllD]
    dsimp only
    rw [this]
    rfl
  rw [e3]
  rfl
theorem Dsk.lt {w : World} {B Z p : Nat} {d : Dk} {m : Nat} (h : Dsk w B Z p d m) : p < w.heap.size := by
  obtain ⟨g, mk, ml, wv, nk, nl, h1, _⟩ := h
  exact h1.lt
theorem byte_lies (w : World) (b : UInt8) : Bytes (w.alloc (.cells #[.int .u8 b.toNat] 5 (1, 2))) (some ⟨w.heap.size, 0, none⟩) (nums (str [b])) := digits_lie w _ (1, 2) _ rfl
theorem byte_conv (w : World) (b : Int) : (convert 34 34 (.slice (some ⟨w.heap.size, 0, none⟩) 1 1)).run Try.prog (w.alloc (.cells #[.int .u8 b] 5)) = .ok (.slice (some ⟨w.heap.size, 0, none⟩) 1 1) (w.alloc (.cells #[.int .u8 b] 5 (1, 2))) :=
  Lib.run_convert_bytes_const w 34 5 #[.int .u8 b] 1 1 Try.underlying34 Try.underlying5
theorem bools_lie (w : World) (x y : Bool) : (w.alloc (.cells #[.bool x, .bool y] 4)).heap[w.heap.size]? = some (.cells #[.bool x, .bool y] 4 (0, 0)) := Go.heap_alloc_new _ _
set_option maxRecDepth 100000 in
set_option maxHeartbeats 2000000 in
theorem awake8 (w : World) : Calls Try.prog 8 #[] w fun x w' => x = .returned (.bool true) ∧ Below w.heap.size w w' := by
  have HN := disk_new 3 w (by omega) (by omega)
  have HE := hid awakeD
  go_enter Try.func8, Try.ntmps8
  go_wp2_with fail
  refine HN.mono ?_
  rintro e w1 ⟨p, rfl, hd1, hb1⟩
  have D1 := (hd1 p).later (below_box w1 (.cells #[.int .u8 97] 5 (1, 2)))
  have hcv1 := byte_conv w1 97
  have HW := disk_write D1 (by omega) 0 (by decide) [97] (some ⟨w1.heap.size, 0, none⟩) 1 (byte_lies w1 97) (fun e => by cases e) (by unfold maxLen; simp) D1.lt
  have HB1 := hid (hb1.trans ((below_box w1 (.cells #[.int .u8 97] 5 (1, 2))).mono hb1.size))
  generalize writeD ⟨3, [], [], false, 0, -1⟩ 0 [97] = W1 at *
  obtain ⟨r1, d1⟩ := W1
  dsimp only at *
  have hlt := (hd1 p).lt
  clear hd1 D1 HN hb1
  simp only [List.length_singleton] at HW
  go_wp2_with fail
  refine HW.mono ?_
  rintro e w2 ⟨rfl, hd2, hs2⟩
  have D2 := hd2.later (below_box w2 (.cells #[.int .u8 98] 5 (1, 2)))
  have hcv2 := byte_conv w2 98
  have HW2 := disk_write D2 (by omega) 0 (by decide) [98] (some ⟨w2.heap.size, 0, none⟩) 1 (byte_lies w2 98) (fun e => by cases e) (by unfold maxLen; simp) D2.lt
  have HB2 := hid (HB1.out.trans (hs2.below.trans ((below_box w2 (.cells #[.int .u8 98] 5 (1, 2))).mono hd2.size)))
  generalize writeD d1 0 [98] = W2 at *
  obtain ⟨r2, d2⟩ := W2
  dsimp only at *
  clear hd2 D2 HW hs2 HB1
  simp only [List.length_singleton] at HW2
  go_wp2_with fail
  refine HW2.mono ?_
  rintro e w3 ⟨rfl, hd3, hs3⟩
  have D3 := hd3.later (below_box w3 (.cells #[.bool true, .bool false] 4))
  have hkb := bools_lie w3 true false
  have HBk := disk_back D3 (by omega) D3.lt [true, false] (some ⟨w3.heap.size, 0, none⟩) 2 (fun u hu => .inr ⟨w3.heap.size, 0, rfl, fun i hi => by
    have h1 := hu.old _ _ _ _ hkb (by decide) (by decide)
    rw [Nat.zero_add, cell_of_row u w3.heap.size i _ 4 _ h1]
    match i, hi with
    | 0, _ => rfl
    | 1, _ => rfl⟩) (by unfold maxLen; simp) (-1) 0
  have HB3 := hid (HB2.out.trans (hs3.below.trans ((below_box w3 (.cells #[.bool true, .bool false] 4)).mono hd3.size)))
  generalize backD d2 [true, false] (-1) 0 = d3 at *
  clear hd3 D3 HW2 hs3 HB2 hkb
  simp only [List.length_cons, List.length_nil] at HBk
  go_wp2_with fail
  refine HBk.mono ?_
  rintro e w4 ⟨rfl, hd4, hs4⟩
  have HRd := disk_read hd4 0 (by decide)
  have HB4 := hid (HB3.out.trans hs4.below)
  rw [HE.out] at HRd
  dsimp only at HRd
  rw [wholeD_len] at HRd
  clear hd4 HBk hs4 HB3 HE
  go_wp2_with fail
  refine HRd.mono ?_
  rintro e w5 ⟨⟨ra, rc, rfl, hby, hbn⟩, hb5⟩
  have HB6 := hid (HB4.out.trans (hb5.mono HB4.out.size))
  have hBY := hid hby
  have hBN := hid hbn
  clear HRd hb5 hby hbn HB4
  go_upto_region 8 with fail
  generalize w5 = w6 at *
  refine region_each [(some 31, [], false), (some 32, [(0, 31)], false), (some 33, [(1, 32)], false), (some 34, [(2, 33)], false), (some 35, [(3, 34), (2, 33)], false), (some 36, [(2, 33)], false), (some 37, [(4, 35), (5, 36), (2, 33)], false), (some 38, [(2, 33), (6, 37)], false), (some 0, [(7, 38)], true)]
    (fun i Y _ => Y = match i with | 0 => .int .i64 0 | 1 => .bool true | 2 => .bool true | 3 => .slice ra 2048 rc | 4 => .string (str (wholeD [97])) | 5 => .string (str (wholeD [97])) | 6 => .bool true | 7 => .bool true | _ => .bool true)
    (fun _ _ _ _ _ h => h) (by kernel_rfl) (by kernel_rfl) ⟨?_, ?_, ?_, ?_, ?_, ?_, ?_, ?_, ?_, trivial⟩ ?_
  · rintro u hu
    replace hu : Below w6.heap.size w6 u := hu
    exact opYields_val (.int .i64 0) (by kernel_rfl) (by go_simp) ⟨Below.refl _ _, rfl⟩
  · rintro u hu _ rfl
    replace hu : Below w6.heap.size w6 u := hu
    exact opYields_val (.bool true) (by kernel_rfl) (by go_simp) ⟨Below.refl _ _, rfl⟩
  · rintro u hu _ rfl
    replace hu : Below w6.heap.size w6 u := hu
    exact opYields_val (.bool true) (by kernel_rfl) (by go_simp) ⟨Below.refl _ _, rfl⟩
  · rintro u hu _ rfl
    replace hu : Below w6.heap.size w6 u := hu
    exact opYields_val (.slice ra 2048 rc) (by kernel_rfl) (by go_simp) ⟨Below.refl _ _, rfl⟩
  · rintro u hu _ rfl _ rfl
    replace hu : Below w6.heap.size w6 u := hu
    have hcv := conv_str (hBY.out.later hu) 2048 rc (by rw [nums_length, str_size, wholeD_len]) (fun e => absurd (hBN.out e).1 (by omega))
    rw [str_nums] at hcv
    exact opYields_val (.string (str (wholeD [97]))) (by kernel_rfl) (by go_simp) ⟨Below.refl _ _, rfl⟩
  · rintro u hu _ rfl
    replace hu : Below w6.heap.size w6 u := hu
    refine opYields_call 22 #[.string (str [97])] (by kernel_rfl) (by go_simp; rfl) ((whole22 [97] u (by decide)).mono ?_)
    rintro e u1 ⟨rfl, hu1⟩
    exact ⟨_, rfl, hu1, rfl⟩
  · rintro u hu _ rfl _ rfl _ rfl
    replace hu : Below w6.heap.size w6 u := hu
    exact opYields_val (.bool true) (by kernel_rfl) (by go_simp) ⟨Below.refl _ _, rfl⟩
  · rintro u hu _ rfl _ rfl
    replace hu : Below w6.heap.size w6 u := hu
    exact opYields_val (.bool true) (by kernel_rfl) (by go_simp) ⟨Below.refl _ _, rfl⟩
  · rintro u hu _ rfl
    replace hu : Below w6.heap.size w6 u := hu
    exact opYields_val (.bool true) (by kernel_rfl) (by go_simp) ⟨Below.refl _ _, rfl⟩
  · rintro u hu _ _ _ _ _ _ _ _ _ rfl
    replace hu : Below w6.heap.size w6 u := hu
    simp only [givingAll, Act.put, List.setIfInBounds_toArray, List.set_cons_zero, List.set_cons_succ]
    have hb7 := HB6.out.trans (hu.mono HB6.out.size)
    have HB7 := hid hb7
    clear hb7
    go_wp2_with fail
    go_ret
    exact ⟨rfl, HB7.out⟩
end Go.Proofs.Ytklfpoojpfomeaa.Key
