/-
  The walk of the statement MsgAsks.
-/
import Derived.Test.YtobbgndabmnbcaaAddsWalk
import Derived.Test.YtobbgndabmnbcaaMayRef
import Derived.Test.YtobbgndabmnbcaaBlocks
namespace Go.Proofs.Ytobbgndabmnbcaa.Key
open Go.RowKit Draw
open Go.Op (bytesLess)

set_option maxRecDepth 100000 in
set_option maxHeartbeats 1000000 in
theorem asks3 (a0 : Option Addr) (c0 : Nat) (l : List M) (m : M) (k : ByteArray) (w : World) (hl : l.length ≤ maxLen) (hm : Msgs w a0 l) (hdp : 0 ≤ m.deep) (_hk : k.size ≤ maxLen) :
    Calls Try.prog 3 #[.slice a0 l.length c0, mv m, .string k] w fun e w' => e = .returned (.bool true) ∧ Below w.heap.size w w' := by
  have M0 := MBox.new w m
  have hb0 : Below w.heap.size w (w.alloc (.cells #[.int .u8 m.kind, .string m.key, .string m.val, .int .u32 m.blk, .int .u16 m.deep, .string m.add] 26)) := below_box w _
  have hm0 := hm.later hb0
  have G1 := great7 a0 c0 l _ hl hm0
  have G2 := great7 _ 1 [m] _ (by simp [maxLen]) (Msgs.new (w.alloc (.cells #[.int .u8 m.kind, .string m.key, .string m.val, .int .u32 m.blk, .int .u16 m.deep, .string m.add] 26)) [m] _ (by rw [cellsM_one, M.cells]))
  rw [great_one, World.size_alloc, List.length_singleton] at G2
  have hb1 : Below w.heap.size w ((w.alloc (.cells #[.int .u8 m.kind, .string m.key, .string m.val, .int .u32 m.blk, .int .u16 m.deep, .string m.add] 26)).alloc (.cells #[.int .u8 m.kind, .string m.key, .string m.val, .int .u32 m.blk, .int .u16 m.deep, .string m.add] 26)) := hb0.alloc (by simp) _
  have M1 := M0.alloc (.cells #[.int .u8 m.kind, .string m.key, .string m.val, .int .u32 m.blk, .int .u16 m.deep, .string m.add] 26)
  have hm1 := hm.later hb1
  have hk := _hk
  unfold maxLen at hk
  cases g1 : greatL l
  case true =>
    rw [g1] at G1
    obtain ⟨kd, ky, vl, bk, dp, ad⟩ := m
    go_enter Try.func3, Try.ntmps3
    go_wp2_with fail
    refine G1.mono ?_
    rintro x w1 ⟨rfl, rfl⟩
    go_wp2_with fail
    refine (awake8 _).mono ?_
    rintro x w2 ⟨rfl, hb2⟩
    go_wp2_with fail
    go_ret
    exact ⟨rfl, hb0.trans (hb2.mono hb0.size)⟩
  case false =>
  rw [g1] at G1
  obtain ⟨hn, hms⟩ := not_great g1
  cases g2 : greatM m
  case true =>
    rw [g2] at G2
    obtain ⟨kd, ky, vl, bk, dp, ad⟩ := m
    go_enter Try.func3, Try.ntmps3
    go_wp2_with fail
    refine G1.mono ?_
    rintro x w1 ⟨rfl, rfl⟩
    go_wp2_with fail
    refine G2.mono ?_
    rintro x w1 ⟨rfl, rfl⟩
    go_wp2_with fail
    refine (awake8 _).mono ?_
    rintro x w2 ⟨rfl, hb2⟩
    go_wp2_with fail
    go_ret
    exact ⟨rfl, hb1.trans (hb2.mono hb1.size)⟩
  case false =>
  rw [g2] at G2
  have hmm := not_greatM g2
  cases g4 : decide ((100 : Int) < (k.size : Int))
  case true =>
    obtain ⟨kd, ky, vl, bk, dp, ad⟩ := m
    go_enter Try.func3, Try.ntmps3
    go_wp2_with fail
    refine G1.mono ?_
    rintro x w1 ⟨rfl, rfl⟩
    go_wp2_with fail
    refine G2.mono ?_
    rintro x w1 ⟨rfl, rfl⟩
    go_wp2_with fail
    refine (awake8 _).mono ?_
    rintro x w2 ⟨rfl, hb2⟩
    go_wp2_with fail
    go_ret
    exact ⟨rfl, hb1.trans (hb2.mono hb1.size)⟩
  case false =>
  have BL := hid (fun w' (h : Msgs w' a0 l) => blocks9 a0 c0 l w' (by omega) h)
  have LR := hid (fun w' (h : Msgs w' a0 l) => last17 a0 c0 l k w' hl h)
  have P1 := hid (may10 m)
  have P2 := hid (fun w => may11 m w hdp)
  have S1 := hid (fun w => speaks12 m k w (by omega))
  have S2 := hid (speaks13 m k)
  have A1 := hid (fun w => about14 m w (by omega))
  have A2 := hid (fun w => about15 m w (by omega))
  obtain ⟨xk, HX⟩ := msOf_of l (fun m h => by have := hms m h; omega)
  have LP := hid (fun w' (h : Msgs w' a0 l) => last16 a0 c0 xk k w' (by rw [← msOf_length, ← HX]; exact hl) (by rw [← HX]; exact h))
  have HXl : xk.length = l.length := by rw [HX, msOf_length]
  rw [HXl, ← HX] at LP
  have BA := hid (fun i (h : i < l.length) => blocks_at (l := l) h)
  clear HX HXl g1 g2 hms hmm
  unfold rv at A1 A2
  have BT := hid (show blocksL (l.take l.length) = blocksL l by rw [List.take_length])
  generalize mayB m = mb at *
  generalize speaks m k.data.toList = sb at *
  generalize str (aboutR m).lo = X0 at *
  generalize str (aboutR m).hi = X1 at *
  generalize (aboutR m).e = X2 at *
  generalize lastI l k.data.toList = I at *
  obtain ⟨kd, ky, vl, bk, dp, ad⟩ := m
  dsimp only at M1 hb1 hm1 G1 G2
  go_enter Try.func3, Try.ntmps3
  go_wp2_with fail
  refine G1.mono ?_
  rintro x w1 ⟨rfl, rfl⟩
  go_wp2_with fail
  refine G2.mono ?_
  rintro x w1 ⟨rfl, rfl⟩
  clear G1 G2 M0 hb0 hm0
  generalize ((w.alloc (.cells #[.int .u8 kd, .string ky, .string vl, .int .u32 bk, .int .u16 dp, .string ad] 26)).alloc (.cells #[.int .u8 kd, .string ky, .string vl, .int .u32 bk, .int .u16 dp, .string ad] 26)) = w2 at *
  generalize hk0 : w.heap.size = k0 at *
  go_wp2_with fail
  refine (BL.out w2 hm1).mono ?_
  rintro x w3 ⟨v, rfl, hv, hb3⟩
  have M3 := M1.later hb3
  have hm3 := hm1.later hb3
  have hb3' := hb1.trans (hb3.mono (by have := hb1.size; omega))
  obtain ⟨ba, bc, rfl, hbl⟩ := hv.form
  have HBL := hid hbl
  clear BL M1 hm1 hb1 hb3 hv hbl hm
  generalize hbn : (blocksL l).length = nb at *
  have hnb : nb ≤ 60 := by
    rw [← hbn]
    unfold blocksL
    rw [List.length_map]
    exact Nat.le_trans (List.length_filter_le _ _) hn
  have HBN := hid hbn
  clear hbn
  go_wp2_with fail
  go_loopw [8, 9] (fun q i wr => ∃ j : Nat, j ≤ l.length ∧ i = .int .i64 j ∧ q = .int .i64 ((blocksL (l.take j)).length : Nat) ∧ Below w3.heap.size w3 wr) (fun _ i _ => l.length - (intOf i).toNat)
  case atStart => exact ⟨0, Nat.zero_le _, rfl, rfl, Below.refl _ _⟩
  case round =>
    obtain ⟨j, hj, rfl, rfl, hb⟩ := hrel
    by_cases hlt : j < l.length
    · obtain ⟨b, off, rfl, h6⟩ := (hm3.later hb).at hlt
      have HA := BA.out j hlt
      have HS := blocks_step hlt
      obtain ⟨x, HM⟩ : ∃ m, Hid (l[j] = m) := ⟨_, hid rfl⟩
      rw [HM.out] at h6 HA HS
      obtain ⟨xd, xy, xl, xb, xp, xa⟩ := x
      obtain ⟨c0, c1, c2, c3, c4, c5⟩ := h6
      dsimp only at c0 c1 c2 c3 c4 c5 HA HS
      have HS := hid HS
      generalize (blocksL (l.take j)).length = q at *
      by_cases h3 : xd = 3
      · have HA := HA h3
        obtain ⟨bb, bo, rfl, hc⟩ := HBL.out _ _ HA
        have hq : q < nb := by rw [← HBN.out]; exact (List.getElem?_eq_some_iff.1 HA).1
        have hd : decide ((nb : Int) ≤ (q : Int)) = false := by simp; omega
        have hq60 : q ≤ 60 := by omega
        have hcell := (hb.cell (p := ⟨bb, bo + q, none⟩) (World.block_lt_of_cell? w3 _ hc)).trans hc
        clear HA hc
        subst h3
        go_upto_region 9 with fail
        go_quiet (fail)
        have HS' : Hid ((blocksL (l.take (j + 1))).length = q + 1) := HS.out
        clear HS
        go_wp2_with fail
        go_roundw
        case rel => exact ⟨j + 1, by omega, by go_num, by rw [HS'.out]; go_num, ⟨hb.os, hb.tape, hb.output, hb.size, hb.block⟩⟩
        case measure => simp [intOf]; omega
      · have h3' : (xd == 3) = false := by simp; omega
        have HS' : Hid ((blocksL (l.take (j + 1))).length = q) := by have := HS.out; rw [if_neg h3] at this; exact this
        clear HA HS h3
        go_wp2_with fail
        go_roundw
        case rel => exact ⟨j + 1, by omega, by go_num, by rw [HS'.out], hb⟩
        case measure => simp [intOf]; omega
    · obtain rfl : j = l.length := by omega
      have Mr := M3.later hb
      have hmr := hm3.later hb
      rw [BT.out, HBN.out]
      clear BA BT HBN HBL M3 hm3
      generalize l.length = n at *
      go_upto_region 12 with fail
      refine wp_region_quiet (C := fun u => Below wr.heap.size wr u) (by kernel_rfl) (by kernel_rfl) ⟨rfl, rfl, rfl, Nat.le_refl _, fun _ _ => rfl⟩ ?_
      change wpQuiet _ _ _ _ (_ :: _) _
      repeat
        refine wpQuiet_step (fun K hK => ?_)
        first
          | refine quiet_val ?_ (by kernel_rfl) ?_ ?_
            rotate_left
            · intro u hu
              obtain ⟨e0, e1, e2, e3, e4, e5⟩ := (Mr.later hu).six
              dsimp only at e0 e1 e2 e3 e4 e5
              go_simp
              with_reducible rfl
          | refine quiet_call (.bool mb) 10 #[mv ⟨kd, ky, vl, bk, dp, ad⟩] (by kernel_rfl) ?_ (fun u hu => (P1.out u).mono fun x u' h => ⟨h.1, hu.trans (h.2.mono hu.size)⟩) ?_
            · intro u hu
              go_simp
              done
          | refine quiet_call (.bool mb) 11 #[mv ⟨kd, ky, vl, bk, dp, ad⟩] (by kernel_rfl) ?_ (fun u hu => (P2.out u).mono fun x u' h => ⟨h.1, hu.trans (h.2.mono hu.size)⟩) ?_
            · intro u hu
              go_simp
              done
          | refine quiet_call (.bool sb) 12 #[mv ⟨kd, ky, vl, bk, dp, ad⟩, .string k] (by kernel_rfl) ?_ (fun u hu => (S1.out u).mono fun x u' h => ⟨h.1, hu.trans (h.2.mono hu.size)⟩) ?_
            · intro u hu
              go_simp
              done
          | refine quiet_call (.bool sb) 13 #[mv ⟨kd, ky, vl, bk, dp, ad⟩, .string k] (by kernel_rfl) ?_ (fun u hu => (S2.out u).mono fun x u' h => ⟨h.1, hu.trans (h.2.mono hu.size)⟩) ?_
            · intro u hu
              go_simp
              done
          | refine quiet_call (av X0 X1 X2) 14 #[mv ⟨kd, ky, vl, bk, dp, ad⟩] (by kernel_rfl) ?_ (fun u hu => (A1.out u).mono fun x u' h => ⟨h.1, hu.trans (h.2.mono hu.size)⟩) ?_
            · intro u hu
              go_simp
              done
          | refine quiet_call (av X0 X1 X2) 15 #[mv ⟨kd, ky, vl, bk, dp, ad⟩] (by kernel_rfl) ?_ (fun u hu => (A2.out u).mono fun x u' h => ⟨h.1, hu.trans (h.2.mono hu.size)⟩) ?_
            · intro u hu
              go_simp
              done
          | refine quiet_call (.int .i64 I) 16 #[.slice a0 n c0, .string k] (by kernel_rfl) ?_ (fun u hu => (LP.out u (hmr.later hu)).mono fun x u' h => ⟨h.1, hu.trans (h.2.mono hu.size)⟩) ?_
            · intro u hu
              go_simp
              done
          | refine quiet_call (.int .i64 I) 17 #[.slice a0 n c0, .string k] (by kernel_rfl) ?_ (fun u hu => (LR.out u (hmr.later hu)).mono fun x u' h => ⟨h.1, hu.trans (h.2.mono hu.size)⟩) ?_
            · intro u hu
              go_simp
              done
          | refine quiet_call (.bool true) 8 #[] (by kernel_rfl) ?_ (fun u hu => (awake8 u).mono fun x u' h => ⟨h.1, hu.trans (h.2.mono hu.size)⟩) ?_
            · intro u hu
              go_simp
              done
        go_simp
        refine hK _ ?_
        clear hK K
      refine wpQuiet_nil (fun u hu => ?_)
      go_wp2_with fail
      go_ret
      have hb4 := hb3'.trans (hb.mono (by have := hb3'.size; omega))
      exact ⟨rfl, by rw [hk0]; exact hb4.trans (hu.mono (by have := hb4.size; omega))⟩
end Go.Proofs.Ytobbgndabmnbcaa.Key
