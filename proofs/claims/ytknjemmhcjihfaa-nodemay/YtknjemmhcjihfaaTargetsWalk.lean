/-
  The walk of the statement NodeTargets.
-/
import Derived.Test.YtknjemmhcjihfaaOnward
import Derived.Test.YtknjemmhcjihfaaSmall
import Derived.Test.YtknjemmhcjihfaaAwake
import Derived.Test.YtknjemmhcjihfaaQuiet2
namespace Go.Proofs.Ytknjemmhcjihfaa.Key
open Go.RowKit Draw
open Go.Op (bytesLess)

theorem any_blk {l : List Int} {b : Int} (h : b ∈ l) : l.any (fun x => x == b) = true := List.any_eq_true.2 ⟨b, h, by simp⟩

set_option maxRecDepth 100000 in
set_option maxHeartbeats 2000000 in
theorem targets5 (n : Nd) (p : Pl) (k : ByteArray) (w : World) (hi : n.In) (hk : k.size ≤ maxLen) (h : Lies w n p) :
    Calls Try.prog 5 #[nv n p, .string k] w fun e w' => e = .returned (.bool true) ∧ Below w.heap.size w w' := by
  have hb0 : Below w.heap.size w (w.alloc (.cells #[.bool n.leaf, .slice p.a1 n.ps.length p.c1, .slice p.a2 n.pv.length p.c2, .slice p.a3 n.ks.length p.c3, .slice p.a4 n.bf.length p.c4] 27)) := below_box w _
  have N0 := NBox.new w (.bool n.leaf) (.slice p.a1 n.ps.length p.c1) (.slice p.a2 n.pv.length p.c2) (.slice p.a3 n.ks.length p.c3) (.slice p.a4 n.bf.length p.c4)
  have HG := hid (great7 n p _ hi.long (h.later hb0))
  have HS := hid (fun g => @small_of n g hi)
  have hh := hid h
  unfold maxLen at hk
  clear hi h
  cases g1 : greatN n
  case true =>
    rw [g1] at HG
    clear HS hh
    obtain ⟨lf, ps, pv, ks, bf⟩ := n
    obtain ⟨a1, c1, a2, c2, a3, c3, a4, c4⟩ := p
    dsimp only [nv] at *
    generalize ps.length = n1 at *
    generalize pv.length = n2 at *
    generalize ks.length = n3 at *
    generalize bf.length = n4 at *
    go_enter Try.func5, Try.ntmps5
    go_wp2_with fail
    refine HG.out.mono ?_
    rintro x w1 ⟨rfl, hb1⟩
    have hb2 := hb0.trans (hb1.mono hb0.size)
    clear HG
    go_wp2_with fail
    refine (awake8 _).mono ?_
    rintro x w2 ⟨rfl, hb3⟩
    go_wp2_with fail
    go_ret
    exact ⟨rfl, hb2.trans (hb3.mono hb2.size)⟩
  case false =>
  rw [g1] at HG
  have hsm := HS.out g1
  clear HS g1
  cases g4 : decide ((100 : Int) < (k.size : Int))
  case true =>
    clear hh hsm
    obtain ⟨lf, ps, pv, ks, bf⟩ := n
    obtain ⟨a1, c1, a2, c2, a3, c3, a4, c4⟩ := p
    dsimp only [nv] at *
    generalize ps.length = n1 at *
    generalize pv.length = n2 at *
    generalize ks.length = n3 at *
    generalize bf.length = n4 at *
    go_enter Try.func5, Try.ntmps5
    go_wp2_with fail
    refine HG.out.mono ?_
    rintro x w1 ⟨rfl, hb1⟩
    have hb2 := hb0.trans (hb1.mono hb0.size)
    clear HG
    go_wp2_with fail
    refine (awake8 _).mono ?_
    rintro x w2 ⟨rfl, hb3⟩
    go_wp2_with fail
    go_ret
    exact ⟨rfl, hb2.trans (hb3.mono hb2.size)⟩
  case false =>
  have hk' : k.size ≤ 1000 := by simp at g4; omega
  have S1 := hid (fun w' (hb : Below w.heap.size w w') => step19 n p k w' hsm hk' (hh.out.later hb))
  have S2 := hid (fun w' (hb : Below w.heap.size w w') => deep14 n p w' hsm (hh.out.later hb))
  have S3 := hid (fun w' (hb : Below w.heap.size w w') => targets17 n p w' hsm.few (hh.out.later hb))
  have HC := hid (step_cases n k.data.toList)
  have hDI := deepI_in hsm
  have hTL : (targetsL n).length ≤ 2000 := by
    have h1 := hsm.few.l3
    have h2 := hsm.few.l4
    have h3 := blocks_len n.bf
    unfold targetsL
    rw [List.length_append, List.length_map]
    omega
  clear hh hsm
  generalize stepW n k.data.toList = y at *
  generalize deepI n = DI at *
  generalize targetsL n = TL at *
  obtain ⟨lf, ps, pv, ks, bf⟩ := n
  obtain ⟨a1, c1, a2, c2, a3, c3, a4, c4⟩ := p
  dsimp only [nv] at *
  generalize ps.length = n1 at *
  generalize pv.length = n2 at *
  generalize ks.length = n3 at *
  generalize bf.length = n4 at *
  rcases HC.out with hy | ⟨v, hy⟩ | ⟨yb, yd, key, hy, hmem, hdeep⟩
  case inl =>
    subst hy
    rw [show wv noWay = .agg #[.int .u8 0, .string ⟨#[]⟩, .int .u32 0, .int .u16 0, .string ⟨#[]⟩] from rfl] at S1
    clear HC S2 S3
    go_enter Try.func5, Try.ntmps5
    go_wp2_with fail
    refine HG.out.mono ?_
    rintro x w1 ⟨rfl, hb1⟩
    have hb2 := hb0.trans (hb1.mono hb0.size)
    obtain ⟨m0, m1, m2, m3, m4⟩ := (N0.later hb1).cells
    clear HG N0 hb0 hb1
    go_wp2_with fail
    refine (S1.out _ hb2).mono ?_
    rintro x w2 ⟨rfl, hb3⟩
    have hb4 := hb2.trans (hb3.mono hb2.size)
    have hb5 := hb4.alloc hb4.size (.cells #[.int .u8 0, .string ⟨#[]⟩, .int .u32 0, .int .u16 0, .string ⟨#[]⟩] 46)
    clear S1 m0 m1 m2 m3 m4 hb2 hb3
    go_wp2_with fail
    refine (awake8 _).mono ?_
    rintro x w3 ⟨rfl, hb6⟩
    go_wp2_with fail
    go_ret
    exact ⟨rfl, hb5.trans (hb6.mono hb5.size)⟩
  case inr.inl =>
    subst hy
    rw [show wv (toVal v) = .agg #[.int .u8 1, .string v, .int .u32 0, .int .u16 0, .string ⟨#[]⟩] from rfl] at S1
    clear HC S2 S3
    go_enter Try.func5, Try.ntmps5
    go_wp2_with fail
    refine HG.out.mono ?_
    rintro x w1 ⟨rfl, hb1⟩
    have hb2 := hb0.trans (hb1.mono hb0.size)
    obtain ⟨m0, m1, m2, m3, m4⟩ := (N0.later hb1).cells
    clear HG N0 hb0 hb1
    go_wp2_with fail
    refine (S1.out _ hb2).mono ?_
    rintro x w2 ⟨rfl, hb3⟩
    have hb4 := hb2.trans (hb3.mono hb2.size)
    have hb5 := hb4.alloc hb4.size (.cells #[.int .u8 1, .string v, .int .u32 0, .int .u16 0, .string ⟨#[]⟩] 46)
    clear S1 m0 m1 m2 m3 m4 hb2 hb3
    go_wp2_with fail
    refine (awake8 _).mono ?_
    rintro x w3 ⟨rfl, hb6⟩
    go_wp2_with fail
    go_ret
    exact ⟨rfl, hb5.trans (hb6.mono hb5.size)⟩
  case inr.inr =>
    subst hy
    try dsimp only at S1
    clear HC
    have HA := hid (any_blk hmem)
    have HD := hid hdeep
    clear hmem hdeep
    go_enter Try.func5, Try.ntmps5
    go_wp2_with fail
    refine HG.out.mono ?_
    rintro x w1 ⟨rfl, hb1⟩
    have hb2 := hb0.trans (hb1.mono hb0.size)
    have N1 := N0.later hb1
    obtain ⟨m0, m1, m2, m3, m4⟩ := N1.cells
    clear HG N0 hb0 hb1
    go_wp2_with fail
    refine (S1.out _ hb2).mono ?_
    rintro x w2 ⟨rfl, hb3⟩
    have hb4 := hb2.trans (hb3.mono hb2.size)
    have N2 := N1.later hb3
    have W2 := WBox.new w2 (.int .u8 2) (.string ⟨#[]⟩) (.int .u32 yb) (.int .u16 yd) (.string key)
    have N3 := N2.alloc (.cells #[.int .u8 2, .string ⟨#[]⟩, .int .u32 yb, .int .u16 yd, .string key] 46)
    have hb5 := hb4.alloc hb4.size (.cells #[.int .u8 2, .string ⟨#[]⟩, .int .u32 yb, .int .u16 yd, .string key] 46)
    clear S1 m0 m1 m2 m3 m4 hb2 hb3 N1
    have hlt0 := N2.lt
    obtain ⟨m0, m1, m2, m3, m4⟩ := N2.cells
    clear N2
    go_wp2_with fail
    refine (S3.out _ hb5).mono ?_
    clear S3 m0 m1 m2 m3 m4 hlt0 hb4
    generalize w2.alloc (.cells #[.int .u8 2, .string ⟨#[]⟩, .int .u32 yb, .int .u16 yd, .string key] 46) = w3 at *
    generalize w2.heap.size = kw at *
    generalize hk0 : w.heap.size = k0 at *
    rintro x w4 ⟨v, rfl, hv, hb6⟩
    obtain ⟨ta, tc, rfl, hnums, _⟩ := hv.nums
    have hb7 := hb5.trans (hb6.mono (by have := hb5.size; omega))
    have N4 := N3.later hb6
    have W4 := W2.later hb6
    clear hv N3 W2 hb5 hb6
    generalize hnT : TL.length = nT at *
    have HNT := hid hnT
    clear hnT
    go_wp2_with fail
    go_loopw [6, 8] (fun f i wr => ∃ j : Nat, j ≤ nT ∧ i = .int .i64 j ∧ f = .bool ((TL.take j).any fun x => x == yb) ∧ Below w4.heap.size w4 wr) (fun _ i _ => nT - (intOf i).toNat)
    case atStart => exact ⟨0, Nat.zero_le _, rfl, rfl, Below.refl _ _⟩
    case round =>
      obtain ⟨j, hj, rfl, rfl, hb⟩ := hrel
      have N5 := N4.later hb
      have W5 := W4.later hb
      by_cases hlt : j < nT
      · have hlt' : j < TL.length := by rw [HNT.out]; exact hlt
        obtain ⟨b, off, rfl, ⟨d0⟩⟩ := (hnums.later hb).one hlt'
        have HT := hid (any_take_succ TL (fun x => x == yb) hlt')
        obtain ⟨z, HZ⟩ : ∃ z, Hid (TL[j] = z) := ⟨_, hid rfl⟩
        rw [HZ.out] at d0 HT
        obtain ⟨x0, x1, x2, x3, x4⟩ := W5.cells
        generalize (TL.take j).any (fun x => x == yb) = f at *
        cases f
        · by_cases hz : z = yb
          · subst hz
            have HF : Hid ((TL.take (j + 1)).any (fun x => x == z) = true) := hid (by rw [HT.out]; simp)
            clear HT
            go_wp2_with fail
            go_quiet (fail)
            go_wp2_with fail
            go_roundw
            case rel => exact ⟨j + 1, by omega, by go_num, by rw [HF.out], ⟨hb.os, hb.tape, hb.output, hb.size, hb.block⟩⟩
            case measure => simp [intOf]; omega
          · have HF : Hid ((TL.take (j + 1)).any (fun x => x == yb) = false) := hid (by rw [HT.out]; simpa using hz)
            have hz' : (z == yb) = false := by simpa using hz
            clear HT
            go_wp2_with fail
            go_quiet (fail)
            go_wp2_with fail
            go_roundw
            case rel => exact ⟨j + 1, by omega, by go_num, by rw [HF.out], ⟨hb.os, hb.tape, hb.output, hb.size, hb.block⟩⟩
            case measure => simp [intOf]; omega
        · have HF : Hid ((TL.take (j + 1)).any (fun x => x == yb) = true) := hid (by rw [HT.out]; rfl)
          clear HT
          go_wp2_with fail
          go_quiet (fail)
          go_wp2_with fail
          go_roundw
          case rel => exact ⟨j + 1, by omega, by go_num, by rw [HF.out], ⟨hb.os, hb.tape, hb.output, hb.size, hb.block⟩⟩
          case measure => simp [intOf]; omega
      · obtain rfl : j = nT := by omega
        have HF : (TL.take j).any (fun x => x == yb) = true := by rw [← HNT.out, List.take_length]; exact HA.out
        rw [HF]
        clear HF HA
        have hs1 := hb7.size
        have hb8 := hb7.trans (hb.mono (by omega))
        have hs2 := hb8.size
        by_cases hd : yd < DI
        · have hd' : decide (yd < DI) = true := by simpa using hd
          clear HD
          go_upto_region 12 with fail
          refine wp_region_quiet (C := fun u => Below wr.heap.size wr u) (by kernel_rfl) (by kernel_rfl) ⟨rfl, rfl, rfl, Nat.le_refl _, fun _ _ => rfl⟩ ?_
          change wpQuiet _ _ _ _ (_ :: _) _
          repeat
            refine wpQuiet_step (fun K hK => ?_)
            first
              | refine quiet_skip ?_ ?_
                · rfl
              | refine quiet_val ?_ ?_ ?_ ?_
                rotate_left
                · kernel_rfl
                · intro u hu
                  obtain ⟨m0, m1, m2, m3, m4⟩ := (N5.later hu).cells
                  obtain ⟨x0, x1, x2, x3, x4⟩ := (W5.later hu).cells
                  go_simp
                  with_reducible rfl
              | refine quiet_call (.int .u16 DI) 14 #[.agg #[.bool lf, .slice a1 n1 c1, .slice a2 n2 c2, .slice a3 n3 c3, .slice a4 n4 c4]] ?_ ?_ (fun u hu => (S2.out u (hb8.trans (hu.mono (by omega)))).mono fun x u' h => ⟨h.1, hu.trans (h.2.mono hu.size)⟩) ?_
                · kernel_rfl
                · intro u hu
                  go_simp
                  done
              | refine quiet_call (.bool true) 8 #[] ?_ ?_ (fun u hu => (awake8 u).mono fun x u' h => ⟨h.1, hu.trans (h.2.mono hu.size)⟩) ?_
                · kernel_rfl
                · intro u hu
                  go_simp
                  done
            go_simp
            refine hK _ ?_
            clear hK K
          refine wpQuiet_nil (fun u hu => ?_)
          go_wp2_with fail
          go_ret
          have hb9 := hb8.trans (hu.mono (by omega))
          exact ⟨rfl, by first | exact hb9 | (rw [hk0]; exact hb9)⟩
        · have hd' : decide (yd < DI) = false := by simpa using hd
          have hD2 : DI = 65535 := HD.out.resolve_left hd
          subst hD2
          clear HD
          go_upto_region 12 with fail
          refine wp_region_quiet (C := fun u => Below wr.heap.size wr u) (by kernel_rfl) (by kernel_rfl) ⟨rfl, rfl, rfl, Nat.le_refl _, fun _ _ => rfl⟩ ?_
          change wpQuiet _ _ _ _ (_ :: _) _
          repeat
            refine wpQuiet_step (fun K hK => ?_)
            first
              | refine quiet_skip ?_ ?_
                · rfl
              | refine quiet_val ?_ ?_ ?_ ?_
                rotate_left
                · kernel_rfl
                · intro u hu
                  obtain ⟨m0, m1, m2, m3, m4⟩ := (N5.later hu).cells
                  obtain ⟨x0, x1, x2, x3, x4⟩ := (W5.later hu).cells
                  go_simp
                  with_reducible rfl
              | refine quiet_call (.int .u16 65535) 14 #[.agg #[.bool lf, .slice a1 n1 c1, .slice a2 n2 c2, .slice a3 n3 c3, .slice a4 n4 c4]] ?_ ?_ (fun u hu => (S2.out u (hb8.trans (hu.mono (by omega)))).mono fun x u' h => ⟨h.1, hu.trans (h.2.mono hu.size)⟩) ?_
                · kernel_rfl
                · intro u hu
                  go_simp
                  done
              | refine quiet_call (.bool true) 8 #[] ?_ ?_ (fun u hu => (awake8 u).mono fun x u' h => ⟨h.1, hu.trans (h.2.mono hu.size)⟩) ?_
                · kernel_rfl
                · intro u hu
                  go_simp
                  done
            go_simp
            refine hK _ ?_
            clear hK K
          refine wpQuiet_nil (fun u hu => ?_)
          go_wp2_with fail
          go_ret
          have hb9 := hb8.trans (hu.mono (by omega))
          exact ⟨rfl, by first | exact hb9 | (rw [hk0]; exact hb9)⟩
end Go.Proofs.Ytknjemmhcjihfaa.Key
