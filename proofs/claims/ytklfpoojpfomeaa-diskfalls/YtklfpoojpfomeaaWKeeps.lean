/-
  The walk of DiskKeeps.
-/
import Derived.Test.YtklfpoojpfomeaaPg
namespace Go.Proofs.Ytklfpoojpfomeaa.Key
open Go.RowKit Draw
set_option linter.unusedVariables false
set_option linter.unusedSimpArgs false
theorem writeD_n (d : Dk) (k : Int) (b : List UInt8) : (writeD d k b).2.n = d.n := by
  have h := (fallD_more (waitD d k b)).1
  unfold writeD
  split
  · rfl
  split
  · rfl
  split
  · rfl
  split
  · exact h
  split
  · rfl
  · rfl
theorem barr_n (d : Dk) : (if d.down = true then d else barrierD d).n = d.n := by split <;> rfl
theorem keeps_if {d : Dk} {k : Int} {x : List UInt8} (h : Keeps d k x) : Keeps (if d.down = true then d else barrierD d) k x := by
  split
  · exact h
  · exact h.barrier
theorem keepsStart (b : List UInt8) (hb : b.length ≤ 2048) : writeD ⟨4, [], [], false, 0, -1⟩ 2 b = (0, waitD ⟨4, [], [], false, 0, -1⟩ 2 b) := by
  unfold writeD
  rw [if_neg (by decide), if_neg (by decide), if_neg (by omega), if_neg (by decide), if_neg (by decide)]
set_option maxRecDepth 100000 in
set_option maxHeartbeats 4000000 in
theorem diskKeeps4 (a0 : Option Addr) (c0 : Nat) (b : List UInt8) (a1 : Option Addr) (c1 : Nat) (l : List St) (w : World) (hbb : Bytes w a0 (nums (str b))) (hzb : a0 = none → b.length = 0 ∧ c0 = 0) (hlb : b.length ≤ maxLen) (hst : Steps w a1 l) (hll : l.length ≤ maxLen) (hin : ∀ m ∈ l, m.In) :
    Calls Try.prog 4 #[.slice a0 b.length c0, .slice a1 l.length c1] w fun x w' => x = .returned (.bool true) ∧ Below w.heap.size w w' := by
  have HN := disk_new 4 w (by omega) (by omega)
  have HX := hid (fun (u : World) (hu : Below w.heap.size w u) => hst.later hu)
  have HBB := hid (fun (u : World) (hu : Below w.heap.size w u) => hbb.later hu)
  have HG := hid (fun (u : World) (hu : Below w.heap.size w u) => great9 a1 c1 l u (hst.later hu) hll)
  have HZB := hid hzb
  have HIN := hid hin
  have HLB := hid hlb
  unfold maxLen at hlb hll
  clear hst hbb hzb hin
  by_cases hg : greatS l = true
  · rw [hg] at HG
    generalize b.length = n0 at *
    generalize l.length = n at *
    go_enter Try.func4, Try.ntmps4
    go_wp2_with fail
    refine HN.mono ?_
    rintro e w1 ⟨p, rfl, hd1, hb1⟩
    have HG1 := HG.out w1 hb1
    have HB1 := hid hb1
    clear HN HG hd1 hb1
    go_wp2_with fail
    refine HG1.mono ?_
    rintro e w2 ⟨rfl, hb2⟩
    have HB2 := hid (HB1.out.trans (hb2.mono HB1.out.size))
    clear HG1 hb2
    go_wp2_with fail
    refine (awake8 w2).mono ?_
    rintro e w3 ⟨rfl, hb3⟩
    have HB3 := hid (HB2.out.trans (hb3.mono HB2.out.size))
    clear hb3
    go_wp2_with fail
    go_ret
    exact ⟨rfl, HB3.out⟩
  · have hg' : greatS l = false := by simpa using hg
    rw [hg'] at HG
    have hl60 : l.length ≤ 60 := by
      unfold greatS at hg'
      simp at hg'
      exact hg'.1
    by_cases h2 : 2048 < b.length
    · have hd2 : decide ((2048 : Int) < (b.length : Int)) = true := decide_eq_true (by omega)
      generalize b.length = n0 at *
      generalize l.length = n at *
      go_enter Try.func4, Try.ntmps4
      go_wp2_with fail
      refine HN.mono ?_
      rintro e w1 ⟨p, rfl, hd1, hb1⟩
      have HG1 := HG.out w1 hb1
      have HB1 := hid hb1
      clear HN HG hd1 hb1
      go_wp2_with fail
      refine HG1.mono ?_
      rintro e w2 ⟨rfl, hb2⟩
      have HB2 := hid (HB1.out.trans (hb2.mono HB1.out.size))
      clear HG1 hb2
      go_wp2_with fail
      refine (awake8 w2).mono ?_
      rintro e w3 ⟨rfl, hb3⟩
      have HB3 := hid (HB2.out.trans (hb3.mono HB2.out.size))
      clear hb3
      go_wp2_with fail
      go_ret
      exact ⟨rfl, HB3.out⟩
    · have hd2 : decide ((2048 : Int) < (b.length : Int)) = false := decide_eq_false (by omega)
      have hb2 := hid (show b.length ≤ 2048 by omega)
      have HW := hid (fun (u : World) (p : Nat) (hu : Below w.heap.size w u) (hd : Dsk u w.heap.size p p ⟨4, [], [], false, 0, -1⟩ 0) => disk_write hd (by omega) 2 (by decide) b a0 c0 (HBB.out u hu) HZB.out HLB.out hd.lt)
      rw [keepsStart b (by omega)] at HW
      have hK0 := keeps_new ⟨4, [], [], false, 0, -1⟩ 2 b
      have hn0 : (barrierD (waitD ⟨4, [], [], false, 0, -1⟩ 2 b)).n = 4 := rfl
      have hdn : (waitD ⟨4, [], [], false, 0, -1⟩ 2 b).down = false := rfl
      generalize waitD ⟨4, [], [], false, 0, -1⟩ 2 b = d1 at *
      dsimp only at HW
      have HK0 := hid hK0
      have HN0 := hid hn0
      clear hK0 hn0 hg hg' h2
      obtain ⟨n0, hnb⟩ : ∃ n0, b.length = n0 := ⟨_, rfl⟩
      rw [hnb] at hlb hd2 ⊢
      have HNB := hid hnb
      rw [hnb] at HZB HW
      obtain ⟨n, hnl⟩ : ∃ n, l.length = n := ⟨_, rfl⟩
      rw [hnl] at hll hl60 HG ⊢
      have HNL := hid hnl
      clear hnb hnl
      go_enter Try.func4, Try.ntmps4
      go_wp2_with fail
      refine HN.mono ?_
      rintro e w1 ⟨p, rfl, hd0, hb1⟩
      have HG1 := HG.out w1 hb1
      have HB1 := hid hb1
      have HD0 := hid (hd0 p)
      clear HN HG hd0 hb1
      go_wp2_with fail
      refine HG1.mono ?_
      rintro e w2 ⟨rfl, hbg⟩
      have HB2 := hid (HB1.out.trans (hbg.mono HB1.out.size))
      have HW1 := HW.out w2 p HB2.out (HD0.out.later hbg)
      clear HG1 hbg HB1 HD0 HW
      go_wp2_with fail
      refine HW1.mono ?_
      rintro e w3 ⟨rfl, hd3, hs3⟩
      have HBr := disk_barrier hd3 (by omega)
      have HB3 := hid (HB2.out.trans hs3.below)
      rw [hdn, if_neg (by decide), if_neg (by decide)] at HBr
      clear HW1 hs3 hd3 HB2 hdn
      go_wp2_with fail
      refine HBr.mono ?_
      rintro e w4 ⟨rfl, hd4, hs4⟩
      have HB4 := hid (HB3.out.trans hs4.below)
      have HD4 := hid hd4
      clear HBr hs4 hd4 HB3
      go_wp2_with fail
      go_loopw [7] (fun i wr => ∃ (j : Nat), j ≤ n ∧ i = .int .i64 j ∧ ∃ (d : Dk) (m : Nat), Dsk wr w.heap.size p p d m ∧ m ≤ 1 + j ∧ Keeps d 2 (wholeD b) ∧ d.n = 4 ∧ Below w.heap.size w wr) (fun i _ => n - (intOf i).toNat)
      case atStart => exact ⟨0, Nat.zero_le _, rfl, _, 1, HD4.out, by omega, HK0.out, HN0.out, HB4.out⟩
      case round =>
        obtain ⟨j, hj, rfl, d, m, hD, hm, hK, hnn, hb⟩ := hrel
        clear HD4 HK0 HN0 HB4
        have HK := hid hK
        have HNn := hid hnn
        clear hK hnn
        by_cases hlt : j < n
        · have hlt' : j < l.length := by rw [HNL.out]; exact hlt
          obtain ⟨b7, off, hA, hC⟩ := (HX.out wr hb).at hlt'
          have hKp : ∀ u, Below w.heap.size w u → Bools u (l[j]'hlt').ak (l[j]'hlt').keep := fun u hu => by obtain ⟨_, _, _, hc⟩ := (HX.out u hu).at hlt'; exact hc.hk
          subst hA
          obtain ⟨x, hx⟩ : ∃ x, l[j]? = some x := ⟨_, List.getElem?_eq_getElem hlt'⟩
          have hxe : l[j] = x := by rw [List.getElem?_eq_getElem hlt'] at hx; exact Option.some.inj hx
          have hin := HIN.out x (List.mem_of_getElem? hx)
          rw [hxe] at hC hKp
          obtain ⟨x0, x1, x2, x3, x4, xb, _⟩ := hC
          clear hx hxe hlt'
          obtain ⟨kd, ix, ab, cb, bb, ak, ck, kp, tn⟩ := x
          dsimp only at *
          have Bx := below_box wr (.cells #[.int .i64 kd, .int .i64 ix, .slice ab bb.length cb, .slice ak kp.length ck, .int .i64 tn] 37)
          have HD0 := hid (hD.later Bx)
          have HCb := hid (xb.later Bx)
          have HBx := hid (hb.trans (Bx.mono hb.size))
          have HKp := hid (fun u (hu : Soft w.heap.size (wr.alloc (.cells #[.int .i64 kd, .int .i64 ix, .slice ab bb.length cb, .slice ak kp.length ck, .int .i64 tn] 37)) u) => hKp u (HBx.out.trans hu.below))
          clear Bx hD xb hKp hb
          by_cases k0 : kd = 0
          · subst k0
            by_cases hix : ix = 2
            · subst hix
              go_wp2_with fail
              go_roundw
              case rel => exact ⟨j + 1, by omega, by go_num, d, m, HD0.out, by omega, HK.out, HNn.out, HBx.out⟩
              case measure => simp [intOf]; omega
            · have hdi : decide (ix = 2) = false := decide_eq_false hix
              have HC := disk_write HD0.out (by omega) ix hin.ix bb ab cb HCb.out hin.bn hin.bl HD0.out.lt
              go_wp2_with fail
              refine HC.mono ?_
              rintro e w2 ⟨rfl, hd2, hs2⟩
              have HD2 := hid hd2
              have HB2 := hid (HBx.out.trans hs2.below)
              clear hd2 hs2 HC
              go_wp2_with fail
              go_roundw
              case rel => exact ⟨j + 1, by omega, by go_num, _, (m + 1), HD2.out, by omega, HK.out.write ix bb hix, (writeD_n d ix bb).trans HNn.out, HB2.out⟩
              case measure => simp [intOf]; omega
          · have hd0 : decide (kd = 0) = false := decide_eq_false k0
            by_cases k1 : kd = 1
            · subst k1
              have HC := disk_barrier HD0.out (by omega)
              go_wp2_with fail
              refine HC.mono ?_
              rintro e w2 ⟨rfl, hd2, hs2⟩
              have HD2 := hid hd2
              have HB2 := hid (HBx.out.trans hs2.below)
              clear hd2 hs2 HC
              go_wp2_with fail
              go_roundw
              case rel => exact ⟨j + 1, by omega, by go_num, _, m, HD2.out, by omega, keeps_if HK.out, (barr_n d).trans HNn.out, HB2.out⟩
              case measure => simp [intOf]; omega
            · have hd1 : decide (kd = 1) = false := decide_eq_false k1
              by_cases k2 : kd = 2
              · subst k2
                have HC := disk_fuse HD0.out ix hin.ix
                go_wp2_with fail
                refine HC.mono ?_
                rintro e w2 ⟨rfl, hd2, hs2⟩
                have HD2 := hid hd2
                have HB2 := hid (HBx.out.trans hs2.below)
                clear hd2 hs2 HC
                go_wp2_with fail
                go_roundw
                case rel => exact ⟨j + 1, by omega, by go_num, _, m, HD2.out, by omega, HK.out.fuse _, HNn.out, HB2.out⟩
                case measure => simp [intOf]; omega
              · have hd2 : decide (kd = 2) = false := decide_eq_false k2
                by_cases k3 : kd = 3
                · subst k3
                  have HC := disk_down HD0.out (by omega)
                  go_wp2_with fail
                  refine HC.mono ?_
                  rintro e w2 ⟨rfl, hd2, hs2⟩
                  have HD2 := hid hd2
                  have HB2 := hid (HBx.out.trans hs2.below)
                  clear hd2 hs2 HC
                  go_wp2_with fail
                  go_roundw
                  case rel => exact ⟨j + 1, by omega, by go_num, _, (m + 1), HD2.out, by omega, HK.out.fall, (fallD_more d).1.trans HNn.out, HB2.out⟩
                  case measure => simp [intOf]; omega
                · have hd3 : decide (kd = 3) = false := decide_eq_false k3
                  by_cases k4 : kd = 4
                  · subst k4
                    have HC := disk_back HD0.out (by omega) HD0.out.lt kp ak ck HKp.out hin.kl tn ix
                    go_wp2_with fail
                    refine HC.mono ?_
                    rintro e w2 ⟨rfl, hd2, hs2⟩
                    have HD2 := hid hd2
                    have HB2 := hid (HBx.out.trans hs2.below)
                    clear hd2 hs2 HC
                    go_wp2_with fail
                    go_roundw
                    case rel => exact ⟨j + 1, by omega, by go_num, _, (m + 1), HD2.out, by omega, HK.out.back _ _ _, (backD_n d kp tn ix).trans HNn.out, HB2.out⟩
                    case measure => simp [intOf]; omega
                  · have hd4 : decide (kd = 4) = false := decide_eq_false k4
                    go_wp2_with fail
                    go_roundw
                    case rel => exact ⟨j + 1, by omega, by go_num, d, m, HD0.out, by omega, HK.out, HNn.out, HBx.out⟩
                    case measure => simp [intOf]; omega
        · obtain rfl : j = n := by omega
          have HBk := disk_back hD (by omega) hD.lt [] none 0 (fun u hu => .inl rfl) (by unfold maxLen; simp) (-1) 0
          have hrd := (HK.out.back [] (-1) 0).read rfl (by omega) (by rw [backD_n, HNn.out]; decide)
          have HB5 := hid hb
          simp only [List.length_nil] at HBk
          generalize backD d [] (-1) 0 = dz at *
          have HRD := hid hrd
          clear hD hb hrd
          go_wp2_with fail
          refine HBk.mono ?_
          rintro e w5 ⟨rfl, hd5, hs5⟩
          have HB5 := hid (HB5.out.trans hs5.below)
          have HR := disk_read hd5 2 (by decide)
          rw [HRD.out] at HR
          dsimp only at HR
          rw [wholeD_len] at HR
          clear HBk hs5 hd5
          go_wp2_with fail
          refine HR.mono ?_
          rintro e w6 ⟨⟨ra, rc, rfl, hby, hbn⟩, hb6⟩
          have HB6 := hid (HB5.out.trans (hb6.mono HB5.out.size))
          have hBY := hid hby
          have hBN := hid hbn
          clear HR hb6 hby hbn
          go_upto_region 24 with fail
          refine region_each [(some 98, [], false), (some 99, [(0, 98)], false), (some 100, [(1, 99)], false), (some 101, [(2, 100)], false), (some 102, [(3, 101), (2, 100)], false), (some 103, [(2, 100)], false), (some 104, [(5, 103), (2, 100)], false), (some 105, [(6, 104), (2, 100)], false), (some 106, [(4, 102), (7, 105), (2, 100)], false), (some 107, [(2, 100), (8, 106)], false), (some 108, [(9, 107)], false), (some 109, [(10, 108)], false), (some 110, [(10, 108), (11, 109)], false), (some 4, [(12, 110)], true)]
            (fun i Y _ => Y = match i with | 0 => .int .i64 0 | 1 => .bool true | 2 => .bool true | 3 => .slice ra 2048 rc | 4 => .string (str (wholeD b)) | 5 => .slice a0 n0 c0 | 6 => .string (str b) | 7 => .string (str (wholeD b)) | 8 => .bool true | 9 => .bool true | 10 => .bool true | 11 => .bool true | 12 => .bool true | _ => .bool true)
            (fun _ _ _ _ _ h => h) (by kernel_rfl) (by kernel_rfl) ⟨?_, ?_, ?_, ?_, ?_, ?_, ?_, ?_, ?_, ?_, ?_, ?_, ?_, ?_, trivial⟩ ?_
          · rintro u hu
            replace hu : Below w6.heap.size w6 u := hu
            exact opYields_val (.int .i64 0) (by kernel_rfl) (by go_simp) ⟨Below.refl _ _, rfl⟩
          · rintro u hu _ rfl
            replace hu : Below w6.heap.size w6 u := hu
            exact opYields_val (.bool true) (by kernel_rfl) (by go_simp) ⟨Below.refl _ _, rfl⟩
          · rintro u hu _ rfl
            replace hu : Below w6.heap.size w6 u := hu
            exact opYields_val (.bool true) (by kernel_rfl) (by go_simp) ⟨Below.refl _ _, rfl⟩
          · rintro u hu _ rfl
            replace hu : Below w6.heap.size w6 u := hu
            exact opYields_val (.slice ra 2048 rc) (by kernel_rfl) (by go_simp) ⟨Below.refl _ _, rfl⟩
          · rintro u hu _ rfl _ rfl
            replace hu : Below w6.heap.size w6 u := hu
            have hcv := conv_str (hBY.out.later hu) 2048 rc (by rw [nums_length, str_size, wholeD_len]) (fun e => absurd (hBN.out e).1 (by omega))
            rw [str_nums] at hcv
            exact opYields_val (.string (str (wholeD b))) (by kernel_rfl) (by go_simp) ⟨Below.refl _ _, rfl⟩
          · rintro u hu _ rfl
            replace hu : Below w6.heap.size w6 u := hu
            exact opYields_val (.slice a0 n0 c0) (by kernel_rfl) (by go_simp) ⟨Below.refl _ _, rfl⟩
          · rintro u hu _ rfl _ rfl
            replace hu : Below w6.heap.size w6 u := hu
            have hcv := conv_str (HBB.out _ (HB6.out.trans (hu.mono HB6.out.size))) n0 c0 (by rw [nums_length, str_size]; exact HNB.out) HZB.out
            rw [str_nums] at hcv
            exact opYields_val (.string (str b)) (by kernel_rfl) (by go_simp) ⟨Below.refl _ _, rfl⟩
          · rintro u hu _ rfl _ rfl
            replace hu : Below w6.heap.size w6 u := hu
            refine opYields_call 22 #[.string (str b)] (by kernel_rfl) (by go_simp) ((whole22 b u hb2.out).mono ?_)
            rintro e u1 ⟨rfl, hu1⟩
            exact ⟨_, rfl, hu1, rfl⟩
          · rintro u hu _ rfl _ rfl _ rfl
            replace hu : Below w6.heap.size w6 u := hu
            exact opYields_val (.bool true) (by kernel_rfl) (by go_simp) ⟨Below.refl _ _, rfl⟩
          · rintro u hu _ rfl _ rfl
            replace hu : Below w6.heap.size w6 u := hu
            exact opYields_val (.bool true) (by kernel_rfl) (by go_simp) ⟨Below.refl _ _, rfl⟩
          · rintro u hu _ rfl
            replace hu : Below w6.heap.size w6 u := hu
            exact opYields_val (.bool true) (by kernel_rfl) (by go_simp) ⟨Below.refl _ _, rfl⟩
          · rintro u hu _ rfl
            replace hu : Below w6.heap.size w6 u := hu
            refine opYields_call 8 #[] (by kernel_rfl) (by go_simp) ((awake8 u).mono ?_)
            rintro e u1 ⟨rfl, hu1⟩
            exact ⟨_, rfl, hu1, rfl⟩
          · rintro u hu _ rfl _ rfl
            replace hu : Below w6.heap.size w6 u := hu
            exact opYields_val (.bool true) (by kernel_rfl) (by go_simp) ⟨Below.refl _ _, rfl⟩
          · rintro u hu _ rfl
            replace hu : Below w6.heap.size w6 u := hu
            exact opYields_val (.bool true) (by kernel_rfl) (by go_simp) ⟨Below.refl _ _, rfl⟩
          · rintro u hu _ _ _ _ _ _ _ _ _ _ _ _ _ _ rfl
            replace hu : Below w6.heap.size w6 u := hu
            simp only [givingAll, Act.put, List.setIfInBounds_toArray, List.set_cons_zero, List.set_cons_succ]
            have hb7 := HB6.out.trans (hu.mono HB6.out.size)
            have HB7 := hid hb7
            clear hb7
            go_wp2_with fail
            go_ret
            exact ⟨rfl, HB7.out⟩
end Go.Proofs.Ytklfpoojpfomeaa.Key
