/-
  Proved: the call of the statement PackPuts returns true for every slice of bytes, every number and every text (what is put behind any bytes is the document's, in new memory), and the slice reads afterwards as it read before. No condition.
  The frame of the row's step was written by the guide's proof-skeleton.mjs; the walk is this text's own.
-/
import Derived.Test.YtkefkjpacfgbdaaOwn
import Derived.Test.YtkefkjpacfgbdaaMeet
import Derived.Laws.CopyOwn
import Derived.Deep.Cut
import Derived.WalkKit
import Derived.ProofKit
import Derived.OpenShut
import Derived.ShutString
import Derived.ChangeOld
import Derived.Below
namespace Go.Proofs.Ytkefkjpacfgbdaa.packPuts
open Go.ChangeShapes Go.WideShapes Go.ChangeAt Go.RowKit
open Go.ChangeMaps (open_string shut_string)
set_option linter.unusedVariables false

theorem own : ownKnob Try.prog.godebug = none := by kernel_rfl
theorem laidOut : laidOutB Try.prog = true := by kernel_rfl

/-- WHAT THE WALK IS TOLD OF A SLICE OF INTEGERS THAT CAME IN: it is nil; or it leads to a row of 'cap' cells, the numbers 'zs' (the first 'len' are its elements, the rest its spare room), each fitting its kind. -/
def IsRow (k : IntKind) (w : World) (a : Option Addr) (len cap : Nat) (zs : List Int) : Prop :=
  (a = none ∧ len = 0 ∧ cap = 0 ∧ zs = []) ∨
  ∃ x, a = some x ∧ len ≤ cap ∧ cap ≤ maxLen ∧ zs.length = cap ∧ (∀ i, i < zs.length → w.cell? (x.add i) = some (.int k (zs.getD i 0))) ∧ ∀ n ∈ zs, (Lit.int k n).wf = true

/-! ### STEP 1: THE WALK: the Go text returns true, AND WRITES NOTHING THAT WAS THERE: 'Below w.heap.size w w'' (Derived/Below.lean: '.refl', '.alloc', '.drew', '.setCell' at a new block, '.trans'). Open each 'IsRow' by 'rcases' AHEAD of 'go_enter'; part every test ahead of the walk. -/
set_option maxHeartbeats 4000000 in
theorem walk (a0 : Option Addr) (len0 cap0 : Nat) (z0 : List Int) (a1 : Int) (a2 : ByteArray) (w : World) (w0 : IsRow .u8 w a0 len0 cap0 z0) (w1 : (Lit.int .u64 a1).wf = true) (w2 : a2.size ≤ maxLen) :
    Calls Try.prog 3 #[.slice a0 len0 cap0, .int .u64 a1, .string a2] w fun e w' => e = .returned (.bool true) ∧ Below w.heap.size w w' := by
  obtain ⟨xs, hx1, hx2, hx3, hx4, hx5⟩ := Pack.opened w0
  clear w0
  unfold maxLen at hx5 w2
  obtain ⟨hs0, hs1⟩ : 0 ≤ a1 ∧ a1 ≤ 18446744073709551615 := by simpa [Lit.wf, IntKind.min, IntKind.max, IntKind.signed, IntKind.bits] using w1
  obtain ⟨n, rfl⟩ := Int.eq_ofNat_of_zero_le hs0
  clear w1
  have hn : n < 18446744073709551616 := by omega
  by_cases h0 : 2000 < len0 ∨ 2000 < a2.size
  · go_enter Try.func3, Try.ntmps3
    go_wp2_with (go_at_call 7; refine (Pack.awake_any _).mono ?_; rintro e w' ⟨rfl, hb⟩)
    all_goals (go_ret; exact ⟨rfl, hb⟩)
  · have hd0 : decide ((2000 : Int) < (len0 : Int)) = false := by simp; omega
    have hd1 : decide ((2000 : Int) < (a2.size : Int)) = false := by simp; omega
    have hmk := Pack.make_own len0 (by omega)
    obtain ⟨i0, hi, hz0, hz1, hz2⟩ := info_parts Pack.info5
    have hb0 : Below w.heap.size w (w.alloc (.cells (madeCells #[.int .u8 0] (len0 + 64)) 5)) := (Below.refl _ _).alloc (Nat.le_refl _) _
    have hg0 := Pack.made_row w len0
    have hx0 := hx2.later hb0
    have hsz5 : (Try.prog.info? 5).map (·.size) = some 1 := by rw [hi]; simp [hz1]
    have hl1 : (xs.map (Value.int .u8)).length = Nat.min len0 len0 := by rw [List.length_map, hx1]; exact (Nat.min_self len0).symm
    have hl2 : 0 + (xs.map (Value.int .u8)).length ≤ (List.replicate (len0 + 64) (Value.int .u8 0)).length := by simp [hx1]
    have HL := Pack.hid (And.intro hl1 hl2)
    clear hl1 hl2
    go_enter Try.func3, Try.ntmps3
    go_wp2_with (first | (refine wpList_copy_splice rfl (.tmp 30) (.tmp 31) 22 22 rfl 5 Try.underlying22 hsz5 (some ⟨w.heap.size, 0, none⟩) a0 len0 (len0 + 64) len0 cap0 rfl rfl w.heap.size 0 (List.replicate (len0 + 64) (.int .u8 0)) 5 hg0 (xs.map (Value.int .u8)) HL.out.1 (Pack.copy_src hx0) HL.out.2 (Pack.ints_one xs) w.heap.size w hb0 (Nat.le_refl _) ?_; intro w1 HG1 hb1) | fail)
    obtain ⟨hyo, hzo⟩ := Pack.copied hx1 HG1.out
    have hx1w := hx2.later hb1
    have hnn : (some (⟨w.heap.size, 0, none⟩ : Addr)) = none → len0 = 0 ∧ len0 + 64 = 0 := fun h => by cases h
    clear hmk hb0 hg0 hx0 hsz5 hi hz0 hz1 hz2 HL HG1
    refine (Pack.Put_1m n _ _ _ xs w1 hx1 hyo hnn (by omega)).mono ?_
    rintro e w3 ⟨v1, rfl, ho1, hb3⟩
    obtain ⟨g1, c1, rfl, -, -, -, -, hy1⟩ := ho1.rowAt (k := len0 + 1) (by simp [Pack.be_length, hx1]) (by omega)
    clear ho1
    go_wp2_with fail
    refine (Pack.Put_2m n _ _ _ xs w3 hx1 (hyo.later hb3) hnn (by omega)).mono ?_
    rintro e w4 ⟨v2, rfl, ho2, hb4⟩
    obtain ⟨g2, c2, rfl, -, -, -, -, hy2⟩ := ho2.rowAt (k := len0 + 2) (by simp [Pack.be_length, hx1]) (by omega)
    have hb4' := hb3.trans (hb4.mono hb3.size)
    clear ho2
    go_wp2_with fail
    refine (Pack.Put_4m n _ _ _ xs w4 hx1 (hyo.later hb4') hnn (by omega)).mono ?_
    rintro e w5 ⟨v4, rfl, ho4, hb5⟩
    obtain ⟨g4, c4, rfl, -, -, -, -, hy4⟩ := ho4.rowAt (k := len0 + 4) (by simp [Pack.be_length, hx1]) (by omega)
    have hb5' := hb4'.trans (hb5.mono hb4'.size)
    clear ho4
    go_wp2_with fail
    refine (Pack.Put_8 n hn _ _ _ xs w5 hx1 (hyo.later hb5') hnn (by omega)).mono ?_
    rintro e w6 ⟨v8, rfl, ho8, hb6⟩
    obtain ⟨g8, c8, rfl, -, -, -, -, hy8⟩ := ho8.rowAt (k := len0 + 8) (by simp [Pack.be_length, hx1]) (by omega)
    have hb6' := hb5'.trans (hb6.mono hb5'.size)
    clear ho8
    go_wp2_with fail
    refine (Pack.PutText_any a2 (by unfold maxLen; omega) _ _ _ xs w6 hx1 (hyo.later hb6') hnn (by omega)).mono ?_
    rintro e w7 ⟨vt, rfl, hot, hb7⟩
    have htl := Pack.txt_length a2
    obtain ⟨gt, ct, rfl, -, -, -, -, hyt⟩ := hot.rowAt (k := len0 + (1 + min a2.size 255)) (by simp [hx1, htl]) (by omega)
    have hb7' := hb6'.trans (hb7.mono hb6'.size)
    clear hot
    have HC1 := Pack.hid (fun u (h : Below w7.heap.size w7 u) => Pack.conv_str (((((hy1.later hb4).later hb5).later hb6).later hb7).later h) (len0 + 1) c1 (by simp [Pack.be_length, hx1]) (fun h => by cases h))
    have HC2 := Pack.hid (fun u (h : Below w7.heap.size w7 u) => Pack.conv_str ((((hy2.later hb5).later hb6).later hb7).later h) (len0 + 2) c2 (by simp [Pack.be_length, hx1]) (fun h => by cases h))
    have HC4 := Pack.hid (fun u (h : Below w7.heap.size w7 u) => Pack.conv_str (((hy4.later hb6).later hb7).later h) (len0 + 4) c4 (by simp [Pack.be_length, hx1]) (fun h => by cases h))
    have HC8 := Pack.hid (fun u (h : Below w7.heap.size w7 u) => Pack.conv_str ((hy8.later hb7).later h) (len0 + 8) c8 (by simp [Pack.be_length, hx1]) (fun h => by cases h))
    have HCT := Pack.hid (fun u (h : Below w7.heap.size w7 u) => Pack.conv_str (hyt.later h) (len0 + (1 + min a2.size 255)) ct (by simp [hx1, htl]) (fun h => by cases h))
    have HX := Pack.hid (fun u (h : Below w7.heap.size w7 u) => (hx1w.later hb7').later h)
    have HZ := Pack.hid (fun i h1 h2 => cell_later hb7' (hzo i h1 h2))
    have hbw := hb1.trans (hb7'.mono hb1.size)
    clear hy1 hy2 hy4 hy8 hyt hb3 hb4 hb4' hb5 hb5' hb6 hb6' hb7 hb7' hyo hzo hx1w hnn
    generalize min a2.size 255 = mt at *
    go_wp2_with fail
    go_loop [14] (fun i => ∃ j : Nat, len0 ≤ j ∧ j ≤ len0 + 64 ∧ i = .int .i64 j) (fun i => len0 + 64 - (intOf i).toNat)
    case atStart => exact ⟨len0, Nat.le_refl _, by omega, rfl⟩
    case round =>
      obtain ⟨j, hj1, hj2, rfl⟩ := hrel
      by_cases hlt : j < len0 + 64
      · have hcz := HZ.out j hj1 hlt
        go_wp2
        go_round
        case rel => exact ⟨j + 1, by omega, by omega, by go_num⟩
        case measure => simp [intOf]; omega
      · obtain rfl : j = len0 + 64 := by omega
        clear hj1 hj2 hlt
        go_upto_region 12 with fail
        generalize hT : strOfNums (xs ++ Pack.be 1 n) = T1 at HC1
        have HT1 := Pack.hid hT
        clear hT
        generalize hT : strOfNums (xs ++ Pack.be 2 n) = T2 at HC2
        have HT2 := Pack.hid hT
        clear hT
        generalize hT : strOfNums (xs ++ Pack.be 4 n) = T4 at HC4
        have HT4 := Pack.hid hT
        clear hT
        generalize hT : strOfNums (xs ++ Pack.be 8 n) = T8 at HC8
        have HT8 := Pack.hid hT
        clear hT
        generalize hT : strOfNums (xs ++ Pack.txt a2) = TT at HCT
        have HTT := Pack.hid hT
        clear hT
        clear hx2 HZ
        go_cut [93] from 69 (fun v wx => v = .bool false ∧ Below w7.heap.size w7 wx)
        case first =>
          have hbd : Below w7.heap.size w7 w7.drew := (Below.refl _ _).drew
          refine wp_region_any (by kernel_rfl) ?_
          change wpAny _ _ _ _ _ _ _ (World.drew _)
          refine wpAny_take (i := 0) (v := .slice (some ⟨g1, 0, none⟩) (len0 + 1) c1) rfl (by kernel_rfl) (by kernel_rfl) (by kernel_rfl) (fun _ _ _ h => h) (Or.inl ⟨by kernel_rfl, by intro w; go_simp⟩) ?_
          refine wpAny_take (i := 2) (v := .slice a0 len0 cap0) rfl (by kernel_rfl) (by kernel_rfl) (by kernel_rfl) (fun _ _ _ h => h) (Or.inl ⟨by kernel_rfl, by intro w; go_simp⟩) ?_
          refine wpAny_take (i := 3) (v := .int .u64 (n : Int)) rfl (by kernel_rfl) (by kernel_rfl) (by kernel_rfl) (fun _ _ _ h => h) (Or.inl ⟨by kernel_rfl, by intro w; go_simp⟩) ?_
          apply Pack.meet (C := fun u => Below w7.heap.size w7 u)
          · intro cont
            have hcA := HC1.out _ hbd
            refine wpAny_ready (rs := [1, 4]) (by kernel_rfl) (by simp) ?_
            refine AllReady.cons rfl (fun K hK => ?_) (AllReady.cons rfl (fun K hK => ?_) AllReady.nil)
            · go_simp
              refine hK _ _ ?_
              clear hK K
              refine wpAny_ready (rs := [4]) (by kernel_rfl) (by simp) ?_
              refine AllReady.cons rfl (fun K hK => ?_) AllReady.nil
              go_simp
              refine (Pack.ref_put_1 n hn a0 len0 cap0 xs _ hx1 (HX.out _ hbd) hx4 (by omega)).mono ?_
              rintro e ua ⟨vz, rfl, hoz, hbz⟩
              obtain ⟨gz, cz, rfl, -, -, -, -, hyz⟩ := hoz.rowAt (k := len0 + 1) (by simp [Pack.be_length, hx1]) (by omega)
              have hcz := Pack.conv_str hyz (len0 + 1) cz (by simp [Pack.be_length, hx1]) (fun h => by cases h)
              rw [HT1.out] at hcz
              have hba := hbd.trans (hbz.mono hbd.size)
              have hcB := HC1.out _ hba
              clear hoz hyz hbz
              refine hK _ _ ?_
              clear hK K
              refine wpAny_ready (rs := [5]) (by kernel_rfl) (by simp) ?_
              refine AllReady.cons rfl (fun K hK => ?_) AllReady.nil
              go_simp
              refine hK _ _ ?_
              clear hK K
              exact cont ua gz cz hba
            · go_simp
              refine (Pack.ref_put_1 n hn a0 len0 cap0 xs _ hx1 (HX.out _ hbd) hx4 (by omega)).mono ?_
              rintro e ua ⟨vz, rfl, hoz, hbz⟩
              obtain ⟨gz, cz, rfl, -, -, -, -, hyz⟩ := hoz.rowAt (k := len0 + 1) (by simp [Pack.be_length, hx1]) (by omega)
              have hcz := Pack.conv_str hyz (len0 + 1) cz (by simp [Pack.be_length, hx1]) (fun h => by cases h)
              rw [HT1.out] at hcz
              have hba := hbd.trans (hbz.mono hbd.size)
              have hcB := HC1.out _ hba
              clear hoz hyz hbz
              refine hK _ _ ?_
              clear hK K
              refine wpAny_ready (rs := [1, 5]) (by kernel_rfl) (by simp) ?_
              refine AllReady.cons rfl (fun K hK => ?_) (AllReady.cons rfl (fun K hK => ?_) AllReady.nil)
              · go_simp
                refine hK _ _ ?_
                clear hK K
                refine wpAny_ready (rs := [5]) (by kernel_rfl) (by simp) ?_
                refine AllReady.cons rfl (fun K hK => ?_) AllReady.nil
                go_simp
                refine hK _ _ ?_
                clear hK K
                exact Pack.wpAny_listed (by kernel_rfl) (cont ua gz cz hba)
              · go_simp
                refine hK _ _ ?_
                clear hK K
                refine wpAny_ready (rs := [1]) (by kernel_rfl) (by simp) ?_
                refine AllReady.cons rfl (fun K hK => ?_) AllReady.nil
                go_simp
                refine hK _ _ ?_
                clear hK K
                exact Pack.wpAny_listed (by kernel_rfl) (cont ua gz cz hba)
          intro ua gua cua hba0
          have hba : Below w7.heap.size w7 ua := hba0
          clear hba0
          refine wpAny_take (i := 6) (v := .bool false) rfl (by kernel_rfl) (by kernel_rfl) (by kernel_rfl) (fun _ _ _ h => h) (Or.inl ⟨by kernel_rfl, by intro w; go_simp⟩) ?_
          refine wpAny_take (i := 7) (v := .bool false) rfl (by kernel_rfl) (by kernel_rfl) (by kernel_rfl) (fun _ _ _ h => h) (Or.inl ⟨by kernel_rfl, by intro w; go_simp⟩) ?_
          refine wpAny_take (i := 8) (v := .slice (some ⟨g2, 0, none⟩) (len0 + 2) c2) rfl (by kernel_rfl) (by kernel_rfl) (by kernel_rfl) (fun _ _ _ h => h) (Or.inl ⟨by kernel_rfl, by intro w; go_simp⟩) ?_
          refine wpAny_take (i := 10) (v := .slice a0 len0 cap0) rfl (by kernel_rfl) (by kernel_rfl) (by kernel_rfl) (fun _ _ _ h => h) (Or.inl ⟨by kernel_rfl, by intro w; go_simp⟩) ?_
          refine wpAny_take (i := 11) (v := .int .u64 (n : Int)) rfl (by kernel_rfl) (by kernel_rfl) (by kernel_rfl) (fun _ _ _ h => h) (Or.inl ⟨by kernel_rfl, by intro w; go_simp⟩) ?_
          apply Pack.meet (C := fun u => Below w7.heap.size w7 u)
          · intro cont
            have hcA := HC2.out _ hba
            refine wpAny_ready (rs := [9, 12]) (by kernel_rfl) (by simp) ?_
            refine AllReady.cons rfl (fun K hK => ?_) (AllReady.cons rfl (fun K hK => ?_) AllReady.nil)
            · go_simp
              refine hK _ _ ?_
              clear hK K
              refine wpAny_ready (rs := [12]) (by kernel_rfl) (by simp) ?_
              refine AllReady.cons rfl (fun K hK => ?_) AllReady.nil
              go_simp
              refine (Pack.ref_put_2 n hn a0 len0 cap0 xs _ hx1 (HX.out _ hba) hx4 (by omega)).mono ?_
              rintro e ub ⟨vz, rfl, hoz, hbz⟩
              obtain ⟨gz, cz, rfl, -, -, -, -, hyz⟩ := hoz.rowAt (k := len0 + 2) (by simp [Pack.be_length, hx1]) (by omega)
              have hcz := Pack.conv_str hyz (len0 + 2) cz (by simp [Pack.be_length, hx1]) (fun h => by cases h)
              rw [HT2.out] at hcz
              have hbb := hba.trans (hbz.mono hba.size)
              have hcB := HC2.out _ hbb
              clear hoz hyz hbz
              refine hK _ _ ?_
              clear hK K
              refine wpAny_ready (rs := [13]) (by kernel_rfl) (by simp) ?_
              refine AllReady.cons rfl (fun K hK => ?_) AllReady.nil
              go_simp
              refine hK _ _ ?_
              clear hK K
              exact cont ub gz cz hbb
            · go_simp
              refine (Pack.ref_put_2 n hn a0 len0 cap0 xs _ hx1 (HX.out _ hba) hx4 (by omega)).mono ?_
              rintro e ub ⟨vz, rfl, hoz, hbz⟩
              obtain ⟨gz, cz, rfl, -, -, -, -, hyz⟩ := hoz.rowAt (k := len0 + 2) (by simp [Pack.be_length, hx1]) (by omega)
              have hcz := Pack.conv_str hyz (len0 + 2) cz (by simp [Pack.be_length, hx1]) (fun h => by cases h)
              rw [HT2.out] at hcz
              have hbb := hba.trans (hbz.mono hba.size)
              have hcB := HC2.out _ hbb
              clear hoz hyz hbz
              refine hK _ _ ?_
              clear hK K
              refine wpAny_ready (rs := [9, 13]) (by kernel_rfl) (by simp) ?_
              refine AllReady.cons rfl (fun K hK => ?_) (AllReady.cons rfl (fun K hK => ?_) AllReady.nil)
              · go_simp
                refine hK _ _ ?_
                clear hK K
                refine wpAny_ready (rs := [13]) (by kernel_rfl) (by simp) ?_
                refine AllReady.cons rfl (fun K hK => ?_) AllReady.nil
                go_simp
                refine hK _ _ ?_
                clear hK K
                exact Pack.wpAny_listed (by kernel_rfl) (cont ub gz cz hbb)
              · go_simp
                refine hK _ _ ?_
                clear hK K
                refine wpAny_ready (rs := [9]) (by kernel_rfl) (by simp) ?_
                refine AllReady.cons rfl (fun K hK => ?_) AllReady.nil
                go_simp
                refine hK _ _ ?_
                clear hK K
                exact Pack.wpAny_listed (by kernel_rfl) (cont ub gz cz hbb)
          intro ub gub cub hbb0
          have hbb : Below w7.heap.size w7 ub := hbb0
          clear hbb0
          refine wpAny_take (i := 14) (v := .bool false) rfl (by kernel_rfl) (by kernel_rfl) (by kernel_rfl) (fun _ _ _ h => h) (Or.inl ⟨by kernel_rfl, by intro w; go_simp⟩) ?_
          refine wpAny_take (i := 15) (v := .bool false) rfl (by kernel_rfl) (by kernel_rfl) (by kernel_rfl) (fun _ _ _ h => h) (Or.inl ⟨by kernel_rfl, by intro w; go_simp⟩) ?_
          refine wpAny_take (i := 16) (v := .bool false) rfl (by kernel_rfl) (by kernel_rfl) (by kernel_rfl) (fun _ _ _ h => h) (Or.inl ⟨by kernel_rfl, by intro w; go_simp⟩) ?_
          refine wpAny_take (i := 17) (v := .slice (some ⟨g4, 0, none⟩) (len0 + 4) c4) rfl (by kernel_rfl) (by kernel_rfl) (by kernel_rfl) (fun _ _ _ h => h) (Or.inl ⟨by kernel_rfl, by intro w; go_simp⟩) ?_
          refine wpAny_take (i := 19) (v := .slice a0 len0 cap0) rfl (by kernel_rfl) (by kernel_rfl) (by kernel_rfl) (fun _ _ _ h => h) (Or.inl ⟨by kernel_rfl, by intro w; go_simp⟩) ?_
          refine wpAny_take (i := 20) (v := .int .u64 (n : Int)) rfl (by kernel_rfl) (by kernel_rfl) (by kernel_rfl) (fun _ _ _ h => h) (Or.inl ⟨by kernel_rfl, by intro w; go_simp⟩) ?_
          apply Pack.meet (C := fun u => Below w7.heap.size w7 u)
          · intro cont
            have hcA := HC4.out _ hbb
            refine wpAny_ready (rs := [18, 21]) (by kernel_rfl) (by simp) ?_
            refine AllReady.cons rfl (fun K hK => ?_) (AllReady.cons rfl (fun K hK => ?_) AllReady.nil)
            · go_simp
              refine hK _ _ ?_
              clear hK K
              refine wpAny_ready (rs := [21]) (by kernel_rfl) (by simp) ?_
              refine AllReady.cons rfl (fun K hK => ?_) AllReady.nil
              go_simp
              refine (Pack.ref_put_4 n hn a0 len0 cap0 xs _ hx1 (HX.out _ hbb) hx4 (by omega)).mono ?_
              rintro e uc ⟨vz, rfl, hoz, hbz⟩
              obtain ⟨gz, cz, rfl, -, -, -, -, hyz⟩ := hoz.rowAt (k := len0 + 4) (by simp [Pack.be_length, hx1]) (by omega)
              have hcz := Pack.conv_str hyz (len0 + 4) cz (by simp [Pack.be_length, hx1]) (fun h => by cases h)
              rw [HT4.out] at hcz
              have hbc := hbb.trans (hbz.mono hbb.size)
              have hcB := HC4.out _ hbc
              clear hoz hyz hbz
              refine hK _ _ ?_
              clear hK K
              refine wpAny_ready (rs := [22]) (by kernel_rfl) (by simp) ?_
              refine AllReady.cons rfl (fun K hK => ?_) AllReady.nil
              go_simp
              refine hK _ _ ?_
              clear hK K
              exact cont uc gz cz hbc
            · go_simp
              refine (Pack.ref_put_4 n hn a0 len0 cap0 xs _ hx1 (HX.out _ hbb) hx4 (by omega)).mono ?_
              rintro e uc ⟨vz, rfl, hoz, hbz⟩
              obtain ⟨gz, cz, rfl, -, -, -, -, hyz⟩ := hoz.rowAt (k := len0 + 4) (by simp [Pack.be_length, hx1]) (by omega)
              have hcz := Pack.conv_str hyz (len0 + 4) cz (by simp [Pack.be_length, hx1]) (fun h => by cases h)
              rw [HT4.out] at hcz
              have hbc := hbb.trans (hbz.mono hbb.size)
              have hcB := HC4.out _ hbc
              clear hoz hyz hbz
              refine hK _ _ ?_
              clear hK K
              refine wpAny_ready (rs := [18, 22]) (by kernel_rfl) (by simp) ?_
              refine AllReady.cons rfl (fun K hK => ?_) (AllReady.cons rfl (fun K hK => ?_) AllReady.nil)
              · go_simp
                refine hK _ _ ?_
                clear hK K
                refine wpAny_ready (rs := [22]) (by kernel_rfl) (by simp) ?_
                refine AllReady.cons rfl (fun K hK => ?_) AllReady.nil
                go_simp
                refine hK _ _ ?_
                clear hK K
                exact Pack.wpAny_listed (by kernel_rfl) (cont uc gz cz hbc)
              · go_simp
                refine hK _ _ ?_
                clear hK K
                refine wpAny_ready (rs := [18]) (by kernel_rfl) (by simp) ?_
                refine AllReady.cons rfl (fun K hK => ?_) AllReady.nil
                go_simp
                refine hK _ _ ?_
                clear hK K
                exact Pack.wpAny_listed (by kernel_rfl) (cont uc gz cz hbc)
          intro uc guc cuc hbc0
          have hbc : Below w7.heap.size w7 uc := hbc0
          clear hbc0
          refine wpAny_take (i := 23) (v := .bool false) rfl (by kernel_rfl) (by kernel_rfl) (by kernel_rfl) (fun _ _ _ h => h) (Or.inl ⟨by kernel_rfl, by intro w; go_simp⟩) ?_
          refine wpAny_take (i := 24) (v := .bool false) rfl (by kernel_rfl) (by kernel_rfl) (by kernel_rfl) (fun _ _ _ h => h) (Or.inl ⟨by kernel_rfl, by intro w; go_simp⟩) ?_
          refine wpAny_done (by kernel_rfl) ?_ _
          go_wp2
          go_meet
          case rel => exact ⟨rfl, hbc⟩
        case rest =>
          obtain ⟨rfl, hbc⟩ := hcut
          have hbd := hbc.drew
          go_wp2_with fail
          refine wp_region_any (by kernel_rfl) ?_
          change wpAny _ _ _ _ _ _ _ (World.drew _)
          refine wpAny_take (i := 0) (v := .slice (some ⟨g8, 0, none⟩) (len0 + 8) c8) rfl (by kernel_rfl) (by kernel_rfl) (by kernel_rfl) (fun _ _ _ h => h) (Or.inl ⟨by kernel_rfl, by intro w; go_simp⟩) ?_
          refine wpAny_take (i := 2) (v := .slice a0 len0 cap0) rfl (by kernel_rfl) (by kernel_rfl) (by kernel_rfl) (fun _ _ _ h => h) (Or.inl ⟨by kernel_rfl, by intro w; go_simp⟩) ?_
          refine wpAny_take (i := 3) (v := .int .u64 (n : Int)) rfl (by kernel_rfl) (by kernel_rfl) (by kernel_rfl) (fun _ _ _ h => h) (Or.inl ⟨by kernel_rfl, by intro w; go_simp⟩) ?_
          apply Pack.meet (C := fun u => Below w7.heap.size w7 u)
          · intro cont
            have hcA := HC8.out _ hbd
            refine wpAny_ready (rs := [1, 4]) (by kernel_rfl) (by simp) ?_
            refine AllReady.cons rfl (fun K hK => ?_) (AllReady.cons rfl (fun K hK => ?_) AllReady.nil)
            · go_simp
              refine hK _ _ ?_
              clear hK K
              refine wpAny_ready (rs := [4]) (by kernel_rfl) (by simp) ?_
              refine AllReady.cons rfl (fun K hK => ?_) AllReady.nil
              go_simp
              refine (Pack.ref_put_8 n hn a0 len0 cap0 xs _ hx1 (HX.out _ hbd) hx4 (by omega)).mono ?_
              rintro e ua ⟨vz, rfl, hoz, hbz⟩
              obtain ⟨gz, cz, rfl, -, -, -, -, hyz⟩ := hoz.rowAt (k := len0 + 8) (by simp [Pack.be_length, hx1]) (by omega)
              have hcz := Pack.conv_str hyz (len0 + 8) cz (by simp [Pack.be_length, hx1]) (fun h => by cases h)
              rw [HT8.out] at hcz
              have hba := hbd.trans (hbz.mono hbd.size)
              have hcB := HC8.out _ hba
              clear hoz hyz hbz
              refine hK _ _ ?_
              clear hK K
              refine wpAny_ready (rs := [5]) (by kernel_rfl) (by simp) ?_
              refine AllReady.cons rfl (fun K hK => ?_) AllReady.nil
              go_simp
              refine hK _ _ ?_
              clear hK K
              exact cont ua gz cz hba
            · go_simp
              refine (Pack.ref_put_8 n hn a0 len0 cap0 xs _ hx1 (HX.out _ hbd) hx4 (by omega)).mono ?_
              rintro e ua ⟨vz, rfl, hoz, hbz⟩
              obtain ⟨gz, cz, rfl, -, -, -, -, hyz⟩ := hoz.rowAt (k := len0 + 8) (by simp [Pack.be_length, hx1]) (by omega)
              have hcz := Pack.conv_str hyz (len0 + 8) cz (by simp [Pack.be_length, hx1]) (fun h => by cases h)
              rw [HT8.out] at hcz
              have hba := hbd.trans (hbz.mono hbd.size)
              have hcB := HC8.out _ hba
              clear hoz hyz hbz
              refine hK _ _ ?_
              clear hK K
              refine wpAny_ready (rs := [1, 5]) (by kernel_rfl) (by simp) ?_
              refine AllReady.cons rfl (fun K hK => ?_) (AllReady.cons rfl (fun K hK => ?_) AllReady.nil)
              · go_simp
                refine hK _ _ ?_
                clear hK K
                refine wpAny_ready (rs := [5]) (by kernel_rfl) (by simp) ?_
                refine AllReady.cons rfl (fun K hK => ?_) AllReady.nil
                go_simp
                refine hK _ _ ?_
                clear hK K
                exact Pack.wpAny_listed (by kernel_rfl) (cont ua gz cz hba)
              · go_simp
                refine hK _ _ ?_
                clear hK K
                refine wpAny_ready (rs := [1]) (by kernel_rfl) (by simp) ?_
                refine AllReady.cons rfl (fun K hK => ?_) AllReady.nil
                go_simp
                refine hK _ _ ?_
                clear hK K
                exact Pack.wpAny_listed (by kernel_rfl) (cont ua gz cz hba)
          intro ua gua cua hba0
          have hba : Below w7.heap.size w7 ua := hba0
          clear hba0
          refine wpAny_take (i := 6) (v := .bool true) rfl (by kernel_rfl) (by kernel_rfl) (by kernel_rfl) (fun _ _ _ h => h) (Or.inl ⟨by kernel_rfl, by intro w; go_simp⟩) ?_
          refine wpAny_take (i := 7) (v := .bool true) rfl (by kernel_rfl) (by kernel_rfl) (by kernel_rfl) (fun _ _ _ h => h) (Or.inl ⟨by kernel_rfl, by intro w; go_simp⟩) ?_
          refine wpAny_take (i := 8) (v := .slice (some ⟨gt, 0, none⟩) (len0 + (1 + mt)) ct) rfl (by kernel_rfl) (by kernel_rfl) (by kernel_rfl) (fun _ _ _ h => h) (Or.inl ⟨by kernel_rfl, by intro w; go_simp⟩) ?_
          refine wpAny_take (i := 10) (v := .slice a0 len0 cap0) rfl (by kernel_rfl) (by kernel_rfl) (by kernel_rfl) (fun _ _ _ h => h) (Or.inl ⟨by kernel_rfl, by intro w; go_simp⟩) ?_
          refine wpAny_take (i := 11) (v := .string a2) rfl (by kernel_rfl) (by kernel_rfl) (by kernel_rfl) (fun _ _ _ h => h) (Or.inl ⟨by kernel_rfl, by intro w; go_simp⟩) ?_
          apply Pack.meet (C := fun u => Below w7.heap.size w7 u)
          · intro cont
            have hcA := HCT.out _ hba
            refine wpAny_ready (rs := [9, 12]) (by kernel_rfl) (by simp) ?_
            refine AllReady.cons rfl (fun K hK => ?_) (AllReady.cons rfl (fun K hK => ?_) AllReady.nil)
            · go_simp
              refine hK _ _ ?_
              clear hK K
              refine wpAny_ready (rs := [12]) (by kernel_rfl) (by simp) ?_
              refine AllReady.cons rfl (fun K hK => ?_) AllReady.nil
              go_simp
              refine (Pack.ref_putText a2 (by unfold maxLen; omega) a0 len0 cap0 xs _ hx1 (HX.out _ hba) hx4 (by omega)).mono ?_
              rintro e ub ⟨vz, rfl, hoz, hbz⟩
              obtain ⟨gz, cz, rfl, -, -, -, -, hyz⟩ := hoz.rowAt (k := len0 + (1 + mt)) (by simp [hx1, htl]) (by omega)
              have hcz := Pack.conv_str hyz (len0 + (1 + mt)) cz (by simp [hx1, htl]) (fun h => by cases h)
              rw [HTT.out] at hcz
              have hbb := hba.trans (hbz.mono hba.size)
              have hcB := HCT.out _ hbb
              clear hoz hyz hbz
              refine hK _ _ ?_
              clear hK K
              refine wpAny_ready (rs := [13]) (by kernel_rfl) (by simp) ?_
              refine AllReady.cons rfl (fun K hK => ?_) AllReady.nil
              go_simp
              refine hK _ _ ?_
              clear hK K
              exact cont ub gz cz hbb
            · go_simp
              refine (Pack.ref_putText a2 (by unfold maxLen; omega) a0 len0 cap0 xs _ hx1 (HX.out _ hba) hx4 (by omega)).mono ?_
              rintro e ub ⟨vz, rfl, hoz, hbz⟩
              obtain ⟨gz, cz, rfl, -, -, -, -, hyz⟩ := hoz.rowAt (k := len0 + (1 + mt)) (by simp [hx1, htl]) (by omega)
              have hcz := Pack.conv_str hyz (len0 + (1 + mt)) cz (by simp [hx1, htl]) (fun h => by cases h)
              rw [HTT.out] at hcz
              have hbb := hba.trans (hbz.mono hba.size)
              have hcB := HCT.out _ hbb
              clear hoz hyz hbz
              refine hK _ _ ?_
              clear hK K
              refine wpAny_ready (rs := [9, 13]) (by kernel_rfl) (by simp) ?_
              refine AllReady.cons rfl (fun K hK => ?_) (AllReady.cons rfl (fun K hK => ?_) AllReady.nil)
              · go_simp
                refine hK _ _ ?_
                clear hK K
                refine wpAny_ready (rs := [13]) (by kernel_rfl) (by simp) ?_
                refine AllReady.cons rfl (fun K hK => ?_) AllReady.nil
                go_simp
                refine hK _ _ ?_
                clear hK K
                exact Pack.wpAny_listed (by kernel_rfl) (cont ub gz cz hbb)
              · go_simp
                refine hK _ _ ?_
                clear hK K
                refine wpAny_ready (rs := [9]) (by kernel_rfl) (by simp) ?_
                refine AllReady.cons rfl (fun K hK => ?_) AllReady.nil
                go_simp
                refine hK _ _ ?_
                clear hK K
                exact Pack.wpAny_listed (by kernel_rfl) (cont ub gz cz hbb)
          intro ub gub cub hbb0
          have hbb : Below w7.heap.size w7 ub := hbb0
          clear hbb0
          refine wpAny_take (i := 14) (v := .bool true) rfl (by kernel_rfl) (by kernel_rfl) (by kernel_rfl) (fun _ _ _ h => h) (Or.inl ⟨by kernel_rfl, by intro w; go_simp⟩) ?_
          refine wpAny_take (i := 15) (v := .bool true) rfl (by kernel_rfl) (by kernel_rfl) (by kernel_rfl) (fun _ _ _ h => h) (Or.inl ⟨by kernel_rfl, by intro w; go_simp⟩) ?_
          refine wpAny_take (i := 16) (v := .bool true) rfl (by kernel_rfl) (by kernel_rfl) (by kernel_rfl) (fun _ _ _ h => h) (Or.inl ⟨by kernel_rfl, by intro w; go_simp⟩) ?_
          refine wpAny_ready (rs := [17]) (by kernel_rfl) (by simp) ?_
          refine AllReady.cons rfl (fun K hK => ?_) AllReady.nil
          go_simp
          refine (Pack.awake_any _).mono ?_
          rintro e uc ⟨rfl, hbz⟩
          refine hK _ _ ?_
          clear hK K
          refine wpAny_take (i := 18) (v := .bool true) rfl (by kernel_rfl) (by kernel_rfl) (by kernel_rfl) (fun _ _ _ h => h) (Or.inl ⟨by kernel_rfl, by intro w; go_simp⟩) ?_
          refine wpAny_take (i := 19) (v := .bool true) rfl (by kernel_rfl) (by kernel_rfl) (by kernel_rfl) (fun _ _ _ h => h) (Or.inl ⟨by kernel_rfl, by intro w; go_simp⟩) ?_
          refine wpAny_done (by kernel_rfl) ?_ _
          go_wp2
          go_ret
          have hbf := hbb.trans (hbz.mono hbb.size)
          exact ⟨rfl, hbw.trans (hbf.mono hbw.size)⟩

/-! ### THE ROW's STEP: WRITTEN OUT: LEAVE IT -/
set_option maxRecDepth 100000 in
theorem lifted (os : Os) (started : os.Started) (H : Type) (enc : TypeId × Value → H) :
    ReturnsInHanded {} Try.checked os 3 .any (Rows.packPutsSpec.pre6 enc Try.prog Try.f3 Rows.packPutsRow.domain false) (Rows.packPutsSpec.post enc Try.prog Try.f3 false true false false) := by
  refine returnsInHanded_of_change (C := Try.checked) own started (by kernel_rfl) Try.func3
    (ChangeSpec.witness6 (enc := enc) (C := Try.checked) false ⟨#[], #[.slice none 0 0, .int .u64 0, .string ByteArray.empty], []⟩ 8 (by kernel_rfl) (by kernel_rfl) (by kernel_rfl) (by kernel_rfl)) ?_
  intro W base args ds gs before hval0 hW hcnd _
  have hval : ∀ (j : Nat) t v, Try.f3.params[j]? = some t → args[j]? = some v → Value.okWide Try.prog W .any base t v := hval0
  have hW' := hW
  obtain ⟨p, q, hA0, hV, rfl, hfz, hnd⟩ := hW
  have hA : DataW.TrodAll enc Try.prog W 0 (fun _ => true) true Try.f3.params.toList args.toList ds p := hA0
  rw [Try.params3] at hA hval
  obtain ⟨v0, vs0, d0, ds0, p0, q0, hargs, rfl, rfl, h0, r0⟩ := trodAll_cons hA
  obtain ⟨v1, vs1, d1, ds1, p1, q1, rfl, rfl, rfl, h1, r1⟩ := trodAll_cons r0
  obtain ⟨v2, vs2, d2, ds2, p2, q2, rfl, rfl, rfl, h2, r2⟩ := trodAll_cons r1
  obtain ⟨rfl, rfl, rfl⟩ := trodAll_nil r2
  obtain rfl : args = #[v0, v1, v2] := by cases args; simp_all
  obtain ⟨rfl, rfl⟩ := trodVars_none hV
  obtain ⟨a0, len0, cap0, rfl⟩ := okWide_slice Try.underlying22 (hval 0 22 v0 rfl rfl)
  have k0 := h0
  have lt0 : ∀ x ∈ p0, x.block < W.heap.size := by obtain ⟨m, hm⟩ := k0; exact DataW.trod_lt m _ _ _ hm
  obtain ⟨z0, w0⟩ : ∃ zs, IsRow .u8 W a0 len0 cap0 zs := by
    obtain ⟨fuel, hf⟩ := h0
    rcases open_ints Try.underlying22 Try.underlying5 (by kernel_rfl) hf with ⟨hcs, _⟩ | ⟨x, l, c, zs, hcs, _, hl, hm, hz, _, hcell, hwz⟩
    · simp [Value.cells] at hcs
      obtain ⟨rfl, rfl, rfl⟩ := hcs
      exact ⟨[], .inl ⟨rfl, rfl, rfl, rfl⟩⟩
    · simp [Value.cells] at hcs
      obtain ⟨rfl, rfl, rfl⟩ := hcs
      exact ⟨zs, .inr ⟨_, rfl, hl, hm, by simpa using hz, hcell, hwz⟩⟩
  obtain ⟨a1, rfl, rfl, rfl, w1⟩ := open_int Try.underlying23 (hval 1 23 v1 rfl rfl) h1
  obtain ⟨a2, rfl, rfl, rfl, w2⟩ := open_string Try.underlying9 (hval 2 9 v2 rfl rfl) h2
  clear hA0 hval0
  refine (walk a0 len0 cap0 z0 a1 a2 W w0 w1 w2).mono fun e W' ⟨he, bel⟩ => ?_
  subst he
  exact ⟨_, rfl, _, _, _, [], _, [], hW', trodAll_mk1 (shut_bool Try.underlying4 _), (trodAll_cons_mk (Below.trod laidOut (by kernel_rfl) (of_decide_eq_true (by kernel_rfl)) k0 bel lt0) (trodAll_cons_mk (shut_int Try.underlying23 w1) (trodAll_cons_mk (shut_string Try.underlying9 w2) trodAll_mk0))), rfl, bel.frame _, fun h => by cases h⟩

theorem over : Rows.packPutsRow.holds Try.pinned (OpenSpec.ofChange Rows.packPutsSpec) :=
  OpenClaim.holds_of_wide 3 Try.f3 rfl rfl rfl rfl rfl rfl rfl ⟨rfl, rfl, rfl, rfl, rfl⟩ rfl rfl rfl rfl rfl (by kernel_rfl) Try.func3 (by kernel_rfl)
    (of_decide_eq_true (by kernel_rfl)) (by unfold Func.isWrapper; first | (rw [if_pos (by decide +kernel)]; kernel_rfl) | (rw [if_neg (by decide +kernel)]; exact ⟨rfl, rfl⟩))
    (fun os started H enc _ => lifted os started H enc)

/-- ████ THE STATEMENT ████ -/
theorem proved : Rows.PackPutsSaid := over
#print axioms proved
end Go.Proofs.Ytkefkjpacfgbdaa.packPuts
