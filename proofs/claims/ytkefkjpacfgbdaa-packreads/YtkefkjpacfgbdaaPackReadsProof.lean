/-
  Proved: the call of the statement PackReads returns true for every slice of bytes and every slice of steps (whatever a reader is asked, one behind the other, it answers what the document says), and both slices read afterwards as they read before. No condition.
  The frame of the row's step was written by the guide's proof-skeleton.mjs for another row and turned by hand for the slice of steps; the walk is this text's own.
-/
import Derived.Test.YtkefkjpacfgbdaaHalf
import Derived.Test.YtkefkjpacfgbdaaGetText
import Derived.WalkKit
import Derived.ProofKit
import Derived.OpenShut
import Derived.ShutString
import Derived.ChangeOld
import Derived.Below
import Derived.Deep.CutRange
namespace Go.Proofs.Ytkefkjpacfgbdaa.packReads
open Go.ChangeShapes Go.WideShapes Go.ChangeAt Go.RowKit
open Go.ChangeMaps (open_string shut_string)
set_option linter.unusedVariables false

theorem own : ownKnob Try.prog.godebug = none := by kernel_rfl
theorem laidOut : laidOutB Try.prog = true := by kernel_rfl

/-- WHAT THE WALK IS TOLD OF A SLICE OF INTEGERS THAT CAME IN: it is nil; or it leads to a row of 'cap' cells, the numbers 'zs' (the first 'len' are its elements, the rest its spare room), each fitting its kind. -/
def IsRow (k : IntKind) (w : World) (a : Option Addr) (len cap : Nat) (zs : List Int) : Prop :=
  (a = none ∧ len = 0 ∧ cap = 0 ∧ zs = []) ∨
  ∃ x, a = some x ∧ len ≤ cap ∧ cap ≤ maxLen ∧ zs.length = cap ∧ (∀ i, i < zs.length → w.cell? (x.add i) = some (.int k (zs.getD i 0))) ∧ ∀ n ∈ zs, (Lit.int k n).wf = true

set_option maxRecDepth 100000 in
set_option maxHeartbeats 4000000 in
theorem walk (a0 : Option Addr) (len0 cap0 : Nat) (z0 : List Int) (a2 : Option Addr) (len2 cap2 : Nat) (K M : Nat → Int) (w : World) (w0 : IsRow .u8 w a0 len0 cap0 z0) (w2 : Pack.Steps w a2 len2 K M) (hl2 : len2 ≤ maxLen) :
    Calls Try.prog 4 #[.slice a0 len0 cap0, .slice a2 len2 cap2] w fun e w' => e = .returned (.bool true) ∧ Below w.heap.size w w' := by
  obtain ⟨xs, hx1, hx2, hx3, hx4, hx5⟩ := Pack.opened w0
  have hcap0 : cap0 ≤ maxLen := by
    rcases w0 with ⟨_, _, h, _⟩ | ⟨_, _, _, h, _⟩
    · rw [h]; exact Nat.zero_le _
    · exact h
  clear w0
  unfold maxLen at hx5 hl2 hcap0
  by_cases h0 : 2000 < len0 ∨ 200 < len2
  · go_enter Try.func4, Try.ntmps4
    go_wp2_with (go_at_call 7; refine (Pack.awake_any _).mono ?_; rintro e w' ⟨rfl, hb⟩)
    all_goals (go_ret; exact ⟨rfl, hb⟩)
  · have hd0 : decide ((2000 : Int) < (len0 : Int)) = false := by simp; omega
    have hd1 : decide ((200 : Int) < (len2 : Int)) = false := by simp; omega
    have ho0 := Pack.Own.made w
    have hb0 : Below w.heap.size w (w.alloc (.cells #[] 5)) := (Below.refl _ _).alloc (Nat.le_refl _) _
    go_enter Try.func4, Try.ntmps4
    go_wp2_with (at_builtin; refine Pack.app rfl (.tmp 24) (.tmp 25) rfl w.heap.size _ [] rfl ho0 a0 len0 cap0 xs rfl hx4 hx1 (hx2.later hb0) (by simp; omega) (by simp) ?_; intro v1 w1 ho1 hg1; have hb1 := ho0.below hb0 (Nat.le_refl _) (by simp) hg1; clear hg1; rw [List.nil_append] at ho1)
    clear ho0 hb0
    obtain ⟨q1, c1, rfl, hy1, hn1, hlt1, hcc1⟩ := ho1.formAt hx1
    refine (Pack.New_any _ _ _ xs w1 hx1 hy1 hx3 hn1 (by omega)).mono ?_
    rintro e w3 ⟨k, rfl, hr3, hb3⟩
    have hk := hr3.lt.2
    have hkw : w.heap.size ≤ k := Nat.le_trans hb1.size hk
    have ho3 := ho1.later hb3
    have hb4 := hb1.trans (hb3.mono hb1.size)
    clear ho1 hy1
    have hwB := hb1.size
    generalize hB1 : w1.heap.size = B1 at hr3 hlt1 hwB
    clear hb1 hb3 hB1
    go_wp2_with fail
    go_loopw [7] (fun i wr => ∃ (j : Nat) (ys : List Int), j ≤ len0 ∧ i = .int .i64 j ∧ ys.length = len0 ∧ Pack.Own wr w.heap.size (.slice q1 len0 c1) ys ∧ Pack.Rd wr B1 k xs 0 0 ∧ Below w.heap.size w wr) (fun i _ => len0 - (intOf i).toNat)
    case atStart => exact ⟨0, xs, Nat.zero_le _, rfl, hx1, ho3, hr3, hb4⟩
    case round =>
      clear ho3 hr3 hb4
      obtain ⟨j, ys, hj, rfl, hyl, hor, hrr, hbr⟩ := hrel
      by_cases hlt : j < len0
      · obtain ⟨g, cc, hv, hg1, hg2, _, _, _⟩ := hor.rowAt hyl (by omega)
        obtain ⟨rfl, rfl⟩ : q1 = some ⟨g, 0, none⟩ ∧ c1 = cc := by simpa using hv
        clear hv
        obtain ⟨hc, hf⟩ := hor.at hyl hlt
        have hgB := (hlt1 g rfl).2
        obtain ⟨ho5, hg5⟩ := hor.stored hyl j 77
        have hr5 := hrr.grown hg5 (.inl hgB)
        have hb5 := Pack.Below.own hbr hg5 hg1 (Nat.le_refl _)
        have H5 := Pack.hid (And.intro ho5 (And.intro hr5 hb5))
        clear ho5 hg5 hr5 hb5 hlt1 hn1
        go_wp2
        go_roundw
        case rel => exact ⟨j + 1, ys.set j 77, by omega, by go_num, by rw [List.length_set]; exact hyl, H5.out.1, H5.out.2.1, H5.out.2.2⟩
        case measure => simp [intOf]; omega
      · obtain rfl : len0 = j := by omega
        clear hlt1 hn1 hor hyl ys hlt hj
        have hB : w.heap.size ≤ B1 := hwB
        have hH0 := Pack.Half.new (a := a0) (n := len0) (c := cap0) hrr hbr hB
        generalize hkm : wr.heap.size = km at hH0
        clear hrr hbr
        go_wp2_with fail
        generalize wr.alloc (.cells #[.slice a0 len0 cap0, .int .i64 0, .int .i64 0] 38) = wm at hH0 ⊢
        clear hkm wr
        go_loopw [9] (fun i wr => ∃ (j p : Nat) (e : Int), j ≤ len2 ∧ i = .int .i64 j ∧ Pack.Half w wr B1 k km a0 len0 cap0 xs p e p e) (fun i _ => len2 - (intOf i).toNat)
        case atStart => exact ⟨0, 0, 0, Nat.zero_le _, rfl, hH0⟩
        case round =>
          clear hH0
          obtain ⟨j, p, e, hj, rfl, hH⟩ := hrel
          by_cases hlt : j < len2
          · obtain ⟨b, off, rfl, hc0, hc1⟩ := w2.at (Below.refl _ _) hlt
            have hK := cell_later hH.2.2.1 hc0
            go_upto_region 16 with fail
            iterate 19 (first | go_values | go_skip | go_guarded | go_step | go_upon | go_back)
            have HC := Pack.hid hc1
            clear hc0 hc1 hK w2 hd0 hd1
            have hpn : p ≤ len0 := by obtain ⟨_, _, _, _, _, _, _, _, _, h, _⟩ := hH.1.cells; omega
            go_cut [10, 11, 12, 13] from 40 to 152 (fun x y s t wx => ∃ (V : Nat) (S : ByteArray) (q : Nat) (f : Int), x = .int .u64 (V : Int) ∧ y = .int .u64 (V : Int) ∧ s = .string S ∧ t = .string S ∧ Pack.Half w wx B1 k km a0 len0 cap0 xs q f q f)
            case first =>
              generalize K j = kj
              by_cases hk1 : kj = 1
              · subst hk1
                have hv := Pack.gV_lt hx3 p e 1
                go_wp2_with fail
                refine (Pack.Get_1 hH.1).mono ?_
                rintro x wa ⟨rfl, hra, hga⟩
                have hHa := hH.step hra hga
                obtain ⟨d0, d1, d2, f0, f1, f2⟩ := hHa.cells
                clear hH hra hga
                go_wp2_with fail
                refine (Pack.ref_get (zs := xs) (n := len0) 1 hx3 (hx2.later hHa.2.2.1) hx1 (by omega) hpn (by omega) (by omega)).mono ?_
                rintro x wb ⟨rfl, hbb⟩
                clear d0 d1 d2 f0 f1 f2
                have hHb := hHa.later hbb
                obtain ⟨d0, d1, d2, f0, f1, f2⟩ := hHb.cells
                have HS := Pack.hid hHb.set
                clear hHa hbb hHb
                go_wp2
                go_meet
                case rel => exact ⟨_, _, _, _, rfl, rfl, rfl, rfl, HS.out⟩
              by_cases hk2 : kj = 2
              · subst hk2
                have hv := Pack.gV_lt hx3 p e 2
                go_wp2_with fail
                refine (Pack.Get_2 hH.1).mono ?_
                rintro x wa ⟨rfl, hra, hga⟩
                have hHa := hH.step hra hga
                obtain ⟨d0, d1, d2, f0, f1, f2⟩ := hHa.cells
                clear hH hra hga
                go_wp2_with fail
                refine (Pack.ref_get (zs := xs) (n := len0) 2 hx3 (hx2.later hHa.2.2.1) hx1 (by omega) hpn (by omega) (by omega)).mono ?_
                rintro x wb ⟨rfl, hbb⟩
                clear d0 d1 d2 f0 f1 f2
                have hHb := hHa.later hbb
                obtain ⟨d0, d1, d2, f0, f1, f2⟩ := hHb.cells
                have HS := Pack.hid hHb.set
                clear hHa hbb hHb
                go_wp2
                go_meet
                case rel => exact ⟨_, _, _, _, rfl, rfl, rfl, rfl, HS.out⟩
              by_cases hk4 : kj = 4
              · subst hk4
                have hv := Pack.gV_lt hx3 p e 4
                go_wp2_with fail
                refine (Pack.Get_4 hH.1).mono ?_
                rintro x wa ⟨rfl, hra, hga⟩
                have hHa := hH.step hra hga
                obtain ⟨d0, d1, d2, f0, f1, f2⟩ := hHa.cells
                clear hH hra hga
                go_wp2_with fail
                refine (Pack.ref_get (zs := xs) (n := len0) 4 hx3 (hx2.later hHa.2.2.1) hx1 (by omega) hpn (by omega) (by omega)).mono ?_
                rintro x wb ⟨rfl, hbb⟩
                clear d0 d1 d2 f0 f1 f2
                have hHb := hHa.later hbb
                obtain ⟨d0, d1, d2, f0, f1, f2⟩ := hHb.cells
                have HS := Pack.hid hHb.set
                clear hHa hbb hHb
                go_wp2
                go_meet
                case rel => exact ⟨_, _, _, _, rfl, rfl, rfl, rfl, HS.out⟩
              by_cases hk8 : kj = 8
              · subst hk8
                have hv := Pack.gV_lt hx3 p e 8
                go_wp2_with fail
                refine (Pack.Get_8 hH.1).mono ?_
                rintro x wa ⟨rfl, hra, hga⟩
                have hHa := hH.step hra hga
                obtain ⟨d0, d1, d2, f0, f1, f2⟩ := hHa.cells
                clear hH hra hga
                go_wp2_with fail
                refine (Pack.ref_get (zs := xs) (n := len0) 8 hx3 (hx2.later hHa.2.2.1) hx1 (by omega) hpn (by omega) (by omega)).mono ?_
                rintro x wb ⟨rfl, hbb⟩
                clear d0 d1 d2 f0 f1 f2
                have hHb := hHa.later hbb
                obtain ⟨d0, d1, d2, f0, f1, f2⟩ := hHb.cells
                have HS := Pack.hid hHb.set
                clear hHa hbb hHb
                go_wp2
                go_meet
                case rel => exact ⟨_, _, _, _, rfl, rfl, rfl, rfl, HS.out⟩
              by_cases hk3 : kj = 3
              · subst hk3
                have hm := cell_later hH.2.2.1 HC.out
                go_wp2_with fail
                refine (Pack.GetText_any hH.1 (M j)).mono ?_
                rintro x wa ⟨rfl, hra, hga⟩
                have hHa := hH.step hra hga
                obtain ⟨d0, d1, d2, f0, f1, f2⟩ := hHa.cells
                clear hH hra hga hm
                have hm := cell_later hHa.2.2.1 HC.out
                go_wp2_with fail
                refine wp_region_any (by kernel_rfl) ?_
                change wpAny _ _ _ _ _ _ _ (World.drew _)
                refine wpAny_take (i := 1) (v := .slice (some ⟨b, off, none⟩) len2 cap2) rfl (by kernel_rfl) (by kernel_rfl) (by kernel_rfl) (fun _ _ _ h => h) (Or.inl ⟨by kernel_rfl, by intro w; go_simp⟩) ?_
                refine wpAny_take (i := 2) (v := .int .i64 (j : Int)) rfl (by kernel_rfl) (by kernel_rfl) (by kernel_rfl) (fun _ _ _ h => h) (Or.inl ⟨by kernel_rfl, by intro w; go_simp⟩) ?_
                refine wpAny_take (i := 3) (v := .pointer (some ⟨b, off + j * 2, none⟩)) rfl (by kernel_rfl) (by kernel_rfl) (by kernel_rfl) (fun _ _ _ h => h) (Or.inl ⟨by kernel_rfl, by intro w; go_simp⟩) ?_
                refine wpAny_take (i := 4) (v := .pointer (some ⟨b, off + j * 2 + 1, none⟩)) rfl (by kernel_rfl) (by kernel_rfl) (by kernel_rfl) (fun _ _ _ h => h) (Or.inl ⟨by kernel_rfl, by intro w; go_simp⟩) ?_
                have hHd := hHa.later ((Below.refl _ _).drew)
                have hxd := hx2.later hHd.2.2.1
                refine wpAny_ready (rs := [0, 5]) (by kernel_rfl) (by simp) ?_
                refine AllReady.cons rfl (fun K hK => ?_) (AllReady.cons rfl (fun K hK => ?_) AllReady.nil)
                all_goals
                  go_simp
                  refine hK _ _ ?_
                  clear hK K
                rotate_left
                refine wpAny_ready (rs := [0]) (by kernel_rfl) (by simp) ?_
                refine AllReady.cons rfl (fun K hK => ?_) AllReady.nil
                go_simp
                refine hK _ _ ?_
                clear hK K
                rotate_left
                refine wpAny_ready (rs := [5]) (by kernel_rfl) (by simp) ?_
                refine AllReady.cons rfl (fun K hK => ?_) AllReady.nil
                go_simp
                refine hK _ _ ?_
                clear hK K
                all_goals
                  refine wpAny_ready (rs := [6]) (by kernel_rfl) (by simp) ?_
                  refine AllReady.cons rfl (fun K hK => ?_) AllReady.nil
                  go_simp
                  refine (Pack.ref_text (zs := xs) (n := len0) (M j) hx3 hxd hx1 (by omega) (by omega) (by omega) hpn).mono ?_
                  rintro x wb ⟨rfl, hbb⟩
                  refine hK _ _ ?_
                  clear hK K d0 d1 d2 f0 f1 f2 hm
                  have hHb := hHd.later hbb
                  obtain ⟨d0, d1, d2, f0, f1, f2⟩ := hHb.cells
                  have HS := Pack.hid hHb.set
                  clear hHa hbb hHb hHd hxd
                  generalize Pack.tS xs p e (M j) = S at *
                  generalize Pack.tP xs p e (M j) = q at *
                  generalize Pack.tE xs p e (M j) = f at *
                  refine wpAny_take (i := 7) (v := .tuple #[.string S, .agg #[.slice a0 len0 cap0, .int .i64 (q : Int), .int .i64 f]]) rfl (by kernel_rfl) (by kernel_rfl) (by kernel_rfl) (fun _ _ _ h => h) (Or.inl ⟨by kernel_rfl, by intro w; go_simp⟩) ?_
                  refine wpAny_take (i := 8) (v := .string S) rfl (by kernel_rfl) (by kernel_rfl) (by kernel_rfl) (fun _ _ _ h => h) (Or.inl ⟨by kernel_rfl, by intro w; go_simp⟩) ?_
                  refine wpAny_take (i := 9) (v := .agg #[.slice a0 len0 cap0, .int .i64 (q : Int), .int .i64 f]) rfl (by kernel_rfl) (by kernel_rfl) (by kernel_rfl) (fun _ _ _ h => h) (Or.inl ⟨by kernel_rfl, by intro w; go_simp⟩) ?_
                  refine wpAny_take (i := 10) (v := .string S) rfl (by kernel_rfl) (by kernel_rfl) (by kernel_rfl) (fun _ _ _ h => h) (Or.inl ⟨by kernel_rfl, by intro w; go_simp⟩) ?_
                  refine wpAny_ready (rs := [11]) (by kernel_rfl) (by simp) ?_
                  refine AllReady.cons rfl (fun K hK => ?_) AllReady.nil
                  go_simp
                  refine hK _ _ ?_
                  clear hK K
                  refine wpAny_done (by kernel_rfl) ?_ _
                  go_wp2
                  go_meet
                  case rel => exact ⟨0, S, q, f, rfl, rfl, rfl, rfl, HS.out⟩
              by_cases hk5 : kj = 5
              · subst hk5
                have hm := cell_later hH.2.2.1 HC.out
                go_wp2_with fail
                refine (Pack.fail_any hH.1 (M j)).mono ?_
                rintro x wa ⟨rfl, hra, hga⟩
                have hHa := hH.step hra hga
                obtain ⟨d0, d1, d2, f0, f1, f2⟩ := hHa.cells
                clear hH hra hga hm
                have hm := cell_later hHa.2.2.1 HC.out
                by_cases he : e = 0
                · subst he
                  have HS := Pack.hid hHa.setE
                  clear hHa
                  go_wp2
                  go_meet
                  case rel => exact ⟨0, ⟨#[]⟩, _, _, rfl, rfl, rfl, rfl, HS.out⟩
                · have hd : (e == 0) = false := by simpa using he
                  have HS : Pack.Half w wa B1 k km a0 len0 cap0 xs p e p e := by
                    have h1 := hHa
                    rw [show Pack.failE e (M j) = e from if_neg he] at h1
                    exact h1
                  clear hHa
                  go_wp2
                  go_meet
                  case rel => exact ⟨0, ⟨#[]⟩, _, _, rfl, rfl, rfl, rfl, HS⟩
              · go_wp2
                go_meet
                case rel => exact ⟨0, ⟨#[]⟩, _, _, rfl, rfl, rfl, rfl, hH⟩
            case rest =>
              obtain ⟨V, S, q, f, rfl, rfl, rfl, rfl, hH2⟩ := hcut
              clear hH hpn HC
              have hqn : q ≤ len0 := by obtain ⟨_, _, _, _, _, _, _, _, _, h, _⟩ := hH2.1.cells; omega
              have hwr : IntKind.i64.wrap ((len0 : Int) - (q : Int)) = (len0 : Int) - (q : Int) := by simp [IntKind.wrap, IntKind.bits, IntKind.signed]; omega
              have HL := Pack.hid (show ((xs.length - q : Nat) : Int) = (len0 : Int) - (q : Int) by omega)
              go_wp2_with fail
              refine wp_region_quiet (C := fun u => Below wc.heap.size wc u) (by kernel_rfl) (by kernel_rfl) ((Below.refl _ wc).drew) ?_
              change wpQuiet _ _ _ _ (_ :: _) _
              refine wpQuiet_step (fun K hK => ?_)
              refine Pack.quiet_val (.int .u64 (V : Int)) (by kernel_rfl) (fun u hu => by go_simp) ?_
              go_simp
              refine hK _ ?_
              clear hK K
              refine wpQuiet_step (fun K hK => ?_)
              refine Pack.quiet_val (.int .u64 (V : Int)) (by kernel_rfl) (fun u hu => by go_simp) ?_
              go_simp
              refine hK _ ?_
              clear hK K
              refine wpQuiet_step (fun K hK => ?_)
              refine Pack.quiet_val (.bool false) (by kernel_rfl) (fun u hu => by go_simp) ?_
              go_simp
              refine hK _ ?_
              clear hK K
              refine wpQuiet_step (fun K hK => ?_)
              refine Pack.quiet_val (.bool false) (by kernel_rfl) (fun u hu => by go_simp) ?_
              go_simp
              refine hK _ ?_
              clear hK K
              refine wpQuiet_step (fun K hK => ?_)
              refine Pack.quiet_val (.string S) (by kernel_rfl) (fun u hu => by go_simp) ?_
              go_simp
              refine hK _ ?_
              clear hK K
              refine wpQuiet_step (fun K hK => ?_)
              refine Pack.quiet_val (.string S) (by kernel_rfl) (fun u hu => by go_simp) ?_
              go_simp
              refine hK _ ?_
              clear hK K
              refine wpQuiet_step (fun K hK => ?_)
              refine Pack.quiet_val (.bool false) (by kernel_rfl) (fun u hu => by go_simp) ?_
              go_simp
              refine hK _ ?_
              clear hK K
              refine wpQuiet_step (fun K hK => ?_)
              refine Pack.quiet_val (.bool false) (by kernel_rfl) (fun u hu => by go_simp) ?_
              go_simp
              refine hK _ ?_
              clear hK K
              refine wpQuiet_step (fun K hK => ?_)
              refine Pack.quiet_val (.bool false) (by kernel_rfl) (fun u hu => by go_simp) ?_
              go_simp
              refine hK _ ?_
              clear hK K
              refine wpQuiet_step (fun K hK => ?_)
              refine Pack.quiet_val (.pointer (some ⟨k, 0, none⟩)) (by kernel_rfl) (fun u hu => by go_simp) ?_
              go_simp
              refine hK _ ?_
              clear hK K
              refine wpQuiet_step (fun K hK => ?_)
              refine Pack.quiet_call (.int .i64 (Pack.endE xs.length q f)) 24 #[.pointer (some ⟨k, 0, none⟩)] (by kernel_rfl) (fun u hu => by go_simp) (fun u hu => (Pack.End_any (hH2.later hu).1).mono fun e u' h => ⟨h.1, hu.trans (h.2.mono hu.size)⟩) ?_
              go_simp
              refine hK _ ?_
              clear hK K
              refine wpQuiet_step (fun K hK => ?_)
              refine Pack.quiet_val (.agg #[.slice a0 len0 cap0, .int .i64 (q : Int), .int .i64 f]) (by kernel_rfl) (fun u hu => by obtain ⟨d0, d1, d2, _⟩ := (hH2.later hu).cells; go_simp) ?_
              go_simp
              refine hK _ ?_
              clear hK K
              refine wpQuiet_step (fun K hK => ?_)
              refine Pack.quiet_call (.int .i64 (Pack.endE xs.length q f)) 25 #[.agg #[.slice a0 len0 cap0, .int .i64 (q : Int), .int .i64 f]] (by kernel_rfl) (fun u hu => by go_simp) (fun u hu => Pack.ref_end.mono fun e u' h => ⟨by rw [hx1]; exact h.1, hu.trans (h.2.mono hu.size)⟩) ?_
              go_simp
              refine hK _ ?_
              clear hK K
              refine wpQuiet_step (fun K hK => ?_)
              refine Pack.quiet_val (.bool false) (by kernel_rfl) (fun u hu => by go_simp) ?_
              go_simp
              refine hK _ ?_
              clear hK K
              refine wpQuiet_step (fun K hK => ?_)
              refine Pack.quiet_val (.bool false) (by kernel_rfl) (fun u hu => by go_simp) ?_
              go_simp
              refine hK _ ?_
              clear hK K
              refine wpQuiet_step (fun K hK => ?_)
              refine Pack.quiet_val (.bool false) (by kernel_rfl) (fun u hu => by go_simp) ?_
              go_simp
              refine hK _ ?_
              clear hK K
              refine wpQuiet_step (fun K hK => ?_)
              refine Pack.quiet_val (.pointer (some ⟨k, 0, none⟩)) (by kernel_rfl) (fun u hu => by go_simp) ?_
              go_simp
              refine hK _ ?_
              clear hK K
              refine wpQuiet_step (fun K hK => ?_)
              refine Pack.quiet_call (.int .i64 ((len0 : Int) - (q : Int))) 26 #[.pointer (some ⟨k, 0, none⟩)] (by kernel_rfl) (fun u hu => by go_simp) (fun u hu => (Pack.left_any (hH2.later hu).1).mono fun e u' h => ⟨by rw [← HL.out]; exact h.1, hu.trans (h.2.mono hu.size)⟩) ?_
              go_simp
              refine hK _ ?_
              clear hK K
              refine wpQuiet_step (fun K hK => ?_)
              refine Pack.quiet_val (.pointer (some ⟨km, 0, none⟩)) (by kernel_rfl) (fun u hu => by go_simp) ?_
              go_simp
              refine hK _ ?_
              clear hK K
              refine wpQuiet_step (fun K hK => ?_)
              refine Pack.quiet_val (.slice a0 len0 cap0) (by kernel_rfl) (fun u hu => by obtain ⟨d0, d1, d2, _⟩ := (hH2.later hu).cells; go_simp) ?_
              go_simp
              refine hK _ ?_
              clear hK K
              refine wpQuiet_step (fun K hK => ?_)
              refine Pack.quiet_val (.int .i64 (len0 : Int)) (by kernel_rfl) (fun u hu => by go_simp) ?_
              go_simp
              refine hK _ ?_
              clear hK K
              refine wpQuiet_step (fun K hK => ?_)
              refine Pack.quiet_val (.pointer (some ⟨km, 1, none⟩)) (by kernel_rfl) (fun u hu => by go_simp) ?_
              go_simp
              refine hK _ ?_
              clear hK K
              refine wpQuiet_step (fun K hK => ?_)
              refine Pack.quiet_val (.int .i64 (q : Int)) (by kernel_rfl) (fun u hu => by obtain ⟨d0, d1, d2, _⟩ := (hH2.later hu).cells; go_simp) ?_
              go_simp
              refine hK _ ?_
              clear hK K
              refine wpQuiet_step (fun K hK => ?_)
              refine Pack.quiet_val (.int .i64 ((len0 : Int) - (q : Int))) (by kernel_rfl) (fun u hu => by go_simp) ?_
              go_simp
              refine hK _ ?_
              clear hK K
              refine wpQuiet_step (fun K hK => ?_)
              refine Pack.quiet_val (.bool false) (by kernel_rfl) (fun u hu => by go_simp) ?_
              go_simp
              refine hK _ ?_
              clear hK K
              refine wpQuiet_step (fun K hK => ?_)
              refine Pack.quiet_val (.bool false) (by kernel_rfl) (fun u hu => by go_simp) ?_
              go_simp
              refine hK _ ?_
              clear hK K
              refine wpQuiet_nil ?_
              intro u hu
              go_wp2
              go_roundw
              case rel => exact ⟨j + 1, q, f, by omega, by go_num, hH2.later hu⟩
              case measure => simp [intOf]; omega
          · obtain rfl : len2 = j := by omega
            go_wp2_with fail
            refine (Pack.awake_any _).mono ?_
            rintro x w7 ⟨rfl, hb7⟩
            go_wp2
            go_ret
            exact ⟨rfl, hH.2.2.1.trans (hb7.mono hH.2.2.1.size)⟩

/-! ### THE ROW's STEP: WRITTEN OUT: LEAVE IT -/
set_option maxRecDepth 100000 in
theorem lifted (os : Os) (started : os.Started) (H : Type) (enc : TypeId × Value → H) :
    ReturnsInHanded {} Try.checked os 4 .any (Rows.packReadsSpec.pre6 enc Try.prog Try.f4 Rows.packReadsRow.domain false) (Rows.packReadsSpec.post enc Try.prog Try.f4 false true false false) := by
  refine returnsInHanded_of_change (C := Try.checked) own started (by kernel_rfl) Try.func4
    (ChangeSpec.witness6 (enc := enc) (C := Try.checked) false ⟨#[], #[.slice none 0 0, .slice none 0 0], []⟩ 8 (by kernel_rfl) (by kernel_rfl) (by kernel_rfl) (by kernel_rfl)) ?_
  intro W base args ds gs before hval0 hW hcnd _
  have hval : ∀ (j : Nat) t v, Try.f4.params[j]? = some t → args[j]? = some v → Value.okWide Try.prog W .any base t v := hval0
  have hW' := hW
  obtain ⟨p, q, hA0, hV, rfl, hfz, hnd⟩ := hW
  have hA : DataW.TrodAll enc Try.prog W 0 (fun _ => true) true Try.f4.params.toList args.toList ds p := hA0
  rw [Try.params4] at hA hval
  obtain ⟨v0, vs0, d0, ds0, p0, q0, hargs, rfl, rfl, h0, r0⟩ := trodAll_cons hA
  obtain ⟨v1, vs1, d1, ds1, p1, q1, rfl, rfl, rfl, h1, r1⟩ := trodAll_cons r0
  obtain ⟨rfl, rfl, rfl⟩ := trodAll_nil r1
  obtain rfl : args = #[v0, v1] := by cases args; simp_all
  obtain ⟨rfl, rfl⟩ := trodVars_none hV
  obtain ⟨a0, len0, cap0, rfl⟩ := okWide_slice Try.underlying22 (hval 0 22 v0 rfl rfl)
  have k0 := h0
  have lt0 : ∀ x ∈ p0, x.block < W.heap.size := by obtain ⟨m, hm⟩ := k0; exact DataW.trod_lt m _ _ _ hm
  obtain ⟨z0, w0⟩ : ∃ zs, IsRow .u8 W a0 len0 cap0 zs := by
    obtain ⟨fuel, hf⟩ := h0
    rcases open_ints Try.underlying22 Try.underlying5 (by kernel_rfl) hf with ⟨hcs, _⟩ | ⟨x, l, c, zs, hcs, _, hl, hm, hz, _, hcell, hwz⟩
    · simp [Value.cells] at hcs
      obtain ⟨rfl, rfl, rfl⟩ := hcs
      exact ⟨[], .inl ⟨rfl, rfl, rfl, rfl⟩⟩
    · simp [Value.cells] at hcs
      obtain ⟨rfl, rfl, rfl⟩ := hcs
      exact ⟨zs, .inr ⟨_, rfl, hl, hm, by simpa using hz, hcell, hwz⟩⟩
  obtain ⟨a2, len2, cap2, rfl⟩ := okWide_slice Try.underlying34 (hval 1 34 v1 rfl rfl)
  have k2 := h1
  have lt2 : ∀ x ∈ p1, x.block < W.heap.size := by obtain ⟨m, hm⟩ := k2; exact DataW.trod_lt m _ _ _ hm
  obtain ⟨K, M, w2, hl2⟩ := Pack.opened_steps h1
  clear hA0 hval0
  refine (walk a0 len0 cap0 z0 a2 len2 cap2 K M W w0 w2 hl2).mono fun e W' ⟨he, bel⟩ => ?_
  subst he
  exact ⟨_, rfl, _, _, _, [], _, [], hW', trodAll_mk1 (shut_bool Try.underlying4 _), (trodAll_cons_mk (Below.trod laidOut (by kernel_rfl) (of_decide_eq_true (by kernel_rfl)) k0 bel lt0) (trodAll_cons_mk (Below.trod laidOut (by kernel_rfl) (of_decide_eq_true (by kernel_rfl)) k2 bel lt2) trodAll_mk0)), rfl, bel.frame _, fun h => by cases h⟩

theorem over : Rows.packReadsRow.holds Try.pinned (OpenSpec.ofChange Rows.packReadsSpec) :=
  OpenClaim.holds_of_wide 4 Try.f4 rfl rfl rfl rfl rfl rfl rfl ⟨rfl, rfl, rfl, rfl, rfl⟩ rfl rfl rfl rfl rfl (by kernel_rfl) Try.func4 (by kernel_rfl)
    (of_decide_eq_true (by kernel_rfl)) (by unfold Func.isWrapper; first | (rw [if_pos (by decide +kernel)]; kernel_rfl) | (rw [if_neg (by decide +kernel)]; exact ⟨rfl, rfl⟩))
    (fun os started H enc _ => lifted os started H enc)

/-- ████ THE STATEMENT ████ -/
theorem proved : Rows.PackReadsSaid := over
#print axioms proved
end Go.Proofs.Ytkefkjpacfgbdaa.packReads
