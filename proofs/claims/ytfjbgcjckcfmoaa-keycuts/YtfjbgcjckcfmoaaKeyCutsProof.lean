/-
  Proved: the call of the statement KeyCuts returns true for every two ranges and every text (a key is in what two ranges have both just if it is in both; it matters not which one comes first), and they read afterwards as they read before. No condition.
  The frame of the row's step was written by the guide's proof-skeleton.mjs; the walk is this text's own.
-/
import Derived.Test.YtfjbgcjckcfmoaaSame
import Derived.WalkKit
import Derived.ProofKit
import Derived.OpenShut
import Derived.ShutString
import Derived.ChangeOld
import Derived.Below
import Derived.Lib.SmallJoins
namespace Go.Proofs.Ytfjbgcjckcfmoaa.keyCuts
open Go.ChangeShapes Go.WideShapes Go.ChangeAt Go.RowKit Go.Joins
open Go.ChangeMaps (open_string shut_string)
open Go.Op (bytesLess)
set_option linter.unusedVariables false

theorem own : ownKnob Try.prog.godebug = none := by kernel_rfl
theorem cells29 : Try.prog.cellsOf 29 = 3 := by kernel_rfl

set_option maxHeartbeats 4000000 in
theorem walk (l0 h0 : ByteArray) (e0 : Bool) (l1 h1 : ByteArray) (e1 : Bool) (a2 : ByteArray) (w : World) (wl0 : l0.size ≤ maxLen) (wh0 : h0.size ≤ maxLen) (wl1 : l1.size ≤ maxLen) (wh1 : h1.size ≤ maxLen) (w2 : a2.size ≤ maxLen) :
    Calls Try.prog 5 #[Key.av l0 h0 e0, Key.av l1 h1 e1, .string a2] w fun e w' => e = .returned (.bool true) ∧ Below w.heap.size w w' := by
  unfold maxLen at wl0 wh0 wl1 wh1 w2
  obtain ⟨hA0, hB0, hb0⟩ := Key.two_boxes w (.string l0) (.string h0) (.bool e0) (.string l1) (.string h1) (.bool e1)
  have G0 := Key.great19 l0 h0 e0
  have G1 := Key.great19 l1 h1 e1
  cases hg : (decide (300 < l0.size) || decide (300 < h0.size))
  · rw [hg] at G0
    cases hg1 : (decide (300 < l1.size) || decide (300 < h1.size))
    · rw [hg1] at G1
      have hl : l0.size ≤ 300 ∧ h0.size ≤ 300 := by simp at hg; omega
      have hl1 : l1.size ≤ 300 ∧ h1.size ≤ 300 := by simp at hg1; omega
      by_cases hk : 300 < a2.size
      · have hd : decide ((300 : Int) < (a2.size : Int)) = true := by simp; omega
        go_enter Try.func5, Try.ntmps5
        go_wp2_with fail
        refine (G0 _).mono ?_
        rintro e w1 ⟨rfl, hb1⟩
        have hB1 := hB0.later hb1
        replace hb1 := hb0.trans (hb1.mono hb0.size)
        clear hA0 hB0 hb0
        obtain ⟨d0, d1, d2⟩ := hB1.cells
        generalize w.heap.size + 1 = kb at *
        go_wp2_with fail
        refine (G1 _).mono ?_
        rintro e w2 ⟨rfl, hb2⟩
        replace hb2 := hb1.trans (hb2.mono hb1.size)
        go_wp2_with fail
        refine (Key.awake9 _).mono ?_
        rintro e w3 ⟨rfl, hb3⟩
        replace hb3 := hb2.trans (hb3.mono hb2.size)
        go_wp2_with fail
        go_ret
        exact ⟨rfl, hb3⟩
      · have hd : decide ((300 : Int) < (a2.size : Int)) = false := by simp; omega
        have C1 := Key.cut26 l0 h0 e0 l1 h1 e1
        have C5 := Key.cut26 l1 h1 e1 l0 h0 e0
        rw [Key.cut_comm (Key.rg l1 h1 e1) (Key.rg l0 h0 e0)] at C5
        have C6 := Key.cut26 (Key.str (Key.cutR (Key.rg l0 h0 e0) (Key.rg l1 h1 e1)).lo) (Key.str (Key.cutR (Key.rg l0 h0 e0) (Key.rg l1 h1 e1)).hi) (Key.cutR (Key.rg l0 h0 e0) (Key.rg l1 h1 e1)).e l0 h0 e0
        have C2 := Key.in20 (Key.str (Key.cutR (Key.rg l0 h0 e0) (Key.rg l1 h1 e1)).lo) (Key.str (Key.cutR (Key.rg l0 h0 e0) (Key.rg l1 h1 e1)).hi) a2 (Key.cutR (Key.rg l0 h0 e0) (Key.rg l1 h1 e1)).e
        rw [show ∀ r : Key.Rng, Key.rg (Key.str r.lo) (Key.str r.hi) r.e = r from fun _ => rfl] at C6 C2
        rw [Key.cut_twice] at C6
        rw [Key.in_cut] at C2
        have C3 := Key.in20 l0 h0 a2 e0
        have C4 := Key.in20 l1 h1 a2 e1
        unfold Key.rv at C1 C5 C6
        generalize Key.str (Key.cutR (Key.rg l0 h0 e0) (Key.rg l1 h1 e1)).lo = cl at *
        generalize Key.str (Key.cutR (Key.rg l0 h0 e0) (Key.rg l1 h1 e1)).hi = ch at *
        generalize (Key.cutR (Key.rg l0 h0 e0) (Key.rg l1 h1 e1)).e = ce at *
        generalize Key.inR (Key.rg l0 h0 e0) a2.data.toList = i0 at *
        generalize Key.inR (Key.rg l1 h1 e1) a2.data.toList = i1 at *
        have H2 := Key.hid C2
        have H3 := Key.hid C3
        have H4 := Key.hid C4
        have H5 := Key.hid C5
        have H6 := Key.hid C6
        have H7 := Key.hid Key.awake9
        clear C2 C3 C4 C5 C6
        go_enter Try.func5, Try.ntmps5
        go_wp2_with fail
        refine (G0 _).mono ?_
        rintro e w1 ⟨rfl, hb1⟩
        have hA1 := hA0.later hb1
        have hB1 := hB0.later hb1
        replace hb1 := hb0.trans (hb1.mono hb0.size)
        clear hA0 hB0 hb0
        have hkk : w.heap.size ≠ w.heap.size + 1 := by omega
        generalize w.heap.size + 1 = kb at *
        obtain ⟨c0, c1, c2⟩ := hA1.cells
        obtain ⟨d0, d1, d2⟩ := hB1.cells
        go_wp2_with fail
        refine (G1 _).mono ?_
        rintro e w2 ⟨rfl, hb2⟩
        have hA2 := hA1.later hb2
        have hB2 := hB1.later hb2
        replace hb2 := hb1.trans (hb2.mono hb1.size)
        clear hA1 hB1 hb1 c0 c1 c2 d0 d1 d2
        obtain ⟨c0, c1, c2⟩ := hA2.cells
        obtain ⟨d0, d1, d2⟩ := hB2.cells
        go_wp2_with fail
        refine (C1 _).mono ?_
        rintro e w3 ⟨rfl, hb3⟩
        have hA3 := hA2.later hb3
        have hB3 := hB2.later hb3
        replace hb3 := hb2.trans (hb3.mono hb2.size)
        clear hA2 hB2 hb2 c0 c1 c2 d0 d1 d2
        have hA4 := hA3.alloc (.cells #[.string cl, .string ch, .bool ce] 29)
        have hB4 := hB3.alloc (.cells #[.string cl, .string ch, .bool ce] 29)
        have hC4 := Key.Box.new w3 (.string cl) (.string ch) (.bool ce)
        have hb4 := hb3.alloc hb3.size (.cells #[.string cl, .string ch, .bool ce] 29)
        clear hA3 hB3 hb3 C1 G0 G1
        go_wp2_with fail
        generalize w3.alloc (.cells #[.string cl, .string ch, .bool ce] 29) = w4 at *
        generalize w3.heap.size = kc at *
        refine wp_region_quiet (C := fun u => Below w4.heap.size w4 u) (by kernel_rfl) (by kernel_rfl) ((Below.refl _ w4).drew) ?_
        change wpQuiet _ _ _ _ (_ :: _) _
        refine wpQuiet_step (fun K hK => ?_)
        refine Key.quiet_val (.agg #[.string cl, .string ch, .bool ce]) (by kernel_rfl) (fun u hu => by obtain ⟨b0, b1, b2⟩ := (hC4.later hu).cells; go_simp) ?_
        go_simp
        refine hK _ ?_
        clear hK K
        refine wpQuiet_step (fun K hK => ?_)
        refine Key.quiet_val (.string a2) (by kernel_rfl) (fun u hu => by go_simp) ?_
        go_simp
        refine hK _ ?_
        clear hK K
        refine wpQuiet_step (fun K hK => ?_)
        refine Key.quiet_call (.bool (i0 && i1)) 20 #[.agg #[.string cl, .string ch, .bool ce], .string a2] (by kernel_rfl) (fun u hu => by go_simp) (fun u hu => (H2.out u).mono fun x u' h => ⟨h.1, hu.trans (h.2.mono hu.size)⟩) ?_
        go_simp
        refine hK _ ?_
        clear hK K
        refine wpQuiet_step (fun K hK => ?_)
        refine Key.quiet_val (.agg #[.string l0, .string h0, .bool e0]) (by kernel_rfl) (fun u hu => by obtain ⟨b0, b1, b2⟩ := (hA4.later hu).cells; go_simp) ?_
        go_simp
        refine hK _ ?_
        clear hK K
        refine wpQuiet_step (fun K hK => ?_)
        refine Key.quiet_val (.string a2) (by kernel_rfl) (fun u hu => by go_simp) ?_
        go_simp
        refine hK _ ?_
        clear hK K
        refine wpQuiet_step (fun K hK => ?_)
        refine Key.quiet_call (.bool i0) 20 #[.agg #[.string l0, .string h0, .bool e0], .string a2] (by kernel_rfl) (fun u hu => by go_simp) (fun u hu => (H3.out u).mono fun x u' h => ⟨h.1, hu.trans (h.2.mono hu.size)⟩) ?_
        go_simp
        refine hK _ ?_
        clear hK K
        refine wpQuiet_step (fun K hK => ?_)
        refine Key.quiet_val (.bool i0) (by kernel_rfl) (fun u hu => by go_simp) ?_
        go_simp
        refine hK _ ?_
        clear hK K
        cases i0
        · refine wpQuiet_step (fun K hK => ?_)
          refine Key.quiet_skip (by kernel_rfl) ?_
          go_simp
          refine hK _ ?_
          clear hK K
          refine wpQuiet_step (fun K hK => ?_)
          refine Key.quiet_skip (by kernel_rfl) ?_
          go_simp
          refine hK _ ?_
          clear hK K
          refine wpQuiet_step (fun K hK => ?_)
          refine Key.quiet_skip (by kernel_rfl) ?_
          go_simp
          refine hK _ ?_
          clear hK K
          refine wpQuiet_step (fun K hK => ?_)
          refine Key.quiet_val (.bool false) (by kernel_rfl) (fun u hu => by go_simp) ?_
          go_simp
          refine hK _ ?_
          clear hK K
          refine wpQuiet_step (fun K hK => ?_)
          refine Key.quiet_val (.bool true) (by kernel_rfl) (fun u hu => by go_simp) ?_
          go_simp
          refine hK _ ?_
          clear hK K
          refine wpQuiet_step (fun K hK => ?_)
          refine Key.quiet_val (.bool true) (by kernel_rfl) (fun u hu => by go_simp) ?_
          go_simp
          refine hK _ ?_
          clear hK K
          refine wpQuiet_step (fun K hK => ?_)
          refine Key.quiet_val (.agg #[.string cl, .string ch, .bool ce]) (by kernel_rfl) (fun u hu => by obtain ⟨b0, b1, b2⟩ := (hC4.later hu).cells; go_simp) ?_
          go_simp
          refine hK _ ?_
          clear hK K
          refine wpQuiet_step (fun K hK => ?_)
          refine Key.quiet_val (.agg #[.string l1, .string h1, .bool e1]) (by kernel_rfl) (fun u hu => by obtain ⟨b0, b1, b2⟩ := (hB4.later hu).cells; go_simp) ?_
          go_simp
          refine hK _ ?_
          clear hK K
          refine wpQuiet_step (fun K hK => ?_)
          refine Key.quiet_val (.agg #[.string l0, .string h0, .bool e0]) (by kernel_rfl) (fun u hu => by obtain ⟨b0, b1, b2⟩ := (hA4.later hu).cells; go_simp) ?_
          go_simp
          refine hK _ ?_
          clear hK K
          refine wpQuiet_step (fun K hK => ?_)
          refine Key.quiet_call (.agg #[.string cl, .string ch, .bool ce]) 26 #[.agg #[.string l1, .string h1, .bool e1], .agg #[.string l0, .string h0, .bool e0]] (by kernel_rfl) (fun u hu => by go_simp) (fun u hu => (H5.out u).mono fun x u' h => ⟨h.1, hu.trans (h.2.mono hu.size)⟩) ?_
          go_simp
          refine hK _ ?_
          clear hK K
          refine wpQuiet_step (fun K hK => ?_)
          refine Key.quiet_val (.bool true) (by kernel_rfl) (fun u hu => by go_simp) ?_
          go_simp
          refine hK _ ?_
          clear hK K
          refine wpQuiet_step (fun K hK => ?_)
          refine Key.quiet_val (.bool true) (by kernel_rfl) (fun u hu => by go_simp) ?_
          go_simp
          refine hK _ ?_
          clear hK K
          refine wpQuiet_step (fun K hK => ?_)
          refine Key.quiet_val (.bool true) (by kernel_rfl) (fun u hu => by go_simp) ?_
          go_simp
          refine hK _ ?_
          clear hK K
          refine wpQuiet_step (fun K hK => ?_)
          refine Key.quiet_val (.agg #[.string cl, .string ch, .bool ce]) (by kernel_rfl) (fun u hu => by obtain ⟨b0, b1, b2⟩ := (hC4.later hu).cells; go_simp) ?_
          go_simp
          refine hK _ ?_
          clear hK K
          refine wpQuiet_step (fun K hK => ?_)
          refine Key.quiet_val (.agg #[.string l0, .string h0, .bool e0]) (by kernel_rfl) (fun u hu => by obtain ⟨b0, b1, b2⟩ := (hA4.later hu).cells; go_simp) ?_
          go_simp
          refine hK _ ?_
          clear hK K
          refine wpQuiet_step (fun K hK => ?_)
          refine Key.quiet_call (.agg #[.string cl, .string ch, .bool ce]) 26 #[.agg #[.string cl, .string ch, .bool ce], .agg #[.string l0, .string h0, .bool e0]] (by kernel_rfl) (fun u hu => by go_simp) (fun u hu => (H6.out u).mono fun x u' h => ⟨h.1, hu.trans (h.2.mono hu.size)⟩) ?_
          go_simp
          refine hK _ ?_
          clear hK K
          refine wpQuiet_step (fun K hK => ?_)
          refine Key.quiet_val (.agg #[.string cl, .string ch, .bool ce]) (by kernel_rfl) (fun u hu => by obtain ⟨b0, b1, b2⟩ := (hC4.later hu).cells; go_simp) ?_
          go_simp
          refine hK _ ?_
          clear hK K
          refine wpQuiet_step (fun K hK => ?_)
          refine Key.quiet_val (.bool true) (by kernel_rfl) (fun u hu => by go_simp) ?_
          go_simp
          refine hK _ ?_
          clear hK K
          refine wpQuiet_step (fun K hK => ?_)
          refine Key.quiet_val (.bool true) (by kernel_rfl) (fun u hu => by go_simp) ?_
          go_simp
          refine hK _ ?_
          clear hK K
          refine wpQuiet_step (fun K hK => ?_)
          refine Key.quiet_val (.bool true) (by kernel_rfl) (fun u hu => by go_simp) ?_
          go_simp
          refine hK _ ?_
          clear hK K
          refine wpQuiet_step (fun K hK => ?_)
          refine Key.quiet_call (.bool true) 9 #[] (by kernel_rfl) (fun u hu => by go_simp) (fun u hu => (H7.out u).mono fun x u' h => ⟨h.1, hu.trans (h.2.mono hu.size)⟩) ?_
          go_simp
          refine hK _ ?_
          clear hK K
          refine wpQuiet_step (fun K hK => ?_)
          refine Key.quiet_val (.bool true) (by kernel_rfl) (fun u hu => by go_simp) ?_
          go_simp
          refine hK _ ?_
          clear hK K
          refine wpQuiet_step (fun K hK => ?_)
          refine Key.quiet_val (.bool true) (by kernel_rfl) (fun u hu => by go_simp) ?_
          go_simp
          refine hK _ ?_
          clear hK K
          refine wpQuiet_nil (fun u hu => ?_)
          go_wp2_with fail
          go_ret
          exact ⟨rfl, hb4.trans (hu.mono hb4.size)⟩
        · refine wpQuiet_step (fun K hK => ?_)
          refine Key.quiet_val (.agg #[.string l1, .string h1, .bool e1]) (by kernel_rfl) (fun u hu => by obtain ⟨b0, b1, b2⟩ := (hB4.later hu).cells; go_simp) ?_
          go_simp
          refine hK _ ?_
          clear hK K
          refine wpQuiet_step (fun K hK => ?_)
          refine Key.quiet_val (.string a2) (by kernel_rfl) (fun u hu => by go_simp) ?_
          go_simp
          refine hK _ ?_
          clear hK K
          refine wpQuiet_step (fun K hK => ?_)
          refine Key.quiet_call (.bool i1) 20 #[.agg #[.string l1, .string h1, .bool e1], .string a2] (by kernel_rfl) (fun u hu => by go_simp) (fun u hu => (H4.out u).mono fun x u' h => ⟨h.1, hu.trans (h.2.mono hu.size)⟩) ?_
          go_simp
          refine hK _ ?_
          clear hK K
          refine wpQuiet_step (fun K hK => ?_)
          refine Key.quiet_val (.bool i1) (by kernel_rfl) (fun u hu => by go_simp) ?_
          go_simp
          refine hK _ ?_
          clear hK K
          refine wpQuiet_step (fun K hK => ?_)
          refine Key.quiet_val (.bool true) (by kernel_rfl) (fun u hu => by go_simp) ?_
          go_simp
          refine hK _ ?_
          clear hK K
          refine wpQuiet_step (fun K hK => ?_)
          refine Key.quiet_val (.bool true) (by kernel_rfl) (fun u hu => by go_simp) ?_
          go_simp
          refine hK _ ?_
          clear hK K
          refine wpQuiet_step (fun K hK => ?_)
          refine Key.quiet_val (.agg #[.string cl, .string ch, .bool ce]) (by kernel_rfl) (fun u hu => by obtain ⟨b0, b1, b2⟩ := (hC4.later hu).cells; go_simp) ?_
          go_simp
          refine hK _ ?_
          clear hK K
          refine wpQuiet_step (fun K hK => ?_)
          refine Key.quiet_val (.agg #[.string l1, .string h1, .bool e1]) (by kernel_rfl) (fun u hu => by obtain ⟨b0, b1, b2⟩ := (hB4.later hu).cells; go_simp) ?_
          go_simp
          refine hK _ ?_
          clear hK K
          refine wpQuiet_step (fun K hK => ?_)
          refine Key.quiet_val (.agg #[.string l0, .string h0, .bool e0]) (by kernel_rfl) (fun u hu => by obtain ⟨b0, b1, b2⟩ := (hA4.later hu).cells; go_simp) ?_
          go_simp
          refine hK _ ?_
          clear hK K
          refine wpQuiet_step (fun K hK => ?_)
          refine Key.quiet_call (.agg #[.string cl, .string ch, .bool ce]) 26 #[.agg #[.string l1, .string h1, .bool e1], .agg #[.string l0, .string h0, .bool e0]] (by kernel_rfl) (fun u hu => by go_simp) (fun u hu => (H5.out u).mono fun x u' h => ⟨h.1, hu.trans (h.2.mono hu.size)⟩) ?_
          go_simp
          refine hK _ ?_
          clear hK K
          refine wpQuiet_step (fun K hK => ?_)
          refine Key.quiet_val (.bool true) (by kernel_rfl) (fun u hu => by go_simp) ?_
          go_simp
          refine hK _ ?_
          clear hK K
          refine wpQuiet_step (fun K hK => ?_)
          refine Key.quiet_val (.bool true) (by kernel_rfl) (fun u hu => by go_simp) ?_
          go_simp
          refine hK _ ?_
          clear hK K
          refine wpQuiet_step (fun K hK => ?_)
          refine Key.quiet_val (.bool true) (by kernel_rfl) (fun u hu => by go_simp) ?_
          go_simp
          refine hK _ ?_
          clear hK K
          refine wpQuiet_step (fun K hK => ?_)
          refine Key.quiet_val (.agg #[.string cl, .string ch, .bool ce]) (by kernel_rfl) (fun u hu => by obtain ⟨b0, b1, b2⟩ := (hC4.later hu).cells; go_simp) ?_
          go_simp
          refine hK _ ?_
          clear hK K
          refine wpQuiet_step (fun K hK => ?_)
          refine Key.quiet_val (.agg #[.string l0, .string h0, .bool e0]) (by kernel_rfl) (fun u hu => by obtain ⟨b0, b1, b2⟩ := (hA4.later hu).cells; go_simp) ?_
          go_simp
          refine hK _ ?_
          clear hK K
          refine wpQuiet_step (fun K hK => ?_)
          refine Key.quiet_call (.agg #[.string cl, .string ch, .bool ce]) 26 #[.agg #[.string cl, .string ch, .bool ce], .agg #[.string l0, .string h0, .bool e0]] (by kernel_rfl) (fun u hu => by go_simp) (fun u hu => (H6.out u).mono fun x u' h => ⟨h.1, hu.trans (h.2.mono hu.size)⟩) ?_
          go_simp
          refine hK _ ?_
          clear hK K
          refine wpQuiet_step (fun K hK => ?_)
          refine Key.quiet_val (.agg #[.string cl, .string ch, .bool ce]) (by kernel_rfl) (fun u hu => by obtain ⟨b0, b1, b2⟩ := (hC4.later hu).cells; go_simp) ?_
          go_simp
          refine hK _ ?_
          clear hK K
          refine wpQuiet_step (fun K hK => ?_)
          refine Key.quiet_val (.bool true) (by kernel_rfl) (fun u hu => by go_simp) ?_
          go_simp
          refine hK _ ?_
          clear hK K
          refine wpQuiet_step (fun K hK => ?_)
          refine Key.quiet_val (.bool true) (by kernel_rfl) (fun u hu => by go_simp) ?_
          go_simp
          refine hK _ ?_
          clear hK K
          refine wpQuiet_step (fun K hK => ?_)
          refine Key.quiet_val (.bool true) (by kernel_rfl) (fun u hu => by go_simp) ?_
          go_simp
          refine hK _ ?_
          clear hK K
          refine wpQuiet_step (fun K hK => ?_)
          refine Key.quiet_call (.bool true) 9 #[] (by kernel_rfl) (fun u hu => by go_simp) (fun u hu => (H7.out u).mono fun x u' h => ⟨h.1, hu.trans (h.2.mono hu.size)⟩) ?_
          go_simp
          refine hK _ ?_
          clear hK K
          refine wpQuiet_step (fun K hK => ?_)
          refine Key.quiet_val (.bool true) (by kernel_rfl) (fun u hu => by go_simp) ?_
          go_simp
          refine hK _ ?_
          clear hK K
          refine wpQuiet_step (fun K hK => ?_)
          refine Key.quiet_val (.bool true) (by kernel_rfl) (fun u hu => by go_simp) ?_
          go_simp
          refine hK _ ?_
          clear hK K
          refine wpQuiet_nil (fun u hu => ?_)
          go_wp2_with fail
          go_ret
          exact ⟨rfl, hb4.trans (hu.mono hb4.size)⟩
    · rw [hg1] at G1
      go_enter Try.func5, Try.ntmps5
      go_wp2_with fail
      refine (G0 _).mono ?_
      rintro e w1 ⟨rfl, hb1⟩
      have hB1 := hB0.later hb1
      replace hb1 := hb0.trans (hb1.mono hb0.size)
      clear hA0 hB0 hb0
      obtain ⟨d0, d1, d2⟩ := hB1.cells
      generalize w.heap.size + 1 = kb at *
      go_wp2_with fail
      refine (G1 _).mono ?_
      rintro e w2 ⟨rfl, hb2⟩
      replace hb2 := hb1.trans (hb2.mono hb1.size)
      go_wp2_with fail
      refine (Key.awake9 _).mono ?_
      rintro e w3 ⟨rfl, hb3⟩
      replace hb3 := hb2.trans (hb3.mono hb2.size)
      go_wp2_with fail
      go_ret
      exact ⟨rfl, hb3⟩
  · rw [hg] at G0
    go_enter Try.func5, Try.ntmps5
    go_wp2_with fail
    refine (G0 _).mono ?_
    rintro e w1 ⟨rfl, hb1⟩
    replace hb1 := hb0.trans (hb1.mono hb0.size)
    go_wp2_with fail
    refine (Key.awake9 _).mono ?_
    rintro e w3 ⟨rfl, hb3⟩
    replace hb3 := hb1.trans (hb3.mono hb1.size)
    go_wp2_with fail
    go_ret
    exact ⟨rfl, hb3⟩

set_option maxRecDepth 100000 in
theorem lifted (os : Os) (started : os.Started) (H : Type) (enc : TypeId × Value → H) :
    ReturnsInHanded {} Try.checked os 5 .any (Rows.keyCutsSpec.pre6 enc Try.prog Try.f5 Rows.keyCutsRow.domain false) (Rows.keyCutsSpec.post enc Try.prog Try.f5 false true false false) := by
  refine returnsInHanded_of_change (C := Try.checked) own started (by kernel_rfl) Try.func5
    (ChangeSpec.witness6 (enc := enc) (C := Try.checked) false ⟨#[], #[.agg #[.string ByteArray.empty, .string ByteArray.empty, .bool false], .agg #[.string ByteArray.empty, .string ByteArray.empty, .bool false], .string ByteArray.empty], []⟩ 8 (by kernel_rfl) (by kernel_rfl) (by kernel_rfl) (by kernel_rfl)) ?_
  intro W base args ds gs before hval0 hW hcnd _
  have hval : ∀ (j : Nat) t v, Try.f5.params[j]? = some t → args[j]? = some v → Value.okWide Try.prog W .any base t v := hval0
  have hW' := hW
  obtain ⟨p, q, hA0, hV, rfl, hfz, hnd⟩ := hW
  have hA : DataW.TrodAll enc Try.prog W 0 (fun _ => true) true Try.f5.params.toList args.toList ds p := hA0
  rw [Try.params5] at hA hval
  obtain ⟨v0, vs0, d0, ds0, p0, q0, hargs, rfl, rfl, g0, r0⟩ := trodAll_cons hA
  obtain ⟨v1, vs1, d1, ds1, p1, q1, rfl, rfl, rfl, g1, r1⟩ := trodAll_cons r0
  obtain ⟨v2, vs2, d2, ds2, p2, q2, rfl, rfl, rfl, g2, r2⟩ := trodAll_cons r1
  obtain ⟨rfl, rfl, rfl⟩ := trodAll_nil r2
  obtain rfl : args = #[v0, v1, v2] := by cases args; simp_all
  obtain ⟨rfl, rfl⟩ := trodVars_none hV
  obtain ⟨x0, y0, z0, dx0, dy0, dz0, m0, rfl, rfl, rfl, hx0, hy0, hz0⟩ := open_agg3 Try.underlying29 (by kernel_rfl) cells29 (hval 0 29 v0 rfl rfl) g0
  obtain ⟨l0, el0, rfl, wl0⟩ := DataW.trod_string Try.underlying9 hx0
  obtain ⟨h0, eh0, rfl, wh0⟩ := DataW.trod_string Try.underlying9 hy0
  obtain ⟨e0, ee0, rfl⟩ := DataW.trod_bool Try.underlying4 hz0
  simp at el0 eh0 ee0
  subst el0 eh0 ee0
  obtain ⟨x1, y1, z1, dx1, dy1, dz1, m1, rfl, rfl, rfl, hx1, hy1, hz1⟩ := open_agg3 Try.underlying29 (by kernel_rfl) cells29 (hval 1 29 v1 rfl rfl) g1
  obtain ⟨l1, el1, rfl, wl1⟩ := DataW.trod_string Try.underlying9 hx1
  obtain ⟨h1, eh1, rfl, wh1⟩ := DataW.trod_string Try.underlying9 hy1
  obtain ⟨e1, ee1, rfl⟩ := DataW.trod_bool Try.underlying4 hz1
  simp at el1 eh1 ee1
  subst el1 eh1 ee1
  obtain ⟨a2, rfl, rfl, rfl, w2⟩ := open_string Try.underlying9 (hval 2 9 v2 rfl rfl) g2
  clear hA0 hval0
  have rd0 : ∀ (W' : World) (sp : Nat → Bool), DataW.Trod enc Try.prog W' 0 sp true 29 (.agg #[.string l0, .string h0, .bool e0]) (.agg [.lit (.string l0.data.toList), .lit (.string h0.data.toList), .lit (.bool e0)]) [] := fun W' sp =>
    shut_agg3 (y0 := (.lit (.string l0.data.toList), [])) (y1 := (.lit (.string h0.data.toList), [])) (y2 := (.lit (.bool e0), [])) Try.underlying29 (by kernel_rfl) cells29 (Deep.shut_string_cell Try.underlying9 wl0) (Deep.shut_string_cell Try.underlying9 wh0) ⟨1, by simp [DataW.trod, Try.underlying4]⟩
  have rd1 : ∀ (W' : World) (sp : Nat → Bool), DataW.Trod enc Try.prog W' 0 sp true 29 (.agg #[.string l1, .string h1, .bool e1]) (.agg [.lit (.string l1.data.toList), .lit (.string h1.data.toList), .lit (.bool e1)]) [] := fun W' sp =>
    shut_agg3 (y0 := (.lit (.string l1.data.toList), [])) (y1 := (.lit (.string h1.data.toList), [])) (y2 := (.lit (.bool e1), [])) Try.underlying29 (by kernel_rfl) cells29 (Deep.shut_string_cell Try.underlying9 wl1) (Deep.shut_string_cell Try.underlying9 wh1) ⟨1, by simp [DataW.trod, Try.underlying4]⟩
  refine (walk l0 h0 e0 l1 h1 e1 a2 W wl0 wh0 wl1 wh1 w2).mono fun e W' ⟨he, bel⟩ => ?_
  subst he
  exact ⟨_, rfl, _, _, _, [], _, [], hW', trodAll_mk1 (shut_bool Try.underlying4 _), (trodAll_cons_mk (rd0 _ _) (trodAll_cons_mk (rd1 _ _) (trodAll_cons_mk (shut_string Try.underlying9 w2) trodAll_mk0))), rfl, bel.frame _, fun h => by cases h⟩

theorem over : Rows.keyCutsRow.holds Try.pinned (OpenSpec.ofChange Rows.keyCutsSpec) :=
  OpenClaim.holds_of_wide 5 Try.f5 rfl rfl rfl rfl rfl rfl rfl ⟨rfl, rfl, rfl, rfl, rfl⟩ rfl rfl rfl rfl rfl (by kernel_rfl) Try.func5 (by kernel_rfl)
    (of_decide_eq_true (by kernel_rfl)) (by unfold Func.isWrapper; first | (rw [if_pos (by decide +kernel)]; kernel_rfl) | (rw [if_neg (by decide +kernel)]; exact ⟨rfl, rfl⟩))
    (fun os started H enc _ => lifted os started H enc)

/-- the statement -/
theorem proved : Rows.KeyCutsSaid := over
#print axioms proved
end Go.Proofs.Ytfjbgcjckcfmoaa.keyCuts
