/-
  The walk of MeanGets.
-/
import Derived.Test.YtegmpfmhlpdmhaaWaysZ
import Derived.Test.YtegmpfmhlpdmhaaAwake
import Derived.Test.YtegmpfmhlpdmhaaRGet
import Derived.Test.YtegmpfmhlpdmhaaRWays
import Derived.Test.YtegmpfmhlpdmhaaFineOf
namespace Go.Proofs.Ytegmpfmhlpdmhaa.Key
open Go.RowKit
set_option linter.unusedVariables false
set_option linter.unusedSimpArgs false

theorem dep_le (l : List It) (b : Int) : depM l b ≤ l.length := by
  unfold depM
  cases hs : seenI l b with
  | none => exact Nat.zero_le _
  | some x =>
    obtain ⟨hr, hf⟩ := seen_some hs
    have := right_len hr (find_in hf)
    dsimp only
    omega
set_option maxRecDepth 100000 in
set_option maxHeartbeats 1600000 in
theorem meanGets3 (a : Option Addr) (c : Nat) (l : List It) (root : Int) (k : ByteArray) (w : World) (wl : Items w a l) (wn : l.length ≤ c) (wc : c ≤ maxLen) (wz : a = none → l.length = 0 ∧ c = 0) (wm : ∀ m ∈ l, It.In m) (wi : (Lit.int .u32 root).wf = true) (ws : k.size ≤ maxLen) :
    Calls Try.prog 3 #[.slice a l.length c, .int .u32 root, .string k] w fun e w' => e = .returned (.bool true) ∧ Below w.heap.size w w' := by
  have HG := hid (great9 a c l w (by omega) wl wm)
  have HA := hid (fun u => awake7 u)
  cases hg : greatI l
  · obtain ⟨hf, h30⟩ := fine_of hg wm
    rw [hg] at HG
    by_cases hk : 100 < k.size
    · have hk' : decide ((100 : Int) < (k.size : Int)) = true := by simp; omega
      clear wl wm hf
      generalize l.length = n at *
      go_enter Try.func3, Try.ntmps3
      go_wp2_with fail
      refine HG.out.mono ?_
      rintro x w1 ⟨rfl, hb1⟩
      go_wp2_with fail
      refine (HA.out _).mono ?_
      rintro x w2 ⟨rfl, hb2⟩
      have hb3 := hb1.trans (hb2.mono hb1.size)
      go_wp2_with fail
      go_ret
      exact ⟨rfl, hb3⟩
    · have hk' : decide ((100 : Int) < (k.size : Int)) = false := by simp; omega
      have hd := dep_le l root
      have H1 := hid (fun u (hu : Below w.heap.size w u) => get8 a c l root k u hf wi (by omega) (wl.later hu))
      have H2 := hid (fun u (hu : Below w.heap.size w u) => rget9 a c l hf (depM l root) root k u (by omega) (Nat.le_refl _) (wl.later hu))
      have H3 := hid (fun u (hu : Below w.heap.size w u) => ways10a a c l root u hf wi wz (wl.later hu))
      have H4 := hid (fun u (hu : Below w.heap.size w u) => rways11 a c l root u hf (by omega) (wl.later hu))
      clear wl wm hf
      generalize valS l root k.data.toList = VS at *
      generalize valB l root k.data.toList = VB at *
      generalize waysR l root = R at *
      generalize l.length = n at *
      go_enter Try.func3, Try.ntmps3
      go_wp2_with fail
      refine HG.out.mono ?_
      rintro x w1 ⟨rfl, hb1⟩
      go_wp2_with fail
      refine (H1.out _ hb1).mono ?_
      rintro x w2 ⟨rfl, hb2⟩
      have hb3 := hb1.trans (hb2.mono hb1.size)
      go_wp2_with fail
      refine (H2.out _ hb3).mono ?_
      rintro x w3 ⟨rfl, hb4⟩
      have hb5 := hb3.trans (hb4.mono hb3.size)
      go_wp2_with fail
      refine (H3.out _ hb5).mono ?_
      rintro x w4 ⟨rfl, hb6⟩
      have hb7 := hb5.trans (hb6.mono hb5.size)
      go_wp2_with fail
      refine (H4.out _ hb7).mono ?_
      rintro x w5 ⟨rfl, hb8⟩
      have hb9 := hb7.trans (hb8.mono hb7.size)
      go_wp2_with fail
      refine (HA.out _).mono ?_
      rintro x w6 ⟨rfl, hb10⟩
      have hb11 := hb9.trans (hb10.mono hb9.size)
      go_wp2_with fail
      go_ret
      exact ⟨rfl, hb11⟩
  · rw [hg] at HG
    clear wl wm
    generalize l.length = n at *
    go_enter Try.func3, Try.ntmps3
    go_wp2_with fail
    refine HG.out.mono ?_
    rintro x w1 ⟨rfl, hb1⟩
    go_wp2_with fail
    refine (HA.out _).mono ?_
    rintro x w2 ⟨rfl, hb2⟩
    have hb3 := hb1.trans (hb2.mono hb1.size)
    go_wp2_with fail
    go_ret
    exact ⟨rfl, hb3⟩
end Go.Proofs.Ytegmpfmhlpdmhaa.Key
