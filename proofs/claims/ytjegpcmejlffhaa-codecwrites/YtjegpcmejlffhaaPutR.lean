/-
  Contract of the document's Put: a node that may not be.
-/
import Derived.Test.YtjegpcmejlffhaaLawA
import Derived.Test.YtjegpcmejlffhaaRefMay2
namespace Go.Proofs.Ytjegpcmejlffhaa.Cod
set_option linter.unusedSimpArgs false
set_option linter.unusedVariables false
open Go.RowKit
open Pack (be txt Own Bytes)
open Key (M E Pr Nd Pl nv Lies mayI ev mv)

set_option maxRecDepth 100000 in
set_option maxHeartbeats 4000000 in
theorem rput9_no (n : Nd) (p : Pl) (w : World) (h : Lies w n p) (hf : Key.Few n) (hk : Kinds n) (hm : mayI n ≠ 0) :
    Calls Try.prog 9 #[nv n p] w fun x w' => ∃ v, x = .returned (.tuple #[v, .int .i64 (mayI n)]) ∧ Written w' w.heap.size v n ∧ Below w.heap.size w w' := by
  have HM := hid (fun u (hu : Lies u n p) => Key.may13 n p u hf hu (fun m hm => (hk.md m hm).1))
  have HW : Hid (∀ (u : World) (v : Value) (B : Nat), Own u B v [] → Written u B v n) := fun u v B h1 => ⟨fun _ => h1, fun h => absurd h hm⟩
  generalize hM : mayI n = m at *
  replace hM := hid hM
  obtain ⟨lf, ps, pv, ks, bf⟩ := n
  obtain ⟨a1, c1, a2, c2, a3, c3, a4, c4⟩ := p
  have HB0 := one_box w (.cells #[.bool lf, .slice a1 ps.length c1, .slice a2 pv.length c2, .slice a3 ks.length c3, .slice a4 bf.length c4] 27)
  replace h := h.later HB0
  replace HM := hid (HM.out _ h)
  obtain ⟨h1, h2, h3, h4⟩ := h
  dsimp only [nv] at *
  generalize hps : ps.length = m1 at *
  generalize hpv : pv.length = m2 at *
  generalize hks : ks.length = m3 at *
  generalize hbf : bf.length = m4 at *
  replace hps := hid hps
  replace hpv := hid hpv
  replace hks := hid hks
  replace hbf := hid hbf
  have R0 := Row.new w #[.bool lf, .slice a1 m1 c1, .slice a2 m2 c2, .slice a3 m3 c3, .slice a4 m4 c4] 27
  have hsz : (w.alloc (.cells #[.bool lf, .slice a1 m1 c1, .slice a2 m2 c2, .slice a3 m3 c3, .slice a4 m4 c4] 27)).heap.size = w.heap.size + 1 := by simp
  go_enter Try.func9, Try.ntmps9
  go_upto_region 1 with fail
  generalize hW : w.alloc (.cells #[.bool lf, .slice a1 m1 c1, .slice a2 m2 c2, .slice a3 m3 c3, .slice a4 m4 c4] 27) = w0 at *
  clear hW
  generalize hk0 : w.heap.size = k0 at *
  have q0 : w0.cell? ⟨k0, 0, none⟩ = some (.bool lf) := R0.cell 0
  have q1 : w0.cell? ⟨k0, 1, none⟩ = some (.slice a1 m1 c1) := R0.cell 1
  have q2 : w0.cell? ⟨k0, 2, none⟩ = some (.slice a2 m2 c2) := R0.cell 2
  have q3 : w0.cell? ⟨k0, 3, none⟩ = some (.slice a3 m3 c3) := R0.cell 3
  have q4 : w0.cell? ⟨k0, 4, none⟩ = some (.slice a4 m4 c4) := R0.cell 4
  go_wp2_with fail
  refine HM.out.mono ?_
  rintro x wa ⟨rfl, HB⟩
  replace R0 := R0.later HB
  clear q0 q1 q2 q3 q4 HM
  have hmd : (m == 0) = false := by simpa using hm
  have hmd' : (m != 0) = true := by simpa using hm
  have ho := hid (Pack.Own.made wa)
  have hs1 := HB.size
  have hs0 := HB0.size
  have HB1 := hid ((HB0.trans (HB.mono (by omega))).alloc (by omega) (.cells #[] 5))
  clear hm
  go_wp2
  exact bodyPost_ret (v := .tuple #[.slice (some ⟨wa.heap.size, 0, none⟩) 0 0, .int .i64 m]) (by simp [results, Try.results9, go_sem]) rfl ⟨_, rfl, HW.out _ _ _ (ho.out.mono (by omega)), by first | exact HB1.out | (rw [hk0]; exact HB1.out)⟩
end Go.Proofs.Ytjegpcmejlffhaa.Cod
