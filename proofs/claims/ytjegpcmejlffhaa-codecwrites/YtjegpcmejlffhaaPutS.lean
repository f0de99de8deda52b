/-
  Contract of the document's Put: a leaf.
-/
import Derived.Test.YtjegpcmejlffhaaLawA
import Derived.Test.YtjegpcmejlffhaaRefMay2
import Derived.Test.YtjegpcmejlffhaaPutR
namespace Go.Proofs.Ytjegpcmejlffhaa.Cod
set_option linter.unusedSimpArgs false
set_option linter.unusedVariables false
open Go.RowKit
open Pack (be txt Own Bytes)
open Key (M E Pr Nd Pl nv Lies mayI ev mv)

set_option maxRecDepth 100000 in
set_option maxHeartbeats 4000000 in
theorem rput9_leaf (n : Nd) (p : Pl) (w : World) (h : Lies w n p) (hf : Key.Few n) (hk : Kinds n) (hm : mayI n = 0) (hlf : n.leaf = true) :
    Calls Try.prog 9 #[nv n p] w fun x w' => ∃ v, x = .returned (.tuple #[v, .int .i64 (mayI n)]) ∧ Written w' w.heap.size v n ∧ Below w.heap.size w w' := by
  have HM := hid (fun u (hu : Lies u n p) => Key.may13 n p u hf hu (fun m hm => (hk.md m hm).1))
  have hfit := fit_leaf hm hlf
  have HW : Hid (∀ (u : World) (v : Value) (B : Nat), Own u B v (wLeaf n) → Written u B v n) := fun u v B h1 => ⟨fun h => absurd hm h, fun _ => by rw [show wN n = wLeaf n from if_pos hlf]; exact h1⟩
  have hl1 := (may_parts hm).1
  rw [hm] at HM ⊢
  obtain ⟨lf, ps, pv, ks, bf⟩ := n
  obtain ⟨a1, c1, a2, c2, a3, c3, a4, c4⟩ := p
  have HB0 := one_box w (.cells #[.bool true, .slice a1 ps.length c1, .slice a2 pv.length c2, .slice a3 ks.length c3, .slice a4 bf.length c4] 27)
  replace h := h.later HB0
  replace HM := hid (HM.out _ h)
  obtain ⟨h1, h2, h3, h4⟩ := h
  have HZ : Hid (wLeaf ⟨lf, ps, pv, ks, bf⟩ = be 1 1 ++ (be 1 ps.length ++ ps.flatMap wP)) := rfl
  generalize wLeaf ⟨lf, ps, pv, ks, bf⟩ = Z at *
  clear hm
  dsimp only [nv] at *
  subst hlf
  generalize hps : ps.length = m1 at *
  generalize hpv : pv.length = m2 at *
  generalize hks : ks.length = m3 at *
  generalize hbf : bf.length = m4 at *
  replace hps := hid hps
  replace hpv := hid hpv
  replace hks := hid hks
  replace hbf := hid hbf
  have R0 := Row.new w #[.bool true, .slice a1 m1 c1, .slice a2 m2 c2, .slice a3 m3 c3, .slice a4 m4 c4] 27
  have hsz : (w.alloc (.cells #[.bool true, .slice a1 m1 c1, .slice a2 m2 c2, .slice a3 m3 c3, .slice a4 m4 c4] 27)).heap.size = w.heap.size + 1 := by simp
  go_enter Try.func9, Try.ntmps9
  go_upto_region 1 with fail
  generalize hW : w.alloc (.cells #[.bool true, .slice a1 m1 c1, .slice a2 m2 c2, .slice a3 m3 c3, .slice a4 m4 c4] 27) = w0 at *
  clear hW
  generalize hk0 : w.heap.size = k0 at *
  have q0 : w0.cell? ⟨k0, 0, none⟩ = some (.bool true) := R0.cell 0
  have q1 : w0.cell? ⟨k0, 1, none⟩ = some (.slice a1 m1 c1) := R0.cell 1
  have q2 : w0.cell? ⟨k0, 2, none⟩ = some (.slice a2 m2 c2) := R0.cell 2
  have q3 : w0.cell? ⟨k0, 3, none⟩ = some (.slice a3 m3 c3) := R0.cell 3
  have q4 : w0.cell? ⟨k0, 4, none⟩ = some (.slice a4 m4 c4) := R0.cell 4
  go_wp2_with fail
  refine HM.out.mono ?_
  rintro x wa ⟨rfl, HB⟩
  replace R0 := R0.later HB
  clear q0 q1 q2 q3 q4 HM
  have hs0 := HB0.size
  have hB : w0.heap.size = k0 + 1 := hsz
  have hoM := Pack.Own.made wa
  have HBM := HB.alloc HB.size (.cells #[] 5)
  have RM := R0.alloc (.cells #[] 5)
  go_upto_region 5 with fail
  generalize hW : wa.alloc (.cells #[] 5) = wb at *
  clear hW
  have q0 : wb.cell? ⟨k0, 0, none⟩ = some (.bool true) := RM.cell 0
  have q1 : wb.cell? ⟨k0, 1, none⟩ = some (.slice a1 m1 c1) := RM.cell 1
  replace hoM := hoM.mono HB.size
  have hoN := World.ownsRow.alloc hoM (.cells #[.int .u8 1, .int .u8 (m1 : Int)] 5)
  have hbN := Pack.digits_lie wb #[.int .u8 1, .int .u8 (m1 : Int)] (0, 0) [1, (m1 : Int)] rfl
  have HBN := HBM.alloc HBM.size (.cells #[.int .u8 1, .int .u8 (m1 : Int)] 5)
  have RN := RM.alloc (.cells #[.int .u8 1, .int .u8 (m1 : Int)] 5)
  have hBN := HBN.size
  clear R0 HB
  generalize hBB : w0.heap.size = B at *
  go_wp2_with (at_builtin; refine Pack.app rfl (.tmp 20) (.tmp 25) rfl B _ [] rfl hoN (some ⟨wb.heap.size, 0, none⟩) 2 2 [1, (m1 : Int)] rfl (fun h => by cases h) rfl hbN (by simp) hBN ?_; intro v1 wc hoY hg1; have R0 := RN.grown hg1 (fun e => by have := (World.ownsRow.lt hoN k0 e.symm).1; omega); have HB := HBN.grown hg1 hBN (fun j e => (World.ownsRow.lt hoN j e).1); have q1 : wc.cell? ⟨k0, 1, none⟩ = some (.slice a1 m1 c1) := R0.cell 1; obtain ⟨ay, cy, rfl, _, _⟩ := own_form (n := 2) hoY rfl)
  clear q0 q1 hoN hbN HBN RN RM hoM HBM
  have HE := hid (show [] ++ [1, (m1 : Int)] = be 1 1 ++ be 1 m1 by rw [← Pack.be_1 m1 (by omega)]; rfl)
  have hlY : ([] ++ [1, (m1 : Int)] : List Int).length ≤ 2 := by simp
  generalize ([] ++ [1, (m1 : Int)] : List Int) = Y at *
  go_wp2_with fail
  go_loopw [5, 6, 30] (fun v _ i wr => ∃ j : Nat, j ≤ m1 ∧ i = .int .i64 j ∧ Own wr B v (Y ++ (ps.take j).flatMap wP) ∧ Row wr k0 #[.bool true, .slice a1 m1 c1, .slice a2 m2 c2, .slice a3 m3 c3, .slice a4 m4 c4] 27 ∧ Below B w0 wr) (fun _ _ i _ => m1 - (intOf i).toNat)
  case atStart => exact ⟨0, Nat.zero_le _, rfl, by simpa using hoY, R0, HB⟩
  case round =>
    clear R0 HB
    obtain ⟨j, hj, rfl, ho0, R0, HB⟩ := hrel
    have hlen := flat_bound ps j Y wP_le hlY (by rw [hps.out]; exact hl1)
    obtain ⟨nv0, hn0⟩ : ∃ mm, (Y ++ (ps.take j).flatMap wP).length = mm := ⟨_, rfl⟩
    have hnb0 : nv0 ≤ 9000 := by omega
    obtain ⟨av0, cv0, rfl, hby0, hnil0⟩ := own_form ho0 hn0
    by_cases hlt : j < m1
    · have hlt' : j < ps.length := by rw [hps.out]; exact hlt
      obtain ⟨b, off, rfl, two⟩ := (h1.later (by rw [hBB]; exact HB)).at hlt'
      have hs := hfit ps[j] (List.getElem_mem hlt')
      have HF := hid (flat_succ wP hlt' Y)
      obtain ⟨x, HX⟩ : ∃ s, Hid (ps[j] = s) := ⟨_, hid rfl⟩
      rw [HX.out] at two hs HF
      have hT1 := txt_le x.key
      have hT2 := txt_le x.val
      have q1 : wr.cell? ⟨k0, 1, none⟩ = some (.slice (some ⟨b, off, none⟩) m1 c1) := R0.cell 1
      have e0 := two.c0
      go_wp2_with fail
      refine (Pack.ref_putText x.key hs.1 av0 nv0 cv0 _ wr hn0 hby0 hnil0 (by omega)).mono ?_
      rintro _ u1 ⟨v, rfl, ho1, hb⟩
      obtain ⟨nv1, hn1⟩ : ∃ mm, ((Y ++ (ps.take j).flatMap wP) ++ txt x.key).length = mm := ⟨_, rfl⟩
      have hnb1 : nv1 ≤ 9300 := by rw [← hn1, List.length_append, hn0]; first | (rw [Pack.be_length]; omega) | omega
      obtain ⟨av1, cv1, rfl, hby1, hnil1⟩ := own_form ho1 hn1
      replace R0 := R0.later hb
      replace ho1 := ho1.mono (show B ≤ wr.heap.size by have := HB.size; omega)
      replace HB := HB.trans (hb.mono (by have := HB.size; omega))
      replace two := two.later hb
      clear hb hby0 hnil0 ho0
      clear q1 e0
      have q1 : u1.cell? ⟨k0, 1, none⟩ = some (.slice (some ⟨b, off, none⟩) m1 c1) := R0.cell 1
      have e1 := two.c1
      go_wp2_with fail
      refine (Pack.ref_putText x.val hs.2 av1 nv1 cv1 _ u1 hn1 hby1 hnil1 (by omega)).mono ?_
      rintro _ u2 ⟨v, rfl, ho2, hb⟩
      obtain ⟨nv2, hn2⟩ : ∃ mm, (((Y ++ (ps.take j).flatMap wP) ++ txt x.key) ++ txt x.val).length = mm := ⟨_, rfl⟩
      have hnb2 : nv2 ≤ 9600 := by rw [← hn2, List.length_append, hn1]; first | (rw [Pack.be_length]; omega) | omega
      obtain ⟨av2, cv2, rfl, hby2, hnil2⟩ := own_form ho2 hn2
      replace R0 := R0.later hb
      replace ho2 := ho2.mono (show B ≤ u1.heap.size by have := HB.size; omega)
      replace HB := HB.trans (hb.mono (by have := HB.size; omega))
      clear hb hby1 hnil1 ho1
      have HOW : Own u2 B (.slice av2 nv2 cv2) (Y ++ (ps.take (j + 1)).flatMap wP) := by
        have := ho2
        rw [List.append_assoc _ (txt x.key)] at this
        rwa [show txt x.key ++ txt x.val = wP x from rfl, HF.out] at this
      clear q1 e1
      go_wp2
      go_roundw
      case rel => exact ⟨j + 1, by omega, by go_num, HOW, R0, HB⟩
      case measure => simp [intOf]; omega
    · obtain rfl : m1 = j := by omega
      clear hlt hlen hj
      rw [flat_all wP hps.out, HE.out, List.append_assoc, ← HZ.out] at ho0
      have HWW := hid (HW.out wr _ _ (ho0.mono (show k0 ≤ B by omega)))
      go_wp2
      exact bodyPost_ret (v := .tuple #[.slice av0 nv0 cv0, .int .i64 0]) (by simp [results, Try.results9, go_sem]) rfl ⟨_, rfl, by first | exact HWW.out | (rw [hk0]; exact HWW.out), by rw [hk0]; exact HB0.trans (HB.mono (by omega))⟩
end Go.Proofs.Ytjegpcmejlffhaa.Cod
