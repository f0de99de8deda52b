/-
  Contract of the program's putLeaf.
-/
import Derived.Test.YtjegpcmejlffhaaPutB
namespace Go.Proofs.Ytjegpcmejlffhaa.Cod
set_option linter.unusedSimpArgs false
set_option linter.unusedVariables false
open Go.RowKit
open Pack (be txt Own Bytes)
open Key (M E Pr Nd Pl nv Lies mayI ev mv)

theorem flat_succ {α : Type} (w : α → List Int) {l : List α} {j : Nat} (h : j < l.length) (Z : List Int) : (Z ++ (l.take j).flatMap w) ++ w l[j] = Z ++ (l.take (j + 1)).flatMap w := by
  rw [List.take_succ_eq_append_getElem h, List.flatMap_append, List.flatMap_singleton, List.append_assoc]
theorem flat_all {α : Type} (w : α → List Int) {l : List α} {n : Nat} (h : l.length = n) (Z : List Int) : Z ++ (l.take n).flatMap w = Z ++ l.flatMap w := by
  subst h
  rw [List.take_length]
theorem flat_bound {α : Type} {w : α → List Int} (l : List α) (j : Nat) (Z : List Int) {k N m : Nat} (hw : ∀ x, (w x).length ≤ k) (hZ : Z.length ≤ N) (hl : l.length ≤ m) : (Z ++ (l.take j).flatMap w).length ≤ N + m * k := by
  rw [List.length_append]
  have h1 := flat_le (w := w) (l.take j) fun x _ => hw x
  have h2 : (l.take j).length * k ≤ m * k := Nat.mul_le_mul_right _ (by rw [List.length_take]; omega)
  omega
theorem wP_le (p : Pr) : (wP p).length ≤ 512 := by
  have h1 := txt_le p.key
  have h2 := txt_le p.val
  simp only [wP, List.length_append]
  omega
theorem wE_le (e : E) : (wE e).length ≤ 600 := by
  have h1 := txt_le e.strip
  have h2 := txt_le e.add
  simp only [wE, List.length_append, Pack.be_length]
  omega
theorem wM_le (m : M) : (wM m).length ≤ 600 := by
  have h1 := txt_le m.key
  have h2 := txt_le m.val
  have h3 := txt_le m.add
  have h4 : (wT m).length ≤ 300 := by
    unfold wT
    split
    · omega
    · split
      · simp only [List.length_append, Pack.be_length]; omega
      · simp
  simp only [wM, List.length_append, Pack.be_length]
  omega

set_option maxRecDepth 100000 in
set_option maxHeartbeats 2000000 in
theorem putLeaf17 (n : Nd) (p : Pl) (w : World) (h : Lies w n p) (hl : n.ps.length ≤ 16) (hsz : ∀ x ∈ n.ps, x.key.size ≤ maxLen ∧ x.val.size ≤ maxLen) :
    Calls Try.prog 17 #[nv n p] w fun x w' => ∃ v, x = .returned v ∧ Own w' w.heap.size v (wLeaf n) ∧ Below w.heap.size w w' := by
  obtain ⟨lf, ps, pv, ks, bf⟩ := n
  obtain ⟨a1, c1, a2, c2, a3, c3, a4, c4⟩ := p
  have h1 := h.h1
  have HZ : Hid (wLeaf ⟨lf, ps, pv, ks, bf⟩ = be 1 1 ++ (be 1 ps.length ++ ps.flatMap wP)) := rfl
  generalize wLeaf ⟨lf, ps, pv, ks, bf⟩ = Z at *
  dsimp only [nv] at *
  clear h
  generalize hn : ps.length = n at *
  replace hn := hid hn
  generalize pv.length = m2 at *
  generalize ks.length = m3 at *
  generalize bf.length = m4 at *
  have R0 := Row.new w #[.bool lf, .slice a1 n c1, .slice a2 m2 c2, .slice a3 m3 c3, .slice a4 m4 c4] 27
  have HB := one_box w (.cells #[.bool lf, .slice a1 n c1, .slice a2 m2 c2, .slice a3 m3 c3, .slice a4 m4 c4] 27)
  replace h1 := h1.later HB
  go_enter Try.func17, Try.ntmps17
  go_upto_region 1 with fail
  generalize hW : w.alloc (.cells #[.bool lf, .slice a1 n c1, .slice a2 m2 c2, .slice a3 m3 c3, .slice a4 m4 c4] 27) = w0 at *
  clear hW
  generalize hk0 : w.heap.size = k0 at *
  have hm0 := Nat.zero_le 0
  have hby0 : Bytes w0 none [] := .inl rfl
  have hnil0 : (none : Option Addr) = none → 0 = 0 ∧ 0 = 0 := fun _ => ⟨rfl, rfl⟩
  have hn0 : ([] : List Int).length = 0 := rfl
  go_wp2_with fail
  refine (Pack.Put_1 1 (by decide) none 0 0 [] w0 rfl (.inl rfl) (fun _ => ⟨rfl, rfl⟩) (by decide)).mono ?_
  rintro x w1 ⟨v, rfl, ho1, hb⟩
  obtain ⟨n1, hn1⟩ : ∃ mm, ([] ++ be 1 1).length = mm := ⟨_, rfl⟩
  have hm1 : n1 ≤ 1 := by rw [← hn1, List.length_append]; simp only [Pack.be_length, hn0]; omega
  obtain ⟨x1, y1, rfl, hby1, hnil1⟩ := own_form ho1 hn1
  replace R0 := R0.later hb
  replace h1 := h1.later hb
  have hle1 := HB.size
  replace HB := HB.trans (hb.mono (by omega))
  clear hb hby0 hnil0
  have q1 : w1.cell? ⟨k0, 1, none⟩ = some (.slice a1 n c1) := R0.cell 1
  go_wp2_with fail
  refine (Pack.Put_1 n (by omega) x1 n1 y1 ([] ++ be 1 1) w1 hn1 hby1 hnil1 (by omega)).mono ?_
  rintro x w2 ⟨v, rfl, ho2, hb⟩
  obtain ⟨n2, hn2⟩ : ∃ mm, (([] ++ be 1 1) ++ be 1 n).length = mm := ⟨_, rfl⟩
  have hm2 : n2 ≤ 2 := by rw [← hn2, List.length_append]; simp only [Pack.be_length, hn1]; omega
  replace R0 := R0.later hb
  replace h1 := h1.later hb
  have hle2 := HB.size
  replace HB := HB.trans (hb.mono (by omega))
  clear hb hby1 hnil1 ho1 q1
  replace ho2 := ho2.mono (show k0 ≤ w1.heap.size by omega)
  have hlen2 : (([] ++ be 1 1) ++ be 1 n).length ≤ 2 := by rw [hn2]; exact hm2
  have HE := hid (show ([] ++ be 1 1) ++ be 1 n = be 1 1 ++ be 1 n by rfl)
  generalize ([] ++ be 1 1) ++ be 1 n = Y at *
  clear hn2
  obtain ⟨x2, y2, rfl, _, _⟩ := own_form ho2 rfl
  have q1 : w2.cell? ⟨k0, 1, none⟩ = some (.slice a1 n c1) := R0.cell 1
  go_wp2_with fail
  clear q1
  go_loopw [3, 16] (fun v i wr => ∃ j : Nat, j ≤ n ∧ i = .int .i64 j ∧ Own wr k0 v (Y ++ (ps.take j).flatMap wP) ∧ Below w2.heap.size w2 wr) (fun _ i _ => n - (intOf i).toNat)
  case atStart => exact ⟨0, Nat.zero_le _, rfl, by simpa using ho2, Below.refl _ _⟩
  case round =>
    obtain ⟨j, hj, rfl, ho, hb⟩ := hrel
    have hlen := flat_bound ps j Y wP_le hlen2 (by rw [hn.out]; exact hl)
    obtain ⟨nj, hnj⟩ : ∃ m, (Y ++ (ps.take j).flatMap wP).length = m := ⟨_, rfl⟩
    have hnjb : nj ≤ 9000 := by omega
    obtain ⟨av, cv, rfl, hbv, hnilv⟩ := own_form ho hnj
    by_cases hlt : j < n
    · have hlt' : j < ps.length := by rw [hn.out]; exact hlt
      obtain ⟨b, off, rfl, two⟩ := (h1.later hb).at hlt'
      have hs := hsz ps[j] (List.getElem_mem hlt')
      have HF := hid (flat_succ wP hlt' Y)
      obtain ⟨x, HX⟩ : ∃ s, Hid (ps[j] = s) := ⟨_, hid rfl⟩
      rw [HX.out] at two hs HF
      obtain ⟨xk, xv⟩ := x
      obtain ⟨e0, e1⟩ := two
      dsimp only at e0 e1 hs
      have hT1 := txt_le xk
      have hT2 := txt_le xv
      have R1 := Row.new wr #[.string xk, .string xv] 53
      have hbw := one_box wr (.cells #[.string xk, .string xv] 53)
      replace hbv := hbv.later hbw
      have hszr := hb.size
      have hbe := HB.size
      go_upto_region 6 with fail
      generalize hW : wr.alloc (.cells #[.string xk, .string xv] 53) = u0 at *
      clear hW e0 e1
      generalize hk5 : wr.heap.size = k5 at *
      have f0 : u0.cell? ⟨k5, 0, none⟩ = some (.string xk) := R1.cell 0
      go_wp2_with fail
      refine (Pack.PutText_any xk hs.1 av nj cv _ u0 hnj hbv hnilv (by omega)).mono ?_
      rintro x u1 ⟨v, rfl, ho3, hb3⟩
      obtain ⟨n3, hn3⟩ : ∃ m, ((Y ++ (ps.take j).flatMap wP) ++ txt xk).length = m := ⟨_, rfl⟩
      have hn3b : n3 ≤ 9300 := by rw [← hn3, List.length_append]; omega
      obtain ⟨a3', c3', rfl, hbv3, hnil3⟩ := own_form ho3 hn3
      replace R1 := R1.later hb3
      have hb3s := hb3.size
      clear f0
      have f1 : u1.cell? ⟨k5, 1, none⟩ = some (.string xv) := R1.cell 1
      go_wp2_with fail
      refine (Pack.PutText_any xv hs.2 a3' n3 c3' _ u1 hn3 hbv3 hnil3 (by omega)).mono ?_
      rintro x u2 ⟨v, rfl, ho4, hb4⟩
      obtain ⟨n4, hn4⟩ : ∃ m, (((Y ++ (ps.take j).flatMap wP) ++ txt xk) ++ txt xv).length = m := ⟨_, rfl⟩
      obtain ⟨a4', c4', rfl, _, _⟩ := own_form ho4 hn4
      have hu0 := hbw.size
      have HOW : Own u2 k0 (.slice a4' n4 c4') (Y ++ (ps.take (j + 1)).flatMap wP) := by
        have := ho4.mono (show k0 ≤ u1.heap.size by omega)
        rw [List.append_assoc _ (txt xk)] at this
        rwa [show txt xk ++ txt xv = wP ⟨xk, xv⟩ from rfl, HF.out] at this
      clear f1
      go_wp2
      go_roundw
      case rel => exact ⟨j + 1, by omega, by go_num, HOW, hb.trans ((hbw.trans ((hb3.mono (by omega)).trans (hb4.mono (by omega)))).mono (by omega))⟩
      case measure => simp [intOf]; omega
    · obtain rfl : j = n := by omega
      rw [flat_all wP hn.out, HE.out, List.append_assoc, ← HZ.out] at ho
      go_wp2
      go_ret
      exact ⟨_, rfl, by rw [hk0]; exact ho, by rw [hk0]; exact HB.trans (hb.mono (by have := HB.size; omega))⟩
end Go.Proofs.Ytjegpcmejlffhaa.Cod
