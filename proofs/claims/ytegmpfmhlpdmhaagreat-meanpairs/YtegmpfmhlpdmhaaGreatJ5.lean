/-
  Contract of joined: a row of lifts as one lift.
  A range over a function whose iterator writes to blocks of its own: what it leaves alone. No program is named here.
  Contract of tellPairs: the pairs of a range are told, with the keys that they have in the root.
  Contract of tellNode: what a node has in a range is told, part by part.
  The path that a walker keeps: a row of lifts of the call's own, made longer and cut again.
  Rows of the call's own, appended to in a region that draws; what grows by a row.
  Contract of tellPart: what lies in a part of a fork's range is told.
  Maps of the call's own from places to nothing: all that such a map has is of one kind. (No bound on how many: a store asks for none.)
-/
import Derived.Test.YtegmpfmhlpdmhaaGreatJ1
import Derived.Test.YtegmpfmhlpdmhaaGreatJ3
import Derived.RangeFuncNested
import Derived.RangeFuncBound
import Derived.RangeFuncLeaves
import Derived.Test.YtegmpfmhlpdmhaaGreatClone
import Derived.Test.YtegmpfmhlpdmhaaGreatNLead
import Derived.Test.YtegmpfmhlpdmhaaGreatKv
import Derived.DeepKeys4
import Derived.Maps.Keyed
namespace Go.Proofs.YtegmpfmhlpdmhaaGreat.Key
open Go.RowKit Draw
set_option linter.unusedVariables false
set_option linter.unusedSimpArgs false

/-- a lift, of two texts that lie side by side -/
def lfP (p : Pr) : Lft := lf p.key p.val
set_option maxRecDepth 100000 in
set_option maxHeartbeats 1600000 in
theorem joined107 : ∀ (N : Nat) (a : Option Addr) (c : Nat) (ps : List Pr) (w : World), ps.length ≤ N → N ≤ 1000 → ps.length ≤ c → c ≤ maxLen → Prs w a ps → (∀ p ∈ ps, p.key.size ≤ 16 ∧ p.val.size ≤ 16) → (∃ k, (ups (ps.map lfP) k).isSome = true) →
    Calls Tryz.prog 73 #[.slice a ps.length c] w fun x w' => (∃ s d, x = .returned (lv s d) ∧ OneOf (ps.map lfP) (lf s d) ∧ s.size ≤ 16 * ps.length ∧ d.size ≤ 16 * ps.length) ∧ Below w.heap.size w w' := by
  intro N
  induction N with
  | zero =>
    intro a c ps w hN _ hc hcm h hs hk
    have : ps = [] := List.eq_nil_of_length_eq_zero (by omega)
    subst this
    have P0 := Pair.new w (.string ⟨#[]⟩) (.string ⟨#[]⟩)
    obtain ⟨c0, c1⟩ := P0.cells
    obtain ⟨f0, f1⟩ := P0.free
    have hb := below_box w (.cells #[.string ⟨#[]⟩, .string ⟨#[]⟩] 37)
    go_enter Tryz.func73, Tryz.ntmps73
    go_wp2_with fail
    exact bodyPost_ret (v := lv ⟨#[]⟩ ⟨#[]⟩) (by simp [results, Tryz.results73, go_sem, c0, c1]) rfl ⟨⟨⟨#[]⟩, ⟨#[]⟩, rfl, OneOf.nil, Nat.zero_le _, Nat.zero_le _⟩, hb⟩
  | succ N ih =>
    intro a c ps w hN hN2 hc hcm h hs hk
    rcases Nat.lt_or_ge ps.length 2 with hl | hl
    · rcases Nat.lt_or_ge ps.length 1 with hl1 | hl1
      · exact ih a c ps w (by omega) (by omega) hc hcm h hs hk
      · have hlen : ps.length = 1 := by omega
        obtain ⟨x, rfl⟩ := List.length_eq_one_iff.1 hlen
        obtain ⟨b, off, rfl, hp⟩ := h.at (show 0 < [x].length by simp)
        obtain ⟨e0, e1⟩ := hp
        have hsz := hs x (by simp)
        obtain ⟨s, d⟩ := x
        have h2 := World.block_lt_of_cell? w _ e0
        have P0 := Pair.new w (.string ⟨#[]⟩) (.string ⟨#[]⟩)
        have P1 := Pair.new w (.string s) (.string d)
        obtain ⟨f0, f1⟩ := P0.free
        obtain ⟨g0, g1⟩ := P0.cells
        obtain ⟨c0, c1⟩ := P1.cells
        have hb1 := below_box w (.cells #[.string ⟨#[]⟩, .string ⟨#[]⟩] 37)
        have hb := below_box w (.cells #[.string s, .string d] 37)
        replace e0 := (hb1.cell (p := ⟨b, off + 0 * 2, none⟩) h2).trans e0
        replace e1 := (hb1.cell (p := ⟨b, off + 0 * 2 + 1, none⟩) h2).trans e1
        simp only [Nat.zero_mul, Nat.add_zero] at e0 e1
        dsimp only [List.getElem_cons_zero] at e0 e1 hsz
        rw [hlen]
        go_enter Tryz.func73, Tryz.ntmps73
        go_wp2_with fail
        exact bodyPost_ret (v := lv s d) (by simp [results, Tryz.results73, go_sem, c0, c1]) rfl ⟨⟨s, d, rfl, OneOf.one _, by omega, by omega⟩, hb⟩
    · obtain ⟨b, off, rfl, hx⟩ := h.at (show 0 < ps.length by omega)
      clear hx
      obtain ⟨hf, hhf⟩ : ∃ hf, hf = ps.length / 2 := ⟨_, rfl⟩
      have hf1 : 1 ≤ hf := by omega
      have hf2 : hf < ps.length := by omega
      have e1 : (ps.take hf).length = hf := by rw [List.length_take]; omega
      have e2 : (ps.drop hf).length = ps.length - hf := List.length_drop
      have hmap : (ps.take hf).map lfP ++ (ps.drop hf).map lfP = ps.map lfP := by rw [← List.map_append, List.take_append_drop]
      obtain ⟨k0, hk0⟩ := hk
      have hk1 : (ups ((ps.take hf).map lfP ++ (ps.drop hf).map lfP) k0).isSome = true := by rw [hmap]; exact hk0
      have hk2 := ups_take (ps := ps.map lfP) hk0 hf
      have I1 := hid (fun u (hu : Below w.heap.size w u) => ih (some ⟨b, off, none⟩) c (ps.take hf) u (by omega) (by omega) (by omega) hcm (by
        rcases h.later hu with h | ⟨b', off', e, hc'⟩
        · exact .inl (by rw [h]; simp)
        · exact .inr ⟨b', off', e, fun i hi => by
            have : (ps.take hf)[i] = ps[i]'(by omega) := List.getElem_take
            rw [this]
            exact hc' i (by omega)⟩) (fun p hp => hs p (List.mem_of_mem_take hp)) ⟨k0, by rw [List.map_take]; exact hk2.1⟩)
      have I2 := hid (fun u (hu : Below w.heap.size w u) => ih (some ⟨b, off + hf * 2, none⟩) (c - hf) (ps.drop hf) u (by omega) (by omega) (by omega) (by omega) (by
        rcases h.later hu with h | ⟨b', off', e, hc'⟩
        · exact .inl (by rw [h]; simp)
        · simp only [Option.some.injEq, Addr.mk.injEq, and_true] at e
          obtain ⟨rfl, rfl⟩ := e
          exact .inr ⟨b, off + hf * 2, rfl, fun i hi => by
            have : (ps.drop hf)[i] = ps[hf + i]'(by omega) := List.getElem_drop
            rw [this]
            have := hc' (hf + i) (by omega)
            rwa [show off + (hf + i) * 2 = off + hf * 2 + i * 2 by omega] at this⟩) (fun p hp => hs p (List.mem_of_mem_drop hp)) (by rw [List.map_drop]; exact hk2.2))
      rw [e1] at I1
      rw [e2] at I2
      have HJ := hid (fun (s1 d1 s2 d2 : ByteArray) (u : World) (o1 : OneOf ((ps.take hf).map lfP) (lf s1 d1)) (o2 : OneOf ((ps.drop hf).map lfP) (lf s2 d2)) (z1 : s1.size ≤ 16 * hf) (z2 : d1.size ≤ 16 * hf) (z3 : s2.size ≤ 16 * (ps.length - hf)) (z4 : d2.size ≤ 16 * (ps.length - hf)) =>
        (show Calls Tryz.prog 82 #[lv s1 d1, lv s2 d2] u fun x w' => (∃ js ja, x = .returned (.tuple #[lv js ja, .bool true]) ∧ OneOf (ps.map lfP) (lf js ja) ∧ js.size ≤ 16 * ps.length ∧ ja.size ≤ 16 * ps.length) ∧ Below u.heap.size u w' from by
          obtain ⟨j, hj, ho⟩ := OneOf.join o1 o2 ⟨k0, hk1⟩
          have hz := join_sizes hj
          have hc := join18 s1 d1 s2 d2 u (by omega) (by omega) (by omega) (by omega)
          rw [hj] at hc
          refine hc.mono ?_
          rintro x w' ⟨rfl, hb⟩
          refine ⟨⟨str j.strip, str j.add, rfl, ?_, by omega, by omega⟩, hb⟩
          rw [lf_str, ← hmap]
          exact ho))
      clear hk1 hk2 hk0 hs ih
      generalize OneOf (ps.map lfP) = OJ at *
      generalize OneOf ((ps.take hf).map lfP) = OA at *
      generalize OneOf ((ps.drop hf).map lfP) = OB at *
      clear e1 e2 hmap h
      generalize ps.length = n at *
      have P0 := Pair.new w (.string ⟨#[]⟩) (.string ⟨#[]⟩)
      have hb0 := below_box w (.cells #[.string ⟨#[]⟩, .string ⟨#[]⟩] 37)
      have hq : (n : Int).tdiv 2 = (hf : Int) := by rw [hhf]; rw [Int.tdiv_eq_ediv_of_nonneg (by omega)]; omega
      clear hhf
      have hn0 : ((n : Int) == 0) = false := by simp; omega
      have hn1 : ((n : Int) == 1) = false := by simp; omega
      go_enter Tryz.func73, Tryz.ntmps73
      go_upto_region 7 with fail
      have hle1 : (hf : Int) ≤ (n : Int) := by omega
      have hle2 : (hf : Int) ≤ (c : Int) := by omega
      generalize hw2 : w.alloc (.cells #[.string ⟨#[]⟩, .string ⟨#[]⟩] 37) = w2 at *
      have hs2 : w2.heap.size = w.heap.size + 1 := by rw [← hw2]; simp
      refine wp_region_mark [(some 20, [], false), (some 21, [], false), (some 22, [(0, 20), (1, 21)], false), (some 23, [(2, 22)], false), (some 24, [], false), (some 25, [], false), (some 26, [(4, 24), (5, 25)], false), (some 27, [(6, 26)], false), (some 28, [(3, 23), (7, 27)], false), (some 19, [(8, 28)], false), (some 29, [(9, 19)], false), (some 30, [(9, 19)], false), (some 4, [], true), (none, [(12, 4), (10, 29)], true), (some 5, [(11, 30)], false)] 12
        (fun u => Below w2.heap.size w2 u)
        (fun i u u' => if i = 13 then Below w2.heap.size u u' ∧ ∀ k, (∃ y0 y1, Pair u k y0 y1) → ∃ y0 y1, Pair u' k y0 y1 else Below u.heap.size u u')
        (fun i v e u => match i with
          | 0 => v = .slice (some ⟨b, off, none⟩) n c
          | 1 => v = .int .i64 hf
          | 2 => v = .slice (some ⟨b, off, none⟩) hf c
          | 3 => ∃ s d, v = lv s d ∧ OA (lf s d) ∧ s.size ≤ 16 * hf ∧ d.size ≤ 16 * hf
          | 4 => v = .slice (some ⟨b, off, none⟩) n c
          | 5 => v = .int .i64 hf
          | 6 => v = .slice (some ⟨b, off + hf * 2, none⟩) (n - hf) (c - hf)
          | 7 => ∃ s d, v = lv s d ∧ OB (lf s d) ∧ s.size ≤ 16 * (n - hf) ∧ d.size ≤ 16 * (n - hf)
          | 8 => ∃ s d, v = .tuple #[lv s d, .bool true] ∧ OJ (lf s d) ∧ s.size ≤ 16 * n ∧ d.size ≤ 16 * n
          | 9 => ∃ s d, v = .tuple #[lv s d, .bool true] ∧ OJ (lf s d) ∧ s.size ≤ 16 * n ∧ d.size ≤ 16 * n
          | 10 => ∃ s d, v = lv s d ∧ OJ (lf s d) ∧ s.size ≤ 16 * n ∧ d.size ≤ 16 * n
          | 11 => v = .bool true
          | 12 => ∃ k, v = .pointer (some ⟨k, 0, none⟩) ∧ w2.heap.size ≤ k ∧ ∃ y0 y1, Pair u k y0 y1
          | 13 => ∃ k s d, e = .pointer (some ⟨k, 0, none⟩) ∧ Pair u k (.string s) (.string d) ∧ OJ (lf s d) ∧ s.size ≤ 16 * n ∧ d.size ≤ 16 * n
          | _ => True)
        (by kernel_rfl) (by kernel_rfl) (Below.refl _ _).drew (fun i u u' h h' => ?_) (fun e i j v u u' hn h h' hv => ?_) (fun j hj hc v e e' u hv => ?_)
        ⟨?_, ?_, ?_, ?_, ?_, ?_, ?_, ?_, ?_, ?_, ?_, ?_, ?_, ?_, ?_, trivial⟩ ?_
      · by_cases h13 : i = 13
        · rw [if_pos h13] at h'
          exact h.trans h'.1
        · rw [if_neg h13] at h'
          exact h.trans (h'.mono h.size)
      · match j with
        | 0 => exact hv
        | 1 => exact hv
        | 2 => exact hv
        | 3 => exact hv
        | 4 => exact hv
        | 5 => exact hv
        | 6 => exact hv
        | 7 => exact hv
        | 8 => exact hv
        | 9 => exact hv
        | 10 => exact hv
        | 11 => exact hv
        | 12 =>
          obtain ⟨k, e1, e2, y0, y1, e3⟩ := hv
          by_cases h13 : i = 13
          · rw [if_pos h13] at h'
            exact ⟨k, e1, e2, h'.2 k ⟨y0, y1, e3⟩⟩
          · rw [if_neg h13] at h'
            exact ⟨k, e1, e2, y0, y1, e3.later h'⟩
        | 13 =>
          obtain ⟨k, s, d, e1, e2, e3⟩ := hv
          by_cases h13 : i = 13
          · subst h13
            exact absurd hn (by decide)
          · rw [if_neg h13] at h'
            exact ⟨k, s, d, e1, e2.later h', e3⟩
        | _ + 14 => trivial
      · match j with
        | 0 => exact hv
        | 1 => exact hv
        | 2 => exact hv
        | 3 => exact hv
        | 4 => exact hv
        | 5 => exact hv
        | 6 => exact hv
        | 7 => exact hv
        | 8 => exact hv
        | 9 => exact hv
        | 10 => exact hv
        | 11 => exact hv
        | 12 => exact hv
        | 13 => exact absurd hc (by decide)
        | _ + 14 => trivial
      · rintro e u hu
        exact opYields_val _ (by kernel_rfl) (by go_simp) ⟨Below.refl _ _, rfl⟩
      · rintro e u hu
        exact opYields_val _ (by kernel_rfl) (by go_simp) ⟨Below.refl _ _, rfl⟩
      · rintro e u hu _ ⟨_, rfl⟩ _ ⟨_, rfl⟩
        exact opYields_val _ (by kernel_rfl) (by go_simp) ⟨Below.refl _ _, rfl⟩
      · rintro e u hu _ ⟨_, rfl⟩
        exact opYields_call 73 #[.slice (some ⟨b, off, none⟩) hf c] (by kernel_rfl) (by go_simp) ((I1.out u (hb0.trans (hu.mono (by omega)))).mono fun x u' ⟨⟨s, d, h1, h2⟩, h3⟩ => ⟨_, h1, h3, s, d, rfl, h2⟩)
      · rintro e u hu
        exact opYields_val _ (by kernel_rfl) (by go_simp) ⟨Below.refl _ _, rfl⟩
      · rintro e u hu
        exact opYields_val _ (by kernel_rfl) (by go_simp) ⟨Below.refl _ _, rfl⟩
      · rintro e u hu _ ⟨_, rfl⟩ _ ⟨_, rfl⟩
        have hcf : ¬ c = hf := by omega
        exact opYields_val (.slice (some ⟨b, off + hf * 2, none⟩) (n - hf) (c - hf)) (by kernel_rfl) (by go_simp) ⟨Below.refl _ _, rfl⟩
      · rintro e u hu _ ⟨_, rfl⟩
        exact opYields_call 73 #[.slice (some ⟨b, off + hf * 2, none⟩) (n - hf) (c - hf)] (by kernel_rfl) (by go_simp) ((I2.out u (hb0.trans (hu.mono (by omega)))).mono fun x u' ⟨⟨s, d, h1, h2⟩, h3⟩ => ⟨_, h1, h3, s, d, rfl, h2⟩)
      · rintro e u hu _ ⟨_, s1, d1, rfl, o1, z1, z2⟩ _ ⟨_, s2, d2, rfl, o2, z3, z4⟩
        exact opYields_call 82 #[lv s1 d1, lv s2 d2] (by kernel_rfl) (by go_simp) ((HJ.out s1 d1 s2 d2 u o1 o2 z1 z2 z3 z4).mono fun x u' ⟨⟨s, d, h1, h2⟩, h3⟩ => ⟨_, h1, h3, s, d, rfl, h2⟩)
      · rintro e u hu _ ⟨_, s, d, rfl, hJ⟩
        exact opYields_val _ (by kernel_rfl) (by go_simp) ⟨Below.refl _ _, s, d, rfl, hJ⟩
      · rintro e u hu _ ⟨_, s, d, rfl, hJ⟩
        exact opYields_val (lv s d) (by kernel_rfl) (by go_simp) ⟨Below.refl _ _, s, d, rfl, hJ⟩
      · rintro e u hu _ ⟨_, s, d, rfl, hJ⟩
        exact opYields_val (.bool true) (by kernel_rfl) (by go_simp) ⟨Below.refl _ _, rfl⟩
      · rintro e u hu
        exact opYields_val (.pointer (some ⟨u.heap.size, 0, none⟩)) (by kernel_rfl) (by go_simp) ⟨below_box u (.cells #[.string ⟨#[]⟩, .string ⟨#[]⟩] 37), u.heap.size, rfl, hu.size, _, _, Pair.new u _ _⟩
      · rintro e u hu v12 ⟨he, hv12⟩ v10 ⟨_, hv10⟩
        obtain rfl := he rfl
        obtain ⟨k, rfl, hk, y0, y1, hP⟩ := hv12
        obtain ⟨s, d, rfl, hJ⟩ := hv10
        obtain ⟨c0, c1⟩ := hP.cells
        obtain ⟨f0, f1⟩ := hP.free
        refine opYields_put (u' := (u.setCell ⟨k, 0, none⟩ (.string s)).setCell ⟨k, 1, none⟩ (.string d)) (by kernel_rfl) (by go_simp) ⟨⟨((Below.refl _ _).setCell (p := ⟨k, 0, none⟩) hk _).setCell (p := ⟨k, 1, none⟩) hk _, fun k' ⟨z0, z1, hZ⟩ => ?_⟩, k, s, d, rfl, hP.put _ _, hJ⟩
        by_cases e : k' = k
        · subst e
          exact ⟨_, _, hZ.put _ _⟩
        · exact ⟨_, _, hZ.beside e _ _⟩
      · rintro e u hu _ ⟨_, rfl⟩
        exact opYields_val (.bool true) (by kernel_rfl) (by go_simp) ⟨Below.refl _ _, trivial⟩
      · rintro e u hu x0 x1 x2 x3 x4 x5 x6 x7 x8 x9 x10 x11 x12 ⟨he, h12⟩ x13 ⟨_, h13⟩ x14
        obtain rfl := he rfl
        obtain ⟨k, s, d, rfl, hP, hJ, z1, z2⟩ := h13
        simp only [givingAll, Act.put, List.setIfInBounds_toArray, List.set_cons_zero, List.set_cons_succ]
        obtain ⟨c0, c1⟩ := hP.cells
        have P2 : Pair u w.heap.size (.string ⟨#[]⟩) (.string ⟨#[]⟩) := (hu.block _ (by omega)).trans P0
        have P3 := P2.put (.string s) (.string d)
        obtain ⟨g0, g1⟩ := P2.cells
        obtain ⟨f0, f1⟩ := P2.free
        obtain ⟨q0, q1⟩ := P3.cells
        have hb9 := ((hb0.trans (hu.mono (by omega))).setCell (p := ⟨w.heap.size, 0, none⟩) (Nat.le_refl _) (.string s)).setCell (p := ⟨w.heap.size, 1, none⟩) (Nat.le_refl _) (.string d)
        go_wp2_with fail
        exact bodyPost_ret (v := lv s d) (by simp [results, Tryz.results73, go_sem, q0, q1]) rfl ⟨⟨s, d, rfl, hJ, z1, z2⟩, hb9⟩
end Go.Proofs.YtegmpfmhlpdmhaaGreat.Key

namespace Go.Proofs.YtegmpfmhlpdmhaaGreat.Key
open Go Go.RowKit
set_option linter.unusedVariables false
set_option linter.unusedSimpArgs false

def isMapO : Obj → Bool
  | .map .. => true
  | _ => false
/-- the block of the row that a cell holds -/
def rowOf (g : Nat) (W : World) : Option Nat := (W.cell? ⟨g, 0, none⟩).bind Value.ownBlock
theorem rowOf_same {g : Nat} {W W' : World} (h : W'.heap[g]? = W.heap[g]?) : rowOf g W' = rowOf g W := by
  unfold rowOf
  rw [World.cell?_of_block (w := W) (w' := W') (a := ⟨g, 0, none⟩) h]
/-- blocks that an iterator leaves alone: elder ones, what the loop keeps its books in, the row that the loop's cell holds -/
def Imp (g B : Nat) (W : World) (b : Nat) (o : Obj) : Prop := b < B ∨ (o.isCells = false ∧ o.isWalk = false ∧ isMapO o = false) ∨ rowOf g W = some b
structure KeepX (g B : Nat) (W W' : World) : Prop where
  os : W'.os = W.os
  tape : W'.tape = W.tape
  output : W'.output = W.output
  size : W.heap.size ≤ W'.heap.size
  same : ∀ b o, W.heap[b]? = some o → Imp g B W b o → W'.heap[b]? = some o
theorem KeepX.refl (g B : Nat) (W : World) : KeepX g B W W := ⟨rfl, rfl, rfl, Nat.le_refl _, fun _ _ h _ => h⟩
theorem KeepX.row {g B : Nat} {W W' : World} (h : KeepX g B W W') (hg : g < B) (hW : g < W.heap.size) : rowOf g W' = rowOf g W :=
  rowOf_same (by
    obtain ⟨o, ho⟩ : ∃ o, W.heap[g]? = some o := ⟨_, Array.getElem?_eq_getElem hW⟩
    rw [h.same g o ho (.inl hg), ho])
theorem KeepX.trans {g B : Nat} {W1 W2 W3 : World} (h : KeepX g B W1 W2) (k : KeepX g B W2 W3) (hg : g < B) (hW : g < W1.heap.size) : KeepX g B W1 W3 :=
  ⟨k.os.trans h.os, k.tape.trans h.tape, k.output.trans h.output, Nat.le_trans h.size k.size, fun b o hb hi => k.same b o (h.same b o hb hi) (by
    rcases hi with h1 | h1 | h1
    · exact .inl h1
    · exact .inr (.inl h1)
    · exact .inr (.inr (by rw [h.row hg hW]; exact h1)))⟩
theorem KeepX.of_below {g B : Nat} {W W' : World} (h : Below W.heap.size W W') : KeepX g B W W' :=
  ⟨h.os, h.tape, h.output, h.size, fun b o hb _ => (h.block b (Array.getElem?_eq_some_iff.1 hb).1).trans hb⟩
def AbX {β : Type} (g B : Nat) (J : β → World → Prop) : Prop := ∀ s W W', J s W → KeepX g B W W' → J s W'
/-- what is left alone: all but what X names, and the row that the loop's cell g holds -/
structure KpR (g : Nat) (X : Nat → Obj → Prop) (W W' : World) : Prop where
  os : W'.os = W.os
  tape : W'.tape = W.tape
  output : W'.output = W.output
  size : W.heap.size ≤ W'.heap.size
  same : ∀ b o, W.heap[b]? = some o → (o.isCells = true ∨ isMapO o = true) → ¬ X b o → rowOf g W ≠ some b → W'.heap[b]? = some o
  row : ∀ x, rowOf g W' = some x → rowOf g W = some x ∨ (W.heap.size ≤ x ∧ x < W'.heap.size)
theorem KpR.refl (g : Nat) (X : Nat → Obj → Prop) (W : World) : KpR g X W W := ⟨rfl, rfl, rfl, Nat.le_refl _, fun _ _ h _ _ _ => h, fun _ h => .inl h⟩
theorem KpR.trans {g : Nat} {X : Nat → Obj → Prop} {W1 W2 W3 : World} (h : KpR g X W1 W2) (k : KpR g X W2 W3) : KpR g X W1 W3 := by
  refine ⟨k.os.trans h.os, k.tape.trans h.tape, k.output.trans h.output, Nat.le_trans h.size k.size, ?_, ?_⟩
  · intro b o hb ho hg hr
    refine k.same b o (h.same b o hb ho hg hr) ho hg (fun e => ?_)
    have hlt := (Array.getElem?_eq_some_iff.1 hb).1
    rcases h.row b e with e' | e'
    · exact hr e'
    · omega
  · intro x hx
    rcases k.row x hx with e | e
    · rcases h.row x e with e' | e'
      · exact .inl e'
      · exact .inr ⟨e'.1, Nat.lt_of_lt_of_le e'.2 k.size⟩
    · exact .inr ⟨Nat.le_trans h.size e.1, e.2⟩
theorem KpR.of_below {g : Nat} {X : Nat → Obj → Prop} {W W' : World} (h : Below W.heap.size W W') (hg : g < W.heap.size) : KpR g X W W' := by
  refine ⟨h.os, h.tape, h.output, h.size, fun b o hb _ _ _ => (h.block b (Array.getElem?_eq_some_iff.1 hb).1).trans hb, fun x hx => .inl ?_⟩
  rwa [rowOf_same (h.block g hg)] at hx
theorem KpR.putObj {g l : Nat} {X : Nat → Obj → Prop} {W : World} {o o' : Obj} (hl : W.heap[l]? = some o) (h1 : o.isCells = false) (h3 : isMapO o = false) (hg : g ≠ l) : KpR g X W (W.putObj l o') := by
  refine ⟨rfl, rfl, rfl, by simp, ?_, fun x hx => .inl ?_⟩
  · intro b o2 hb ho _ _
    refine (World.putObj_heap_other ?_).trans hb
    intro e
    subst e
    rw [hl] at hb
    cases hb
    rw [h1, h3] at ho
    rcases ho with ho | ho <;> cases ho
  · rwa [rowOf_same (World.putObj_heap_other hg)] at hx
/-- a block of one's own stays, and is not the loop's row -/
theorem KpR.keep {g b : Nat} {X : Nat → Obj → Prop} {W W' : World} {o : Obj} (h : KpR g X W W') (hb : W.heap[b]? = some o) (ho : o.isCells = true ∨ isMapO o = true) (hg : ¬ X b o) (hr : rowOf g W ≠ some b) : W'.heap[b]? = some o ∧ rowOf g W' ≠ some b :=
  ⟨h.same b o hb ho hg hr, fun e => by
    have hlt := (Array.getElem?_eq_some_iff.1 hb).1
    rcases h.row b e with e' | e'
    · exact hr e'
    · omega⟩
theorem KpR.wide {g : Nat} {X Y : Nat → Obj → Prop} {W W' : World} (h : KpR g X W W') (hXY : ∀ b o, X b o → Y b o) : KpR g Y W W' :=
  ⟨h.os, h.tape, h.output, h.size, fun b o hb ho hg hr => h.same b o hb ho (fun e => hg (hXY b o e)) hr, h.row⟩
/-- what a hearer may touch: the loop's cell, the walker -/
def X0 (g wk : Nat) (b : Nat) (_ : Obj) : Prop := b = g ∨ b = wk
/-- what a telling function may touch: .. the map of bare places, and rows of lifts -/
def X1 (g wk bm : Nat) (b : Nat) (o : Obj) : Prop := b = g ∨ b = wk ∨ b = bm ∨ ∃ cs m, o = .cells cs 37 m
theorem X0.to1 {g wk bm b : Nat} {o : Obj} (h : X0 g wk b o) : X1 g wk bm b o := by
  rcases h with h | h
  · exact .inl h
  · exact .inr (.inl h)
/-- an iterator that stops when it is told to, and leaves alone what Imp says -/
def SeqX {α : Type} (F : Fence) (n : Nat) (P : Program) (g : Nat) (lb : Array Value) (encs : α → Array Value) (Kp : World → World → Prop) (S Sp : List α → Prop) (N : Nat) (w : World) (gc B : Nat) : Prop :=
  ∀ (l : Nat) (J Jx : List α → World → Prop) (W : World), Below w.heap.size w W → AbX gc B J → AbX gc B Jx →
    (∀ pre x W1, J pre W1 → pre.length < N → YieldAt F (n - 1) P l (encs x) W1 fun e W' =>
      (e = .returned (.bool true) ∧ J (pre ++ [x]) W' ∧ Kp W1 W') ∨ (e = .returned (.bool false) ∧ Jx (pre ++ [x]) W' ∧ Kp W1 W')) →
    J [] W →
    CallsIn F n P g (#[.func (.yield l) #[] #[]] ++ lb) W fun e W' => (∃ v, e = .returned v) ∧ ((∃ xs, S xs ∧ J xs W') ∨ (∃ pre, Sp pre ∧ Jx pre W'))

def ownPostX {α : Type} (B : Nat) (Kp : World → World → Prop) (I : List α → World → Prop) (Ix : Code → List α → World → Prop) (xs : List α) (W : World) : Exit → Act → World → Prop
  | .normal, _, W' => KeepsFrom B W W' ∧ Kp W W' ∧ I xs W'
  | .ret, _, W' => KeepsFrom B W W' ∧ Kp W W' ∧ Ix .ret xs W'
  | .exit id, _, W' => KeepsFrom B W W' ∧ Kp W W' ∧ Ix (.exit id) xs W'
  | .goto t, _, W' => KeepsFrom B W W' ∧ Kp W W' ∧ Ix (.goto t) xs W'
  | .panic _, _, _ => False
  | .outgrown, _, _ => False

set_option maxRecDepth 100000 in
set_option maxHeartbeats 1000000 in
theorem wpIn_rangeFunc_ownX {α : Type} {g : Operand} {ps : Array Tmp} {assign body : Code} {Q : Exit → Act → World → Prop} {a : Act} {w : World}
    {F : Fence} {n : Nat} {P : Program} (hro : F.round = none) (h1 : 1 ≤ n) {gf : Nat} {lb : Array Value} (hg : a.eval g = .func (.func gf) #[] lb) (hFg : F.fn gf) (eg : ∀ args w, (callFunc gf args).run P w = .ok (.enter gf args) w)
    {encs : α → Array Value} {Kp : World → World → Prop} {S Sp : List α → Prop} {N gc : Nat} {w0 : World} (hseq : SeqX F (n - 1) P gf lb encs Kp S Sp N w0 gc w.heap.size)
    (hKt : ∀ {A B C : World}, Kp A B → Kp B C → Kp A C) (hKb : ∀ (W : World) (l : Nat) (o o' : Obj), w.heap.size ≤ l → W.heap[l]? = some o → o.isCells = false → o.isWalk = false → isMapO o = false → Kp W (W.putObj l o')) (hb0 : Below w0.heap.size w0 w) (hps : ∀ x, (encs x).size = ps.size)
    (I : List α → World → Prop) (Ix : Code → List α → World → Prop) (hI : OwnFrom w.heap.size I) (hIx : ∀ c, OwnFrom w.heap.size (Ix c)) (hIX : AbX gc w.heap.size I) (hIxX : ∀ c, AbX gc w.heap.size (Ix c)) (h0 : I [] w) (Ax : α → Act → World → Prop) (hAx : ∀ x a', OwnFrom w.heap.size (fun (_ : Unit) W => Ax x a' W))
    (hassign : ∀ (l : Nat) (pre : List α) (x : α) (W : World) (K : Act → World → Prop), I pre W → (∀ a' W', KeepsFrom w.heap.size W W' → Kp W W' → I pre W' → Ax x a' W' → K a' W') →
      assign.wpIn (F.inRound l) (n - 1 - 1) P (Exit.then K (fun _ _ _ => False)) { tmps := (ps.zip (encs x)).foldl (fun t (p, v) => t.setIfInBounds p v) a.tmps, defers := [] } W)
    (hbody : ∀ (l : Nat) (pre : List α) (x : α) (a' : Act) (W : World), w.heap.size ≤ l → (∃ r, W.heap[l]? = some (.loop r)) → I pre W → Ax x a' W → pre.length < N → body.wpIn (F.inRound l) (n - 1 - 1) P (ownPostX w.heap.size Kp I Ix (pre ++ [x]) W) a' W)
    (hdone : ∀ (D : Nat) (xs : List α) (W : World), w.heap.size ≤ D → S xs → I xs W → W.heap[D]? = some (.deferred (some [])) → Q .normal { a with defers := { target := .collected D, args := #[] } :: a.defers } W)
    (hstop : ∀ (D : Nat) (c : Code) (pre : List α) (W : World), w.heap.size ≤ D → Sp pre → Ix c pre W → W.heap[D]? = some (.deferred (some [])) → c.wpIn F n P Q { a with defers := { target := .collected D, args := #[] } :: a.defers } W) :
    (Code.rangeFunc g ps assign body).wpIn F n P Q a w := by
  refine wpIn_rangeFunc ?_
  intro fn hfn
  rw [hro]
  obtain ⟨rec, hrec⟩ : ∃ rec : LoopState → Option Code → Loop, rec = fun st pe => { state := st, pending := pe, fn, tmps := a.tmps, params := ps, assign, body, defers := w.heap.size } := ⟨_, rfl⟩
  obtain ⟨W1, hW1⟩ : ∃ W1, (w.alloc (.deferred (some []))).alloc (.loop (rec .ready none)) = W1 := ⟨_, rfl⟩
  have hL1 : W1.heap[w.heap.size + 1]? = some (.loop (rec .ready none)) := by
    rw [← hW1]; have := World.alloc_heap_new (w.alloc (.deferred (some []))) (.loop (rec .ready none)); rwa [World.size_alloc] at this
  have hK1 : W1.heap[w.heap.size]? = some (.deferred (some [])) := by
    rw [← hW1]; exact (Below.heap_alloc _ _ _ (by simp)).trans (World.alloc_heap_new w _)
  have hI1 : I [] W1 := by rw [← hW1]; exact hI.alloc _ (hI.alloc _ h0)
  have hb1 : Below w0.heap.size w0 W1 := by
    rw [← hW1]; exact hb0.trans ((((Below.refl _ w).alloc (Nat.le_refl _) _).alloc (by simp) _).mono hb0.size)
  refine ⟨w.heap.size + 1, [{ target := .collected w.heap.size, args := #[] }], W1, { target := .fn (.func gf) lb, args := #[.func (.yield (w.heap.size + 1)) #[] #[]] }, W1, gf,
    #[.func (.yield (w.heap.size + 1)) #[] #[]] ++ lb, W1, ?_, ?_, ?_, ?_, fun _ => h1, ?_⟩
  · rw [← hW1, hrec]; exact run_enterLoop_outer _ _ _ _ _
  · simp only [resolve, hg]
    simp [go_sem]
  · intro f' hf'; simp [Target.leads] at hf'; subst hf'; exact hFg
  · simp [invoke, go_sem, eg]
  · -- THE ITERATOR's CONTRACT, AT THE CALLER's INVARIANT WITH THE TWO FACTS OF BOOK-KEEPING BESIDE IT
    refine (hseq (w.heap.size + 1)
      (fun pre W => I pre W ∧ W.heap[w.heap.size + 1]? = some (.loop (rec .ready none)) ∧ W.heap[w.heap.size]? = some (.deferred (some [])))
      (fun pre W => ∃ c, Ix c pre W ∧ W.heap[w.heap.size + 1]? = some (.loop (rec .done (some c))) ∧ W.heap[w.heap.size]? = some (.deferred (some [])))
      W1 hb1
      (fun s X Y hs hk => ⟨hIX s X Y hs.1 hk, hk.same _ _ hs.2.1 (.inr (.inl ⟨rfl, rfl, rfl⟩)), hk.same _ _ hs.2.2 (.inr (.inl ⟨rfl, rfl, rfl⟩))⟩)
      (fun s X Y hs hk => by
        obtain ⟨c, hc, hl, hd⟩ := hs
        exact ⟨c, hIxX c s X Y hc hk, hk.same _ _ hl (.inr (.inl ⟨rfl, rfl, rfl⟩)), hk.same _ _ hd (.inr (.inl ⟨rfl, rfl, rfl⟩))⟩)
      ?_ ⟨hI1, hL1, hK1⟩).mono ?_
    · -- ONE ROUND
      rintro pre x W ⟨hi, hl, hk⟩ hlen
      have hlt : w.heap.size + 1 < W.heap.size := (Array.getElem?_eq_some_iff.1 hl).1
      have hy := run_yield (P := P) (args := encs x) hl (by rw [hrec]; exact hps x)
      rw [hrec] at hy
      refine ⟨fn, _, assign, body, hy, roundIn_of_wpIn hfn (hassign _ pre x W _ hi ?_)⟩
      clear hy
      intro a' Wa hkfa hkpa hia hax
      -- THE ASSIGN CODE MAY HAVE LAID BLOCKS (a loop variable that an inner function captures is boxed): the two blocks of book-keeping lie as they lay
      replace hl := hkfa.same _ _ (by omega) hl rfl
      replace hk := hkfa.same _ _ (Nat.le_refl _) hk rfl
      replace hlt : w.heap.size + 1 < Wa.heap.size := (Array.getElem?_eq_some_iff.1 hl).1
      replace hi := hia
      clear hia
      revert hkpa hkfa
      generalize W = Wb
      intro hkfa hkpa
      obtain ⟨W, rfl⟩ : ∃ W, W = Wa := ⟨_, rfl⟩
      refine ⟨_, run_beginRound hl (by rw [hrec]), ?_⟩
      have hl2 : (W.putObj (w.heap.size + 1) (.loop { rec .ready none with state := .busy })).heap[w.heap.size + 1]? = some (.loop { rec .ready none with state := .busy }) := World.putObj_heap_same hlt
      have hk2 : (W.putObj (w.heap.size + 1) (.loop { rec .ready none with state := .busy })).heap[w.heap.size]? = some (.deferred (some [])) := (World.putObj_heap_other (by omega)).trans hk
      have hw2 : Kp W (W.putObj (w.heap.size + 1) (.loop { rec .ready none with state := .busy })) := hKb _ _ _ _ (by omega) hl rfl rfl rfl
      refine wpIn_mono (hbody _ pre x a' _ (by omega) ⟨_, hl2⟩ (hI.putObj _ hi (by omega) hl rfl) ((hAx x a').putObj (s := ()) _ hax (by omega) hl rfl) hlen) ?_
      have fin : ∀ (jump : Option Code) (W3 : World), KeepsFrom w.heap.size (W.putObj (w.heap.size + 1) (.loop { rec .ready none with state := .busy })) W3 →
          (Instr.endRound (w.heap.size + 1) jump).run P W3 = .ok (.bool jump.isNone) (W3.putObj (w.heap.size + 1) (.loop (rec (if jump.isNone then .ready else .done) jump))) ∧
          W3.heap[w.heap.size + 1]? = some (.loop { rec .ready none with state := .busy }) ∧
          (W3.putObj (w.heap.size + 1) (.loop (rec (if jump.isNone then .ready else .done) jump))).heap[w.heap.size + 1]? = some (.loop (rec (if jump.isNone then .ready else .done) jump)) ∧
          (W3.putObj (w.heap.size + 1) (.loop (rec (if jump.isNone then .ready else .done) jump))).heap[w.heap.size]? = some (.deferred (some [])) := fun jump W3 hk3 => by
        have hl3 := hk3.same _ _ (by omega) hl2 rfl
        have := run_endRound (P := P) jump hl3
        rw [hrec] at this ⊢
        exact ⟨this, by rw [hrec] at hl3; exact hl3, World.putObj_heap_same (Array.getElem?_eq_some_iff.1 hl3).1, (World.putObj_heap_other (by omega)).trans (hk3.same _ _ (Nat.le_refl _) hk2 rfl)⟩
      rintro e a3 W3 hp
      cases e with
      | normal =>
        obtain ⟨hk3, hkp3, hi3⟩ := hp
        obtain ⟨hr, hl3, hl4, hk4⟩ := fin none W3 hk3
        exact ⟨_, _, hr, .inl ⟨rfl, ⟨hI.putObj _ hi3 (by omega) hl3 rfl, hl4, hk4⟩, hKt hkpa (hKt (hKt hw2 hkp3) (hKb _ _ _ _ (by omega) hl3 rfl rfl rfl))⟩⟩
      | ret =>
        obtain ⟨hk3, hkp3, hi3⟩ := hp
        obtain ⟨hr, hl3, hl4, hk4⟩ := fin (some .ret) W3 hk3
        exact ⟨_, _, hr, .inr ⟨rfl, ⟨.ret, (hIx _).putObj _ hi3 (by omega) hl3 rfl, hl4, hk4⟩, hKt hkpa (hKt (hKt hw2 hkp3) (hKb _ _ _ _ (by omega) hl3 rfl rfl rfl))⟩⟩
      | exit id =>
        obtain ⟨hk3, hkp3, hi3⟩ := hp
        obtain ⟨hr, hl3, hl4, hk4⟩ := fin (some (.exit id)) W3 hk3
        exact ⟨_, _, hr, .inr ⟨rfl, ⟨.exit id, (hIx _).putObj _ hi3 (by omega) hl3 rfl, hl4, hk4⟩, hKt hkpa (hKt (hKt hw2 hkp3) (hKb _ _ _ _ (by omega) hl3 rfl rfl rfl))⟩⟩
      | goto t =>
        obtain ⟨hk3, hkp3, hi3⟩ := hp
        obtain ⟨hr, hl3, hl4, hk4⟩ := fin (some (.goto t)) W3 hk3
        exact ⟨_, _, hr, .inr ⟨rfl, ⟨.goto t, (hIx _).putObj _ hi3 (by omega) hl3 rfl, hl4, hk4⟩, hKt hkpa (hKt (hKt hw2 hkp3) (hKb _ _ _ _ (by omega) hl3 rfl rfl rfl))⟩⟩
      | panic ch => exact hp.elim
      | outgrown => exact hp.elim
    · -- BEHIND THE ITERATOR
      rintro e W2 ⟨⟨v, rfl⟩, (⟨xs, hS, hi, hl, hk⟩ | ⟨pre, hSp, c, hi, hl, hk⟩)⟩
      · exact ⟨none, _, by have := run_endLoop (P := P) hl (by rw [hrec]; simp); rw [hrec] at this; exact this, hdone _ xs _ (Nat.le_refl _) hS (hI.putObj _ hi (by omega) hl rfl) ((World.putObj_heap_other (by omega)).trans hk)⟩
      · exact ⟨some c, _, by have := run_endLoop (P := P) hl (by rw [hrec]; simp); rw [hrec] at this; exact this, hstop _ c pre _ (Nat.le_refl _) hSp ((hIx c).putObj _ hi (by omega) hl rfl) ((World.putObj_heap_other (by omega)).trans hk)⟩
end Go.Proofs.YtegmpfmhlpdmhaaGreat.Key

namespace Go.Proofs.YtegmpfmhlpdmhaaGreat.Key
open Go.RowKit
set_option linter.unusedVariables false
set_option linter.unusedSimpArgs false

theorem rest_take {l : List Pr} {r : Rng} {j : Nat} (h : j < l.length) : restL (l.take (j + 1)) r = restL (l.take j) r ++ if inR r (kOf l[j]) then [l[j]] else [] := by
  unfold restL
  rw [List.take_succ_eq_append_getElem h, List.filter_append]
  congr 1
  cases hp : inR r (kOf l[j]) <;> simp [hp]
theorem rest_len (l : List Pr) (r : Rng) : (restL l r).length ≤ l.length := List.length_filter_le _ _
theorem tell_one {most : Int} {out o' : List Pr} {A : List Pr} {q : Nat} (h : q < A.length) (ht : tellR most out (A.take q) = (o', true)) :
    tellR most out (A.take (q + 1)) = (o' ++ [A[q]], !decide ((o'.length : Int) + 1 = most)) := by
  rw [List.take_succ_eq_append_getElem h, tellR_app, ht]
  rw [if_pos rfl]
  unfold tellR
  by_cases e : ((o'.length : Int) + 1) = most
  · rw [if_pos e]; simp [e]
  · rw [if_neg e]; simp [e, tellR]
theorem tell_stop {most : Int} {out o' : List Pr} {A : List Pr} {q : Nat} (ht : tellR most out (A.take q) = (o', false)) : tellR most out A = (o', false) := by
  rw [← List.take_append_drop q A, tellR_app, ht]
  rfl
theorem oneCell_pair (p : Pr) (w : World) : ∀ adr, some (⟨w.heap.size, 0, none⟩ : Addr) = some adr → ∀ j u, ([p].flatMap Pr.cells)[j]? = some u → (w.alloc (.cells #[.string p.key, .string p.val] 50)).cell? (adr.add j) = some u := by
  rintro adr ha j u hu
  cases ha
  have N1 := Go.heap_alloc_new w (.cells #[.string p.key, .string p.val] 50)
  rw [List.flatMap_cons, List.flatMap_nil, List.append_nil] at hu
  match j with
  | 0 => simp [Pr.cells] at hu; subst hu; exact cell_of_row _ _ 0 _ _ _ N1
  | 1 => simp [Pr.cells] at hu; subst hu; exact cell_of_row _ _ 1 _ _ _ N1
  | j + 2 => simp [Pr.cells] at hu
/-- what a telling function knows of who hears: what was told (out) is kept in a state that no block made since touches -/
structure Hears (g wk : Nat) (most : Int) (c1 c2 : Value) (S : List Pr → World → Prop) : Prop where
  later : ∀ out u u', S out u → Below u.heap.size u u' → S out u'
  lt : ∀ out u, S out u → g < u.heap.size
  row : ∀ out u, S out u → ∀ x, rowOf g u = some x → x < u.heap.size
  hear : ∀ out p u, S out u → (out.length : Int) ≠ most → out.length ≤ 100000 → Calls Tryz.prog 25 #[pv p, c1, c2] u fun x w' => x = .returned (.bool (!decide ((out.length : Int) + 1 = most))) ∧ S (out ++ [p]) w' ∧ KpR g (X0 g wk) u w'
set_option maxRecDepth 100000 in
set_option maxHeartbeats 1600000 in
theorem tellPairs99 (g wk : Nat) (most : Int) (c1 c2 : Value) (S : List Pr → World → Prop) (hH : Hears g wk most c1 c2 S) (out : List Pr) (a pa : Option Addr) (c pc : Nat) (l ps : List Pr) (lo hi : ByteArray) (e : Bool) (u : World)
    (hS : S out u) (hne : (out.length : Int) ≠ most) (hol : out.length ≤ 10000) (hl : l.length ≤ 2000) (h : Prs u a l) (hks : ∀ p ∈ l, p.key.size ≤ 1000000)
    (hp : Prs u pa ps) (hpc : u.cell? ⟨wk, 2, none⟩ = some (.slice pa ps.length pc)) (hpl : ps.length ≤ 1000) (hple : ps.length ≤ pc) (hpm : pc ≤ maxLen) (hpz : ∀ p ∈ ps, p.key.size ≤ 16 ∧ p.val.size ≤ 16)
    (hcm : Comes (ps.map lfP) (rg lo hi e)) :
    Calls Tryz.prog 65 #[.pointer (some ⟨wk, 0, none⟩), .slice a l.length c, av lo hi e, .func (.func 25) #[] #[c1, c2]] u fun x w' =>
      x = .returned (.bool (tellR most out ((restL l (rg lo hi e)).map (backP (ps.map lfP)))).2) ∧ S (tellR most out ((restL l (rg lo hi e)).map (backP (ps.map lfP)))).1 w' ∧ KpR g (X0 g wk) u w' := by
  have hg := hH.lt _ _ hS
  have hgr := hH.row _ _ hS
  have hwku : wk < u.heap.size := World.block_lt_of_cell? u _ hpc
  obtain ⟨W, HW⟩ : ∃ W, Hid (u.alloc (.cells #[.string lo, .string hi, .bool e] 25) = W) := ⟨_, hid rfl⟩
  have hb1 : Below u.heap.size u W := by rw [← HW.out]; exact below_box _ _
  have R1 : Box W u.heap.size (.string lo) (.string hi) (.bool e) := by rw [← HW.out]; exact Box.new _ _ _ _
  have sW := hid (show W.heap.size = u.heap.size + 1 by rw [← HW.out]; simp)
  have hP := hid (h.later hb1)
  have HR := hid R1
  have HI := hid (fun k w => in56 lo hi k e w)
  obtain ⟨n, HN⟩ : ∃ m, Hid (l.length = m) := ⟨_, hid rfl⟩
  rw [HN.out] at hl ⊢
  clear h R1
  go_enter Tryz.func65, Tryz.ntmps65
  go_upto_region 1 with fail
  rw [HW.out]
  go_wp2_with fail
  go_loopw [9, 17] (fun o i wq => ∃ j : Nat, j ≤ n ∧ i = .int .i64 j ∧ wq.ownsRow W.heap.size 50 2 o (restL (l.take j) (rg lo hi e)).length ((restL (l.take j) (rg lo hi e)).flatMap Pr.cells) ∧ Below W.heap.size W wq) (fun _ i _ => n - (intOf i).toNat)
  case atStart => exact ⟨0, Nat.zero_le _, rfl, ⟨by simp [restL], .inl ⟨rfl, rfl⟩⟩, Below.refl _ _⟩
  case round =>
    obtain ⟨j, hj, rfl, hO, hb⟩ := hrel
    by_cases hjn : j < n
    · have hjl : j < l.length := by rw [HN.out]; exact hjn
      obtain ⟨b, off, rfl, hx⟩ := (hP.out.later hb).at hjl
      have hst := hid (rest_take (r := rg lo hi e) hjl)
      have hrl : (restL (l.take j) (rg lo hi e)).length ≤ 2000 := Nat.le_trans (rest_len _ _) (by rw [List.length_take]; omega)
      obtain ⟨x, HX⟩ : ∃ m, Hid (l[j] = m) := ⟨_, hid rfl⟩
      rw [HX.out] at hx hst
      have hci := hid (HI.out x.key)
      obtain ⟨I, HII⟩ : ∃ m, Hid (inR (rg lo hi e) (kOf x) = m) := ⟨_, hid rfl⟩
      have hci2 : Hid (∀ w, Calls Tryz.prog 64 #[.agg #[.string lo, .string hi, .bool e], .string x.key] w fun y w' => y = .returned (.bool I) ∧ Below w.heap.size w w') := by rw [← HII.out]; exact hid hci.out
      rw [HII.out] at hst
      clear hci
      have hO1 := row_later hO (below_box wr (.cells #[.string x.key, .string x.val] 50))
      have hB1 := hb.alloc hb.size (.cells #[.string x.key, .string x.val] 50)
      have hr1 : Box (wr.alloc (.cells #[.string x.key, .string x.val] 50)) u.heap.size (.string lo) (.string hi) (.bool e) := (hB1.block _ (by rw [sW.out]; omega)).trans HR.out
      have hp1 := Go.heap_alloc_new wr (.cells #[.string x.key, .string x.val] 50)
      have hnk := hid (oneCell_pair x)
      obtain ⟨ky, vl⟩ := x
      obtain ⟨d0, d1⟩ := hx
      obtain ⟨r0, r1, r2⟩ := hr1.cells
      dsimp only at d0 d1 hO1 hB1 hr1 hp1 r0 r1 r2
      have hji : (j : Int) < (n : Int) := by omega
      go_upto_region 5 with fail
      generalize hWA : wr.alloc (.cells #[.string ky, .string vl] 50) = WA at *
      have HWA := hid hWA
      clear hWA hO hb
      have z0 : WA.cell? ⟨wr.heap.size, 0, none⟩ = some (.string ky) := cell_of_row _ _ 0 _ _ _ hp1
      have z1 : WA.cell? ⟨wr.heap.size, 1, none⟩ = some (.string vl) := cell_of_row _ _ 1 _ _ _ hp1
      go_wp2_with fail
      refine (hci2.out _).mono ?_
      rintro y w2 ⟨rfl, hb2⟩
      have hO2 := row_later hO1 hb2
      have hB2 := hB1.trans (hb2.mono hB1.size)
      have hp2 := (hb2.block _ (Array.getElem?_eq_some_iff.1 hp1).1).trans hp1
      have t0 : w2.cell? ⟨wr.heap.size, 0, none⟩ = some (.string ky) := cell_of_row _ _ 0 _ _ _ hp2
      have t1 : w2.cell? ⟨wr.heap.size, 1, none⟩ = some (.string vl) := cell_of_row _ _ 1 _ _ _ hp2
      clear d0 d1 r0 r1 r2 z0 z1 hO1 hB1 hp1 hb2 hr1
      cases I
      · go_wp2_with fail
        go_roundw
        case rel => exact ⟨j + 1, by omega, by go_num, by rw [hst.out]; simpa using hO2, hB2⟩
        case measure => simp [intOf]; omega
      · have hO3 := row_later hO2 (below_box w2 (.cells #[.string ky, .string vl] 50))
        have hB3 := hB2.alloc hB2.size (.cells #[.string ky, .string vl] 50)
        have hs2 := hB2.size
        obtain ⟨oa, on, oc, rfl⟩ := row_slice hO2
        go_wp2_with (first | (at_builtin; go_loud (refine appGen Pr.cells 2 32 30 50 _ (by omega) (fun _ => rfl) Tryz.underlying30 info50 rfl (by omega) oneP (w0 := W) rfl _ _ rfl W.heap.size _ (restL (l.take j) (rg lo hi e)) rfl hO3 (some ⟨w2.heap.size, 0, none⟩) 1 1 [⟨ky, vl⟩] rfl (by simp) rfl (hnk.out w2) (by omega) (by simp; omega) hB3 ?_); intro v' w9 h1 h2 _) | fail)
        go_roundw
        case rel => exact ⟨j + 1, by omega, by go_num, by rw [hst.out]; exact h1, h2⟩
        case measure => simp [intOf]; omega
    · obtain rfl : j = n := by omega
      rw [show l.take j = l by rw [← HN.out, List.take_length]] at hO
      have hrl : (restL l (rg lo hi e)).length ≤ 2000 := Nat.le_trans (rest_len _ _) (by rw [HN.out]; omega)
      have hrk : ∀ p ∈ restL l (rg lo hi e), p.key.size ≤ 1000000 ∧ inR (rg lo hi e) (kOf p) = true := fun p hp => ⟨hks p (List.mem_filter.1 hp).1, (List.mem_filter.1 hp).2⟩
      obtain ⟨T, HT⟩ : ∃ m, Hid (restL l (rg lo hi e) = m) := ⟨_, hid rfl⟩
      rw [HT.out] at hO hrl hrk
      have hbu := hb1.trans (hb.mono hb1.size)
      have hrow : rowOf g wr = rowOf g u := rowOf_same (hbu.block g hg)
      obtain ⟨oa, oc, rfl, hcs⟩ := row_cells Pr.cells 2 (fun _ => rfl) hO
      obtain ⟨t, Ht⟩ : ∃ m, Hid (T.length = m) := ⟨_, hid rfl⟩
      rw [Ht.out] at hrl ⊢
      rcases hcs with h0 | ⟨b0, rfl, hb0, ⟨cur, hcur⟩, hc0⟩
      · have ht0 : t = 0 := by rw [← Ht.out, h0]; rfl
        subst ht0
        go_wp2_with fail
        go_ret
        rw [HT.out, h0]
        exact ⟨rfl, hH.later _ _ _ hS hbu, KpR.of_below hbu hg⟩
      · by_cases h0 : t = 0
        · subst h0
          have h0 : T = [] := List.eq_nil_of_length_eq_zero Ht.out
          go_wp2_with fail
          go_ret
          rw [HT.out, h0]
          exact ⟨rfl, hH.later _ _ _ hS hbu, KpR.of_below hbu hg⟩
        have hbg : b0 ≠ g := by have := hb1.size; omega
        have hbwk : b0 ≠ wk := by have := hb1.size; omega
        have hbr : rowOf g wr ≠ some b0 := by
          rw [hrow]
          intro e'
          have := hgr _ e'
          have := hb1.size
          omega
        have htT : 0 < T.length := by rw [Ht.out]; omega
        have hex : ∃ k, (ups (ps.map lfP) k).isSome = true := by
          obtain ⟨k, hk⟩ := Option.isSome_iff_exists.1 (hcm _ (hrk _ (List.getElem_mem htT)).2)
          exact ⟨k, by rw [ups_iff.2 hk]; rfl⟩
        have HJ := hid (joined107 ps.length pa pc ps wr (Nat.le_refl _) hpl hple hpm (hp.later hbu) hpz hex)
        have hpq : wr.cell? ⟨wk, 2, none⟩ = some (.slice pa ps.length pc) := (hbu.cell (p := ⟨wk, 2, none⟩) (World.block_lt_of_cell? u _ hpc)).trans hpc
        have htn : ¬ ((t : Int) = 0) := by omega
        have htn' : ((t : Int) == 0) = false := by simp; omega
        clear hpc hex hO hb hP
        generalize hpp : ps.length = np at *
        have HPP := hid hpp
        clear hpp
        go_upto_region 10 with fail
        go_wp2_with fail
        refine HJ.out.mono ?_
        clear HJ
        rintro y w2 ⟨⟨s, d, rfl, hone, hz1, hz2⟩, hb2⟩
        obtain ⟨w3, hw3⟩ : ∃ w3, w2.alloc (.cells #[.string s, .string d] 37) = w3 := ⟨_, rfl⟩
        have HW3 := hid hw3
        have hb3 : Below wr.heap.size wr w3 := by rw [← hw3]; exact hb2.alloc hb2.size _
        have hbx : w3.heap[w2.heap.size]? = some (.cells #[.string s, .string d] 37 (0, 0)) := by rw [← hw3]; exact Go.heap_alloc_new _ _
        have hrow3 : rowOf g w3 = rowOf g u := (rowOf_same (hb3.block g (Nat.lt_of_lt_of_le hg hbu.size))).trans hrow
        have hbu3 := hbu.trans (hb3.mono hbu.size)
        have hcur3 := (hb3.block b0 (Array.getElem?_eq_some_iff.1 hcur).1).trans hcur
        have hbr3 : rowOf g w3 ≠ some b0 := by rw [hrow3, ← hrow]; exact hbr
        have hsx : u.heap.size ≤ w2.heap.size := Nat.le_trans hbu.size hb2.size
        have hbxr : rowOf g w3 ≠ some w2.heap.size := by
          rw [hrow3]
          intro e'
          have := hgr _ e'
          omega
        have hbxg : w2.heap.size ≠ g := by omega
        have hbxwk : w2.heap.size ≠ wk := by omega
        have hc3 : ∀ i (_ : i < T.length), Two w3 b0 (i * 2) T[i] := fun i hi => by
          have e0 := hc0 i hi 0 (.string T[i].key) (by omega) rfl
          have e1 := hc0 i hi 1 (.string T[i].val) (by omega) rfl
          rw [show 0 + i * 2 + 0 = i * 2 by omega] at e0
          rw [show 0 + i * 2 + 1 = i * 2 + 1 by omega] at e1
          have hl0 := (Array.getElem?_eq_some_iff.1 hcur).1
          exact ⟨(hb3.cell (p := ⟨b0, i * 2, none⟩) hl0).trans e0, (hb3.cell (p := ⟨b0, i * 2 + 1, none⟩) hl0).trans e1⟩
        have hS3 := hH.later _ _ _ hS hbu3
        have hk3 := KpR.of_below (X := X0 g wk) hbu3 hg
        clear hb2 hb3 hcur hbr hrow hrow3 hc0 hbu hw3
        go_upto_region 11 with fail
        rw [HW3.out]
        go_wp2_with fail
        obtain ⟨A, HA⟩ : ∃ A, Hid (T.map (backP (ps.map lfP)) = A) := ⟨_, hid rfl⟩
        have hAl : A.length = t := by rw [← HA.out, List.length_map, Ht.out]
        have HAL := hid hAl
        have HAt := hid (fun q (h1 : q < T.length) (h2 : q < A.length) => (show A[q] = backP (ps.map lfP) T[q] by
          have := HA.out
          subst this
          exact List.getElem_map _))
        clear hAl htT
        go_loopw [40] (fun i wq => ∃ q : Nat, q ≤ t ∧ i = .int .i64 q ∧ ∃ o', Hid (tellR most out (A.take q) = (o', true)) ∧ S o' wq ∧ KpR g (X0 g wk) w3 wq ∧ (o'.length : Int) ≠ most ∧ o'.length ≤ 10000 + q) (fun i _ => t - (intOf i).toNat)
        case atStart => exact ⟨0, Nat.zero_le _, rfl, out, hid rfl, hS3, KpR.refl _ _ _, hne, hol⟩
        case round =>
          clear hS3
          obtain ⟨q, hq, rfl, o', hto, hSq, hkq, hneq, hoq⟩ := hrel
          by_cases hqt : q < t
          · have hqT : q < T.length := by rw [Ht.out]; exact hqt
            have hqA : q < A.length := by rw [HAL.out]; exact hqt
            have hone' := hid (tell_one hqA hto.out)
            have haq := hid (HAt.out q hqT hqA)
            rw [haq.out] at hone'
            obtain ⟨hbq, hbrq⟩ := hkq.keep hcur3 (.inl rfl) (by rintro (e' | e'); exact hbg e'; exact hbwk e') hbr3
            obtain ⟨hxq, _⟩ := hkq.keep hbx (.inl rfl) (by rintro (e' | e'); exact hbxg e'; exact hbxwk e') hbxr
            have hcq := hc3 q hqT
            have hkz := hrk _ (List.getElem_mem hqT)
            obtain ⟨x, HX⟩ : ∃ m, Hid (T[q] = m) := ⟨_, hid rfl⟩
            rw [HX.out] at hcq hkz haq hone'
            have d0 : wr.cell? ⟨b0, q * 2, none⟩ = some (.string x.key) := (World.cell?_of_block (w := w3) (a := ⟨b0, q * 2, none⟩) (by show wr.heap[b0]? = w3.heap[b0]?; rw [hbq, hcur3])).trans hcq.c0
            have d1 : wr.cell? ⟨b0, q * 2 + 1, none⟩ = some (.string x.val) := (World.cell?_of_block (w := w3) (a := ⟨b0, q * 2 + 1, none⟩) (by show wr.heap[b0]? = w3.heap[b0]?; rw [hbq, hcur3])).trans hcq.c1
            have hbk : backP (ps.map lfP) x = ⟨upS (lf d s) x.key.data.toList, x.val⟩ := by
              unfold backP upS
              rw [← hone.back]
              rfl
            rw [hbk] at hone'
            have hD := hid (fun w => down13 s d x.key w)
            have hgq := hH.lt _ _ hSq
            clear haq hbk hcq hbq hbrq
            have hx4 := Go.heap_alloc_new wr (.cells #[.string x.key, .string x.val] 50)
            have hb4 := below_box wr (.cells #[.string x.key, .string x.val] 50)
            have hx55 := (hb4.block _ (Array.getElem?_eq_some_iff.1 hxq).1).trans hxq
            obtain ⟨ky, vl⟩ := x
            dsimp only at d0 d1 hx4 hb4 hx55 hD hkz hone'
            generalize hWA : wr.alloc (.cells #[.string ky, .string vl] 50) = WA at *
            have HWA := hid hWA
            clear hWA
            have z0 : WA.cell? ⟨wr.heap.size, 0, none⟩ = some (.string ky) := cell_of_row _ _ 0 _ _ _ hx4
            have z1 : WA.cell? ⟨wr.heap.size, 1, none⟩ = some (.string vl) := cell_of_row _ _ 1 _ _ _ hx4
            have z2 : WA.cell? ⟨w2.heap.size, 0, none⟩ = some (.string s) := cell_of_row _ _ 0 _ _ _ hx55
            have z3 : WA.cell? ⟨w2.heap.size, 1, none⟩ = some (.string d) := cell_of_row _ _ 1 _ _ _ hx55
            have hqi : (q : Int) < (t : Int) := by omega
            go_upto_region 14 with fail
            rw [HWA.out]
            go_wp2_with fail
            refine (hD.out _ (by omega) hkz.1).mono ?_
            clear hD z0 z1 z2 z3
            rintro y w5 ⟨rfl, hb5⟩
            have hx5 := (hb5.block _ (Array.getElem?_eq_some_iff.1 hx4).1).trans hx4
            have hb45 := hb4.trans (hb5.mono hb4.size)
            have hx5c : w5.cell? ⟨wr.heap.size, 0, none⟩ = some (.string ky) := cell_of_row _ _ 0 _ _ _ hx5
            have hx5f : w5.frozen? ⟨wr.heap.size, 0, none⟩ = false := frozen_of_row _ _ 0 _ _ hx5
            generalize upS (lf d s) ky.data.toList = K at *
            generalize upB (lf d s) ky.data.toList = KB at *
            have hx6 : (w5.setCell ⟨wr.heap.size, 0, none⟩ (.string K)).heap[wr.heap.size]? = some (.cells #[.string K, .string vl] 50 (0, 0)) := Go.Joins.block_setCell hx5 _
            have hb6 := hb45.setCell (p := ⟨wr.heap.size, 0, none⟩) (by show wr.heap.size ≤ wr.heap.size; omega) (.string K)
            have hS6 := hH.later _ _ _ hSq hb6
            have hk6 := hkq.trans (KpR.of_below hb6 hgq)
            clear hb4 hb5 hb45 hx4 hx5 hxq hx55 hSq hkq
            go_upto_region 15 with fail
            generalize w5.setCell ⟨wr.heap.size, 0, none⟩ (.string K) = w6 at *
            have z0 : w6.cell? ⟨wr.heap.size, 0, none⟩ = some (.string K) := cell_of_row _ _ 0 _ _ _ hx6
            have z1 : w6.cell? ⟨wr.heap.size, 1, none⟩ = some (.string vl) := cell_of_row _ _ 1 _ _ _ hx6
            have hh := hid (hH.hear o' ⟨K, vl⟩ w6 hS6 hneq (by omega))
            by_cases hm : ((o'.length : Int) + 1) = most
            · rw [decide_eq_true hm] at hh hone'
              go_wp2_with fail
              refine hh.out.mono ?_
              rintro y w7 ⟨rfl, hS7, hk7⟩
              go_wp2_with fail
              go_ret
              rw [HT.out, HA.out, tell_stop hone'.out]
              exact ⟨rfl, hS7, hk3.trans (hk6.trans hk7)⟩
            · rw [decide_eq_false hm] at hh hone'
              go_wp2_with fail
              refine hh.out.mono ?_
              rintro y w7 ⟨rfl, hS7, hk7⟩
              go_wp2_with fail
              go_roundw
              case rel => exact ⟨q + 1, by omega, by go_num, _, hid hone'.out, hS7, hk6.trans hk7, by simpa using hm, by simp; omega⟩
              case measure => simp [intOf]; omega
          · obtain rfl : q = t := by omega
            rw [show A.take q = A by rw [← HAL.out, List.take_length]] at hto
            go_wp2_with fail
            go_ret
            rw [HT.out, HA.out, hto.out]
            exact ⟨rfl, hSq, hk3.trans hkq⟩
end Go.Proofs.YtegmpfmhlpdmhaaGreat.Key

namespace Go.Proofs.YtegmpfmhlpdmhaaGreat.Key
open Go.RowKit
set_option linter.unusedVariables false
set_option linter.unusedSimpArgs false

theorem tell_parts {most : Int} {out o' o'' : List Pr} {P : List Rng} {f : Rng → List Pr} {q : Nat} {b : Bool} (h : q < P.length) (ht : tellR most out ((P.take q).flatMap f) = (o', true)) (h2 : tellR most o' (f P[q]) = (o'', b)) :
    tellR most out ((P.take (q + 1)).flatMap f) = (o'', b) := by
  rw [List.take_succ_eq_append_getElem h, List.flatMap_append, tellR_app, ht]
  rw [if_pos rfl]
  simpa using h2
theorem tell_ends {most : Int} {out o' : List Pr} {P : List Rng} {f : Rng → List Pr} {q : Nat} (ht : tellR most out ((P.take q).flatMap f) = (o', false)) : tellR most out (P.flatMap f) = (o', false) := by
  have : P.flatMap f = (P.take q).flatMap f ++ (P.drop q).flatMap f := by rw [← List.flatMap_append, List.take_append_drop]
  rw [this, tellR_app, ht]
  rfl
theorem tell_ne {most : Int} : ∀ (A out : List Pr), (out.length : Int) ≠ most → (tellR most out A).2 = true → ((tellR most out A).1.length : Int) ≠ most
  | [], out, h, _ => h
  | p :: A, out, h, ht => by
    rw [tellR] at ht ⊢
    by_cases e : ((out.length : Int) + 1) = most
    · rw [if_pos e] at ht
      cases ht
    · rw [if_neg e] at ht ⊢
      exact tell_ne A _ (by simpa using e) ht
/-- the state that a telling function keeps: it knows of the loop's cell, the walker, the map of bare places -/
structure Keeps (g wk bm : Nat) (T : List Pr → World → Prop) : Prop where
  later : ∀ out u u', T out u → Below u.heap.size u u' → T out u'
  lg : ∀ out u, T out u → g < u.heap.size
  lw : ∀ out u, T out u → wk < u.heap.size
  lb : ∀ out u, T out u → bm < u.heap.size
  row : ∀ out u, T out u → ∀ x, rowOf g u = some x → x < u.heap.size
/-- a block made since is kept, if it is no row of lifts -/
theorem keep1 {g wk bm b B : Nat} {w w' : World} {cs : Array Value} {t : TypeId} {m : Nat × Nat} (h : KpR g (X1 g wk bm) w w') (hb : w.heap[b]? = some (.cells cs t m)) (ht : t ≠ 37) (hB : B ≤ b) (h1 : g < B) (h2 : wk < B) (h3 : bm < B) (h4 : ∀ x, rowOf g w = some x → x < B) : w'.heap[b]? = some (.cells cs t m) :=
  (h.keep hb (.inl rfl) (by
    rintro (e | e | e | ⟨cs', m', e⟩)
    · omega
    · omega
    · omega
    · simp only [Obj.cells.injEq] at e
      exact ht e.2.1) (fun e => by have := h4 b e; omega)).1
set_option maxRecDepth 100000 in
set_option maxHeartbeats 1600000 in
theorem tellFork84 (g wk bm : Nat) (most : Int) (hv : Value) (T : List Pr → World → Prop) (hT : Keeps g wk bm T) (n : Nd) (p : Pl) (f : Rng → List Pr) (out : List Pr) (lo hi : ByteArray) (e : Bool) (u : World)
    (hS : T out u) (hne : (out.length : Int) ≠ most) (hlf : n.leaf = false) (hfew : Few n) (hks : ∀ m ∈ n.bf, m.key.size ≤ 1000) (hL : ∀ out u, T out u → Lies u n p) (hr : inR (rg lo hi e) lo.data.toList = true)
    (hpart : ∀ cs, Cuts (rg lo hi e) cs → ((∀ x ∈ cutsN n, inR (rg lo hi e) x = true → x ∈ cs) ∧ ∀ x ∈ cs, x = lo.data.toList ∨ x ∈ cutsN n) → ∀ j, j < cs.length → ∀ o', tellR most out (((partsN (rg lo hi e) cs cs.length).take j).flatMap f) = (o', true) → ∀ u, T o' u → (o'.length : Int) ≠ most → Calls Tryz.prog 67 #[.pointer (some ⟨wk, 0, none⟩), nv n p, rv (partAt (rg lo hi e) cs j), hv] u fun x w' => x = .returned (.bool (tellR most o' (f (partAt (rg lo hi e) cs j))).2) ∧ T (tellR most o' (f (partAt (rg lo hi e) cs j))).1 w' ∧ KpR g (X1 g wk bm) u w') :
    Calls Tryz.prog 44 #[.pointer (some ⟨wk, 0, none⟩), nv n p, av lo hi e, hv] u fun x w' => ∃ cs, Cuts (rg lo hi e) cs ∧ x = .returned (.bool (tellR most out ((partsN (rg lo hi e) cs cs.length).flatMap f)).2) ∧ T (tellR most out ((partsN (rg lo hi e) cs cs.length).flatMap f)).1 w' ∧ KpR g (X1 g wk bm) u w' := by
  have hg := hT.lg _ _ hS
  have hwk := hT.lw _ _ hS
  have hbm := hT.lb _ _ hS
  have hrow := hT.row _ _ hS
  have HP := hid (fun u (hu : T out u) => parts100 n p lo hi e u hfew hks (hL out u hu) hr)
  obtain ⟨W, HW⟩ : ∃ u', Hid ((u.alloc (.cells #[.bool n.leaf, .slice p.a1 n.ps.length p.c1, .slice p.a2 n.pv.length p.c2, .slice p.a3 n.ks.length p.c3, .slice p.a4 n.bf.length p.c4] 46)).alloc (.cells #[.string lo, .string hi, .bool e] 25) = u') := ⟨_, hid rfl⟩
  have hb1 : Below u.heap.size u W := by rw [← HW.out]; exact (below_box _ _).alloc (by simp) _
  have N1 : NBox W u.heap.size (.bool n.leaf) (.slice p.a1 n.ps.length p.c1) (.slice p.a2 n.pv.length p.c2) (.slice p.a3 n.ks.length p.c3) (.slice p.a4 n.bf.length p.c4) := by
    rw [← HW.out]
    exact (NBox.new u _ _ _ _ _).alloc _
  have R1 : Box W (u.heap.size + 1) (.string lo) (.string hi) (.bool e) := by
    rw [← HW.out]
    have := Box.new (u.alloc (.cells #[.bool n.leaf, .slice p.a1 n.ps.length p.c1, .slice p.a2 n.pv.length p.c2, .slice p.a3 n.ks.length p.c3, .slice p.a4 n.bf.length p.c4] 46)) (.string lo) (.string hi) (.bool e)
    rwa [show (u.alloc (.cells #[.bool n.leaf, .slice p.a1 n.ps.length p.c1, .slice p.a2 n.pv.length p.c2, .slice p.a3 n.ks.length p.c3, .slice p.a4 n.bf.length p.c4] 46)).heap.size = u.heap.size + 1 by simp] at this
  have hS1 := hT.later _ _ _ hS hb1
  have HPt := hid hpart
  clear hpart hL hfew hks
  obtain ⟨lf, ps, pv, ks, bf⟩ := n
  obtain ⟨a1, c1, a2, c2, a3, c3, a4, c4⟩ := p
  dsimp only at hlf
  subst hlf
  have HC := hid (HP.out W hS1)
  dsimp only [nv] at HC HPt N1 HW ⊢
  generalize hn1 : ps.length = n1 at *
  generalize hn2 : pv.length = n2 at *
  generalize hn3 : ks.length = n3 at *
  generalize hn4 : bf.length = n4 at *
  clear hn1 hn2 hn3 hn4 HP
  obtain ⟨c0, c1', c2', c3', c4'⟩ := N1.cells
  obtain ⟨r0, r1, r2⟩ := R1.cells
  go_enter Tryz.func44, Tryz.ntmps44
  go_upto_region 1 with fail
  rw [HW.out]
  go_wp2_with fail
  refine HC.out.mono ?_
  clear HC c0 c1' c2' c3' c4' r0 r1 r2
  rintro y w2 ⟨⟨cs, v, rfl, hcut, hcin, hcl, hO⟩, hb2⟩
  obtain ⟨P, HPP⟩ : ∃ P, Hid (partsN (rg lo hi e) cs cs.length = P) := ⟨_, hid rfl⟩
  rw [HPP.out] at hO
  have hPl : P.length = cs.length := by rw [← HPP.out, partsN_len]
  have hPa := hid (fun q (h1 : q < P.length) (h2 : q < cs.length) => (show P[q] = partAt (rg lo hi e) cs q by
    have := HPP.out
    subst this
    exact partsN_at h2))
  have hHP := hid (fun q (h2 : q < cs.length) => HPt.out cs hcut hcin q h2)
  obtain ⟨pa, pc, rfl, hcs⟩ := row_cells rcell 3 (fun _ => rfl) hO
  have hcp := hcut.pos
  rcases hcs with h0 | ⟨b0, rfl, hb0, ⟨cur, hcur⟩, hc0⟩
  · rw [h0] at hPl
    simp at hPl
    omega
  · have hbu := hb1.trans (hb2.mono hb1.size)
    have hS2 := hT.later _ _ _ hS hbu
    have hk2 := KpR.of_below (X := X1 g wk bm) hbu hg
    have hrow2 : ∀ x, rowOf g w2 = some x → x < u.heap.size := fun x hx => hrow x (by rwa [rowOf_same (hbu.block g hg)] at hx)
    have N2 := N1.later hb2
    have hb0u : u.heap.size ≤ b0 := Nat.le_trans hb1.size hb0
    obtain ⟨K, HK⟩ : ∃ m, Hid (P.length = m) := ⟨_, hid rfl⟩
    rw [HK.out] at hPl ⊢
    have HCL := hid hPl
    have HCT := hid hcut
    have hKl : K ≤ 10000 := by omega
    clear hO hPl hcin hcp hcl hb1 hb2 hbu N1 R1 hS1 hcut HPt
    go_wp2_with fail
    go_loopw [23] (fun i wq => ∃ q : Nat, q ≤ K ∧ i = .int .i64 q ∧ ∃ o', Hid (tellR most out ((P.take q).flatMap f) = (o', true)) ∧ T o' wq ∧ KpR g (X1 g wk bm) w2 wq ∧ (o'.length : Int) ≠ most) (fun i _ => K - (intOf i).toNat)
    case atStart => exact ⟨0, Nat.zero_le _, rfl, out, hid rfl, hS2, KpR.refl _ _ _, hne⟩
    case round =>
      clear hS2
      obtain ⟨q, hq, rfl, o', hto, hSq, hkq, hneq⟩ := hrel
      by_cases hqk : q < K
      · have hqP : q < P.length := by rw [HK.out]; exact hqk
        have hqc : q < cs.length := by rw [← HCL.out]; exact hqk
        have hbq := keep1 hkq hcur (by decide) hb0u hg hwk hbm hrow2
        have hNq : NBox wr u.heap.size _ _ _ _ _ := keep1 hkq N2 (by decide) (Nat.le_refl _) hg hwk hbm hrow2
        have hX := hPa.out q hqP hqc
        have hstep := hid (fun o'' b => tell_parts (o'' := o'') (b := b) hqP hto.out)
        have e0 := hc0 q hqP 0 _ (by omega) rfl
        have e1 := hc0 q hqP 1 _ (by omega) rfl
        have e2 := hc0 q hqP 2 _ (by omega) rfl
        rw [hX] at e0 e1 e2 hstep
        rw [show 0 + q * 3 + 0 = q * 3 by omega] at e0
        rw [show 0 + q * 3 + 1 = q * 3 + 1 by omega] at e1
        rw [show 0 + q * 3 + 2 = q * 3 + 2 by omega] at e2
        have hh := hid (hHP.out q hqc o' (by rw [HPP.out]; exact hto.out))
        obtain ⟨X, HX⟩ : ∃ X, Hid (partAt (rg lo hi e) cs q = X) := ⟨_, hid rfl⟩
        rw [HX.out] at e0 e1 e2 hstep hh
        have d0 : wr.cell? ⟨b0, q * 3, none⟩ = some (.string (str X.lo)) := (World.cell?_of_block (w := w2) (a := ⟨b0, q * 3, none⟩) (by show wr.heap[b0]? = w2.heap[b0]?; rw [hbq, hcur])).trans e0
        have d1 : wr.cell? ⟨b0, q * 3 + 1, none⟩ = some (.string (str X.hi)) := (World.cell?_of_block (w := w2) (a := ⟨b0, q * 3 + 1, none⟩) (by show wr.heap[b0]? = w2.heap[b0]?; rw [hbq, hcur])).trans e1
        have d2 : wr.cell? ⟨b0, q * 3 + 2, none⟩ = some (.bool X.e) := (World.cell?_of_block (w := w2) (a := ⟨b0, q * 3 + 2, none⟩) (by show wr.heap[b0]? = w2.heap[b0]?; rw [hbq, hcur])).trans e2
        unfold rv at hh
        obtain ⟨L, HL'⟩ : ∃ m, Hid (str X.lo = m) := ⟨_, hid rfl⟩
        obtain ⟨H, HH'⟩ : ∃ m, Hid (str X.hi = m) := ⟨_, hid rfl⟩
        obtain ⟨E, HE'⟩ : ∃ m, Hid (X.e = m) := ⟨_, hid rfl⟩
        rw [HL'.out] at d0 hh
        rw [HH'.out] at d1 hh
        rw [HE'.out] at d2 hh
        obtain ⟨⟨o'', b⟩, HO⟩ : ∃ z, Hid (tellR most o' (f X) = z) := ⟨_, hid rfl⟩
        have hst := hid (hstep.out o'' b HO.out)
        have hne2 := hid (fun hb => tell_ne (f X) o' hneq hb)
        rw [HO.out] at hh hne2
        have hgq := hT.lg _ _ hSq
        have hb4 := below_box wr (.cells #[.string L, .string H, .bool E] 25)
        have hS4 := hT.later _ _ _ hSq hb4
        have hk4 := hkq.trans (KpR.of_below hb4 hgq)
        have hc := hid (hh.out _ hS4 hneq)
        have hN4 := hNq.later hb4
        obtain ⟨c0, c1', c2', c3', c4'⟩ := hN4.cells
        have hqi : (q : Int) < (K : Int) := by omega
        clear e0 e1 e2 hstep hh hbq hNq hX hqP hqc hb4 hS4 hN4
        go_wp2_with fail
        refine hc.out.mono ?_
        clear hc
        rintro y w7 ⟨rfl, hS7, hk7⟩
        have hk7' := hk2.trans (hk4.trans hk7)
        cases b
        · go_wp2_with fail
          go_ret
          refine ⟨cs, HCT.out, ?_⟩
          rw [HPP.out, tell_ends hst.out]
          exact ⟨rfl, hS7, hk7'⟩
        · go_wp2_with fail
          go_roundw
          case rel => exact ⟨q + 1, by omega, by go_num, _, hst, hS7, hk4.trans hk7, hne2.out trivial⟩
          case measure => simp [intOf]; omega
      · obtain rfl : q = K := by omega
        rw [show P.take q = P by rw [← HK.out, List.take_length]] at hto
        go_wp2_with fail
        go_ret
        refine ⟨cs, HCT.out, ?_⟩
        rw [HPP.out, hto.out]
        exact ⟨rfl, hSq, hk2.trans hkq⟩
set_option maxRecDepth 100000 in
set_option maxHeartbeats 1600000 in
theorem tellLeaf84 (g wk bm : Nat) (most : Int) (hv : Value) (T : List Pr → World → Prop) (hT : Keeps g wk bm T) (n : Nd) (p : Pl) (A : List Pr) (out : List Pr) (lo hi : ByteArray) (e : Bool) (u : World)
    (hS : T out u) (hlf : n.leaf = true)
    (hpairs : ∀ u, T out u → Calls Tryz.prog 65 #[.pointer (some ⟨wk, 0, none⟩), .slice p.a1 n.ps.length p.c1, av lo hi e, hv] u fun x w' => x = .returned (.bool (tellR most out A).2) ∧ T (tellR most out A).1 w' ∧ KpR g (X1 g wk bm) u w') :
    Calls Tryz.prog 44 #[.pointer (some ⟨wk, 0, none⟩), nv n p, av lo hi e, hv] u fun x w' => x = .returned (.bool (tellR most out A).2) ∧ T (tellR most out A).1 w' ∧ KpR g (X1 g wk bm) u w' := by
  have hg := hT.lg _ _ hS
  obtain ⟨W, HW⟩ : ∃ u', Hid ((u.alloc (.cells #[.bool n.leaf, .slice p.a1 n.ps.length p.c1, .slice p.a2 n.pv.length p.c2, .slice p.a3 n.ks.length p.c3, .slice p.a4 n.bf.length p.c4] 46)).alloc (.cells #[.string lo, .string hi, .bool e] 25) = u') := ⟨_, hid rfl⟩
  have hb1 : Below u.heap.size u W := by rw [← HW.out]; exact (below_box _ _).alloc (by simp) _
  have N1 : NBox W u.heap.size (.bool n.leaf) (.slice p.a1 n.ps.length p.c1) (.slice p.a2 n.pv.length p.c2) (.slice p.a3 n.ks.length p.c3) (.slice p.a4 n.bf.length p.c4) := by
    rw [← HW.out]
    exact (NBox.new u _ _ _ _ _).alloc _
  have R1 : Box W (u.heap.size + 1) (.string lo) (.string hi) (.bool e) := by
    rw [← HW.out]
    have := Box.new (u.alloc (.cells #[.bool n.leaf, .slice p.a1 n.ps.length p.c1, .slice p.a2 n.pv.length p.c2, .slice p.a3 n.ks.length p.c3, .slice p.a4 n.bf.length p.c4] 46)) (.string lo) (.string hi) (.bool e)
    rwa [show (u.alloc (.cells #[.bool n.leaf, .slice p.a1 n.ps.length p.c1, .slice p.a2 n.pv.length p.c2, .slice p.a3 n.ks.length p.c3, .slice p.a4 n.bf.length p.c4] 46)).heap.size = u.heap.size + 1 by simp] at this
  have hc := hid (hpairs W (hT.later _ _ _ hS hb1))
  clear hpairs
  obtain ⟨lf, ps, pv, ks, bf⟩ := n
  obtain ⟨a1, c1, a2, c2, a3, c3, a4, c4⟩ := p
  dsimp only at hlf
  subst hlf
  dsimp only [nv] at hc N1 HW ⊢
  generalize hn1 : ps.length = n1 at *
  generalize hn2 : pv.length = n2 at *
  generalize hn3 : ks.length = n3 at *
  generalize hn4 : bf.length = n4 at *
  clear hn1 hn2 hn3 hn4
  obtain ⟨c0, c1', c2', c3', c4'⟩ := N1.cells
  obtain ⟨r0, r1, r2⟩ := R1.cells
  go_enter Tryz.func44, Tryz.ntmps44
  go_upto_region 1 with fail
  rw [HW.out]
  go_wp2_with fail
  refine hc.out.mono ?_
  rintro y w2 ⟨rfl, hS2, hk2⟩
  go_wp2_with fail
  go_ret
  exact ⟨rfl, hS2, (KpR.of_below hb1 hg).trans hk2⟩
end Go.Proofs.YtegmpfmhlpdmhaaGreat.Key

namespace Go.Proofs.YtegmpfmhlpdmhaaGreat.Key
open Go.RowKit
set_option linter.unusedVariables false
set_option linter.unusedSimpArgs false

theorem own_cut {α : Type} (f : α → List Value) (sz : Nat) (hf : ∀ x, (f x).length = sz) {w : World} {B : Nat} {e : TypeId} {a : Option Addr} {c : Nat} {l : List α} {x : α} (h : w.ownsRow B e sz (.slice a (l.length + 1) c) (l ++ [x]).length ((l ++ [x]).flatMap f)) :
    w.ownsRow B e sz (.slice a l.length c) l.length (l.flatMap f) := by
  refine ⟨flat_len f sz hf _, ?_⟩
  rcases h.2 with ⟨_, h0⟩ | ⟨g, cap, cur, e1, hB, hh, hn, hm, hs, ht⟩
  · simp at h0
  · simp only [Value.slice.injEq] at e1
    obtain ⟨rfl, _, rfl⟩ := e1
    rw [List.length_append, List.length_singleton] at hn ht
    refine .inr ⟨g, c, cur, rfl, hB, hh, by omega, hm, hs, ?_⟩
    have h1 : (cur.toList.take ((l.length + 1) * sz)).take (l.length * sz) = cur.toList.take (l.length * sz) := by
      rw [List.take_take, Nat.min_eq_left (Nat.mul_le_mul_right _ (by omega))]
    rw [← h1, ht, List.flatMap_append]
    exact List.take_left' (flat_len f sz hf l)
set_option maxRecDepth 100000 in
theorem info37 : (Tryz.prog.info? 37).map (fun i => (i.zero, i.size, i.bytes)) = some (some (.agg #[.string ⟨#[]⟩, .string ⟨#[]⟩]), 2, 32) := by kernel_rfl
/-- the row of a path, apart from the row of the loop's cell -/
structure PathR (g B : Nat) (u : World) (v : Value) (ps : List Pr) : Prop where
  own : u.ownsRow B 37 2 v ps.length (ps.flatMap Pr.cells)
  off : ∀ b, v.ownBlock = some b → rowOf g u ≠ some b
theorem row_ge {w : World} {B n sz b : Nat} {e : TypeId} {v : Value} {xs : List Value} (h : w.ownsRow B e sz v n xs) (hb : v.ownBlock = some b) : B ≤ b ∧ ∃ cs, w.heap[b]? = some (.cells cs e (0, 0)) := by
  rcases h.2 with ⟨rfl, _⟩ | ⟨g, cap, cur, rfl, hB, hh, _⟩
  · cases hb
  · simp only [Value.ownBlock, Option.some.injEq] at hb
    subst hb
    exact ⟨hB, cur, hh⟩
theorem PathR.later {g B : Nat} {u u' : World} {v : Value} {ps : List Pr} (h : PathR g B u v ps) (hb : Below u.heap.size u u') (hg : g < u.heap.size) : PathR g B u' v ps :=
  ⟨row_later h.own hb, fun b e => by rw [rowOf_same (hb.block g hg)]; exact h.off b e⟩
theorem PathR.cut {g B : Nat} {u : World} {a : Option Addr} {c : Nat} {ps : List Pr} {x : Pr} (h : PathR g B u (.slice a (ps.length + 1) c) (ps ++ [x])) : PathR g B u (.slice a ps.length c) ps :=
  ⟨own_cut Pr.cells 2 (fun _ => rfl) h.own, fun b e => h.off b (by cases a <;> exact e)⟩
/-- a store into the walker -/
theorem KpR.walker {g wk bm i : Nat} {u : World} (v : Value) (hg : wk ≠ g) : KpR g (X1 g wk bm) u (u.setCell ⟨wk, i, none⟩ v) := by
  refine ⟨rfl, rfl, rfl, by simp, ?_, fun x hx => .inl ?_⟩
  · intro b o hb _ hX _
    exact (heap_setCell_other u ⟨wk, i, none⟩ b v (fun e => hX (.inr (.inl e)))).trans hb
  · rwa [rowOf_same (heap_setCell_other u ⟨wk, i, none⟩ g v (fun e => hg e.symm))] at hx
/-- a path's row made longer -/
theorem KpR.path {g wk bm B : Nat} {u u' : World} {v : Value} {n : Nat} {xs : List Value} (h : u.ownsRow B 37 2 v n xs) (hw : u.grownBy u' v.ownBlock) (hg : g < u.heap.size) (hgb : ∀ b, v.ownBlock = some b → b ≠ g) : KpR g (X1 g wk bm) u u' := by
  have hgs : u'.heap[g]? = u.heap[g]? := hw.block g hg (fun e => hgb g e.symm rfl)
  refine ⟨hw.os, hw.tape, hw.output, hw.size, ?_, fun x hx => .inl ?_⟩
  · intro b o hb _ hX _
    refine (hw.block b (Array.getElem?_eq_some_iff.1 hb).1 (fun e => ?_)).trans hb
    obtain ⟨_, cs, hcs⟩ := row_ge h e.symm
    rw [hb] at hcs
    cases hcs
    exact hX (.inr (.inr (.inr ⟨cs, _, rfl⟩)))
  · rwa [rowOf_same hgs] at hx
end Go.Proofs.YtegmpfmhlpdmhaaGreat.Key

namespace Go.Proofs.YtegmpfmhlpdmhaaGreat.Key
open Go.RowKit Draw
set_option linter.unusedVariables false
set_option linter.unusedSimpArgs false

theorem grown_trans {w u u' : World} {row : Option Nat} (h : w.grownBy u row) (h' : u.grownBy u' row) : w.grownBy u' row :=
  ⟨h'.os.trans h.os, h'.tape.trans h.tape, h'.output.trans h.output, Nat.le_trans h.size h'.size, fun k hk hne => (h'.block k (Nat.lt_of_lt_of_le hk h.size) hne).trans (h.block k hk hne)⟩
theorem below_grown {w u : World} (row : Option Nat) (h : Below w.heap.size w u) : w.grownBy u row := ⟨h.os, h.tape, h.output, h.size, fun k hk _ => h.block k hk⟩
/-- one more at a row's end, in a region that draws -/
theorem yOne {α : Type} (f : α → List Value) (sz byt : Nat) (t e : TypeId) (z : Value) (h0 : 0 < sz) (hf : ∀ x, (f x).length = sz) (ht : Tryz.prog.underlying t = some (.slice e)) (info : (Tryz.prog.info? e).map (fun i => (i.zero, i.size, i.bytes)) = some (some z, sz, byt)) (hz : z.cells.size = sz) (hby : byt ≤ 200) (hone : ∀ x, ∀ u ∈ f x, u.oneCell' = true)
    {ops : Array Oper} {o : Oper} {a : Act} {w : World} {K : Value → World → Prop} (hw : Region.wanted o (yielded ops a.tmps) = true) (s x : Operand)
    (ho : o.op = .call { callee := .builtin .append, args := #[s, x], argTypes := #[t, t] })
    (B : Nat) (v : Value) (l : List α) (hs : a.eval s = v) (hown : w.ownsRow B e sz v l.length (l.flatMap f)) (y : α) (k : Nat) (hx : a.eval x = .slice (some ⟨k, 0, none⟩) 1 1) (hc : ∀ j u, (f y)[j]? = some u → w.cell? ⟨k, j, none⟩ = some u) (hsz : l.length ≤ 90000) (hB : B ≤ w.heap.size)
    (h : ∀ v' w', w'.ownsRow B e sz v' (l ++ [y]).length ((l ++ [y]).flatMap f) → w.grownBy w' v.ownBlock → K v' w') : opYields Tryz.prog ops o a w K := by
  obtain ⟨i0, hi, hz0, hz1, hz2⟩ := info_parts info
  have hk : (l.length + 1) * byt ≤ 100000 * 200 := Nat.mul_le_mul (by omega) hby
  refine opYields_append hw s x t ho B e i0 z sz byt ht hi hz0 hz1 hz2 hz h0 v _ _ hs hown ⟨k, 0, none⟩ 1 1 (f y) hx (by rw [hf]; omega) ?_ (hone y) (by unfold maxLen; omega) (by omega) hB ?_
  · intro j u hu
    rw [add_plain, Nat.zero_add]
    exact hc j u hu
  · intro v' w' h1 h2
    refine h v' w' ?_ h2
    rw [List.length_append, List.flatMap_append, List.flatMap_cons, List.flatMap_nil, List.append_nil]
    exact h1
theorem row_len {w : World} {B : Nat} {e : TypeId} {sz : Nat} {a : Option Addr} {d c n : Nat} {xs : List Value} (h : w.ownsRow B e sz (.slice a d c) n xs) : d = n := by
  rcases h.2 with ⟨e, h0⟩ | ⟨g, cap, cur, e, _⟩
  · simp only [Value.slice.injEq] at e
    omega
  · simp only [Value.slice.injEq] at e
    exact e.2.1
end Go.Proofs.YtegmpfmhlpdmhaaGreat.Key

namespace Go.Proofs.YtegmpfmhlpdmhaaGreat.Key
open Go.RowKit Go.Proofs.YtegmpfmhlpdmhaaGreat.Draw
set_option linter.unusedVariables false
set_option linter.unusedSimpArgs false

def ERaw (w : World) (k : Nat) : Prop := w.heap[k]? = some (.cells #[.int .u32 0, .int .u16 0, .string ⟨#[]⟩, .string ⟨#[]⟩] 39 (0, 0))
theorem part_a {W w1 : World} {b o : Nat} {x : E} (h : Four W b o x) (hb : Below W.drew.heap.size W.drew w1) : Four w1 b o x ∧ Below W.heap.size W w1 := by
  have hb' : Below W.heap.size W w1 := ((Below.refl _ _).drew : Below W.heap.size W W.drew).trans hb
  exact ⟨h.later hb', hb'⟩
theorem part_b {W w1 : World} {b o : Nat} {x : E} (h : Four W b o x) (hb : Below (W.alloc (.cells #[.int .u32 0, .int .u16 0, .string ⟨#[]⟩, .string ⟨#[]⟩] 39)).drew.heap.size (W.alloc (.cells #[.int .u32 0, .int .u16 0, .string ⟨#[]⟩, .string ⟨#[]⟩] 39)).drew w1) : Four w1 b o x ∧ Below W.heap.size W w1 ∧ ERaw w1 W.heap.size := by
  have h1 := below_box W (.cells #[.int .u32 0, .int .u16 0, .string ⟨#[]⟩, .string ⟨#[]⟩] 39)
  have h2 : Below W.heap.size W (W.alloc (.cells #[.int .u32 0, .int .u16 0, .string ⟨#[]⟩, .string ⟨#[]⟩] 39)).drew := h1.drew
  have hb' := h2.trans (hb.mono h2.size)
  refine ⟨h.later hb', hb', ?_⟩
  have hn := Go.heap_alloc_new W (.cells #[.int .u32 0, .int .u16 0, .string ⟨#[]⟩, .string ⟨#[]⟩] 39)
  exact (hb.block W.heap.size (Array.getElem?_eq_some_iff.1 hn).1).trans hn
theorem part_new {W w1 : World} (x : E) (hb : Below W.heap.size W w1) : ∃ k, (Value.pointer (some ⟨w1.heap.size, 0, none⟩)) = .pointer (some ⟨k, 0, none⟩) ∧ W.heap.size ≤ k ∧ EBox (w1.alloc (.cells #[.int .u32 x.blk, .int .u16 x.deep, .string x.strip, .string x.add] 39)) k x ∧ Below W.heap.size W (w1.alloc (.cells #[.int .u32 x.blk, .int .u16 x.deep, .string x.strip, .string x.add] 39)) :=
  ⟨_, rfl, hb.size, EBox.new _ _, hb.alloc hb.size _⟩
theorem part_put4 {W w1 : World} {k : Nat} (x : E) (hr : ERaw w1 k) (hk : W.heap.size ≤ k) (hb : Below W.heap.size W w1) :
    W.heap.size ≤ k ∧ EBox ((((w1.setCell ⟨k, 0, none⟩ (.int .u32 x.blk)).setCell ⟨k, 1, none⟩ (.int .u16 x.deep)).setCell ⟨k, 2, none⟩ (.string x.strip)).setCell ⟨k, 3, none⟩ (.string x.add)) k x ∧ Below W.heap.size W ((((w1.setCell ⟨k, 0, none⟩ (.int .u32 x.blk)).setCell ⟨k, 1, none⟩ (.int .u16 x.deep)).setCell ⟨k, 2, none⟩ (.string x.strip)).setCell ⟨k, 3, none⟩ (.string x.add)) :=
  ⟨hk, Go.Joins.block_setCell (Go.Joins.block_setCell (Go.Joins.block_setCell (Go.Joins.block_setCell hr _) _) _) _, (((hb.setCell (p := ⟨k, 0, none⟩) hk _).setCell (p := ⟨k, 1, none⟩) hk _).setCell (p := ⟨k, 2, none⟩) hk _).setCell (p := ⟨k, 3, none⟩) hk _⟩
theorem ERaw.free {w : World} {k : Nat} (h : ERaw w k) (i : Nat) : w.frozen? ⟨k, i, none⟩ = false := frozen_of_row _ _ i _ _ h
theorem ERaw.cells {w : World} {k : Nat} (h : ERaw w k) : w.cell? ⟨k, 0, none⟩ = some (.int .u32 0) ∧ w.cell? ⟨k, 1, none⟩ = some (.int .u16 0) ∧ w.cell? ⟨k, 2, none⟩ = some (.string ⟨#[]⟩) ∧ w.cell? ⟨k, 3, none⟩ = some (.string ⟨#[]⟩) :=
  ⟨cell_of_row _ _ 0 _ _ _ h, cell_of_row _ _ 1 _ _ _ h, cell_of_row _ _ 2 _ _ _ h, cell_of_row _ _ 3 _ _ _ h⟩
theorem pair_each {w : World} {k : Nat} {s d : ByteArray} (h : Pair w k (.string s) (.string d)) : ∀ j u, (Pr.cells ⟨s, d⟩)[j]? = some u → w.cell? ⟨k, j, none⟩ = some u := by
  intro j u hu
  obtain ⟨h0, h1⟩ := h.cells
  have hj : j < 2 := by have := (List.getElem?_eq_some_iff.1 hu).1; simpa [Pr.cells] using this
  match j, hj with
  | 0, _ => rw [← hu]; exact h0
  | 1, _ => rw [← hu]; exact h1
/-- a row of the path, apart from the loop's: what is known of the walker -/
structure Walks (g wk bm B : Nat) (most : Int) (c1 c2 : Value) (T : Value → List Pr → World → Prop) : Prop where
  hears : ∀ v, Hears g wk most c1 c2 (T v)
  lw : ∀ v out u, T v out u → wk < u.heap.size
  lb : ∀ v out u, T v out u → bm < u.heap.size
  cell : ∀ v out u, T v out u → ∃ c0 c1 c3, u.heap[wk]? = some (.cells #[c0, c1, v, c3] 77 (0, 0))
  rowT : ∀ v out u, T v out u → ∀ x, rowOf g u = some x → ∃ cs m, u.heap[x]? = some (.cells cs 50 m)
  grow : ∀ v out u u' b, T v out u → u.grownBy u' b → (∀ x, b = some x → B ≤ x ∧ rowOf g u ≠ some x ∧ ∃ cs m, u.heap[x]? = some (.cells cs 37 m)) → T v out u'
  put : ∀ v v' out u, T v out u → T v' out (u.setCell ⟨wk, 2, none⟩ v')
  gB : g < B
  lB : ∀ v out u, T v out u → B ≤ u.heap.size
  ne : wk ≠ g
theorem Walks.keeps {g wk bm B : Nat} {most : Int} {c1 c2 : Value} {T : Value → List Pr → World → Prop} (h : Walks g wk bm B most c1 c2 T) (v : Value) : Keeps g wk bm (T v) :=
  ⟨(h.hears v).later, (h.hears v).lt, h.lw v, h.lb v, (h.hears v).row⟩
theorem Walks.cells {g wk bm B : Nat} {most : Int} {c1 c2 : Value} {T : Value → List Pr → World → Prop} (h : Walks g wk bm B most c1 c2 T) {v : Value} {out : List Pr} {u : World} (hT : T v out u) : u.cell? ⟨wk, 2, none⟩ = some v ∧ ∀ i, u.frozen? ⟨wk, i, none⟩ = false := by
  obtain ⟨c0, c1', c3, hc⟩ := h.cell _ _ _ hT
  exact ⟨cell_of_row _ _ 2 _ _ _ hc, fun i => frozen_of_row _ _ i _ _ hc⟩
/-- a path kept by whatever leaves it alone -/
theorem PathR.kept {g wk B : Nat} {u u' : World} {v : Value} {ps : List Pr} (h : PathR g B u v ps) (hk : KpR g (X0 g wk) u u') (hg : g < B) (hw : ∀ b, v.ownBlock = some b → b ≠ wk) : PathR g B u' v ps := by
  refine ⟨⟨h.own.1, ?_⟩, fun b hb => ?_⟩
  · rcases h.own.2 with h2 | ⟨b, cap, cur, e1, hB, hh, r⟩
    · exact .inl h2
    · refine .inr ⟨b, cap, cur, e1, hB, ?_, r⟩
      have hob : v.ownBlock = some b := by rw [e1]; rfl
      exact (hk.keep hh (.inl rfl) (by rintro (e' | e'); omega; exact hw b hob e') (h.off b hob)).1
  · obtain ⟨hB, cs, hcs⟩ := row_ge h.own hb
    exact (hk.keep hcs (.inl rfl) (by rintro (e' | e'); omega; exact hw b hb e') (h.off b hb)).2
/-- a store into the walker leaves a path's row -/
theorem PathR.walker {g B wk i : Nat} {u : World} {v x : Value} {ps : List Pr} {cs : Array Value} (h : PathR g B u v ps) (hc : u.heap[wk]? = some (.cells cs 77 (0, 0))) (hne : wk ≠ g) : PathR g B (u.setCell ⟨wk, i, none⟩ x) v ps := by
  refine ⟨row_type h.own hc (by decide), fun b hb => ?_⟩
  rw [rowOf_same (heap_setCell_other u ⟨wk, i, none⟩ g x (fun e => hne e.symm))]
  exact h.off b hb
/-- a path made longer -/
theorem PathR.grown {g B : Nat} {u u' : World} {v v' : Value} {ps qs : List Pr} (h : PathR g B u v ps) (hg : g < u.heap.size) (hgB : g < B) (hr : ∀ x, rowOf g u = some x → x < u.heap.size ∧ ∃ cs m, u.heap[x]? = some (.cells cs 50 m)) (hw : u.grownBy u' v.ownBlock) (ho : u'.ownsRow B 37 2 v' qs.length (qs.flatMap Pr.cells)) : PathR g B u' v' qs := by
  have hgs : u'.heap[g]? = u.heap[g]? := hw.block g hg (fun e => by have := (row_ge h.own e.symm).1; omega)
  refine ⟨ho, fun b hb => ?_⟩
  rw [rowOf_same hgs]
  intro e
  obtain ⟨hx, cs, m, hcs⟩ := hr b e
  obtain ⟨_, cs', hcs'⟩ := row_ge ho hb
  have hbv : some b ≠ v.ownBlock := fun e' => h.off b e'.symm e
  rw [hw.block b hx hbv, hcs] at hcs'
  simp only [Option.some.injEq, Obj.cells.injEq] at hcs'
  exact absurd hcs'.2.1 (by decide)
theorem PathR.mem {g B : Nat} {u : World} {v : Value} {ps : List Pr} (h : PathR g B u v ps) : ∃ a c, v = .slice a ps.length c ∧ ps.length ≤ c ∧ c ≤ maxLen ∧ Prs u a ps := by
  obtain ⟨a, c, e, hc⟩ := row_cells Pr.cells 2 (fun _ => rfl) h.own
  refine ⟨a, c, e, ?_, ?_, ?_⟩
  · rcases h.own.2 with ⟨e1, h0⟩ | ⟨b, cap, cur, e1, _, _, h1, _⟩
    · omega
    · rw [e] at e1; simp only [Value.slice.injEq] at e1; omega
  · rcases h.own.2 with ⟨e1, h0⟩ | ⟨b, cap, cur, e1, _, _, _, h2, _⟩
    · rw [e] at e1; simp only [Value.slice.injEq] at e1; unfold maxLen; omega
    · rw [e] at e1; simp only [Value.slice.injEq] at e1; omega
  · rcases hc with h0 | ⟨b, rfl, _, _, hc⟩
    · exact .inl h0
    · refine .inr ⟨b, 0, rfl, fun i hi => ?_⟩
      have e0 := hc i hi 0 (.string ps[i].key) (by omega) rfl
      have e1 := hc i hi 1 (.string ps[i].val) (by omega) rfl
      exact ⟨by rw [Nat.add_zero] at e0; exact e0, e1⟩
theorem snoc_len {ps : List Pr} (x : Pr) : (ps ++ [x]).length = ps.length + 1 := by simp

/-- what is told of a place to which an edge leads -/
def ToldBy (g wk bm B : Nat) (most : Int) (hv : Value) (T : Value → List Pr → World → Prop) (ps : List Pr) (r : Rng) (out A : List Pr) (x : E) : Prop :=
  x.strip.size ≤ 100000 ∧ x.add.size ≤ 100000 ∧ ∀ v' u', T v' out u' → PathR g B u' v' (ps ++ [⟨x.strip, x.add⟩]) →
    Calls Tryz.prog 24 #[.pointer (some ⟨wk, 0, none⟩), .agg #[.int .u32 x.blk, .string (str (overR (lf x.strip x.add) r).lo), .string (str (overR (lf x.strip x.add) r).hi), .bool (overR (lf x.strip x.add) r).e], hv] u' fun y w' =>
      y = .returned (.bool (tellR most out A).2) ∧ (∃ v'', T v'' (tellR most out A).1 w' ∧ PathR g B w' v'' (ps ++ [⟨x.strip, x.add⟩])) ∧ KpR g (X1 g wk bm) u' w'

set_option maxRecDepth 100000 in
set_option maxHeartbeats 4000000 in
theorem tellPart101 (g wk bm B : Nat) (most : Int) (d1 d2 : Value) (T : Value → List Pr → World → Prop) (hT : Walks g wk bm B most d1 d2 T) (n : Nd) (p : Pl) (ps : List Pr) (v : Value) (out A : List Pr) (lo hi : ByteArray) (e : Bool) (u : World)
    (hS : T v out u) (hp : PathR g B u v ps) (hne : (out.length : Int) ≠ most) (hol : out.length ≤ 10000) (hpl : ps.length ≤ 900) (hpz : ∀ q ∈ ps, q.key.size ≤ 16 ∧ q.val.size ≤ 16) (hlo : lo.size ≤ 100000) (hhi : hi.size ≤ 100000)
    (hfew : Few n) (hks : ∀ m ∈ n.bf, m.key.size ≤ 1000) (hL : ∀ v out u, T v out u → Lies u n p) (i : Nat) (hi0 : kidI n.pv n.ks.length lo.data.toList = (i : Int)) (hi1 : i < n.ks.length)
    (hput : 0 ≤ lastI n.bf lo.data.toList → (n.bf.getD (lastI n.bf lo.data.toList).toNat M.nil).kind = 1 → A = (restL [⟨(n.bf.getD (lastI n.bf lo.data.toList).toNat M.nil).key, (n.bf.getD (lastI n.bf lo.data.toList).toNat M.nil).val⟩] (rg lo hi e)).map (backP (ps.map lfP)) ∧ Comes (ps.map lfP) (rg lo hi e))
    (hdel : 0 ≤ lastI n.bf lo.data.toList → (n.bf.getD (lastI n.bf lo.data.toList).toNat M.nil).kind = 2 → A = [])
    (hgo : ∀ m : M, m = n.bf.getD (lastI n.bf lo.data.toList).toNat M.nil → 0 ≤ lastI n.bf lo.data.toList → m.kind ≠ 1 → m.kind ≠ 2 → ToldBy g wk bm B most (.func (.func 25) #[] #[d1, d2]) T ps (rg lo hi e) out A ⟨m.blk, 0, m.key, m.add⟩)
    (hkid : ¬ 0 ≤ lastI n.bf lo.data.toList → ∀ x, n.ks[i]? = some x → ToldBy g wk bm B most (.func (.func 25) #[] #[d1, d2]) T ps (rg lo hi e) out A x) :
    Calls Tryz.prog 67 #[.pointer (some ⟨wk, 0, none⟩), nv n p, av lo hi e, .func (.func 25) #[] #[d1, d2]] u fun x w' => x = .returned (.bool (tellR most out A).2) ∧ (∃ v', T v' (tellR most out A).1 w' ∧ PathR g B w' v' ps) ∧ KpR g (X1 g wk bm) u w' := by
  have hg := (hT.keeps v).lg _ _ hS
  obtain ⟨W, HW⟩ : ∃ u', Hid ((u.alloc (.cells #[.bool n.leaf, .slice p.a1 n.ps.length p.c1, .slice p.a2 n.pv.length p.c2, .slice p.a3 n.ks.length p.c3, .slice p.a4 n.bf.length p.c4] 46)).alloc (.cells #[.string lo, .string hi, .bool e] 25) = u') := ⟨_, hid rfl⟩
  have hb1 : Below u.heap.size u W := by rw [← HW.out]; exact (below_box _ _).alloc (by simp) _
  have N1 : NBox W u.heap.size (.bool n.leaf) (.slice p.a1 n.ps.length p.c1) (.slice p.a2 n.pv.length p.c2) (.slice p.a3 n.ks.length p.c3) (.slice p.a4 n.bf.length p.c4) := by
    rw [← HW.out]
    exact (NBox.new u _ _ _ _ _).alloc _
  have R1 : Box W (u.heap.size + 1) (.string lo) (.string hi) (.bool e) := by
    rw [← HW.out]
    have := Box.new (u.alloc (.cells #[.bool n.leaf, .slice p.a1 n.ps.length p.c1, .slice p.a2 n.pv.length p.c2, .slice p.a3 n.ks.length p.c3, .slice p.a4 n.bf.length p.c4] 46)) (.string lo) (.string hi) (.bool e)
    rwa [show (u.alloc (.cells #[.bool n.leaf, .slice p.a1 n.ps.length p.c1, .slice p.a2 n.pv.length p.c2, .slice p.a3 n.ks.length p.c3, .slice p.a4 n.bf.length p.c4] 46)).heap.size = u.heap.size + 1 by simp] at this
  have hSW := (hT.keeps v).later _ _ _ hS hb1
  have hpW := hp.later hb1 hg
  have hrow := (hT.keeps v).row _ _ hS
  have hwk := hT.lw _ _ _ hS
  have hbm := hT.lb _ _ _ hS
  have hkR := KpR.of_below (X := X1 g wk bm) hb1 hg
  have hsW : W.heap.size = u.heap.size + 1 + 1 := by rw [← HW.out]; simp
  have hLW := (hL _ _ _ hS).later hb1
  have HK := hid (fun u (hu : Below W.heap.size W u) => kid23 n p lo u hfew.l2 hfew.l3 (hLW.later hu))
  have HL := hid (fun u (hu : Below W.heap.size W u) => last40' p.a4 p.c4 n.bf lo u (by have := hfew.l4; unfold maxLen; omega) hks (hLW.later hu).h4)
  have HBF := hid (fun u (hu : Below W.heap.size W u) => (hLW.later hu).h4)
  have HKS := hid hks
  obtain ⟨x, HX⟩ : ∃ x, Hid (n.ks[i] = x) := ⟨_, hid rfl⟩
  obtain ⟨kb, ko, hka, hkx⟩ := hLW.h3.at hi1
  rw [HX.out] at hkx
  have HX' : n.ks[i]? = some x := by rw [List.getElem?_eq_getElem hi1, HX.out]
  have HKid := hid (fun h => hkid h x HX')
  have HPut := hid hput
  have HDel := hid hdel
  have HGo := hid hgo
  clear HX HX' hkid hput hdel hgo
  rw [hi0] at HK
  clear hi0 hL hks
  have HN4' := hfew.l4
  clear hfew
  obtain ⟨lf', nps, pv, ks, bf⟩ := n
  obtain ⟨a1, c1, a2, c2, a3, c3, a4, c4⟩ := p
  dsimp only at hka hi1 HL HK HBF HKS HPut HDel HGo HKid HN4'
  subst hka
  dsimp only [nv] at HK N1 HW ⊢
  generalize hn1 : nps.length = n1 at *
  generalize hn2 : pv.length = n2 at *
  generalize hn3 : ks.length = n3 at *
  generalize hn4 : bf.length = n4 at *
  have HN4 := hid hn4
  clear hn1 hn2 hn3 hn4
  go_enter Tryz.func67, Tryz.ntmps67
  go_upto_region 1 with fail
  rw [HW.out]
  have hiI : (i : Int) < (n3 : Int) := by omega
  obtain ⟨c0, c1', c2', c3', c4'⟩ := N1.cells
  obtain ⟨r0, r1, r2⟩ := R1.cells
  obtain ⟨xb, xd, xs, xa⟩ := x
  have hbW : kb < W.heap.size := hkx.lt
  go_cut [9] from 13 to 92 (fun v wx => ∃ k, v = .pointer (some ⟨k, 0, none⟩) ∧ W.heap.size ≤ k ∧ EBox wx k ⟨xb, xd, xs, xa⟩ ∧ Below W.heap.size W wx)
  case first =>
    clear c0 c1' c2' c3' c4' r0 r1 r2
    refine wp_region_last [(some 13, [], false), (some 14, [(0, 13)], false), (some 15, [], false), (some 16, [], false), (some 17, [(3, 16)], false), (some 18, [(2, 15), (4, 17)], false), (some 19, [(1, 14), (5, 18)], false), (some 20, [(6, 19)], true), (some 9, [], true), (none, [(8, 9), (7, 20)], false)]
      (fun u => Below W.heap.size W u) (fun _ u u' => Below u.heap.size u u')
      (fun j v z => match j with | 0 => v = .pointer (some ⟨u.heap.size, 3, none⟩) | 1 => v = .slice (some ⟨kb, ko, none⟩) n3 c3 | 2 => v = .agg #[.bool lf', .slice a1 n1 c1, .slice a2 n2 c2, .slice (some ⟨kb, ko, none⟩) n3 c3, .slice a4 n4 c4] | 3 => v = .pointer (some ⟨u.heap.size + 1, 0, none⟩) | 4 => v = .string lo | 5 => v = .int .i64 i | 6 => v = .pointer (some ⟨kb, ko + i * 4, none⟩) | 7 => v = ev ⟨xb, xd, xs, xa⟩ | 8 => ∃ k, v = .pointer (some ⟨k, 0, none⟩) ∧ EBox z k E.nil ∧ W.heap.size ≤ k | _ => True)
      (by kernel_rfl) (by kernel_rfl) (Below.refl _ _).drew (fun i u u' h h' => h.trans (h'.mono h.size)) (fun i j v u u' hn h h' hv => ?_) [(some 13, [], false), (some 14, [(0, 13)], false), (some 15, [], false), (some 16, [], false), (some 17, [(3, 16)], false), (some 18, [(2, 15), (4, 17)], false), (some 19, [(1, 14), (5, 18)], false), (some 20, [(6, 19)], true), (some 9, [], true)] 9 rfl _ rfl rfl (by kernel_rfl) (by kernel_rfl) ⟨?_, ?_, ?_, ?_, ?_, ?_, ?_, ?_, ?_, trivial⟩ ?_
    · match j with
      | 0 => exact hv
      | 1 => exact hv
      | 2 => exact hv
      | 3 => exact hv
      | 4 => exact hv
      | 5 => exact hv
      | 6 => exact hv
      | 7 => exact hv
      | 8 => obtain ⟨g, e1, e2, e3⟩ := hv; exact ⟨g, e1, e2.later h', e3⟩
      | _ + 9 => trivial
    · rintro z g1
      exact opYields_val _ (by kernel_rfl) (by go_simp) ⟨Below.refl _ _, rfl⟩
    · rintro z g1 _ rfl
      obtain ⟨m0, m1, m2, m3, m4⟩ := (N1.later g1).cells
      exact opYields_val (.slice (some ⟨kb, ko, none⟩) n3 c3) (by kernel_rfl) (by go_simp) ⟨Below.refl _ _, rfl⟩
    · rintro z g1
      obtain ⟨m0, m1, m2, m3, m4⟩ := (N1.later g1).cells
      exact opYields_val (.agg #[.bool lf', .slice a1 n1 c1, .slice a2 n2 c2, .slice (some ⟨kb, ko, none⟩) n3 c3, .slice a4 n4 c4]) (by kernel_rfl) (by go_simp) ⟨Below.refl _ _, rfl⟩
    · rintro z g1
      exact opYields_val _ (by kernel_rfl) (by go_simp) ⟨Below.refl _ _, rfl⟩
    · rintro z g1 _ rfl
      obtain ⟨m0, m1, m2⟩ := (R1.later g1).cells
      exact opYields_val (.string lo) (by kernel_rfl) (by go_simp) ⟨Below.refl _ _, rfl⟩
    · rintro z g1 _ rfl _ rfl
      exact opYields_call 42 #[.agg #[.bool lf', .slice a1 n1 c1, .slice a2 n2 c2, .slice (some ⟨kb, ko, none⟩) n3 c3, .slice a4 n4 c4], .string lo] (by kernel_rfl) (by go_simp) ((HK.out z g1).mono fun x u' ⟨h1, h2⟩ => ⟨_, h1, h2, rfl⟩)
    · rintro z g1 _ rfl _ rfl
      exact opYields_val (.pointer (some ⟨kb, ko + i * 4, none⟩)) (by kernel_rfl) (by go_simp) ⟨Below.refl _ _, rfl⟩
    · rintro z g1 _ rfl
      obtain ⟨d0, d1, d2, d3⟩ := hkx.later g1
      exact opYields_val (ev ⟨xb, xd, xs, xa⟩) (by kernel_rfl) (by go_simp) ⟨Below.refl _ _, rfl⟩
    · rintro z g1
      exact opYields_val (.pointer (some ⟨z.heap.size, 0, none⟩)) (u' := z.alloc (.cells #[.int .u32 0, .int .u16 0, .string ⟨#[]⟩, .string ⟨#[]⟩] 39)) (by kernel_rfl) (by go_simp) ⟨below_box _ _, z.heap.size, rfl, EBox.new z E.nil, g1.size⟩
    · intro z g1 x0 x1 x2 x3 x4 x5 x6 x7 e7 x8 e8
      replace e7 : x7 = ev ⟨xb, xd, xs, xa⟩ := e7
      replace e8 : ∃ k, x8 = .pointer (some ⟨k, 0, none⟩) ∧ EBox z k E.nil ∧ W.heap.size ≤ k := e8
      obtain ⟨k, e8, hE, hgk⟩ := e8
      subst e7 e8
      obtain ⟨z0, z1, z2, z3⟩ := hE.four
      have f := hE.free
      have f0 := f 0
      have f1 := f 1
      have f2 := f 2
      have f3 := f 3
      clear f
      simp only [Nat.zero_add] at z1 z2 z3
      refine Puts.mk ((((z.setCell ⟨k, 0, none⟩ (.int .u32 xb)).setCell ⟨k, 1, none⟩ (.int .u16 xd)).setCell ⟨k, 2, none⟩ (.string xs)).setCell ⟨k, 3, none⟩ (.string xa)) (by kernel_rfl) (by go_simp) ?_
      have E1 := hE.put ⟨xb, xd, xs, xa⟩
      have hb5 := below_four g1 hgk (.int .u32 xb) (.int .u16 xd) (.string xs) (.string xa)
      dsimp only at E1
      clear z0 z1 z2 z3 f0 f1 f2 f3 hE
      simp only [Act.put, List.setIfInBounds_toArray, List.set_cons_zero, List.set_cons_succ]
      go_wp2_with fail
      go_meet
      case rel => exact ⟨k, rfl, hgk, E1, hb5⟩
  case rest =>
    clear c0 c1' c2' c3' c4' r0 r1 r2
    obtain ⟨k, rfl, hkW, hE, hb2⟩ := hcut
    have HLa := hid (HL.out _ hb2)
    obtain ⟨c0, c1', c2', c3', c4'⟩ := (N1.later hb2).cells
    obtain ⟨r0, r1, r2⟩ := (R1.later hb2).cells
    go_wp2_with fail
    refine HLa.out.mono ?_
    rintro y w3 ⟨rfl, hb3⟩
    have hb4 := hb2.trans (hb3.mono hb2.size)
    have hE3 := hE.later hb3
    clear c0 c1' c2' c3' c4' r0 r1 r2 hE HLa
    obtain ⟨c0, c1', c2', c3', c4'⟩ := (N1.later hb4).cells
    obtain ⟨r0, r1, r2⟩ := (R1.later hb4).cells
    generalize hu0 : u.heap.size = u0 at *
    have HU0 := hid hu0
    clear hu0
    have hkw : k ≠ wk := by omega
    rcases lastI_cases bf lo.data.toList with ⟨j, hj1, hj2⟩ | hj
    · rw [hj1] at HPut HDel HGo HKid
      try rw [hj1]
      have hj2' : (j : Int) < (n4 : Int) := by have := HN4.out; omega
      obtain ⟨mb, mo, hma, hm6⟩ := (HBF.out _ hb4).at hj2
      subst hma
      rw [Int.toNat_natCast, getD_at hj2] at HPut HDel HGo
      have HMk := hid (HKS.out _ (List.getElem_mem hj2))
      obtain ⟨m, HM⟩ : ∃ m, Hid (bf[j] = m) := ⟨_, hid rfl⟩
      rw [HM.out] at hm6 HPut HDel HGo HMk
      have hj0 : (0 : Int) ≤ (j : Int) := by omega
      obtain ⟨k1, y1, v1, b1, p1, a1'⟩ := m
      obtain ⟨m0, m1, m2, m3, m4, m5⟩ := hm6
      dsimp only at m0 m1 m2 m3 m4 m5
      have M5 := MBox.new w3 ⟨k1, y1, v1, b1, p1, a1'⟩
      have hE5 := hE3.alloc (.cells #[.int .u8 k1, .string y1, .string v1, .int .u32 b1, .int .u16 p1, .string a1'] 42)
      have hb5 := hb4.alloc hb4.size (.cells #[.int .u8 k1, .string y1, .string v1, .int .u32 b1, .int .u16 p1, .string a1'] 42)
      have hs3 := hb4.size
      dsimp only at M5
      go_upto_region 5 with fail
      clear c0 c1' c2' c3' c4' r0 r1 r2 m0 m1 m2 m3 m4 m5
      generalize hkm : w3.heap.size = km at *
      clear hkm
      generalize w3.alloc (.cells #[.int .u8 k1, .string y1, .string v1, .int .u32 b1, .int .u16 p1, .string a1'] 42) = w5 at *
      obtain ⟨m0, m1, m2, m3, m4, m5⟩ := M5.six
      simp only [Nat.zero_add] at m1 m2 m3 m4 m5
      dsimp only at m0 m1 m2 m3 m4 m5
      have hR5 := R1.later hb5
      have hS5 := (hT.keeps v).later _ _ _ hSW hb5
      have hp5 := hpW.later hb5 (by omega)
      have hk5 := hkR.trans (KpR.of_below (X := X1 g wk bm) hb5 (by omega))
      by_cases e1 : k1 = 1
      case pos =>
        subst e1
        obtain ⟨hA, hcm⟩ := HPut.out hj0 rfl
        try dsimp only at hA
        obtain ⟨pa, pc, rfl, hpc, hpm, hprs⟩ := hp5.mem
        have hP0 := Go.heap_alloc_new w5 (.cells #[.string y1, .string v1] 50)
        have hb6 := below_box w5 (.cells #[.string y1, .string v1] 50)
        obtain ⟨r0, r1, r2⟩ := (hR5.later hb6).cells
        have hS6 := (hT.keeps _).later _ _ _ hS5 hb6
        have hq6 : Prs (w5.alloc (.cells #[.string y1, .string v1] 50)) (some ⟨w5.heap.size, 0, none⟩) [⟨y1, v1⟩] := .inr ⟨_, 0, rfl, fun i hi => by
          have hi' : i = 0 := by simpa using hi
          subst hi'
          exact ⟨cell_of_row _ _ 0 _ _ _ hP0, cell_of_row _ _ 1 _ _ _ hP0⟩⟩
        have HC := hid (tellPairs99 g wk most d1 d2 (T _) (hT.hears _) out (some ⟨w5.heap.size, 0, none⟩) pa 1 pc [⟨y1, v1⟩] ps lo hi e _ hS6 hne hol (by simp) hq6 (fun q hq => by rw [List.mem_singleton.1 hq]; have := HMk.out; dsimp only at this ⊢; omega) (hprs.later hb6) (hT.cells hS6).1 (by omega) hpc hpm hpz hcm)
        rw [← hA] at HC
        have hgu := (hT.keeps _).lg _ _ hS5
        have hk6 := hk5.trans (KpR.of_below (X := X1 g wk bm) hb6 hgu)
        have hp6 := hp5.later hb6 hgu
        have hcw := hT.cell _ _ _ hS6
        clear hP0 hq6 hprs hA hcm
        go_wp2_with fail
        refine HC.out.mono ?_
        rintro y w7 ⟨rfl, hS7, hk7⟩
        have hp7 := hp6.kept hk7 hT.gB (fun b hb e => by
          obtain ⟨_, cs, hcs⟩ := row_ge hp6.own hb
          obtain ⟨z0, z1, z3, hz⟩ := hcw
          rw [← e, hcs] at hz
          simp only [Option.some.injEq, Obj.cells.injEq] at hz
          exact absurd hz.2.1 (by decide))
        have hk8 := hk6.trans (hk7.wide fun b o h => X0.to1 h)
        go_wp2_with fail
        go_ret
        exact ⟨rfl, ⟨_, hS7, hp7⟩, hk8⟩
      case neg =>
      by_cases e2 : k1 = 2
      case pos =>
        subst e2
        have hA := HDel.out hj0 rfl
        subst hA
        go_wp2_with fail
        go_ret
        exact ⟨rfl, ⟨_, hS5, hp5⟩, hk5⟩
      case neg =>
      have hTB := hid (HGo.out _ rfl hj0 e1 e2)
      have e1' : (k1 == 1) = false := by simpa using e1
      have e2' : (k1 == 2) = false := by simpa using e2
      have hd1 : decide (k1 = 1) = false := by simpa using e1
      have hd2 : decide (k1 = 2) = false := by simpa using e2
      clear e1 e2
      obtain ⟨z0, z1, z2, z3⟩ := hE5.four
      simp only [Nat.zero_add] at z1 z2 z3
      dsimp only at z0 z1 z2 z3
      have f := hE5.free
      have f0 := f 0
      have f1 := f 1
      have f2 := f 2
      have f3 := f 3
      clear f
      have hE := hE5.put ⟨b1, 0, y1, a1'⟩
      dsimp only at hE
      have hbX := below_four hb5 hkW (.int .u32 b1) (.int .u16 0) (.string y1) (.string a1')
      go_upto_region 11 with fail
      clear m0 m1 m2 m3 m4 m5 z0 z1 z2 z3 f0 f1 f2 f3 hE5 hE3 hS5 hp5 hk5 M5 hR5
      generalize (((w5.setCell ⟨k, 0, none⟩ (.int .u32 b1)).setCell ⟨k, 1, none⟩ (.int .u16 0)).setCell ⟨k, 2, none⟩ (.string y1)).setCell ⟨k, 3, none⟩ (.string a1') = w6 at *
      have hEr := hE
      have hRx := R1.later hbX
      have hSx := (hT.keeps v).later _ _ _ hSW hbX
      have hpx := hpW.later hbX (by omega)
      have hkx' := hkR.trans (KpR.of_below (X := X1 g wk bm) hbX (by omega))
      have hrx : ∀ x, rowOf g w6 = some x → x < w6.heap.size ∧ ∃ cs m, w6.heap[x]? = some (.cells cs 50 m) := fun x hx => ⟨(hT.keeps v).row _ _ hSx x hx, hT.rowT _ _ _ hSx x hx⟩
      have hwx := hT.lw _ _ _ hSx
      have hsx := hbX.size
      obtain ⟨wc, wf⟩ := hT.cells hSx
      refine wp_region_until [(some 57, [], false), (some 58, [], false), (some 59, [(1, 58)], false), (some 60, [(2, 59)], false), (some 61, [(3, 60)], false), (some 62, [], false), (some 63, [(5, 62)], false), (some 64, [(6, 63)], false), (some 65, [(4, 61), (7, 64)], true), (some 66, [(0, 57)], false), (some 67, [(9, 66)], true), (none, [(10, 67), (8, 65)], false)]
        (fun i u => if 1 ≤ i ∧ i ≤ 8 then Below w6.heap.size w6 u else w6.grownBy u v.ownBlock) (fun i u u' => if i = 8 then u.grownBy u' v.ownBlock else Below u.heap.size u u')
        (fun i Y u => match i with | 0 => Y = .pointer (some ⟨wk, 0, none⟩) | 1 => Y = .pointer (some ⟨wk, 0, none⟩) | 2 => Y = .pointer (some ⟨wk, 0, none⟩) | 3 => Y = .pointer (some ⟨wk, 2, none⟩) | 4 => Y = v ∧ u.ownsRow B 37 2 v ps.length (ps.flatMap Pr.cells) | 5 => Y = .pointer (some ⟨k, 2, none⟩) | 6 => Y = lv y1 a1' | 7 => ∃ g, Y = .slice (some ⟨g, 0, none⟩) 1 1 ∧ Pair u g (.string y1) (.string a1') | 8 => u.ownsRow B 37 2 Y (ps ++ [Pr.mk y1 a1']).length ((ps ++ [Pr.mk y1 a1']).flatMap Pr.cells) | 9 => Y = .pointer (some ⟨wk, 0, none⟩) | 10 => Y = .pointer (some ⟨wk, 2, none⟩) | _ => True)
        (by kernel_rfl) (by kernel_rfl) (fun j => ?_) (fun i j u u' hl hi hj hr => ?_) (fun i j v u u' hn h h' hv => ?_) [(some 57, [], false), (some 58, [], false), (some 59, [(1, 58)], false), (some 60, [(2, 59)], false), (some 61, [(3, 60)], false), (some 62, [], false), (some 63, [(5, 62)], false), (some 64, [(6, 63)], false), (some 65, [(4, 61), (7, 64)], true), (some 66, [(0, 57)], false), (some 67, [(9, 66)], true)] 11 rfl _ rfl rfl (by kernel_rfl) (by kernel_rfl) ⟨?_, ?_, ?_, ?_, ?_, ?_, ?_, ?_, ?_, ?_, ?_, trivial⟩ ?_
      · split
        · exact (Below.refl _ _).drew
        · exact below_grown _ (Below.refl _ _).drew
      · by_cases hia : i = 8
        · subst hia
          have hj2 : ¬ (1 ≤ j ∧ j ≤ 8) := by
            intro hle
            match j, hle, hl with
            | 0, hle, _ => omega
            | 1, _, hl => exact absurd hl (by decide)
            | 2, _, hl => exact absurd hl (by decide)
            | 3, _, hl => exact absurd hl (by decide)
            | 4, _, hl => exact absurd hl (by decide)
            | 5, _, hl => exact absurd hl (by decide)
            | 6, _, hl => exact absurd hl (by decide)
            | 7, _, hl => exact absurd hl (by decide)
            | 8, _, hl => exact absurd hl (by decide)
            | n + 9, hle, _ => omega
          rw [if_pos (by decide)] at hi
          rw [if_neg hj2] at hj ⊢
          rw [if_pos rfl] at hr
          exact grown_trans hj hr
        · rw [if_neg hia] at hr
          split at hj
          · rename_i hle; rw [if_pos hle]; exact hj.trans (hr.mono hj.size)
          · rename_i hle; rw [if_neg hle]; exact grown_trans hj (below_grown _ hr)
      · by_cases hia : i = 8
        · subst hia
          match j with
          | 0 => exact hv
          | 1 => exact absurd hn (by decide)
          | 2 => exact absurd hn (by decide)
          | 3 => exact absurd hn (by decide)
          | 4 => exact absurd hn (by decide)
          | 5 => exact absurd hn (by decide)
          | 6 => exact absurd hn (by decide)
          | 7 => exact absurd hn (by decide)
          | 8 => exact absurd hn (by decide)
          | 9 => exact hv
          | 10 => exact hv
          | _ + 11 => trivial
        · rw [if_neg hia] at h'
          match j with
          | 0 => exact hv
          | 1 => exact hv
          | 2 => exact hv
          | 3 => exact hv
          | 4 => exact ⟨hv.1, row_later hv.2 h'⟩
          | 5 => exact hv
          | 6 => exact hv
          | 7 => obtain ⟨g, e1, e2⟩ := hv; exact ⟨g, e1, e2.later h'⟩
          | 8 => exact row_later hv h'
          | 9 => exact hv
          | 10 => exact hv
          | _ + 11 => trivial
      · rintro u hu
        exact opYields_val _ (by kernel_rfl) (by go_simp) ⟨Below.refl _ _, rfl⟩
      · rintro u hu
        exact opYields_val _ (by kernel_rfl) (by go_simp) ⟨Below.refl _ _, rfl⟩
      · rintro u hu _ rfl
        exact opYields_val (.pointer (some ⟨wk, 0, none⟩)) (by kernel_rfl) (by go_simp) ⟨Below.refl _ _, rfl⟩
      · rintro u hu _ rfl
        exact opYields_val (.pointer (some ⟨wk, 2, none⟩)) (by kernel_rfl) (by go_simp) ⟨Below.refl _ _, rfl⟩
      · rintro u hu _ rfl
        replace hu : Below w6.heap.size w6 u := hu
        have wc' := (hT.cells ((hT.keeps v).later _ _ _ hSx hu)).1
        exact opYields_val v (by kernel_rfl) (by go_simp) ⟨Below.refl _ _, rfl, row_later hpx.own hu⟩
      · rintro u hu
        exact opYields_val _ (by kernel_rfl) (by go_simp) ⟨Below.refl _ _, rfl⟩
      · rintro u hu _ rfl
        replace hu : Below w6.heap.size w6 u := hu
        obtain ⟨m0, m1, m2, m3⟩ := (hE.later hu).four
        simp only [Nat.zero_add] at m1 m2 m3
        dsimp only at m0 m1 m2 m3
        exact opYields_val (lv y1 a1') (by kernel_rfl) (by go_simp) ⟨Below.refl _ _, rfl⟩
      · rintro u hu _ rfl
        exact opYields_val (.slice (some ⟨u.heap.size, 0, none⟩) 1 1) (u' := u.alloc (.cells #[.string y1, .string a1'] 37)) (by kernel_rfl) (by go_simp) ⟨below_box _ _, _, rfl, Pair.new u _ _⟩
      · rintro u hu _ ⟨rfl, h1⟩ _ ⟨g', rfl, hg'⟩
        replace hu : Below w6.heap.size w6 u := hu
        have hBu : B ≤ u.heap.size := by have := hT.lB _ _ _ hSx; have := hu.size; omega
        exact yOne Pr.cells 2 32 75 37 _ (by omega) (fun _ => rfl) Tryz.underlying75 info37 rfl (by omega) oneP (by kernel_rfl) (.tmp 61) (.tmp 64) rfl B _ ps rfl h1 (Pr.mk y1 a1') g' rfl (pair_each hg') (by omega) hBu fun v' w' h2 h3 => ⟨h3, h2⟩
      · rintro u hu _ rfl
        exact opYields_val (.pointer (some ⟨wk, 0, none⟩)) (by kernel_rfl) (by go_simp) ⟨Below.refl _ _, rfl⟩
      · rintro u hu _ rfl
        exact opYields_val (.pointer (some ⟨wk, 2, none⟩)) (by kernel_rfl) (by go_simp) ⟨Below.refl _ _, rfl⟩
      · intro u hu x0 x1 x2 x3 x4 x5 x6 x7 x8 e8 x9 x10 e10
        replace hu : w6.grownBy u v.ownBlock := hu
        replace e10 : x10 = .pointer (some ⟨wk, 2, none⟩) := e10
        replace e8 : u.ownsRow B 37 2 x8 (ps ++ [Pr.mk y1 a1']).length ((ps ++ [Pr.mk y1 a1']).flatMap Pr.cells) := e8
        subst e10
        obtain ⟨sb1, dd1, q1, rfl⟩ := row_slice e8
        have hp1 := hpx.grown (by omega) hT.gB hrx hu e8
        have hS1 := hT.grow _ _ _ _ _ hSx hu (fun x hx => by
          obtain ⟨hB, cs, hcs⟩ := row_ge hpx.own hx
          exact ⟨hB, hpx.off x hx, cs, _, hcs⟩)
        have hk1 := KpR.path (g := g) (wk := wk) (bm := bm) hpx.own hu (by omega) (fun b hb e => by have := (row_ge hpx.own hb).1; have := hT.gB; omega)
        have hEu : EBox u k ⟨b1, _, y1, a1'⟩ := (hu.block k hE.lt (fun e => by
          obtain ⟨_, cs, hcs⟩ := row_ge hpx.own e.symm
          have hq : w6.heap[k]? = _ := hE
          rw [hcs] at hq
          simp only [Option.some.injEq, Obj.cells.injEq] at hq
          exact absurd hq.2.1 (by decide))).trans hE
        have hRu : Box u (u0 + 1) (.string lo) (.string hi) (.bool e) := (hu.block _ hRx.lt (fun e => by
          obtain ⟨_, cs, hcs⟩ := row_ge hpx.own e.symm
          have hq : w6.heap[u0 + 1]? = _ := hRx
          rw [hcs] at hq
          simp only [Option.some.injEq, Obj.cells.injEq] at hq
          exact absurd hq.2.1 (by decide))).trans hRx
        obtain ⟨cc0, cc1, cc3, hcw⟩ := hT.cell _ _ _ hS1
        obtain ⟨y0, wf1⟩ := hT.cells hS1
        have f2 := wf1 2
        refine Puts.mk (u.setCell ⟨wk, 2, none⟩ (.slice sb1 dd1 q1)) (by kernel_rfl) (by go_simp) ?_
        have hS2 := hT.put _ (.slice sb1 dd1 q1) _ _ hS1
        have hp2 := hp1.walker (i := 2) (x := .slice sb1 dd1 q1) hcw hT.ne
        have hk2 := hkx'.trans (hk1.trans (KpR.walker (i := 2) (bm := bm) (.slice sb1 dd1 q1) hT.ne))
        have hE2 : EBox (u.setCell ⟨wk, 2, none⟩ (.slice sb1 dd1 q1)) k ⟨b1, _, y1, a1'⟩ := (heap_setCell_other u ⟨wk, 2, none⟩ k (.slice sb1 dd1 q1) hkw).trans hEu
        have hR2 : Box (u.setCell ⟨wk, 2, none⟩ (.slice sb1 dd1 q1)) (u0 + 1) (.string lo) (.string hi) (.bool e) := (heap_setCell_other u ⟨wk, 2, none⟩ (u0 + 1) (.slice sb1 dd1 q1) (show u0 + 1 ≠ wk by omega)).trans hRu
        clear f2 y0 wf1 hcw hk1 hp1 hS1 e8 hEu hRu hu
        generalize u.setCell ⟨wk, 2, none⟩ (.slice sb1 dd1 q1) = u2 at *
        simp only [Act.put, List.setIfInBounds_toArray, List.set_cons_zero, List.set_cons_succ, List.getElem_toArray, List.getElem_cons_succ, List.getElem_cons_zero]
        go_upto_region 12 with fail
        obtain ⟨hz1, hz2, HTo⟩ := hTB.out
        dsimp only at hz1 hz2 HTo
        have HO := hid (fun wr => over15 y1 a1' lo hi e wr (by omega) (by omega) (by omega) (by omega))
        have HTo := hid HTo
        unfold rv at HO
        generalize str (overR (lf y1 a1') (rg lo hi e)).lo = V0 at *
        generalize str (overR (lf y1 a1') (rg lo hi e)).hi = V1 at *
        generalize (overR (lf y1 a1') (rg lo hi e)).e = V2 at *
        obtain ⟨⟨oR, bR⟩, HR⟩ : ∃ z, Hid (tellR most out A = z) := ⟨_, hid rfl⟩
        rw [HR.out] at HTo
        dsimp only at HTo
        have hg2 := (hT.keeps _).lg _ _ hS2
        refine wp_region_eachI [(some 68, [], false), (some 69, [], false), (some 70, [(1, 69)], false), (some 71, [], false), (some 72, [(3, 71)], false), (some 73, [], false), (some 74, [(4, 72), (5, 73)], false), (some 75, [(2, 70), (6, 74)], false), (some 76, [], false), (some 77, [(0, 68), (7, 75), (8, 76)], true), (some 12, [(9, 77)], true)]
          (fun i z => if i ≤ 9 then Below u2.heap.size u2 z else KpR g (X1 g wk bm) u2 z) (fun i z z' => if i = 9 then KpR g (X1 g wk bm) z z' else Below z.heap.size z z')
          (fun i Y z => match i with | 0 => Y = .pointer (some ⟨wk, 0, none⟩) | 1 => Y = .pointer (some ⟨k, 0, none⟩) | 2 => Y = .int .u32 b1 | 3 => Y = .pointer (some ⟨k, 2, none⟩) | 4 => Y = lv y1 a1' | 5 => Y = av lo hi e | 6 => Y = av V0 V1 V2 | 7 => Y = .agg #[.int .u32 b1, .string V0, .string V1, .bool V2] | 8 => Y = .func (.func 25) #[] #[d1, d2] | 9 => Y = .bool bR ∧ (∃ v'', T v'' oR z ∧ PathR g B z v'' (ps ++ [Pr.mk y1 a1'])) | 10 => Y = .bool bR | _ => True)
          (by kernel_rfl) (by kernel_rfl) (fun j => ?_) (fun i j z z' hl hi hj hr => ?_) (fun i j v z z' hn h h' hv => ?_) ⟨?_, ?_, ?_, ?_, ?_, ?_, ?_, ?_, ?_, ?_, ?_, trivial⟩ ?_
        · split
          · exact (Below.refl _ _).drew
          · exact KpR.of_below (Below.refl _ _).drew hg2
        · by_cases hia : i = 9
          · subst hia
            have hj2 : ¬ j ≤ 9 := by
              intro hle
              match j, hle, hl with
              | 0, _, hl => exact absurd hl (by decide)
              | 1, _, hl => exact absurd hl (by decide)
              | 2, _, hl => exact absurd hl (by decide)
              | 3, _, hl => exact absurd hl (by decide)
              | 4, _, hl => exact absurd hl (by decide)
              | 5, _, hl => exact absurd hl (by decide)
              | 6, _, hl => exact absurd hl (by decide)
              | 7, _, hl => exact absurd hl (by decide)
              | 8, _, hl => exact absurd hl (by decide)
              | 9, _, hl => exact absurd hl (by decide)
              | n + 10, hle, _ => omega
            rw [if_pos (by decide)] at hi
            rw [if_neg hj2] at hj ⊢
            rw [if_pos rfl] at hr
            exact hj.trans hr
          · rw [if_neg hia] at hr
            split at hj
            · rename_i hle; rw [if_pos hle]; exact hj.trans (hr.mono hj.size)
            · rename_i hle; rw [if_neg hle]; exact hj.trans (KpR.of_below hr (Nat.lt_of_lt_of_le hg2 hj.size))
        · by_cases hia : i = 9
          · subst hia
            match j with
            | 0 => exact absurd hn (by decide)
            | 1 => exact absurd hn (by decide)
            | 2 => exact absurd hn (by decide)
            | 3 => exact absurd hn (by decide)
            | 4 => exact absurd hn (by decide)
            | 5 => exact absurd hn (by decide)
            | 6 => exact absurd hn (by decide)
            | 7 => exact absurd hn (by decide)
            | 8 => exact absurd hn (by decide)
            | 9 => exact absurd hn (by decide)
            | 10 => exact hv
            | _ + 11 => trivial
          · rw [if_neg hia] at h'
            match j with
            | 0 => exact hv
            | 1 => exact hv
            | 2 => exact hv
            | 3 => exact hv
            | 4 => exact hv
            | 5 => exact hv
            | 6 => exact hv
            | 7 => exact hv
            | 8 => exact hv
            | 9 => obtain ⟨e1, v'', e2, e3⟩ := hv; exact ⟨e1, v'', (hT.keeps v'').later _ _ _ e2 h', e3.later h' ((hT.keeps v'').lg _ _ e2)⟩
            | 10 => exact hv
            | _ + 11 => trivial
        · rintro z hz
          exact opYields_val _ (by kernel_rfl) (by go_simp) ⟨Below.refl _ _, rfl⟩
        · rintro z hz
          exact opYields_val _ (by kernel_rfl) (by go_simp) ⟨Below.refl _ _, rfl⟩
        · rintro z hz _ rfl
          replace hz : Below u2.heap.size u2 z := hz
          obtain ⟨m0, m1, m2, m3⟩ := (hE2.later hz).four
          dsimp only at m0
          exact opYields_val (.int .u32 b1) (by kernel_rfl) (by go_simp) ⟨Below.refl _ _, rfl⟩
        · rintro z hz
          exact opYields_val _ (by kernel_rfl) (by go_simp) ⟨Below.refl _ _, rfl⟩
        · rintro z hz _ rfl
          replace hz : Below u2.heap.size u2 z := hz
          obtain ⟨m0, m1, m2, m3⟩ := (hE2.later hz).four
          simp only [Nat.zero_add] at m2 m3
          exact opYields_val (lv y1 a1') (by kernel_rfl) (by go_simp) ⟨Below.refl _ _, rfl⟩
        · rintro z hz
          replace hz : Below u2.heap.size u2 z := hz
          obtain ⟨m0, m1, m2⟩ := (hR2.later hz).cells
          exact opYields_val (av lo hi e) (by kernel_rfl) (by go_simp) ⟨Below.refl _ _, rfl⟩
        · rintro z hz _ rfl _ rfl
          exact opYields_call 78 #[lv y1 a1', av lo hi e] (by kernel_rfl) (by go_simp) ((HO.out z).mono fun x u' ⟨h1, h2⟩ => ⟨_, h1, h2, rfl⟩)
        · rintro z hz _ rfl _ rfl
          exact opYields_val (.agg #[.int .u32 b1, .string V0, .string V1, .bool V2]) (by kernel_rfl) (by go_simp) ⟨Below.refl _ _, rfl⟩
        · rintro z hz
          exact opYields_val _ (by kernel_rfl) (by go_simp) ⟨Below.refl _ _, rfl⟩
        · rintro z hz _ rfl _ rfl _ rfl
          replace hz : Below u2.heap.size u2 z := hz
          exact opYields_call 24 #[.pointer (some ⟨wk, 0, none⟩), .agg #[.int .u32 b1, .string V0, .string V1, .bool V2], .func (.func 25) #[] #[d1, d2]] (by kernel_rfl) (by go_simp) ((HTo.out _ z ((hT.keeps _).later _ _ _ hS2 hz) (hp2.later hz hg2)).mono fun x u' ⟨h1, h2, h3⟩ => ⟨_, h1, h3, rfl, h2⟩)
        · rintro z hz _ ⟨rfl, _⟩
          exact opYields_val (.bool bR) (by kernel_rfl) (by go_simp) ⟨Below.refl _ _, rfl⟩
        · rintro z hz x0 x1 x2 x3 x4 x5 x6 x7 x8 x9 h9 x10 h10
          replace hz : KpR g (X1 g wk bm) u2 z := hz
          replace h10 : x10 = .bool bR := h10
          subst h10
          obtain ⟨rfl, v'', hS3, hp3⟩ := h9
          simp only [givingAll, Act.put, List.setIfInBounds_toArray, List.set_cons_zero, List.set_cons_succ]
          obtain ⟨pa, pc, rfl, hpc, hpm, _⟩ := hp3.mem
          rw [snoc_len] at hS3 hp3 hpc
          obtain ⟨wc3, wf3⟩ := hT.cells hS3
          have hk3 := hk2.trans hz
          have hpc' : (ps.length : Int) ≤ (pc : Int) := by omega
          have hpm' : ps.length + 1 ≤ pc := hpc
          clear hz hk2 hE2 hR2 hS2 hp2
          go_upto_region 13 with fail
          refine wp_region_until [(some 78, [], false), (some 79, [], false), (some 80, [(1, 79)], false), (some 81, [(2, 80)], false), (some 82, [(3, 81)], false), (some 83, [], false), (some 84, [(5, 83)], false), (some 85, [(6, 84)], false), (some 86, [(7, 85)], false), (some 87, [(8, 86)], false), (some 88, [(9, 87)], false), (some 89, [(4, 82), (10, 88)], true), (some 90, [(0, 78)], false), (some 91, [(12, 90)], true), (none, [(13, 91), (11, 89)], false)]
            (fun _ y => Below z.heap.size z y) (fun _ y y' => Below y.heap.size y y')
            (fun i Y y => match i with | 0 => Y = .pointer (some ⟨wk, 0, none⟩) | 1 => Y = .pointer (some ⟨wk, 0, none⟩) | 2 => Y = .pointer (some ⟨wk, 0, none⟩) | 3 => Y = .pointer (some ⟨wk, 2, none⟩) | 4 => Y = .slice pa (ps.length + 1) pc | 5 => Y = .pointer (some ⟨wk, 0, none⟩) | 6 => Y = .pointer (some ⟨wk, 0, none⟩) | 7 => Y = .pointer (some ⟨wk, 2, none⟩) | 8 => Y = .slice pa (ps.length + 1) pc | 9 => Y = .int .i64 (ps.length + 1 : Nat) | 10 => Y = .int .i64 ps.length | 11 => Y = .slice pa ps.length pc | 12 => Y = .pointer (some ⟨wk, 0, none⟩) | 13 => Y = .pointer (some ⟨wk, 2, none⟩) | _ => True)
            (by kernel_rfl) (by kernel_rfl) (fun _ => (Below.refl _ _).drew) (fun i j u u' _ h _ h' => h.trans (h'.mono h.size)) (fun i j v u u' hn h h' hv => hv) [(some 78, [], false), (some 79, [], false), (some 80, [(1, 79)], false), (some 81, [(2, 80)], false), (some 82, [(3, 81)], false), (some 83, [], false), (some 84, [(5, 83)], false), (some 85, [(6, 84)], false), (some 86, [(7, 85)], false), (some 87, [(8, 86)], false), (some 88, [(9, 87)], false), (some 89, [(4, 82), (10, 88)], true), (some 90, [(0, 78)], false), (some 91, [(12, 90)], true)] 14 rfl _ rfl rfl (by kernel_rfl) (by kernel_rfl) ⟨?_, ?_, ?_, ?_, ?_, ?_, ?_, ?_, ?_, ?_, ?_, ?_, ?_, ?_, trivial⟩ ?_
          · rintro y hy
            exact opYields_val _ (by kernel_rfl) (by go_simp) ⟨Below.refl _ _, rfl⟩
          · rintro y hy
            exact opYields_val _ (by kernel_rfl) (by go_simp) ⟨Below.refl _ _, rfl⟩
          · rintro y hy _ rfl
            exact opYields_val (.pointer (some ⟨wk, 0, none⟩)) (by kernel_rfl) (by go_simp) ⟨Below.refl _ _, rfl⟩
          · rintro y hy _ rfl
            exact opYields_val (.pointer (some ⟨wk, 2, none⟩)) (by kernel_rfl) (by go_simp) ⟨Below.refl _ _, rfl⟩
          · rintro y hy _ rfl
            replace hy : Below z.heap.size z y := hy
            have wc4 := (hT.cells ((hT.keeps _).later _ _ _ hS3 hy)).1
            exact opYields_val (.slice pa (ps.length + 1) pc) (by kernel_rfl) (by go_simp) ⟨Below.refl _ _, rfl⟩
          · rintro y hy
            exact opYields_val _ (by kernel_rfl) (by go_simp) ⟨Below.refl _ _, rfl⟩
          · rintro y hy _ rfl
            exact opYields_val (.pointer (some ⟨wk, 0, none⟩)) (by kernel_rfl) (by go_simp) ⟨Below.refl _ _, rfl⟩
          · rintro y hy _ rfl
            exact opYields_val (.pointer (some ⟨wk, 2, none⟩)) (by kernel_rfl) (by go_simp) ⟨Below.refl _ _, rfl⟩
          · rintro y hy _ rfl
            replace hy : Below z.heap.size z y := hy
            have wc4 := (hT.cells ((hT.keeps _).later _ _ _ hS3 hy)).1
            exact opYields_val (.slice pa (ps.length + 1) pc) (by kernel_rfl) (by go_simp) ⟨Below.refl _ _, rfl⟩
          · rintro y hy _ rfl
            exact opYields_val (.int .i64 (ps.length + 1 : Nat)) (by kernel_rfl) (by go_simp) ⟨Below.refl _ _, rfl⟩
          · rintro y hy _ rfl
            have hwm : IntKind.i64.wrap (ps.length : Int) = (ps.length : Int) := by rw [IntKind.wrap_i64]; omega
            exact opYields_val (.int .i64 ps.length) (by kernel_rfl) (by go_simp) ⟨Below.refl _ _, rfl⟩
          · rintro y hy _ rfl _ rfl
            exact opYields_val (.slice pa ps.length pc) (by kernel_rfl) (by go_simp) ⟨Below.refl _ _, rfl⟩
          · rintro y hy _ rfl
            exact opYields_val (.pointer (some ⟨wk, 0, none⟩)) (by kernel_rfl) (by go_simp) ⟨Below.refl _ _, rfl⟩
          · rintro y hy _ rfl
            exact opYields_val (.pointer (some ⟨wk, 2, none⟩)) (by kernel_rfl) (by go_simp) ⟨Below.refl _ _, rfl⟩
          · intro y hy x0 x1 x2 x3 x4 x5 x6 x7 x8 x9 x10 x11 e11 x12 x13 e13
            replace hy : Below z.heap.size z y := hy
            replace e11 : x11 = .slice pa ps.length pc := e11
            replace e13 : x13 = .pointer (some ⟨wk, 2, none⟩) := e13
            subst e11 e13
            have hS4 := (hT.keeps _).later _ _ _ hS3 hy
            have hp4 := (hp3.later hy ((hT.keeps _).lg _ _ hS3)).cut
            obtain ⟨cc0, cc1, cc3, hcw⟩ := hT.cell _ _ _ hS4
            obtain ⟨y0, wf1⟩ := hT.cells hS4
            have f2 := wf1 2
            refine Puts.mk (y.setCell ⟨wk, 2, none⟩ (.slice pa ps.length pc)) (by kernel_rfl) (by go_simp) ?_
            have hS5 := hT.put _ (.slice pa ps.length pc) _ _ hS4
            have hp5 := hp4.walker (i := 2) (x := .slice pa ps.length pc) hcw hT.ne
            have hk5 := hk3.trans ((KpR.of_below (X := X1 g wk bm) hy ((hT.keeps _).lg _ _ hS3)).trans (KpR.walker (i := 2) (bm := bm) (.slice pa ps.length pc) hT.ne))
            simp only [Act.put, List.setIfInBounds_toArray, List.set_cons_zero, List.set_cons_succ]
            clear f2 y0 wf1 hcw wc3 wf3
            generalize y.setCell ⟨wk, 2, none⟩ (.slice pa ps.length pc) = y2 at *
            go_wp2_with fail
            go_ret
            rw [HR.out]
            exact ⟨rfl, ⟨_, hS5, hp5⟩, hk5⟩
    · rw [hj] at HKid
      try rw [hj]
      have hTB := hid (HKid.out (by omega))
      have hEr := hE3
      have hbX := hb4
      have hRx := R1.later hb4
      go_upto_region 11 with fail
      clear c0 c1' c2' c3' c4' r0 r1 r2
      have hE := hE3
      have hSx := (hT.keeps v).later _ _ _ hSW hbX
      have hpx := hpW.later hbX (by omega)
      have hkx' := hkR.trans (KpR.of_below (X := X1 g wk bm) hbX (by omega))
      have hrx : ∀ x, rowOf g w3 = some x → x < w3.heap.size ∧ ∃ cs m, w3.heap[x]? = some (.cells cs 50 m) := fun x hx => ⟨(hT.keeps v).row _ _ hSx x hx, hT.rowT _ _ _ hSx x hx⟩
      have hwx := hT.lw _ _ _ hSx
      have hsx := hbX.size
      obtain ⟨wc, wf⟩ := hT.cells hSx
      refine wp_region_until [(some 57, [], false), (some 58, [], false), (some 59, [(1, 58)], false), (some 60, [(2, 59)], false), (some 61, [(3, 60)], false), (some 62, [], false), (some 63, [(5, 62)], false), (some 64, [(6, 63)], false), (some 65, [(4, 61), (7, 64)], true), (some 66, [(0, 57)], false), (some 67, [(9, 66)], true), (none, [(10, 67), (8, 65)], false)]
        (fun i u => if 1 ≤ i ∧ i ≤ 8 then Below w3.heap.size w3 u else w3.grownBy u v.ownBlock) (fun i u u' => if i = 8 then u.grownBy u' v.ownBlock else Below u.heap.size u u')
        (fun i Y u => match i with | 0 => Y = .pointer (some ⟨wk, 0, none⟩) | 1 => Y = .pointer (some ⟨wk, 0, none⟩) | 2 => Y = .pointer (some ⟨wk, 0, none⟩) | 3 => Y = .pointer (some ⟨wk, 2, none⟩) | 4 => Y = v ∧ u.ownsRow B 37 2 v ps.length (ps.flatMap Pr.cells) | 5 => Y = .pointer (some ⟨k, 2, none⟩) | 6 => Y = lv xs xa | 7 => ∃ g, Y = .slice (some ⟨g, 0, none⟩) 1 1 ∧ Pair u g (.string xs) (.string xa) | 8 => u.ownsRow B 37 2 Y (ps ++ [Pr.mk xs xa]).length ((ps ++ [Pr.mk xs xa]).flatMap Pr.cells) | 9 => Y = .pointer (some ⟨wk, 0, none⟩) | 10 => Y = .pointer (some ⟨wk, 2, none⟩) | _ => True)
        (by kernel_rfl) (by kernel_rfl) (fun j => ?_) (fun i j u u' hl hi hj hr => ?_) (fun i j v u u' hn h h' hv => ?_) [(some 57, [], false), (some 58, [], false), (some 59, [(1, 58)], false), (some 60, [(2, 59)], false), (some 61, [(3, 60)], false), (some 62, [], false), (some 63, [(5, 62)], false), (some 64, [(6, 63)], false), (some 65, [(4, 61), (7, 64)], true), (some 66, [(0, 57)], false), (some 67, [(9, 66)], true)] 11 rfl _ rfl rfl (by kernel_rfl) (by kernel_rfl) ⟨?_, ?_, ?_, ?_, ?_, ?_, ?_, ?_, ?_, ?_, ?_, trivial⟩ ?_
      · split
        · exact (Below.refl _ _).drew
        · exact below_grown _ (Below.refl _ _).drew
      · by_cases hia : i = 8
        · subst hia
          have hj2 : ¬ (1 ≤ j ∧ j ≤ 8) := by
            intro hle
            match j, hle, hl with
            | 0, hle, _ => omega
            | 1, _, hl => exact absurd hl (by decide)
            | 2, _, hl => exact absurd hl (by decide)
            | 3, _, hl => exact absurd hl (by decide)
            | 4, _, hl => exact absurd hl (by decide)
            | 5, _, hl => exact absurd hl (by decide)
            | 6, _, hl => exact absurd hl (by decide)
            | 7, _, hl => exact absurd hl (by decide)
            | 8, _, hl => exact absurd hl (by decide)
            | n + 9, hle, _ => omega
          rw [if_pos (by decide)] at hi
          rw [if_neg hj2] at hj ⊢
          rw [if_pos rfl] at hr
          exact grown_trans hj hr
        · rw [if_neg hia] at hr
          split at hj
          · rename_i hle; rw [if_pos hle]; exact hj.trans (hr.mono hj.size)
          · rename_i hle; rw [if_neg hle]; exact grown_trans hj (below_grown _ hr)
      · by_cases hia : i = 8
        · subst hia
          match j with
          | 0 => exact hv
          | 1 => exact absurd hn (by decide)
          | 2 => exact absurd hn (by decide)
          | 3 => exact absurd hn (by decide)
          | 4 => exact absurd hn (by decide)
          | 5 => exact absurd hn (by decide)
          | 6 => exact absurd hn (by decide)
          | 7 => exact absurd hn (by decide)
          | 8 => exact absurd hn (by decide)
          | 9 => exact hv
          | 10 => exact hv
          | _ + 11 => trivial
        · rw [if_neg hia] at h'
          match j with
          | 0 => exact hv
          | 1 => exact hv
          | 2 => exact hv
          | 3 => exact hv
          | 4 => exact ⟨hv.1, row_later hv.2 h'⟩
          | 5 => exact hv
          | 6 => exact hv
          | 7 => obtain ⟨g, e1, e2⟩ := hv; exact ⟨g, e1, e2.later h'⟩
          | 8 => exact row_later hv h'
          | 9 => exact hv
          | 10 => exact hv
          | _ + 11 => trivial
      · rintro u hu
        exact opYields_val _ (by kernel_rfl) (by go_simp) ⟨Below.refl _ _, rfl⟩
      · rintro u hu
        exact opYields_val _ (by kernel_rfl) (by go_simp) ⟨Below.refl _ _, rfl⟩
      · rintro u hu _ rfl
        exact opYields_val (.pointer (some ⟨wk, 0, none⟩)) (by kernel_rfl) (by go_simp) ⟨Below.refl _ _, rfl⟩
      · rintro u hu _ rfl
        exact opYields_val (.pointer (some ⟨wk, 2, none⟩)) (by kernel_rfl) (by go_simp) ⟨Below.refl _ _, rfl⟩
      · rintro u hu _ rfl
        replace hu : Below w3.heap.size w3 u := hu
        have wc' := (hT.cells ((hT.keeps v).later _ _ _ hSx hu)).1
        exact opYields_val v (by kernel_rfl) (by go_simp) ⟨Below.refl _ _, rfl, row_later hpx.own hu⟩
      · rintro u hu
        exact opYields_val _ (by kernel_rfl) (by go_simp) ⟨Below.refl _ _, rfl⟩
      · rintro u hu _ rfl
        replace hu : Below w3.heap.size w3 u := hu
        obtain ⟨m0, m1, m2, m3⟩ := (hE.later hu).four
        simp only [Nat.zero_add] at m1 m2 m3
        dsimp only at m0 m1 m2 m3
        exact opYields_val (lv xs xa) (by kernel_rfl) (by go_simp) ⟨Below.refl _ _, rfl⟩
      · rintro u hu _ rfl
        exact opYields_val (.slice (some ⟨u.heap.size, 0, none⟩) 1 1) (u' := u.alloc (.cells #[.string xs, .string xa] 37)) (by kernel_rfl) (by go_simp) ⟨below_box _ _, _, rfl, Pair.new u _ _⟩
      · rintro u hu _ ⟨rfl, h1⟩ _ ⟨g', rfl, hg'⟩
        replace hu : Below w3.heap.size w3 u := hu
        have hBu : B ≤ u.heap.size := by have := hT.lB _ _ _ hSx; have := hu.size; omega
        exact yOne Pr.cells 2 32 75 37 _ (by omega) (fun _ => rfl) Tryz.underlying75 info37 rfl (by omega) oneP (by kernel_rfl) (.tmp 61) (.tmp 64) rfl B _ ps rfl h1 (Pr.mk xs xa) g' rfl (pair_each hg') (by omega) hBu fun v' w' h2 h3 => ⟨h3, h2⟩
      · rintro u hu _ rfl
        exact opYields_val (.pointer (some ⟨wk, 0, none⟩)) (by kernel_rfl) (by go_simp) ⟨Below.refl _ _, rfl⟩
      · rintro u hu _ rfl
        exact opYields_val (.pointer (some ⟨wk, 2, none⟩)) (by kernel_rfl) (by go_simp) ⟨Below.refl _ _, rfl⟩
      · intro u hu x0 x1 x2 x3 x4 x5 x6 x7 x8 e8 x9 x10 e10
        replace hu : w3.grownBy u v.ownBlock := hu
        replace e10 : x10 = .pointer (some ⟨wk, 2, none⟩) := e10
        replace e8 : u.ownsRow B 37 2 x8 (ps ++ [Pr.mk xs xa]).length ((ps ++ [Pr.mk xs xa]).flatMap Pr.cells) := e8
        subst e10
        obtain ⟨sb1, dd1, q1, rfl⟩ := row_slice e8
        have hp1 := hpx.grown (by omega) hT.gB hrx hu e8
        have hS1 := hT.grow _ _ _ _ _ hSx hu (fun x hx => by
          obtain ⟨hB, cs, hcs⟩ := row_ge hpx.own hx
          exact ⟨hB, hpx.off x hx, cs, _, hcs⟩)
        have hk1 := KpR.path (g := g) (wk := wk) (bm := bm) hpx.own hu (by omega) (fun b hb e => by have := (row_ge hpx.own hb).1; have := hT.gB; omega)
        have hEu : EBox u k ⟨xb, _, xs, xa⟩ := (hu.block k hE.lt (fun e => by
          obtain ⟨_, cs, hcs⟩ := row_ge hpx.own e.symm
          have hq : w3.heap[k]? = _ := hE
          rw [hcs] at hq
          simp only [Option.some.injEq, Obj.cells.injEq] at hq
          exact absurd hq.2.1 (by decide))).trans hE
        have hRu : Box u (u0 + 1) (.string lo) (.string hi) (.bool e) := (hu.block _ hRx.lt (fun e => by
          obtain ⟨_, cs, hcs⟩ := row_ge hpx.own e.symm
          have hq : w3.heap[u0 + 1]? = _ := hRx
          rw [hcs] at hq
          simp only [Option.some.injEq, Obj.cells.injEq] at hq
          exact absurd hq.2.1 (by decide))).trans hRx
        obtain ⟨cc0, cc1, cc3, hcw⟩ := hT.cell _ _ _ hS1
        obtain ⟨y0, wf1⟩ := hT.cells hS1
        have f2 := wf1 2
        refine Puts.mk (u.setCell ⟨wk, 2, none⟩ (.slice sb1 dd1 q1)) (by kernel_rfl) (by go_simp) ?_
        have hS2 := hT.put _ (.slice sb1 dd1 q1) _ _ hS1
        have hp2 := hp1.walker (i := 2) (x := .slice sb1 dd1 q1) hcw hT.ne
        have hk2 := hkx'.trans (hk1.trans (KpR.walker (i := 2) (bm := bm) (.slice sb1 dd1 q1) hT.ne))
        have hE2 : EBox (u.setCell ⟨wk, 2, none⟩ (.slice sb1 dd1 q1)) k ⟨xb, _, xs, xa⟩ := (heap_setCell_other u ⟨wk, 2, none⟩ k (.slice sb1 dd1 q1) hkw).trans hEu
        have hR2 : Box (u.setCell ⟨wk, 2, none⟩ (.slice sb1 dd1 q1)) (u0 + 1) (.string lo) (.string hi) (.bool e) := (heap_setCell_other u ⟨wk, 2, none⟩ (u0 + 1) (.slice sb1 dd1 q1) (show u0 + 1 ≠ wk by omega)).trans hRu
        clear f2 y0 wf1 hcw hk1 hp1 hS1 e8 hEu hRu hu
        generalize u.setCell ⟨wk, 2, none⟩ (.slice sb1 dd1 q1) = u2 at *
        simp only [Act.put, List.setIfInBounds_toArray, List.set_cons_zero, List.set_cons_succ, List.getElem_toArray, List.getElem_cons_succ, List.getElem_cons_zero]
        go_upto_region 12 with fail
        obtain ⟨hz1, hz2, HTo⟩ := hTB.out
        dsimp only at hz1 hz2 HTo
        have HO := hid (fun wr => over15 xs xa lo hi e wr (by omega) (by omega) (by omega) (by omega))
        have HTo := hid HTo
        unfold rv at HO
        generalize str (overR (lf xs xa) (rg lo hi e)).lo = V0 at *
        generalize str (overR (lf xs xa) (rg lo hi e)).hi = V1 at *
        generalize (overR (lf xs xa) (rg lo hi e)).e = V2 at *
        obtain ⟨⟨oR, bR⟩, HR⟩ : ∃ z, Hid (tellR most out A = z) := ⟨_, hid rfl⟩
        rw [HR.out] at HTo
        dsimp only at HTo
        have hg2 := (hT.keeps _).lg _ _ hS2
        refine wp_region_eachI [(some 68, [], false), (some 69, [], false), (some 70, [(1, 69)], false), (some 71, [], false), (some 72, [(3, 71)], false), (some 73, [], false), (some 74, [(4, 72), (5, 73)], false), (some 75, [(2, 70), (6, 74)], false), (some 76, [], false), (some 77, [(0, 68), (7, 75), (8, 76)], true), (some 12, [(9, 77)], true)]
          (fun i z => if i ≤ 9 then Below u2.heap.size u2 z else KpR g (X1 g wk bm) u2 z) (fun i z z' => if i = 9 then KpR g (X1 g wk bm) z z' else Below z.heap.size z z')
          (fun i Y z => match i with | 0 => Y = .pointer (some ⟨wk, 0, none⟩) | 1 => Y = .pointer (some ⟨k, 0, none⟩) | 2 => Y = .int .u32 xb | 3 => Y = .pointer (some ⟨k, 2, none⟩) | 4 => Y = lv xs xa | 5 => Y = av lo hi e | 6 => Y = av V0 V1 V2 | 7 => Y = .agg #[.int .u32 xb, .string V0, .string V1, .bool V2] | 8 => Y = .func (.func 25) #[] #[d1, d2] | 9 => Y = .bool bR ∧ (∃ v'', T v'' oR z ∧ PathR g B z v'' (ps ++ [Pr.mk xs xa])) | 10 => Y = .bool bR | _ => True)
          (by kernel_rfl) (by kernel_rfl) (fun j => ?_) (fun i j z z' hl hi hj hr => ?_) (fun i j v z z' hn h h' hv => ?_) ⟨?_, ?_, ?_, ?_, ?_, ?_, ?_, ?_, ?_, ?_, ?_, trivial⟩ ?_
        · split
          · exact (Below.refl _ _).drew
          · exact KpR.of_below (Below.refl _ _).drew hg2
        · by_cases hia : i = 9
          · subst hia
            have hj2 : ¬ j ≤ 9 := by
              intro hle
              match j, hle, hl with
              | 0, _, hl => exact absurd hl (by decide)
              | 1, _, hl => exact absurd hl (by decide)
              | 2, _, hl => exact absurd hl (by decide)
              | 3, _, hl => exact absurd hl (by decide)
              | 4, _, hl => exact absurd hl (by decide)
              | 5, _, hl => exact absurd hl (by decide)
              | 6, _, hl => exact absurd hl (by decide)
              | 7, _, hl => exact absurd hl (by decide)
              | 8, _, hl => exact absurd hl (by decide)
              | 9, _, hl => exact absurd hl (by decide)
              | n + 10, hle, _ => omega
            rw [if_pos (by decide)] at hi
            rw [if_neg hj2] at hj ⊢
            rw [if_pos rfl] at hr
            exact hj.trans hr
          · rw [if_neg hia] at hr
            split at hj
            · rename_i hle; rw [if_pos hle]; exact hj.trans (hr.mono hj.size)
            · rename_i hle; rw [if_neg hle]; exact hj.trans (KpR.of_below hr (Nat.lt_of_lt_of_le hg2 hj.size))
        · by_cases hia : i = 9
          · subst hia
            match j with
            | 0 => exact absurd hn (by decide)
            | 1 => exact absurd hn (by decide)
            | 2 => exact absurd hn (by decide)
            | 3 => exact absurd hn (by decide)
            | 4 => exact absurd hn (by decide)
            | 5 => exact absurd hn (by decide)
            | 6 => exact absurd hn (by decide)
            | 7 => exact absurd hn (by decide)
            | 8 => exact absurd hn (by decide)
            | 9 => exact absurd hn (by decide)
            | 10 => exact hv
            | _ + 11 => trivial
          · rw [if_neg hia] at h'
            match j with
            | 0 => exact hv
            | 1 => exact hv
            | 2 => exact hv
            | 3 => exact hv
            | 4 => exact hv
            | 5 => exact hv
            | 6 => exact hv
            | 7 => exact hv
            | 8 => exact hv
            | 9 => obtain ⟨e1, v'', e2, e3⟩ := hv; exact ⟨e1, v'', (hT.keeps v'').later _ _ _ e2 h', e3.later h' ((hT.keeps v'').lg _ _ e2)⟩
            | 10 => exact hv
            | _ + 11 => trivial
        · rintro z hz
          exact opYields_val _ (by kernel_rfl) (by go_simp) ⟨Below.refl _ _, rfl⟩
        · rintro z hz
          exact opYields_val _ (by kernel_rfl) (by go_simp) ⟨Below.refl _ _, rfl⟩
        · rintro z hz _ rfl
          replace hz : Below u2.heap.size u2 z := hz
          obtain ⟨m0, m1, m2, m3⟩ := (hE2.later hz).four
          dsimp only at m0
          exact opYields_val (.int .u32 xb) (by kernel_rfl) (by go_simp) ⟨Below.refl _ _, rfl⟩
        · rintro z hz
          exact opYields_val _ (by kernel_rfl) (by go_simp) ⟨Below.refl _ _, rfl⟩
        · rintro z hz _ rfl
          replace hz : Below u2.heap.size u2 z := hz
          obtain ⟨m0, m1, m2, m3⟩ := (hE2.later hz).four
          simp only [Nat.zero_add] at m2 m3
          exact opYields_val (lv xs xa) (by kernel_rfl) (by go_simp) ⟨Below.refl _ _, rfl⟩
        · rintro z hz
          replace hz : Below u2.heap.size u2 z := hz
          obtain ⟨m0, m1, m2⟩ := (hR2.later hz).cells
          exact opYields_val (av lo hi e) (by kernel_rfl) (by go_simp) ⟨Below.refl _ _, rfl⟩
        · rintro z hz _ rfl _ rfl
          exact opYields_call 78 #[lv xs xa, av lo hi e] (by kernel_rfl) (by go_simp) ((HO.out z).mono fun x u' ⟨h1, h2⟩ => ⟨_, h1, h2, rfl⟩)
        · rintro z hz _ rfl _ rfl
          exact opYields_val (.agg #[.int .u32 xb, .string V0, .string V1, .bool V2]) (by kernel_rfl) (by go_simp) ⟨Below.refl _ _, rfl⟩
        · rintro z hz
          exact opYields_val _ (by kernel_rfl) (by go_simp) ⟨Below.refl _ _, rfl⟩
        · rintro z hz _ rfl _ rfl _ rfl
          replace hz : Below u2.heap.size u2 z := hz
          exact opYields_call 24 #[.pointer (some ⟨wk, 0, none⟩), .agg #[.int .u32 xb, .string V0, .string V1, .bool V2], .func (.func 25) #[] #[d1, d2]] (by kernel_rfl) (by go_simp) ((HTo.out _ z ((hT.keeps _).later _ _ _ hS2 hz) (hp2.later hz hg2)).mono fun x u' ⟨h1, h2, h3⟩ => ⟨_, h1, h3, rfl, h2⟩)
        · rintro z hz _ ⟨rfl, _⟩
          exact opYields_val (.bool bR) (by kernel_rfl) (by go_simp) ⟨Below.refl _ _, rfl⟩
        · rintro z hz x0 x1 x2 x3 x4 x5 x6 x7 x8 x9 h9 x10 h10
          replace hz : KpR g (X1 g wk bm) u2 z := hz
          replace h10 : x10 = .bool bR := h10
          subst h10
          obtain ⟨rfl, v'', hS3, hp3⟩ := h9
          simp only [givingAll, Act.put, List.setIfInBounds_toArray, List.set_cons_zero, List.set_cons_succ]
          obtain ⟨pa, pc, rfl, hpc, hpm, _⟩ := hp3.mem
          rw [snoc_len] at hS3 hp3 hpc
          obtain ⟨wc3, wf3⟩ := hT.cells hS3
          have hk3 := hk2.trans hz
          have hpc' : (ps.length : Int) ≤ (pc : Int) := by omega
          have hpm' : ps.length + 1 ≤ pc := hpc
          clear hz hk2 hE2 hR2 hS2 hp2
          go_upto_region 13 with fail
          refine wp_region_until [(some 78, [], false), (some 79, [], false), (some 80, [(1, 79)], false), (some 81, [(2, 80)], false), (some 82, [(3, 81)], false), (some 83, [], false), (some 84, [(5, 83)], false), (some 85, [(6, 84)], false), (some 86, [(7, 85)], false), (some 87, [(8, 86)], false), (some 88, [(9, 87)], false), (some 89, [(4, 82), (10, 88)], true), (some 90, [(0, 78)], false), (some 91, [(12, 90)], true), (none, [(13, 91), (11, 89)], false)]
            (fun _ y => Below z.heap.size z y) (fun _ y y' => Below y.heap.size y y')
            (fun i Y y => match i with | 0 => Y = .pointer (some ⟨wk, 0, none⟩) | 1 => Y = .pointer (some ⟨wk, 0, none⟩) | 2 => Y = .pointer (some ⟨wk, 0, none⟩) | 3 => Y = .pointer (some ⟨wk, 2, none⟩) | 4 => Y = .slice pa (ps.length + 1) pc | 5 => Y = .pointer (some ⟨wk, 0, none⟩) | 6 => Y = .pointer (some ⟨wk, 0, none⟩) | 7 => Y = .pointer (some ⟨wk, 2, none⟩) | 8 => Y = .slice pa (ps.length + 1) pc | 9 => Y = .int .i64 (ps.length + 1 : Nat) | 10 => Y = .int .i64 ps.length | 11 => Y = .slice pa ps.length pc | 12 => Y = .pointer (some ⟨wk, 0, none⟩) | 13 => Y = .pointer (some ⟨wk, 2, none⟩) | _ => True)
            (by kernel_rfl) (by kernel_rfl) (fun _ => (Below.refl _ _).drew) (fun i j u u' _ h _ h' => h.trans (h'.mono h.size)) (fun i j v u u' hn h h' hv => hv) [(some 78, [], false), (some 79, [], false), (some 80, [(1, 79)], false), (some 81, [(2, 80)], false), (some 82, [(3, 81)], false), (some 83, [], false), (some 84, [(5, 83)], false), (some 85, [(6, 84)], false), (some 86, [(7, 85)], false), (some 87, [(8, 86)], false), (some 88, [(9, 87)], false), (some 89, [(4, 82), (10, 88)], true), (some 90, [(0, 78)], false), (some 91, [(12, 90)], true)] 14 rfl _ rfl rfl (by kernel_rfl) (by kernel_rfl) ⟨?_, ?_, ?_, ?_, ?_, ?_, ?_, ?_, ?_, ?_, ?_, ?_, ?_, ?_, trivial⟩ ?_
          · rintro y hy
            exact opYields_val _ (by kernel_rfl) (by go_simp) ⟨Below.refl _ _, rfl⟩
          · rintro y hy
            exact opYields_val _ (by kernel_rfl) (by go_simp) ⟨Below.refl _ _, rfl⟩
          · rintro y hy _ rfl
            exact opYields_val (.pointer (some ⟨wk, 0, none⟩)) (by kernel_rfl) (by go_simp) ⟨Below.refl _ _, rfl⟩
          · rintro y hy _ rfl
            exact opYields_val (.pointer (some ⟨wk, 2, none⟩)) (by kernel_rfl) (by go_simp) ⟨Below.refl _ _, rfl⟩
          · rintro y hy _ rfl
            replace hy : Below z.heap.size z y := hy
            have wc4 := (hT.cells ((hT.keeps _).later _ _ _ hS3 hy)).1
            exact opYields_val (.slice pa (ps.length + 1) pc) (by kernel_rfl) (by go_simp) ⟨Below.refl _ _, rfl⟩
          · rintro y hy
            exact opYields_val _ (by kernel_rfl) (by go_simp) ⟨Below.refl _ _, rfl⟩
          · rintro y hy _ rfl
            exact opYields_val (.pointer (some ⟨wk, 0, none⟩)) (by kernel_rfl) (by go_simp) ⟨Below.refl _ _, rfl⟩
          · rintro y hy _ rfl
            exact opYields_val (.pointer (some ⟨wk, 2, none⟩)) (by kernel_rfl) (by go_simp) ⟨Below.refl _ _, rfl⟩
          · rintro y hy _ rfl
            replace hy : Below z.heap.size z y := hy
            have wc4 := (hT.cells ((hT.keeps _).later _ _ _ hS3 hy)).1
            exact opYields_val (.slice pa (ps.length + 1) pc) (by kernel_rfl) (by go_simp) ⟨Below.refl _ _, rfl⟩
          · rintro y hy _ rfl
            exact opYields_val (.int .i64 (ps.length + 1 : Nat)) (by kernel_rfl) (by go_simp) ⟨Below.refl _ _, rfl⟩
          · rintro y hy _ rfl
            have hwm : IntKind.i64.wrap (ps.length : Int) = (ps.length : Int) := by rw [IntKind.wrap_i64]; omega
            exact opYields_val (.int .i64 ps.length) (by kernel_rfl) (by go_simp) ⟨Below.refl _ _, rfl⟩
          · rintro y hy _ rfl _ rfl
            exact opYields_val (.slice pa ps.length pc) (by kernel_rfl) (by go_simp) ⟨Below.refl _ _, rfl⟩
          · rintro y hy _ rfl
            exact opYields_val (.pointer (some ⟨wk, 0, none⟩)) (by kernel_rfl) (by go_simp) ⟨Below.refl _ _, rfl⟩
          · rintro y hy _ rfl
            exact opYields_val (.pointer (some ⟨wk, 2, none⟩)) (by kernel_rfl) (by go_simp) ⟨Below.refl _ _, rfl⟩
          · intro y hy x0 x1 x2 x3 x4 x5 x6 x7 x8 x9 x10 x11 e11 x12 x13 e13
            replace hy : Below z.heap.size z y := hy
            replace e11 : x11 = .slice pa ps.length pc := e11
            replace e13 : x13 = .pointer (some ⟨wk, 2, none⟩) := e13
            subst e11 e13
            have hS4 := (hT.keeps _).later _ _ _ hS3 hy
            have hp4 := (hp3.later hy ((hT.keeps _).lg _ _ hS3)).cut
            obtain ⟨cc0, cc1, cc3, hcw⟩ := hT.cell _ _ _ hS4
            obtain ⟨y0, wf1⟩ := hT.cells hS4
            have f2 := wf1 2
            refine Puts.mk (y.setCell ⟨wk, 2, none⟩ (.slice pa ps.length pc)) (by kernel_rfl) (by go_simp) ?_
            have hS5 := hT.put _ (.slice pa ps.length pc) _ _ hS4
            have hp5 := hp4.walker (i := 2) (x := .slice pa ps.length pc) hcw hT.ne
            have hk5 := hk3.trans ((KpR.of_below (X := X1 g wk bm) hy ((hT.keeps _).lg _ _ hS3)).trans (KpR.walker (i := 2) (bm := bm) (.slice pa ps.length pc) hT.ne))
            simp only [Act.put, List.setIfInBounds_toArray, List.set_cons_zero, List.set_cons_succ]
            clear f2 y0 wf1 hcw wc3 wf3
            generalize y.setCell ⟨wk, 2, none⟩ (.slice pa ps.length pc) = y2 at *
            go_wp2_with fail
            go_ret
            rw [HR.out]
            exact ⟨rfl, ⟨_, hS5, hp5⟩, hk5⟩
end Go.Proofs.YtegmpfmhlpdmhaaGreat.Key

namespace Go.Proofs.YtegmpfmhlpdmhaaGreat.Key
open Go.RowKit Go.Maps
open Go.ChangeMaps (setBlock heap_setBlock_same heap_setBlock_other)
set_option linter.unusedVariables false
set_option linter.unusedSimpArgs false

theorem laid : laidOutB Tryz.prog = true := by kernel_rfl
theorem wide109 : (match Tryz.prog.underlying 80 with | some (.array _ _) | some (.struct _) => true | _ => false) = true := by kernel_rfl
set_option maxRecDepth 100000 in
theorem law109 : Keyed Tryz.prog 80 := Keyed.of_law (deep_law_laid laid (m := 3) (by omega) (of_decide_eq_true (by kernel_rfl)) (by kernel_rfl) wide109)
theorem cells80 : Tryz.prog.cellsOf 80 = 4 := by kernel_rfl
theorem cells25 : Tryz.prog.cellsOf 25 = 3 := by kernel_rfl
theorem cells9 : Tryz.prog.cellsOf 9 = 1 := by kernel_rfl
theorem cells4 : Tryz.prog.cellsOf 4 = 1 := by kernel_rfl
theorem keys109 : Tryz.prog.keyType 80 = true := by kernel_rfl
theorem types4 : ∃ m, Tryz.prog.types.size + 1 = m + 4 := ⟨Tryz.prog.types.size + 1 - 4, by have : 3 ≤ Tryz.prog.types.size := of_decide_eq_true (by kernel_rfl); omega⟩
/-- a place: a block, and a range of it -/
structure Plc where
  blk : Int
  lo : ByteArray
  hi : ByteArray
  e : Bool
def Plc.v (p : Plc) : Value := .agg #[.int .u32 p.blk, .string p.lo, .string p.hi, .bool p.e]
def Plc.Ok (p : Plc) : Prop := (Lit.int .u32 p.blk).wf = true ∧ p.lo.size ≤ maxLen ∧ p.hi.size ≤ maxLen
theorem Plc.inj {p q : Plc} (h : p.v = q.v) : p = q := by
  obtain ⟨a, b, c, d⟩ := p
  obtain ⟨a', b', c', d'⟩ := q
  simp only [Plc.v, Value.agg.injEq, Array.mk.injEq, List.cons.injEq, Value.int.injEq, Value.string.injEq, Value.bool.injEq, true_and, and_true] at h
  obtain ⟨rfl, rfl, rfl, rfl⟩ := h
  rfl
theorem key109 {p : Plc} (h : p.Ok) : ∃ l, keyOf Tryz.prog 80 p.v = some l := by
  obtain ⟨h1, h2, h3⟩ := h
  obtain ⟨m, hm⟩ := types4
  unfold keyOf Plc.v
  rw [Tryz.underlying80]
  simp only [keys109, Bool.true_and, hm]
  simp [Value.formed, Tryz.underlying80, cells80, Value.cells, Program.keyLits, Tryz.underlying23, Tryz.underlying25, Tryz.underlying9, Tryz.underlying4, cells25, cells23, cells9, cells4, h1, h2, h3]
  rw [if_pos (fun i hi => by
    match i, hi with
    | 0, _ => simp
    | 1, _ => simp
    | 2, _ => simp)]
  exact ⟨_, rfl⟩
/-- a map of places: all that it has are such as X says -/
def BMap (w : World) (b : Nat) (X : Plc → Prop) : Prop :=
  ∃ es clock, w.heap[b]? = some (.map es clock) ∧ ∀ x ∈ es.toList, ∃ p : Plc, p.Ok ∧ x.key = p.v ∧ X p ∧ x.val = .agg #[]
theorem BMap.made (w : World) (X : Plc → Prop) : BMap (w.alloc (.map #[] 0)) w.heap.size X :=
  ⟨#[], 0, World.alloc_heap_new w _, fun x hx => by simp at hx⟩
theorem BMap.lt {w : World} {b : Nat} {X : Plc → Prop} (h : BMap w b X) : b < w.heap.size := by
  obtain ⟨es, clock, h1, _⟩ := h
  exact (Array.getElem?_eq_some_iff.1 h1).1
theorem BMap.same {w w' : World} {b : Nat} {X : Plc → Prop} (h : BMap w b X) (hb : w'.heap[b]? = w.heap[b]?) : BMap w' b X := by
  obtain ⟨es, clock, h1, h2⟩ := h
  exact ⟨es, clock, hb.trans h1, h2⟩
theorem BMap.later {w w' : World} {b : Nat} {X : Plc → Prop} (h : BMap w b X) (hb : Below w.heap.size w w') : BMap w' b X := h.same (hb.block b h.lt)
theorem BMap.isMap {w : World} {b : Nat} {X : Plc → Prop} (h : BMap w b X) : ∃ o, w.heap[b]? = some o ∧ isMapO o = true := by
  obtain ⟨es, clock, h1, _⟩ := h
  exact ⟨_, h1, rfl⟩
/-- a store's run -/
theorem BMap.store {w : World} {e t : TypeId} {b : Nat} {X : Plc → Prop} (h : BMap w b X) (ht : Tryz.prog.underlying t = some (.map 80 e)) (p : Plc) (hp : p.Ok) (hX : X p) :
    ∃ es clock, (Instr.mapUpdate t (.map (some b)) p.v (.agg #[])).run Tryz.prog w = .ok () (setBlock w b (.map es clock)) ∧ BMap (setBlock w b (.map es clock)) b X := by
  obtain ⟨es, clock, hb, F⟩ := h
  obtain ⟨l, hk⟩ := key109 hp
  rcases law109.find w hk es.toList (fun x hx => by
    obtain ⟨q, h1, h2, _⟩ := F x hx
    rw [h2]; exact key109 h1) with ⟨h1, h2⟩ | ⟨j, e0, h1, h2, h3⟩
  · refine ⟨es.push ⟨p.v, .agg #[], clock⟩, clock + 1, ?_, _, _, heap_setBlock_same hb _, ?_⟩
    · simp [Instr.mapUpdate, run_underlying ht, MapKept.run_getObj_map hb, law109.check w false hk, h1, MapKept.run_setObj_map _ hb, Result.andThen, setBlock]
    · intro x hx
      simp only [Array.toList_push, List.mem_append, List.mem_singleton] at hx
      rcases hx with hx | rfl
      · exact F x hx
      · exact ⟨p, hp, rfl, hX, rfl⟩
  · refine ⟨es.modify j fun e => { e with key := p.v, val := .agg #[] }, clock, ?_, _, _, heap_setBlock_same hb _, ?_⟩
    · have hj : es[j]? = some e0 := by simpa using h2
      simp [Instr.mapUpdate, run_underlying ht, MapKept.run_getObj_map hb, law109.check w false hk, h1, hj, h3, law109.stays w hk, MapKept.run_setObj_map _ hb, Result.andThen, setBlock]
    · intro x hx
      rcases MapFrom.mem_modify hx with hx | ⟨e', _, rfl⟩
      · exact F x hx
      · exact ⟨p, hp, rfl, hX, rfl⟩
/-- a look-up's run, with whether it is there -/
theorem BMap.lookup_ok {w : World} {e t : TypeId} {b : Nat} {X : Plc → Prop} (h : BMap w b X) (ht : Tryz.prog.underlying t = some (.map 80 e)) (hz : (zeroValue e).run Tryz.prog w = .ok (.agg #[]) w) (p : Plc) (hp : p.Ok) :
    ∃ c, (Instr.lookup t (.map (some b)) p.v true).run Tryz.prog w = .ok (.tuple #[.agg #[], .bool c]) w ∧ (c = true → X p) := by
  obtain ⟨es, clock, hb, F⟩ := h
  obtain ⟨l, hk⟩ := key109 hp
  rcases law109.find w hk es.toList (fun x hx => by
    obtain ⟨q, h1, h2, _⟩ := F x hx
    rw [h2]; exact key109 h1) with ⟨h1, h2⟩ | ⟨j, e0, h1, h2, h3⟩
  · exact ⟨false, by simp [Instr.lookup, run_underlying ht, MapKept.run_getObj_map hb, law109.check w _ hk, h1, hz, Result.andThen], fun h => by cases h⟩
  · obtain ⟨q, q1, q2, q3, q4⟩ := F e0 (List.mem_of_getElem? h2)
    obtain rfl : q = p := Plc.inj (q2.symm.trans h3)
    exact ⟨true, by simp [Instr.lookup, run_underlying ht, MapKept.run_getObj_map hb, law109.check w _ hk, h1, q4, Result.andThen], fun _ => q3⟩
theorem zero99 (w : World) : (zeroValue 99).run Tryz.prog w = .ok (.agg #[]) w := by kernel_rfl
end Go.Proofs.YtegmpfmhlpdmhaaGreat.Key
