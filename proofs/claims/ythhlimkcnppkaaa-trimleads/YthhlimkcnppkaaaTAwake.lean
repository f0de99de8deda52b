/-
  Contract of awake: the document's example.
-/
import Derived.Test.YthhlimkcnppkaaaTTrimB
import Derived.Test.YthhlimkcnppkaaaSameRef
import Derived.Test.YthhlimkcnppkaaaKd
namespace Go.Proofs.Ythhlimkcnppkaaa.Key
open Go.RowKit Draw
set_option linter.unusedVariables false
set_option linter.unusedSimpArgs false

def awN : Nd := ⟨true, [⟨⟨#[97, 98]⟩, ⟨#[]⟩⟩, ⟨⟨#[97, 99]⟩, ⟨#[]⟩⟩, ⟨⟨#[98]⟩, ⟨#[]⟩⟩], [], [], []⟩
def awR : Nd := ⟨true, [⟨⟨#[98]⟩, ⟨#[]⟩⟩, ⟨⟨#[99]⟩, ⟨#[]⟩⟩], [], [], []⟩
theorem aw_e : trimE awN (rg ⟨#[97]⟩ ⟨#[98]⟩ true) ⟨#[97]⟩ = 0 := by kernel_rfl
theorem aw_n : trimA awN (rg ⟨#[97]⟩ ⟨#[98]⟩ true) ⟨#[97]⟩ = awR := by kernel_rfl
theorem aw_s : sucS (⟨#[97]⟩ : ByteArray).data.toList = ⟨#[98]⟩ := by kernel_rfl
theorem aw_o : sucO (⟨#[97]⟩ : ByteArray).data.toList = true := by kernel_rfl
theorem aw_few : Few awN := ⟨by decide, by decide, by decide, by decide⟩
theorem aw_few' : Few awR := ⟨by decide, by decide, by decide, by decide⟩
theorem aw_lies {w : World} {k : Nat} (h : w.heap[k]? = some (.cells #[.string ⟨#[97, 98]⟩, .string ⟨#[]⟩, .string ⟨#[97, 99]⟩, .string ⟨#[]⟩, .string ⟨#[98]⟩, .string ⟨#[]⟩] 65 (0, 0))) : Lies w awN ⟨some ⟨k, 0, none⟩, 3, none, 0, none, 0, none, 0⟩ := by
  refine ⟨.inr ⟨k, 0, rfl, fun i hi => ?_⟩, .inl rfl, .inl rfl, .inl rfl⟩
  have hi' : i < 3 := hi
  match i, hi' with
  | 0, _ => exact ⟨cell_of_row _ _ 0 _ _ _ h, cell_of_row _ _ 1 _ _ _ h⟩
  | 1, _ => exact ⟨cell_of_row _ _ 2 _ _ _ h, cell_of_row _ _ 3 _ _ _ h⟩
  | 2, _ => exact ⟨cell_of_row _ _ 4 _ _ _ h, cell_of_row _ _ 5 _ _ _ h⟩
theorem aw_lies' {w : World} {k : Nat} (h : w.heap[k]? = some (.cells #[.string ⟨#[98]⟩, .string ⟨#[]⟩, .string ⟨#[99]⟩, .string ⟨#[]⟩] 65 (0, 0))) : Lies w awR ⟨some ⟨k, 0, none⟩, 2, none, 0, none, 0, none, 0⟩ := by
  refine ⟨.inr ⟨k, 0, rfl, fun i hi => ?_⟩, .inl rfl, .inl rfl, .inl rfl⟩
  have hi' : i < 2 := hi
  match i, hi' with
  | 0, _ => exact ⟨cell_of_row _ _ 0 _ _ _ h, cell_of_row _ _ 1 _ _ _ h⟩
  | 1, _ => exact ⟨cell_of_row _ _ 2 _ _ _ h, cell_of_row _ _ 3 _ _ _ h⟩

set_option maxRecDepth 100000 in
set_option maxHeartbeats 2000000 in
theorem awake9 (w : World) : Calls Try.prog 9 #[] w fun x w' => x = .returned (.bool true) ∧ Below w.heap.size w w' := by
  have hP : (w.alloc (.cells #[.string ⟨#[97, 98]⟩, .string ⟨#[]⟩, .string ⟨#[97, 99]⟩, .string ⟨#[]⟩, .string ⟨#[98]⟩, .string ⟨#[]⟩] 65)).heap[w.heap.size]? = some (.cells #[.string ⟨#[97, 98]⟩, .string ⟨#[]⟩, .string ⟨#[97, 99]⟩, .string ⟨#[]⟩, .string ⟨#[98]⟩, .string ⟨#[]⟩] 65 (0, 0)) := Go.heap_alloc_new _ _
  have hL := (aw_lies hP).alloc (.cells #[.bool true, .slice (some ⟨w.heap.size, 0, none⟩) 3 3, .slice none 0 0, .slice none 0 0, .slice none 0 0] 27)
  have N0 := NBox.new (w.alloc (.cells #[.string ⟨#[97, 98]⟩, .string ⟨#[]⟩, .string ⟨#[97, 99]⟩, .string ⟨#[]⟩, .string ⟨#[98]⟩, .string ⟨#[]⟩] 65)) (.bool true) (.slice (some ⟨w.heap.size, 0, none⟩) 3 3) (.slice none 0 0) (.slice none 0 0) (.slice none 0 0)
  have hb0 : Below w.heap.size w ((w.alloc (.cells #[.string ⟨#[97, 98]⟩, .string ⟨#[]⟩, .string ⟨#[97, 99]⟩, .string ⟨#[]⟩, .string ⟨#[98]⟩, .string ⟨#[]⟩] 65)).alloc (.cells #[.bool true, .slice (some ⟨w.heap.size, 0, none⟩) 3 3, .slice none 0 0, .slice none 0 0, .slice none 0 0] 27)) := (below_box w _).alloc (by simp) _
  simp only [World.size_alloc] at N0
  clear hP
  have HO := hid (fun wr => of27 ⟨#[97]⟩ wr (by decide))
  rw [aw_s, aw_o] at HO
  go_enter Try.func9, Try.ntmps9
  go_upto_region 2 with fail
  generalize (w.alloc (.cells #[.string ⟨#[97, 98]⟩, .string ⟨#[]⟩, .string ⟨#[97, 99]⟩, .string ⟨#[]⟩, .string ⟨#[98]⟩, .string ⟨#[]⟩] 65)).alloc (.cells #[.bool true, .slice (some ⟨w.heap.size, 0, none⟩) 3 3, .slice none 0 0, .slice none 0 0, .slice none 0 0] 27) = w2 at *
  have HT := hid (fun wr (hb : Below w2.heap.size w2 wr) => trim10 awN ⟨some ⟨w.heap.size, 0, none⟩, 3, none, 0, none, 0, none, 0⟩ ⟨#[97]⟩ ⟨#[98]⟩ true ⟨#[97]⟩ wr aw_few (hL.later hb) (by decide) (by decide) (by decide))
  generalize hk0 : w.heap.size = k0 at *
  refine wp_region_mark [(some 10, [], false), (some 11, [], false), (some 12, [(0, 10), (1, 11)], false), (some 9, [(2, 12)], false), (some 13, [(3, 9)], false), (some 14, [(3, 9)], false), (some 2, [], true), (none, [(6, 2), (4, 13)], true), (some 3, [(5, 14)], true)] 6
    (fun u => Below w2.heap.size w2 u)
    (fun i u u' => if i = 7 then Below w2.heap.size u u' ∧ (∀ k, (∃ y0 y1 y2 y3 y4, NBox u k y0 y1 y2 y3 y4) → ∃ y0 y1 y2 y3 y4, NBox u' k y0 y1 y2 y3 y4) ∧ (∀ x1 x2 x3 x4, Owns u w2.heap.size awR x1 x2 x3 x4 → Owns u' w2.heap.size awR x1 x2 x3 x4) else Below u.heap.size u u')
    (fun i v e u => match i with
      | 0 => v = .agg #[.bool true, .slice (some ⟨k0, 0, none⟩) 3 3, .slice none 0 0, .slice none 0 0, .slice none 0 0]
      | 1 => v = av ⟨#[97]⟩ ⟨#[98]⟩ true
      | 2 => ∃ x1 x2 x3 x4, v = .tuple #[.agg #[.bool true, x1, x2, x3, x4], .int .i64 0] ∧ Owns u w2.heap.size awR x1 x2 x3 x4
      | 3 => ∃ x1 x2 x3 x4, v = .tuple #[.agg #[.bool true, x1, x2, x3, x4], .int .i64 0] ∧ Owns u w2.heap.size awR x1 x2 x3 x4
      | 4 => ∃ x1 x2 x3 x4, v = .agg #[.bool true, x1, x2, x3, x4] ∧ Owns u w2.heap.size awR x1 x2 x3 x4
      | 5 => v = .int .i64 0
      | 6 => ∃ k, v = .pointer (some ⟨k, 0, none⟩) ∧ w2.heap.size ≤ k ∧ ∃ y0 y1 y2 y3 y4, NBox u k y0 y1 y2 y3 y4
      | 7 => ∃ k x1 x2 x3 x4, e = .pointer (some ⟨k, 0, none⟩) ∧ NBox u k (.bool true) x1 x2 x3 x4 ∧ Owns u w2.heap.size awR x1 x2 x3 x4
      | 8 => v = .int .i64 0
      | _ => True)
    (by kernel_rfl) (by kernel_rfl) (Below.refl _ _).drew (fun i u u' h h' => ?_) (fun e i j v u u' hn h h' hv => ?_) (fun j hj hc v e e' u hv => ?_)
    ⟨?_, ?_, ?_, ?_, ?_, ?_, ?_, ?_, ?_, trivial⟩ ?_
  · by_cases h7 : i = 7
    · rw [if_pos h7] at h'
      exact h.trans h'.1
    · rw [if_neg h7] at h'
      exact h.trans (h'.mono h.size)
  · match j with
    | 0 => exact hv
    | 1 => exact hv
    | 2 =>
      by_cases h7 : i = 7
      · rw [if_pos h7] at h'
        obtain ⟨x1, x2, x3, x4, e1, e2⟩ := hv; exact ⟨x1, x2, x3, x4, e1, h'.2.2 _ _ _ _ e2⟩
      · rw [if_neg h7] at h'
        obtain ⟨x1, x2, x3, x4, e1, e2⟩ := hv; exact ⟨x1, x2, x3, x4, e1, e2.later h'⟩
    | 3 =>
      by_cases h7 : i = 7
      · rw [if_pos h7] at h'
        obtain ⟨x1, x2, x3, x4, e1, e2⟩ := hv; exact ⟨x1, x2, x3, x4, e1, h'.2.2 _ _ _ _ e2⟩
      · rw [if_neg h7] at h'
        obtain ⟨x1, x2, x3, x4, e1, e2⟩ := hv; exact ⟨x1, x2, x3, x4, e1, e2.later h'⟩
    | 4 =>
      by_cases h7 : i = 7
      · rw [if_pos h7] at h'
        obtain ⟨x1, x2, x3, x4, e1, e2⟩ := hv; exact ⟨x1, x2, x3, x4, e1, h'.2.2 _ _ _ _ e2⟩
      · rw [if_neg h7] at h'
        obtain ⟨x1, x2, x3, x4, e1, e2⟩ := hv; exact ⟨x1, x2, x3, x4, e1, e2.later h'⟩
    | 5 => exact hv
    | 6 =>
      obtain ⟨k, e1, e2, y0, y1, y2, y3, y4, e3⟩ := hv
      by_cases h7 : i = 7
      · rw [if_pos h7] at h'
        exact ⟨k, e1, e2, h'.2.1 k ⟨y0, y1, y2, y3, y4, e3⟩⟩
      · rw [if_neg h7] at h'
        exact ⟨k, e1, e2, y0, y1, y2, y3, y4, e3.later h'⟩
    | 7 =>
      obtain ⟨k, x1, x2, x3, x4, e1, e2, e3⟩ := hv
      by_cases h7 : i = 7
      · subst h7
        exact absurd hn (by decide)
      · rw [if_neg h7] at h'
        exact ⟨k, x1, x2, x3, x4, e1, e2.later h', e3.later h'⟩
    | 8 => exact hv
    | _ + 9 => trivial
  · match j with
    | 0 => exact hv
    | 1 => exact hv
    | 2 => exact hv
    | 3 => exact hv
    | 4 => exact hv
    | 5 => exact hv
    | 6 => exact hv
    | 7 => exact absurd hc (by decide)
    | 8 => exact hv
    | _ + 9 => trivial
  · rintro e u hu
    obtain ⟨m0, m1, m2, m3, m4⟩ := (N0.later hu).cells
    exact opYields_val _ (by kernel_rfl) (by go_simp) ⟨Below.refl _ _, rfl⟩
  · rintro e u hu
    exact opYields_call 24 #[.string ⟨#[97]⟩] (by kernel_rfl) (by go_simp) ((HO.out u).mono fun x u' ⟨h1, h2⟩ => ⟨_, h1, h2, rfl⟩)
  · rintro e u hu _ ⟨_, rfl⟩ _ ⟨_, rfl⟩
    exact opYields_call 10 #[.agg #[.bool true, .slice (some ⟨k0, 0, none⟩) 3 3, .slice none 0 0, .slice none 0 0, .slice none 0 0], av ⟨#[97]⟩ ⟨#[98]⟩ true, .string ⟨#[97]⟩] (by kernel_rfl) (by go_simp) ((HT.out u hu).mono fun x u' ⟨⟨x1, x2, x3, x4, h1, h2⟩, h3⟩ => by
      rw [aw_e, aw_n] at h1
      rw [aw_n] at h2
      exact ⟨_, h1, h3, x1, x2, x3, x4, rfl, ⟨row_mono h2.o1 hu.size, row_mono h2.o2 hu.size, row_mono h2.o3 hu.size, row_mono h2.o4 hu.size⟩⟩)
  · rintro e u hu _ ⟨_, x1, x2, x3, x4, rfl, hO⟩
    exact opYields_val _ (by kernel_rfl) (by go_simp) ⟨Below.refl _ _, x1, x2, x3, x4, rfl, hO⟩
  · rintro e u hu _ ⟨_, x1, x2, x3, x4, rfl, hO⟩
    exact opYields_val (.agg #[.bool true, x1, x2, x3, x4]) (by kernel_rfl) (by go_simp) ⟨Below.refl _ _, x1, x2, x3, x4, rfl, hO⟩
  · rintro e u hu _ ⟨_, x1, x2, x3, x4, rfl, hO⟩
    exact opYields_val (.int .i64 0) (by kernel_rfl) (by go_simp) ⟨Below.refl _ _, rfl⟩
  · rintro e u hu
    exact opYields_val (.pointer (some ⟨u.heap.size, 0, none⟩)) (by kernel_rfl) (by go_simp) ⟨below_box u (.cells #[.bool false, .slice none 0 0, .slice none 0 0, .slice none 0 0, .slice none 0 0] 27), u.heap.size, rfl, hu.size, _, _, _, _, _, NBox.new u _ _ _ _ _⟩
  · rintro e u hu v6 ⟨he, hv6⟩ v4 ⟨_, hv4⟩
    obtain rfl := he rfl
    obtain ⟨k, rfl, hk, y0, y1, y2, y3, y4, hN⟩ := hv6
    obtain ⟨x1, x2, x3, x4, rfl, hO⟩ := hv4
    obtain ⟨b1, n1, d1, rfl⟩ := row_slice hO.o1
    obtain ⟨b2, n2, d2, rfl⟩ := row_slice hO.o2
    obtain ⟨b3, n3, d3, rfl⟩ := row_slice hO.o3
    obtain ⟨b4, n4, d4, rfl⟩ := row_slice hO.o4
    obtain ⟨c0, c1, c2, c3, c4⟩ := hN.cells
    have f := hN.free
    have f0 := f 0
    have f1 := f 1
    have f2 := f 2
    have f3 := f 3
    have f4 := f 4
    clear f
    have hap : ∀ {e : TypeId} {sz : Nat} {v : Value} {n : Nat} {xs : List Value}, e ≠ 27 → u.ownsRow w2.heap.size e sz v n xs → (((((u.setCell ⟨k, 0, none⟩ (.bool true)).setCell ⟨k, 1, none⟩ (.slice b1 n1 d1)).setCell ⟨k, 2, none⟩ (.slice b2 n2 d2)).setCell ⟨k, 3, none⟩ (.slice b3 n3 d3)).setCell ⟨k, 4, none⟩ (.slice b4 n4 d4)).ownsRow w2.heap.size e sz v n xs := by
      intro e sz v n xs he h
      have g0 : (u.setCell ⟨k, 0, none⟩ (.bool true)).heap[k]? = some (.cells #[.bool true, y1, y2, y3, y4] 27 (0, 0)) := Go.Joins.block_setCell hN (.bool true)
      have g1 : ((u.setCell ⟨k, 0, none⟩ (.bool true)).setCell ⟨k, 1, none⟩ (.slice b1 n1 d1)).heap[k]? = some (.cells #[.bool true, .slice b1 n1 d1, y2, y3, y4] 27 (0, 0)) := Go.Joins.block_setCell g0 _
      have g2 : (((u.setCell ⟨k, 0, none⟩ (.bool true)).setCell ⟨k, 1, none⟩ (.slice b1 n1 d1)).setCell ⟨k, 2, none⟩ (.slice b2 n2 d2)).heap[k]? = some (.cells #[.bool true, .slice b1 n1 d1, .slice b2 n2 d2, y3, y4] 27 (0, 0)) := Go.Joins.block_setCell g1 _
      have g3 : ((((u.setCell ⟨k, 0, none⟩ (.bool true)).setCell ⟨k, 1, none⟩ (.slice b1 n1 d1)).setCell ⟨k, 2, none⟩ (.slice b2 n2 d2)).setCell ⟨k, 3, none⟩ (.slice b3 n3 d3)).heap[k]? = some (.cells #[.bool true, .slice b1 n1 d1, .slice b2 n2 d2, .slice b3 n3 d3, y4] 27 (0, 0)) := Go.Joins.block_setCell g2 _
      exact row_type (row_type (row_type (row_type (row_type h hN he) g0 he) g1 he) g2 he) g3 he
    refine opYields_put (u' := ((((u.setCell ⟨k, 0, none⟩ (.bool true)).setCell ⟨k, 1, none⟩ (.slice b1 n1 d1)).setCell ⟨k, 2, none⟩ (.slice b2 n2 d2)).setCell ⟨k, 3, none⟩ (.slice b3 n3 d3)).setCell ⟨k, 4, none⟩ (.slice b4 n4 d4)) (by kernel_rfl) (by go_simp) ⟨⟨below_five (Below.refl _ _) hk _ _ _ _ _, fun k' ⟨z0, z1, z2, z3, z4, hZ⟩ => ?_, fun _ _ _ _ h => ⟨hap (by decide) h.o1, hap (by decide) h.o2, hap (by decide) h.o3, hap (by decide) h.o4⟩⟩, k, _, _, _, _, rfl, hN.put _ _ _ _ _, ⟨hap (by decide) hO.o1, hap (by decide) hO.o2, hap (by decide) hO.o3, hap (by decide) hO.o4⟩⟩
    by_cases e : k' = k
    · subst e
      exact ⟨_, _, _, _, _, hZ.put _ _ _ _ _⟩
    · exact ⟨_, _, _, _, _, ((((hZ.far e).far e).far e).far e).far e⟩
  · rintro e u hu _ ⟨_, rfl⟩
    exact opYields_val (.int .i64 0) (by kernel_rfl) (by go_simp) ⟨Below.refl _ _, rfl⟩
  · rintro e u hu x0 x1 x2 x3 x4 x5 x6 ⟨he, h6⟩ x7 ⟨_, h7⟩ x8 ⟨_, h8⟩
    obtain rfl := he rfl
    replace h8 : x8 = .int .i64 0 := h8
    subst h8
    obtain ⟨k, y1, y2, y3, y4, rfl, hN, hO⟩ := h7
    simp only [givingAll, Act.put, List.setIfInBounds_toArray, List.set_cons_zero, List.set_cons_succ]
    obtain ⟨q, rfl, rfl, rfl, rfl, hLq⟩ := hO.lies
    have hb9 := hb0.trans (hu.mono (by have := hb0.size; omega))
    have hs9 := hb9.size
    obtain ⟨c0, c1, c2, c3, c4⟩ := hN.cells
    have hP2 : (u.alloc (.cells #[.string ⟨#[98]⟩, .string ⟨#[]⟩, .string ⟨#[99]⟩, .string ⟨#[]⟩] 65)).heap[u.heap.size]? = some (.cells #[.string ⟨#[98]⟩, .string ⟨#[]⟩, .string ⟨#[99]⟩, .string ⟨#[]⟩] 65 (0, 0)) := Go.heap_alloc_new _ _
    have HS := same10 awR awR q ⟨some ⟨u.heap.size, 0, none⟩, 2, none, 0, none, 0, none, 0⟩ _ aw_few' aw_few' (hLq.alloc (.cells #[.string ⟨#[98]⟩, .string ⟨#[]⟩, .string ⟨#[99]⟩, .string ⟨#[]⟩] 65)) (aw_lies' hP2)
    have hbu := hb9.alloc (by omega) (.cells #[.string ⟨#[98]⟩, .string ⟨#[]⟩, .string ⟨#[99]⟩, .string ⟨#[]⟩] 65)
    clear hN hO hLq hP2 HT HO N0 hb0 hL hu hb9
    go_wp2_with fail
    refine HS.mono ?_
    rintro x w7 ⟨⟨b, rfl, hb⟩, hb7⟩
    obtain rfl := hb.2 (by first | rfl | trivial)
    have hbz := hbu.trans (hb7.mono (by simp; omega))
    go_wp2_with fail
    go_ret
    exact ⟨rfl, by rw [hk0]; exact hbz⟩
end Go.Proofs.Ythhlimkcnppkaaa.Key
