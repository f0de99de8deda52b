/-
  A map from blocks to nothings in memory: its find, its Put.
-/
import Derived.Test.YtfladpnphkoeiaaZer
import Derived.Test.YtfladpnphkoeiaaDraw4
namespace Go.Proofs.Ytfladpnphkoeiaa.Key
open Go.RowKit Draw
set_option linter.unusedVariables false
set_option linter.unusedSimpArgs false

/-- a map of blocks in memory -/
structure ZMap (w : World) (B k : Nat) (kv vv : Value) (ks : List Int) : Prop where
  box : w.heap[k]? = some (.cells #[kv, vv] 110 (0, 0))
  above : B ≤ k
  keys : OwnU w B kv ks
  vals : ZV vv ks.length
  rise : Rising ks
  apart : kv.ownBlock ≠ some k
theorem ZMap.lt {w : World} {B k : Nat} {kv vv : Value} {ks : List Int} (h : ZMap w B k kv vv ks) : k < w.heap.size := (Array.getElem?_eq_some_iff.1 h.box).1
theorem ZMap.later {w w' : World} {B k : Nat} {kv vv : Value} {ks : List Int} (h : ZMap w B k kv vv ks) (hb : Below w.heap.size w w') : ZMap w' B k kv vv ks :=
  ⟨(hb.block k h.lt).trans h.box, h.above, h.keys.later hb, h.vals, h.rise, h.apart⟩
theorem ZV.slice {v : Value} {n : Nat} (h : ZV v n) : ∃ a m c, v = .slice a m c := by
  rcases h with ⟨rfl, _⟩ | ⟨g, c, rfl, _⟩
  · exact ⟨_, _, _, rfl⟩
  · exact ⟨_, _, _, rfl⟩
set_option maxHeartbeats 600000 in
set_option maxRecDepth 100000 in
theorem find59 (B k : Nat) (kv vv : Value) (ks : List Int) (x : Int) (w : World) (h : ZMap w B k kv vv ks) (hl : ks.length ≤ 100000) :
    Calls Try.prog 59 #[.pointer (some ⟨k, 0, none⟩), .int .u32 x] w fun e w' => e = .returned (.tuple #[.int .i64 (pos ks x : Nat), .bool (there ks x)]) ∧ Below w.heap.size w w' := by
  have c0 := cell_of_row _ _ 0 _ _ _ h.box
  dsimp at c0
  have H := bs67 B kv ks x w h.keys h.rise hl
  obtain ⟨a, n, c, rfl⟩ := row_slice h.keys
  generalize pos ks x = p at *
  generalize there ks x = t at *
  go_enter Try.func59, Try.ntmps59
  go_wp2_with fail
  refine H.mono ?_
  rintro e w1 ⟨rfl, hb⟩
  go_wp2_with fail
  go_ret2
  exact ⟨rfl, hb⟩
set_option maxRecDepth 100000 in
theorem new40 (w : World) : Calls Try.prog 40 #[] w fun e w' => e = .returned (.pointer (some ⟨w.heap.size, 0, none⟩)) ∧ ZMap w' w.heap.size w.heap.size (.slice none 0 0) (.slice none 0 0) [] ∧ Below w.heap.size w w' := by
  have hb := below_box w (.cells #[.slice none 0 0, .slice none 0 0] 110)
  have hn := Go.heap_alloc_new w (.cells #[.slice none 0 0, .slice none 0 0] 110)
  go_enter Try.func40, Try.ntmps40
  go_wp2_with fail
  go_ret
  exact ⟨rfl, ⟨hn, Nat.le_refl _, OwnU.nil _ _, .inl ⟨rfl, rfl⟩, List.Pairwise.nil, by simp [Value.ownBlock]⟩, hb⟩
/-- all blocks but a map's own are as they were, and stay none of its own -/
def FreeZ (w w' : World) (k : Nat) (kv kv' : Value) : Prop := ∀ g, g < w.heap.size → g ≠ k → kv.ownBlock ≠ some g → w'.heap[g]? = w.heap[g]? ∧ kv'.ownBlock ≠ some g
theorem boxz_set0 {w : World} {k : Nat} {a b : Value} (h : w.heap[k]? = some (.cells #[a, b] 110 (0, 0))) (v : Value) : (w.setCell ⟨k, 0, none⟩ v).heap[k]? = some (.cells #[v, b] 110 (0, 0)) ∧ w.grownBy (w.setCell ⟨k, 0, none⟩ v) (some k) := by
  rw [setCell_eq_setRow w k 0 _ 110 (0, 0) _ h]
  refine ⟨?_, ⟨rfl, rfl, rfl, by simp [World.setRow], fun j hj hne => setRow_other w k j _ (fun e => hne (by rw [e]))⟩⟩
  rw [setRow_heap w k _ _ 110 _ h]
  rfl
theorem boxz_set1 {w : World} {k : Nat} {a b : Value} (h : w.heap[k]? = some (.cells #[a, b] 110 (0, 0))) (v : Value) : (w.setCell ⟨k, 1, none⟩ v).heap[k]? = some (.cells #[a, v] 110 (0, 0)) ∧ w.grownBy (w.setCell ⟨k, 1, none⟩ v) (some k) := by
  rw [setCell_eq_setRow w k 1 _ 110 (0, 0) _ h]
  refine ⟨?_, ⟨rfl, rfl, rfl, by simp [World.setRow], fun j hj hne => setRow_other w k j _ (fun e => hne (by rw [e]))⟩⟩
  rw [setRow_heap w k _ _ 110 _ h]
  rfl
set_option maxRecDepth 100000 in
set_option maxHeartbeats 1200000 in
theorem put41 (B k : Nat) (kv vv : Value) (ks : List Int) (x : Int) (w0 w : World) (h : ZMap w B k kv vv ks) (hl : ks.length ≤ 10000) (hbel : Below B w0 w) :
    Calls Try.prog 41 #[.pointer (some ⟨k, 0, none⟩), .int .u32 x, .agg #[]] w fun e w' => e = .returned (.bool (!there ks x)) ∧ (∃ kv' vv', ZMap w' B k kv' vv' (putK ks x) ∧ FreeZ w w' k kv kv') ∧ Below B w0 w' := by
  have hbx := below_box w (.cells #[] 87)
  have h0 := h.later hbx
  have HF := find59 B k kv vv ks x _ h0 (by omega)
  have hBk := h.above
  have hklt := h.lt
  have hpl := pos_le ks x
  have HK := hid (show putK ks x = if there ks x then ks else insertAt ks (pos ks x) x from rfl)
  have hbe0 := hbel.alloc (by omega) (.cells #[] 87)
  have hkb := Go.heap_alloc_new w (.cells #[] 87)
  cases ht : there ks x
  · have hri := rise_insert ks x h.rise ht
    rw [ht] at HK HF
    replace HK : Hid (putK ks x = insertAt ks (pos ks x) x) := HK.out.trans (if_neg (by simp))
    have hIL := insertAt_length ks (pos ks x) x hpl
    replace hri := hid hri
    generalize putK ks x = PK at *
    generalize pos ks x = p at *
    have HIL := hid hIL
    clear hIL
    go_enter Try.func41, Try.ntmps41
    go_wp2_with fail
    refine HF.mono ?_
    rintro e w1 ⟨rfl, hb1⟩
    have h1 := h0.later hb1
    have hs1 := hb1.size
    have hsx : (w.alloc (.cells #[] 87)).heap.size = w.heap.size + 1 := by simp
    have hbe1 := hbe0.trans (hb1.mono (by omega))
    have hkb1 := (hb1.block w.heap.size (by omega)).trans hkb
    have c0 := cell_of_row _ _ 0 _ _ _ h1.box
    dsimp at c0
    have h2 := h1.later (below_box w1 (.cells #[.int .u32 x] 23))
    have I1 := insert56 B kv ks p x w1.heap.size _ h2.keys hpl (by omega) (Go.heap_alloc_new w1 _) (fun e => by
      have := (World.ownsRow.lt h1.keys _ e).2
      omega) (by simp; omega)
    have hbe2 := hbe1.alloc (by omega) (.cells #[.int .u32 x] 23)
    have K1 := hid (fun g (hg : g < w.heap.size) => (heap_alloc_old w1 (.cells #[.int .u32 x] 23) (show g < w1.heap.size by omega)).trans ((hb1.block g (by omega)).trans (hbx.block g hg)))
    have L1 := hid (fun g (hg : g < w.heap.size) => (show g < (w1.alloc (.cells #[.int .u32 x] 23)).heap.size by simp; omega))
    have hkw : w.heap.size < w1.heap.size := by omega
    clear HF hb1 hsx
    go_wp2_with fail
    refine I1.mono ?_
    rintro e w3 ⟨kv', rfl, hk3, hg3, hor3⟩
    have K3 := hid (fun g (hg : g < w.heap.size) (h1 : kv.ownBlock ≠ some g) => (hg3.block g (L1.out g hg) (fun e => h1 e.symm)).trans (K1.out g hg))
    have L3 := hid (fun g (hg : g < w.heap.size) => Nat.lt_of_lt_of_le (L1.out g hg) hg3.size)
    have O3 := hid (fun g (hg : g < w.heap.size) (h1 : kv.ownBlock ≠ some g) => (show kv'.ownBlock ≠ some g by
      rcases hor3 with e | ⟨j, e, hj⟩
      · rw [e]; exact h1
      · rw [e]; intro e2; cases e2; have := L1.out _ hg; omega))
    obtain ⟨sa, sn, sc, hkve⟩ := hk3.slice
    have hk2 : k < (w1.alloc (.cells #[.int .u32 x] 23)).heap.size := h2.lt
    have hbox3 := (hg3.block k hk2 (fun e => h1.apart e.symm)).trans h2.box
    have hbe3 := grown_below hbe2 (by simp; omega) hg3 (fun j hj => (World.ownsRow.lt h1.keys j hj).1)
    have hs3 := hg3.size
    have hkk : kv'.ownBlock ≠ some k := by
      rcases hor3 with e | ⟨j, e, hj⟩
      · rw [e]; exact h1.apart
      · rw [e]; intro e2; cases e2; omega
    obtain ⟨hbox4, hg4⟩ := boxz_set0 hbox3 kv'
    have hk4 := hk3.kept hg4 (.inr hkk)
    have hbe4 := grown_below hbe3 (by simp at hs3; omega) hg4 (fun j hj => by cases hj; exact hBk)
    have K4 := hid (fun g (hg : g < w.heap.size) (h0 : g ≠ k) (h1 : kv.ownBlock ≠ some g) => (hg4.block g (L3.out g hg) (fun e => h0 (by cases e; rfl))).trans (K3.out g hg h1))
    have L4 := hid (fun g (hg : g < w.heap.size) => Nat.lt_of_lt_of_le (L3.out g hg) hg4.size)
    have e0 := cell_of_row _ _ 0 _ _ _ hbox3
    have f0 := frozen_of_row _ _ 0 _ _ hbox3
    dsimp at e0
    have hBs4 : B ≤ (w3.setCell ⟨k, 0, none⟩ kv').heap.size := by have := hg4.size; simp at hs3; omega
    have HZ := hid (fun u vb => ins60 vv ks.length p vb u h1.vals hpl (by omega))
    obtain ⟨va, vn, vc, hvve⟩ := h1.vals.slice
    clear I1 c0 h2 h1 hkb1 hbe3 hbe2 hbe1 hg3 hor3 hk2 hg4
    subst hkve
    go_upto_region 8 with fail
    generalize w3.setCell ⟨k, 0, none⟩ (.slice sa sn sc) = w4 at *
    subst hvve
    generalize ks.length = N at *
    have HB4 := hid hbox4
    refine wp_region_anc [(some 36, [], false), (some 37, [], false), (some 38, [(1, 37)], false), (some 39, [(2, 38)], false), (some 40, [(3, 39)], false), (some 41, [], false), (some 42, [], false), (some 43, [(6, 42)], false), (some 44, [(4, 40), (5, 41), (7, 43)], true), (some 45, [(0, 36)], false), (some 46, [(9, 45)], true), (none, [(10, 46), (8, 44)], false)]
      (fun u => Below w4.heap.size w4 u) (fun _ u u' => Below u.heap.size u u')
      (fun i v u => match i with | 0 => v = .pointer (some ⟨k, 0, none⟩) | 1 => v = .pointer (some ⟨k, 0, none⟩) | 2 => v = .pointer (some ⟨k, 0, none⟩) | 3 => v = .pointer (some ⟨k, 1, none⟩) | 4 => v = .slice va vn vc | 5 => v = .int .i64 p | 6 => v = .agg #[] | 7 => ∃ g, v = .slice (some ⟨g, 0, none⟩) 1 1 | 8 => ZV v (N + 1) | 9 => v = .pointer (some ⟨k, 0, none⟩) | 10 => v = .pointer (some ⟨k, 1, none⟩) | _ => True)
      (by kernel_rfl) 11 (by kernel_rfl) (Below.refl _ _).drew (fun i u u' h h' => h.trans (h'.mono h.size)) (fun i j v u u' hn h h' hv => hv) [(some 36, [], false), (some 37, [], false), (some 38, [(1, 37)], false), (some 39, [(2, 38)], false), (some 40, [(3, 39)], false), (some 41, [], false), (some 42, [], false), (some 43, [(6, 42)], false), (some 44, [(4, 40), (5, 41), (7, 43)], true), (some 45, [(0, 36)], false), (some 46, [(9, 45)], true)] rfl _ rfl (by kernel_rfl) (by kernel_rfl) ⟨?_, ?_, ?_, ?_, ?_, ?_, ?_, ?_, ?_, ?_, ?_, trivial⟩ ?_
    · rintro u hu
      exact opYields_val _ (by kernel_rfl) (by go_simp) ⟨Below.refl _ _, rfl⟩
    · rintro u hu
      exact opYields_val _ (by kernel_rfl) (by go_simp) ⟨Below.refl _ _, rfl⟩
    · rintro u hu _ rfl
      exact opYields_val _ (by kernel_rfl) (by go_simp) ⟨Below.refl _ _, rfl⟩
    · rintro u hu _ rfl
      exact opYields_val _ (by kernel_rfl) (by go_simp) ⟨Below.refl _ _, rfl⟩
    · rintro u hu _ rfl
      have c1 := cell_of_row _ _ 1 _ _ _ ((hu.block k (Array.getElem?_eq_some_iff.1 HB4.out).1).trans HB4.out)
      dsimp at c1
      exact opYields_val (.slice va vn vc) (by kernel_rfl) (by go_simp) ⟨Below.refl _ _, rfl⟩
    · rintro u hu
      exact opYields_val _ (by kernel_rfl) (by go_simp) ⟨Below.refl _ _, rfl⟩
    · rintro u hu
      exact opYields_val (.agg #[]) (by kernel_rfl) (by go_simp) ⟨Below.refl _ _, rfl⟩
    · rintro u hu _ rfl
      exact opYields_val (.slice (some ⟨u.heap.size, 0, none⟩) 1 1) (u' := u.alloc (.cells #[] 87)) (by kernel_rfl) (by go_simp; rfl) ⟨below_box u _, _, rfl⟩
    · rintro u hu _ rfl _ rfl _ ⟨g, rfl⟩
      exact opYields_call 60 #[.slice va vn vc, .int .i64 p, .slice (some ⟨g, 0, none⟩) 1 1] (by kernel_rfl) (by go_simp) ((HZ.out u g).mono fun x u' ⟨⟨v, h1, h2⟩, h3⟩ => ⟨v, h1, h3, h2⟩)
    · rintro u hu _ rfl
      exact opYields_val _ (by kernel_rfl) (by go_simp) ⟨Below.refl _ _, rfl⟩
    · rintro u hu _ rfl
      exact opYields_val _ (by kernel_rfl) (by go_simp) ⟨Below.refl _ _, rfl⟩
    · intro u hu x0 x1 x2 x3 x4 x5 x6 x7 x8 e8 x9 x10 e10
      replace e8 : ZV x8 (N + 1) := e8
      replace e10 : x10 = .pointer (some ⟨k, 1, none⟩) := e10
      simp only [Act.put, List.setIfInBounds_toArray, List.set_cons_zero, List.set_cons_succ, e10]
      have HSL := hid e8.slice
      have hbox5 := (hu.block k (Array.getElem?_eq_some_iff.1 HB4.out).1).trans HB4.out
      have c1 := cell_of_row _ _ 1 _ _ _ hbox5
      have f1 := frozen_of_row _ _ 1 _ _ hbox5
      dsimp at c1
      obtain ⟨hbox6, hg6⟩ := boxz_set1 hbox5 x8
      have hk6 := (hk4.later hu).kept hg6 (.inr hkk)
      have hbe6 := grown_below (hbe4.trans (hu.mono hBs4)) (Nat.le_trans hBs4 hu.size) hg6 (fun j hj => by cases hj; exact hBk)
      have K6 := hid (show FreeZ w _ k kv (.slice sa sn sc) from fun g hg h0 h1 => ⟨(hg6.block g (Nat.lt_of_lt_of_le (L4.out g hg) hu.size) (fun e => h0 (by cases e; rfl))).trans ((hu.block g (L4.out g hg)).trans (K4.out g hg h0 h1)), O3.out g hg h1⟩)
      have HS := hid (ZMap.mk hbox6 hBk hk6 (by rw [HIL.out]; exact e8) hri.out hkk)
      have HBE := hid hbe6
      refine opYields_put (u' := u.setCell ⟨k, 1, none⟩ x8) (by kernel_rfl) (by obtain ⟨ya, yn, yc, e⟩ := HSL.out; subst e; go_simp) ?_
      clear hbe6 hk6 hg6 hbox6 c1 f1 hbox5 e8
      simp only [Act.put, List.setIfInBounds_toArray, List.set_cons_zero, List.set_cons_succ]
      go_wp2_with fail
      go_ret
      exact ⟨rfl, ⟨_, _, by rw [HK.out]; exact HS.out, K6.out⟩, HBE.out⟩
  · have hp := there_lt ht
    rw [ht] at HK HF
    replace HK : Hid (putK ks x = ks) := HK.out.trans (if_pos rfl)
    have hvals := h.vals
    generalize pos ks x = p at *
    go_enter Try.func41, Try.ntmps41
    go_wp2_with fail
    refine HF.mono ?_
    rintro e w1 ⟨rfl, hb1⟩
    have h1 := h0.later hb1
    have hsx : (w.alloc (.cells #[] 87)).heap.size = w.heap.size + 1 := by simp
    have hbe1 := hbe0.trans (hb1.mono (by omega))
    have hfree := hid (show FreeZ w w1 k kv kv from fun g hg _ h1 => ⟨(hb1.block g (by omega)).trans (hbx.block g hg), h1⟩)
    rcases hvals with ⟨_, e⟩ | ⟨g, c, rfl, hnc, hcm⟩
    · exact absurd hp (by omega)
    · have HB1 := hid h1.box
      have H1 := hid h1
      generalize ks.length = N at *
      have hpi : (p : Int) < (N : Int) := by omega
      clear hsx
      go_upto_region 5 with fail
      refine wp_region_anc [(some 18, [], false), (some 19, [(0, 18)], false), (some 20, [(1, 19)], false), (some 21, [(2, 20)], false), (some 22, [], false), (some 23, [], true), (some 24, [(3, 21), (4, 22)], true), (none, [(6, 24), (5, 23)], false)]
        (fun u => Below w1.heap.size w1 u) (fun _ u u' => Below u.heap.size u u')
        (fun i v u => match i with | 0 => v = .pointer (some ⟨k, 0, none⟩) | 1 => v = .pointer (some ⟨k, 0, none⟩) | 2 => v = .pointer (some ⟨k, 1, none⟩) | 3 => v = .slice (some ⟨g, 0, none⟩) N c | 4 => v = .int .i64 p | 5 => v = .agg #[] | 6 => v = .pointer (some ⟨g, 0, none⟩) | _ => True)
        (by kernel_rfl) 7 (by kernel_rfl) (Below.refl _ _).drew (fun i u u' h h' => h.trans (h'.mono h.size)) (fun i j v u u' hn h h' hv => hv) [(some 18, [], false), (some 19, [(0, 18)], false), (some 20, [(1, 19)], false), (some 21, [(2, 20)], false), (some 22, [], false), (some 23, [], true), (some 24, [(3, 21), (4, 22)], true)] rfl _ rfl (by kernel_rfl) (by kernel_rfl) ⟨?_, ?_, ?_, ?_, ?_, ?_, ?_, trivial⟩ ?_
      · rintro u hu
        exact opYields_val _ (by kernel_rfl) (by go_simp) ⟨Below.refl _ _, rfl⟩
      · rintro u hu _ rfl
        exact opYields_val _ (by kernel_rfl) (by go_simp) ⟨Below.refl _ _, rfl⟩
      · rintro u hu _ rfl
        exact opYields_val _ (by kernel_rfl) (by go_simp) ⟨Below.refl _ _, rfl⟩
      · rintro u hu _ rfl
        have c1 := cell_of_row _ _ 1 _ _ _ ((hu.block k (Array.getElem?_eq_some_iff.1 HB1.out).1).trans HB1.out)
        dsimp at c1
        exact opYields_val (.slice (some ⟨g, 0, none⟩) N c) (by kernel_rfl) (by go_simp) ⟨Below.refl _ _, rfl⟩
      · rintro u hu
        exact opYields_val _ (by kernel_rfl) (by go_simp) ⟨Below.refl _ _, rfl⟩
      · rintro u hu
        exact opYields_val (.agg #[]) (by kernel_rfl) (by go_simp) ⟨Below.refl _ _, rfl⟩
      · rintro u hu _ rfl _ rfl
        exact opYields_val (.pointer (some ⟨g, 0, none⟩)) (by kernel_rfl) (by go_simp) ⟨Below.refl _ _, rfl⟩
      · intro u hu x0 x1 x2 x3 x4 x5 e5 x6 e6
        replace e5 : x5 = .agg #[] := e5
        replace e6 : x6 = .pointer (some ⟨g, 0, none⟩) := e6
        simp only [Act.put, List.setIfInBounds_toArray, List.set_cons_zero, List.set_cons_succ, e5, e6]
        have h2 := hid (H1.out.later hu)
        have hbe2 := hid (hbe1.trans (hu.mono (Nat.le_trans hBk (Nat.le_of_lt H1.out.lt))))
        have hfr2 := hid (show FreeZ w u k kv kv from fun j hj hjk hjo => ⟨(hu.block j (Nat.lt_of_lt_of_le hj (by have := hb1.size; simp at this; omega))).trans (hfree.out j hj hjk hjo).1, hjo⟩)
        refine opYields_put (u' := u) (by kernel_rfl) (by go_simp) ?_
        simp only [Act.put, List.setIfInBounds_toArray, List.set_cons_zero, List.set_cons_succ]
        go_wp2_with fail
        go_ret
        exact ⟨rfl, ⟨_, _, by rw [HK.out]; exact h2.out, hfr2.out⟩, hbe2.out⟩
end Go.Proofs.Ytfladpnphkoeiaa.Key
