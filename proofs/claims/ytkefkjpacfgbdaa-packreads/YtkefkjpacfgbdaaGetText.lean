/-
  The contract of the document's reader's GetText.
-/
import Derived.Test.YtkefkjpacfgbdaaGet
import Derived.Deep.Cut
namespace Go.Proofs.Ytkefkjpacfgbdaa.Pack
open Go.RowKit

/-- what lies in the two boxes behind the inner call -/
theorem boxes {w w1 : World} {C0 C1 : Array Value} (h : Below ((w.alloc (.cells C0 38)).alloc (.cells C1 38)).heap.size ((w.alloc (.cells C0 38)).alloc (.cells C1 38)) w1) :
    w1.heap[w.heap.size]? = some (.cells C0 38 (0, 0)) ∧ w1.heap[w.heap.size + 1]? = some (.cells C1 38 (0, 0)) ∧ w.heap.size + 2 ≤ w1.heap.size ∧ Below w.heap.size w w1 := by
  have e1 : (w.alloc (.cells C0 38)).heap.size = w.heap.size + 1 := by simp
  have e2 : ((w.alloc (.cells C0 38)).alloc (.cells C1 38)).heap.size = w.heap.size + 2 := by simp
  have hs := h.size
  rw [e2] at hs
  refine ⟨?_, ?_, hs, (((Below.refl _ _).alloc (Nat.le_refl _) _).alloc (by simp) _).trans (h.mono (by rw [e2]; omega))⟩
  · rw [h.block _ (by rw [e2]; omega), Go.heap_alloc_old _ _ (by rw [e1]; omega)]
    exact Go.heap_alloc_new _ _
  · rw [h.block _ (by rw [e2]; omega), ← e1]
    exact Go.heap_alloc_new _ _

/-- the three boxes: the reader's own, the result's, the next one's -/
structure Three (W : World) (k0 k1 k2 : Nat) (v0 x0 y0 v2 x2 y2 : Value) : Prop where
  a0 : W.cell? ⟨k0, 0, none⟩ = some v0
  a1 : W.cell? ⟨k0, 1, none⟩ = some x0
  a2 : W.cell? ⟨k0, 2, none⟩ = some y0
  f2 : W.frozen? ⟨k0, 2, none⟩ = false
  b0 : W.cell? ⟨k1, 0, none⟩ = some (.slice none 0 0)
  b1 : W.cell? ⟨k1, 1, none⟩ = some (.int .i64 0)
  b2 : W.cell? ⟨k1, 2, none⟩ = some (.int .i64 0)
  g0 : W.frozen? ⟨k1, 0, none⟩ = false
  g1 : W.frozen? ⟨k1, 1, none⟩ = false
  g2 : W.frozen? ⟨k1, 2, none⟩ = false
  c0 : W.cell? ⟨k2, 0, none⟩ = some v2
  c1 : W.cell? ⟨k2, 1, none⟩ = some x2
  c2 : W.cell? ⟨k2, 2, none⟩ = some y2
  e1 : W.frozen? ⟨k2, 1, none⟩ = false
  n01 : k0 ≠ k1
  n02 : k0 ≠ k2
  n12 : k1 ≠ k2
theorem three {w w1 : World} {v0 x0 y0 : Value} (v2 x2 y2 : Value) (h : Below ((w.alloc (.cells #[v0, x0, y0] 38)).alloc (.cells #[.slice none 0 0, .int .i64 0, .int .i64 0] 38)).heap.size ((w.alloc (.cells #[v0, x0, y0] 38)).alloc (.cells #[.slice none 0 0, .int .i64 0, .int .i64 0] 38)) w1) :
    Three (w1.alloc (.cells #[v2, x2, y2] 38)) w.heap.size (w.heap.size + 1) w1.heap.size v0 x0 y0 v2 x2 y2 ∧ Below w.heap.size w (w1.alloc (.cells #[v2, x2, y2] 38)) ∧ w.heap.size + 2 ≤ w1.heap.size := by
  obtain ⟨q0, q1, hs, hb⟩ := boxes h
  have r0 : (w1.alloc (.cells #[v2, x2, y2] 38)).heap[w.heap.size]? = some (.cells #[v0, x0, y0] 38 (0, 0)) := (Below.heap_alloc _ _ _ (by omega)).trans q0
  have r1 : (w1.alloc (.cells #[v2, x2, y2] 38)).heap[w.heap.size + 1]? = some (.cells #[.slice none 0 0, .int .i64 0, .int .i64 0] 38 (0, 0)) := (Below.heap_alloc _ _ _ (by omega)).trans q1
  have r2 : (w1.alloc (.cells #[v2, x2, y2] 38)).heap[w1.heap.size]? = some (.cells #[v2, x2, y2] 38 (0, 0)) := Go.heap_alloc_new _ _
  exact ⟨⟨cell_of_row _ _ 0 _ _ _ r0, cell_of_row _ _ 1 _ _ _ r0, cell_of_row _ _ 2 _ _ _ r0, frozen_of_row _ _ 2 _ _ r0, cell_of_row _ _ 0 _ _ _ r1, cell_of_row _ _ 1 _ _ _ r1, cell_of_row _ _ 2 _ _ _ r1,
    frozen_of_row _ _ 0 _ _ r1, frozen_of_row _ _ 1 _ _ r1, frozen_of_row _ _ 2 _ _ r1, cell_of_row _ _ 0 _ _ _ r2, cell_of_row _ _ 1 _ _ _ r2, cell_of_row _ _ 2 _ _ _ r2, frozen_of_row _ _ 1 _ _ r2, by omega, by omega, by omega⟩,
    hb.alloc (by omega) _, hs⟩

set_option maxHeartbeats 1000000 in
/-- the inner Get told an error -/
theorem ref_text_err {w : World} {a : Option Addr} {n c p : Nat} {zs : List Int} {e : Int} (most : Int) (hz : Byt zs) (hb : Bytes w a zs) (hl : zs.length = n) (hn : n ≤ 100000) (hp : p ≤ n) (E : Int) (hE : E ≠ 0) (g1 : gV zs p e 1 = 0) (g2 : gP zs p e 1 = p) (g3 : gE zs p e 1 = E) :
    Calls Try.prog 22 #[.agg #[.slice a n c, .int .i64 (p : Int), .int .i64 e], .int .i64 most] w fun x w' => x = .returned (.tuple #[.string ⟨#[]⟩, .agg #[.slice a n c, .int .i64 (p : Int), .int .i64 E]]) ∧ Below w.heap.size w w' := by
  have hd : (E == 0) = false := by simpa using hE
  have hd' : (E != 0) = true := by simpa using hE
  have HG := hid (And.intro g1 (And.intro g2 g3))
  clear g1 g2 g3
  go_enter Try.func22, Try.ntmps22
  go_wp2_with fail
  refine (ref_get (zs := zs) (n := n) 1 hz (hb.later (((Below.refl _ _).alloc (Nat.le_refl _) _).alloc (by simp) _)) hl hn hp (by omega) (by omega)).mono ?_
  rintro x w1 ⟨rfl, hbw⟩
  rw [HG.out.1, HG.out.2.1, HG.out.2.2]
  obtain ⟨T, hb1, hs⟩ := three (.slice a n c) (.int .i64 (p : Int)) (.int .i64 E) hbw
  clear hbw
  go_upto_region 2 with fail
  generalize w1.alloc (.cells #[.slice a n c, .int .i64 (p : Int), .int .i64 E] 38) = W2 at *
  obtain ⟨a0, a1, a2, f2, b0, b1, b2, g0, g1, g2, c0, c1, c2, e1, n01, n02, n12⟩ := T
  generalize hK1 : w.heap.size + 1 = K1 at *
  have hk1 : w.heap.size ≤ K1 := by omega
  clear hK1
  go_wp2_with fail
  go_region
  all_goals go_wp2
  exact bodyPost_ret (v := .tuple #[.string ⟨#[]⟩, .agg #[.slice a n c, .int .i64 (p : Int), .int .i64 E]]) (by simp [results, Try.results22, go_sem, b0, b1, b2]) rfl ⟨rfl, (((hb1.setCell (by exact hk1) _).setCell (by exact hk1) _).setCell (by exact hk1) _).drew⟩

theorem g_one {zs : List Int} {p : Nat} (h : p + 1 ≤ zs.length) : gV zs p 0 1 = tN zs p ∧ gP zs p 0 1 = p + 1 ∧ gE zs p 0 1 = 0 := by
  obtain ⟨g1, g2, g3⟩ := g_ok h
  refine ⟨?_, g2, g3⟩
  rw [g1, head_of zs p h]
  simp [val, tN]

set_option maxHeartbeats 1000000 in
/-- the text is too long, or ends too early -/
theorem ref_text_no {w : World} {a : Option Addr} {n c p : Nat} {zs : List Int} (most : Int) (hz : Byt zs) (hb : Bytes w a zs) (hl : zs.length = n) (hn : n ≤ 100000) (hp : p + 1 ≤ n) :
    (max most 0 < (tN zs p : Int) → Calls Try.prog 22 #[.agg #[.slice a n c, .int .i64 (p : Int), .int .i64 0], .int .i64 most] w fun x w' => x = .returned (.tuple #[.string ⟨#[]⟩, .agg #[.slice a n c, .int .i64 (p : Int), .int .i64 4]]) ∧ Below w.heap.size w w') ∧
    ((tN zs p : Int) ≤ max most 0 → n < p + 1 + tN zs p → Calls Try.prog 22 #[.agg #[.slice a n c, .int .i64 (p : Int), .int .i64 0], .int .i64 most] w fun x w' => x = .returned (.tuple #[.string ⟨#[]⟩, .agg #[.slice a n c, .int .i64 (p : Int), .int .i64 2]]) ∧ Below w.heap.size w w') := by
  have hN := (tN_le hz p).2
  have HG := hid (g_one (zs := zs) (p := p) (by omega))
  generalize tN zs p = N at *
  constructor
  · intro hlong
    go_enter Try.func22, Try.ntmps22
    go_wp2_with fail
    refine (ref_get (zs := zs) (n := n) 1 hz (hb.later (((Below.refl _ _).alloc (Nat.le_refl _) _).alloc (by simp) _)) hl hn (by omega) (by omega) (by omega)).mono ?_
    rintro x w1 ⟨rfl, hbw⟩
    rw [HG.out.1, HG.out.2.1, HG.out.2.2]
    generalize hP : p + 1 = P1 at *
    obtain ⟨T, hb1, hs⟩ := three (.slice a n c) (.int .i64 (P1 : Int)) (.int .i64 0) hbw
    clear hbw hP
    go_upto_region 2 with fail
    generalize w1.alloc (.cells #[.slice a n c, .int .i64 (P1 : Int), .int .i64 0] 38) = W2 at *
    obtain ⟨a0, a1, a2, f2, b0, b1, b2, g0, g1, g2, c0, c1, c2, e1, n01, n02, n12⟩ := T
    generalize hK1 : w.heap.size + 1 = K1 at *
    have hk1 : w.heap.size ≤ K1 := by omega
    clear hK1
    by_cases hm : most < 0
    · have h0 : (0 : Int) < (N : Int) := by omega
      clear hlong
      go_wp2_with fail
      go_region
      all_goals go_wp2
      exact bodyPost_ret (v := .tuple #[.string ⟨#[]⟩, .agg #[.slice a n c, .int .i64 (p : Int), .int .i64 4]]) (by simp [results, Try.results22, go_sem, b0, b1, b2]) rfl ⟨rfl, ((((hb1.setCell (by exact Nat.le_refl _) _).setCell (by exact hk1) _).setCell (by exact hk1) _).setCell (by exact hk1) _).drew⟩
    · have h0 : most < (N : Int) := by omega
      clear hlong
      go_wp2_with fail
      go_region
      all_goals go_wp2
      exact bodyPost_ret (v := .tuple #[.string ⟨#[]⟩, .agg #[.slice a n c, .int .i64 (p : Int), .int .i64 4]]) (by simp [results, Try.results22, go_sem, b0, b1, b2]) rfl ⟨rfl, ((((hb1.setCell (by exact Nat.le_refl _) _).setCell (by exact hk1) _).setCell (by exact hk1) _).setCell (by exact hk1) _).drew⟩
  · intro hlong hshort
    go_enter Try.func22, Try.ntmps22
    go_wp2_with fail
    refine (ref_get (zs := zs) (n := n) 1 hz (hb.later (((Below.refl _ _).alloc (Nat.le_refl _) _).alloc (by simp) _)) hl hn (by omega) (by omega) (by omega)).mono ?_
    rintro x w1 ⟨rfl, hbw⟩
    rw [HG.out.1, HG.out.2.1, HG.out.2.2]
    generalize hP : p + 1 = P1 at *
    obtain ⟨T, hb1, hs⟩ := three (.slice a n c) (.int .i64 (P1 : Int)) (.int .i64 0) hbw
    clear hbw hP
    go_upto_region 2 with fail
    generalize w1.alloc (.cells #[.slice a n c, .int .i64 (P1 : Int), .int .i64 0] 38) = W2 at *
    obtain ⟨a0, a1, a2, f2, b0, b1, b2, g0, g1, g2, c0, c1, c2, e1, n01, n02, n12⟩ := T
    generalize hK1 : w.heap.size + 1 = K1 at *
    have hk1 : w.heap.size ≤ K1 := by omega
    have hsh : (n : Int) - (P1 : Int) < (N : Int) := by omega
    clear hK1
    by_cases hm : most < 0
    · exfalso
      omega
    · have h0 : ¬ most < (N : Int) := by omega
      clear hlong
      go_wp2_with fail
      go_region
      all_goals go_wp2
      exact bodyPost_ret (v := .tuple #[.string ⟨#[]⟩, .agg #[.slice a n c, .int .i64 (p : Int), .int .i64 2]]) (by simp [results, Try.results22, go_sem, b0, b1, b2]) rfl ⟨rfl, ((((hb1.setCell (by exact Nat.le_refl _) _).setCell (by exact hk1) _).setCell (by exact hk1) _).setCell (by exact hk1) _).drew⟩

set_option maxHeartbeats 1000000 in
theorem ref_text_ok {w : World} {a : Option Addr} {n c p : Nat} {zs : List Int} (most : Int) (hz : Byt zs) (hb : Bytes w a zs) (hl : zs.length = n) (hn : n ≤ 100000) (hnc : n ≤ c) (_hc : c ≤ 9223372036854775807) (h1 : p + 1 ≤ n) (h2 : (tN zs p : Int) ≤ max most 0) (h3 : p + 1 + tN zs p ≤ n) :
    Calls Try.prog 22 #[.agg #[.slice a n c, .int .i64 (p : Int), .int .i64 0], .int .i64 most] w fun x w' => x = .returned (.tuple #[.string (strOfNums ((zs.drop (p + 1)).take (tN zs p))), .agg #[.slice a n c, .int .i64 ((p + 1 + tN zs p : Nat) : Int), .int .i64 0]]) ∧ Below w.heap.size w w' := by
  have hN := (tN_le hz p).2
  have HG := hid (g_one (zs := zs) (p := p) (by omega))
  generalize tN zs p = N at *
  obtain ⟨b, off, rfl, hbb⟩ : ∃ b off, a = some ⟨b, off, none⟩ ∧ Bytes w (some ⟨b, off, none⟩) zs := by
    rcases hb with rfl | ⟨b, off, rfl, h⟩
    · simp at hl; omega
    · exact ⟨b, off, rfl, .inr ⟨b, off, rfl, h⟩⟩
  have hby := (hbb.drop (p + 1)).take N
  have hyl : ((zs.drop (p + 1)).take N).length = N := by simp; omega
  have hN0 : N = 0 → strOfNums ((zs.drop (p + 1)).take N) = ⟨#[]⟩ := fun h => by subst h; rfl
  go_enter Try.func22, Try.ntmps22
  go_wp2_with fail
  refine (ref_get (zs := zs) (n := n) 1 hz (hb.later (((Below.refl _ _).alloc (Nat.le_refl _) _).alloc (by simp) _)) hl hn (by omega) (by omega) (by omega)).mono ?_
  rintro x w1 ⟨rfl, hbw⟩
  rw [HG.out.1, HG.out.2.1, HG.out.2.2]
  obtain ⟨T, hb1, hs⟩ := three (.slice (some ⟨b, off, none⟩) n c) (.int .i64 ((p + 1 : Nat) : Int)) (.int .i64 0) hbw
  have hby2 := hby.later hb1
  have HP := hid (Int.natCast_add (p + 1) N)
  generalize hS : strOfNums ((zs.drop (p + 1)).take N) = S at *
  have HS := hid hS
  have hcv : ∀ cc, (convert 22 9 (.slice (some ⟨b, off + (p + 1), none⟩) N cc)).run Try.prog (w1.alloc (.cells #[.slice (some ⟨b, off, none⟩) n c, .int .i64 ((p + 1 : Nat) : Int), .int .i64 0] 38)) = .ok (.string S) (w1.alloc (.cells #[.slice (some ⟨b, off, none⟩) n c, .int .i64 ((p + 1 : Nat) : Int), .int .i64 0] 38)) := fun cc => by
    rw [← hS]
    exact conv_str hby2 N cc hyl (fun h => by cases h)
  have hcv0 : N = 0 → ∀ (W : World) (ad : Addr) cc, (convert 22 9 (.slice (some ad) 0 cc)).run Try.prog W = .ok (.string S) W := fun h W ad cc => by
    have := conv_str (w := W) (a := some ad) (zs := []) (.inl rfl) 0 cc rfl (fun h => by cases h)
    rw [this, hN0 h]
    rfl
  clear hS hby2 hby hbb hyl hN0
  generalize hP : p + 1 = P1 at *
  have HP1 := hid hP
  clear hbw hP
  go_upto_region 2 with fail
  generalize w1.alloc (.cells #[.slice (some ⟨b, off, none⟩) n c, .int .i64 (P1 : Int), .int .i64 0] 38) = W2 at *
  obtain ⟨a0, a1, a2, f2, b0, b1, b2, g0, g1, g2, c0, c1, c2, e1, n01, n02, n12⟩ := T
  generalize hK1 : w.heap.size + 1 = K1 at *
  have hk1 : w.heap.size ≤ K1 := by omega
  have hk2 : w.heap.size ≤ w1.heap.size := by omega
  have hsh : ¬ (n : Int) - (P1 : Int) < (N : Int) := by omega
  have hpn : P1 + N - P1 = N := by omega
  clear hK1
  by_cases hcp : c = P1
  · obtain rfl : N = 0 := by omega
    have hcv1 := hcv0 rfl
    subst hcp
    clear hcv0 hcv
    by_cases hm : most < 0
    all_goals
      go_wp2_with fail
      go_region
      all_goals go_wp2
      exact bodyPost_ret (v := .tuple #[.string S, .agg #[.slice (some ⟨b, off, none⟩) n c, .int .i64 (c : Int), .int .i64 0]]) (by simp [results, Try.results22, go_sem, b0, b1, b2]) rfl ⟨by rw [HP1.out, HS.out], ((((hb1.setCell (by exact hk2) _).setCell (by exact hk1) _).setCell (by exact hk1) _).setCell (by exact hk1) _).drew⟩
  · clear hcv0
    by_cases hm : most < 0
    all_goals
      go_wp2_with fail
      go_region
      all_goals go_wp2
      exact bodyPost_ret (v := .tuple #[.string S, .agg #[.slice (some ⟨b, off, none⟩) n c, .int .i64 ((P1 : Int) + (N : Int)), .int .i64 0]]) (by simp [results, Try.results22, go_sem, b0, b1, b2]) rfl ⟨by rw [HP1.out, HS.out, HP.out], ((((hb1.setCell (by exact hk2) _).setCell (by exact hk1) _).setCell (by exact hk1) _).setCell (by exact hk1) _).drew⟩

theorem ref_text {w : World} {a : Option Addr} {n c p : Nat} {zs : List Int} {e : Int} (most : Int) (hz : Byt zs) (hb : Bytes w a zs) (hl : zs.length = n) (hn : n ≤ 100000) (hnc : n ≤ c) (hc : c ≤ 9223372036854775807) (hp : p ≤ n) :
    Calls Try.prog 22 #[.agg #[.slice a n c, .int .i64 (p : Int), .int .i64 e], .int .i64 most] w fun x w' => x = .returned (.tuple #[.string (tS zs p e most), .agg #[.slice a n c, .int .i64 ((tP zs p e most : Nat) : Int), .int .i64 (tE zs p e most)]]) ∧ Below w.heap.size w w' := by
  subst hl
  by_cases he : e = 0
  · subst he
    by_cases h1 : p + 1 ≤ zs.length
    · by_cases h2 : (tN zs p : Int) ≤ max most 0
      · by_cases h3 : p + 1 + tN zs p ≤ zs.length
        · obtain ⟨g1, g2, g3⟩ := t_ok h1 h2 h3
          rw [g1, g2, g3]
          exact ref_text_ok most hz hb rfl hn hnc hc h1 h2 h3
        · obtain ⟨g1, g2, g3⟩ := t_short (most := most) h1 h2 h3
          rw [g1, g2, g3]
          exact (ref_text_no most hz hb rfl hn h1).2 h2 (by omega)
      · obtain ⟨g1, g2, g3⟩ := t_long (zs := zs) (p := p) (most := most) h1 (by omega)
        rw [g1, g2, g3]
        exact (ref_text_no most hz hb rfl hn h1).1 (by omega)
    · obtain ⟨g1, g2, g3⟩ := t_none (most := most) h1
      obtain ⟨k1, k2, k3⟩ := g_short (zs := zs) (p := p) (s := 1) (by omega)
      rw [g1, g2, g3]
      exact ref_text_err most hz hb rfl hn hp 2 (by omega) k1 k2 k3
  · obtain ⟨g1, g2, g3⟩ := t_bad (zs := zs) (p := p) (most := most) he
    obtain ⟨k1, k2, k3⟩ := g_bad (zs := zs) (p := p) (s := 1) he
    rw [g1, g2, g3]
    exact ref_text_err most hz hb rfl hn hp e he k1 k2 k3
end Go.Proofs.Ytkefkjpacfgbdaa.Pack
