/-
  Contract of Own.
-/
import Derived.Test.YtegmpfmhlpdmhaaGreatOwn
import Derived.Test.YtegmpfmhlpdmhaaGreatKd
import Derived.Lib.SmallJoins
namespace Go.Proofs.YtegmpfmhlpdmhaaGreat.Key
open Go.RowKit Draw

set_option maxRecDepth 100000 in
theorem NBox.put {w : World} {k : Nat} {v0 v1 v2 v3 v4 : Value} (h : NBox w k v0 v1 v2 v3 v4) (y0 y1 y2 y3 y4 : Value) :
    NBox (((((w.setCell ⟨k, 0, none⟩ y0).setCell ⟨k, 1, none⟩ y1).setCell ⟨k, 2, none⟩ y2).setCell ⟨k, 3, none⟩ y3).setCell ⟨k, 4, none⟩ y4) k y0 y1 y2 y3 y4 :=
  Go.Joins.block_setCell (Go.Joins.block_setCell (Go.Joins.block_setCell (Go.Joins.block_setCell (Go.Joins.block_setCell h y0) y1) y2) y3) y4
set_option maxRecDepth 100000 in
/-- a row of the call's own, kept while only older blocks are written to -/
theorem row_later {w w' : World} {B : Nat} {e : TypeId} {sz : Nat} {v : Value} {n : Nat} {xs : List Value} (h : w.ownsRow B e sz v n xs) (hb : Below w.heap.size w w') : w'.ownsRow B e sz v n xs :=
  World.ownsRow.kept (row := none) h ⟨hb.os, hb.tape, hb.output, hb.size, fun k hk _ => hb.block k hk⟩ (by cases hv : v.ownBlock <;> simp)
set_option maxRecDepth 100000 in
theorem row_mono {w : World} {B B' : Nat} {e : TypeId} {sz : Nat} {v : Value} {n : Nat} {xs : List Value} (h : w.ownsRow B e sz v n xs) (hB : B' ≤ B) : w.ownsRow B' e sz v n xs := by
  refine ⟨h.1, ?_⟩
  rcases h.2 with h | ⟨g, cap, cur, hv, hb, r⟩
  · exact .inl h
  · exact .inr ⟨g, cap, cur, hv, Nat.le_trans hB hb, r⟩
set_option maxRecDepth 100000 in
/-- .. kept by a store into an older block -/
theorem row_set {w : World} {B k i : Nat} {u : Value} {e : TypeId} {sz : Nat} {v : Value} {n : Nat} {xs : List Value} (h : w.ownsRow B e sz v n xs) (hk : k < B) : (w.setCell ⟨k, i, none⟩ u).ownsRow B e sz v n xs := by
  refine ⟨h.1, ?_⟩
  rcases h.2 with h | ⟨g, cap, cur, hv, hb, hg, r⟩
  · exact .inl h
  · refine .inr ⟨g, cap, cur, hv, hb, ?_, r⟩
    rw [Below.heap_setCell _ _ _ _ (by dsimp only; omega)]
    exact hg
set_option maxRecDepth 100000 in
theorem row_five {w : World} {B k : Nat} {y0 y1 y2 y3 y4 : Value} {e : TypeId} {sz : Nat} {v : Value} {n : Nat} {xs : List Value} (h : w.ownsRow B e sz v n xs) (hk : k < B) :
    (((((w.setCell ⟨k, 0, none⟩ y0).setCell ⟨k, 1, none⟩ y1).setCell ⟨k, 2, none⟩ y2).setCell ⟨k, 3, none⟩ y3).setCell ⟨k, 4, none⟩ y4).ownsRow B e sz v n xs := row_set (row_set (row_set (row_set (row_set h hk) hk) hk) hk) hk
set_option maxRecDepth 100000 in
theorem below_five' {B k : Nat} {w w' : World} (h : Below B w w') (hk : B ≤ k) (v0 v1 v2 v3 v4 : Value) :
    Below B w (((((w'.setCell ⟨k, 0, none⟩ v0).setCell ⟨k, 1, none⟩ v1).setCell ⟨k, 2, none⟩ v2).setCell ⟨k, 3, none⟩ v3).setCell ⟨k, 4, none⟩ v4) :=
  ((((h.setCell (p := ⟨k, 0, none⟩) hk _).setCell (p := ⟨k, 1, none⟩) hk _).setCell (p := ⟨k, 2, none⟩) hk _).setCell (p := ⟨k, 3, none⟩) hk _).setCell (p := ⟨k, 4, none⟩) hk _
set_option maxRecDepth 100000 in
theorem row_slice {w : World} {B : Nat} {e : TypeId} {sz : Nat} {v : Value} {n : Nat} {xs : List Value} (h : w.ownsRow B e sz v n xs) : ∃ a m c, v = .slice a m c := by
  rcases h.2 with ⟨rfl, _⟩ | ⟨g, cap, cur, rfl, _⟩
  · exact ⟨_, _, _, rfl⟩
  · exact ⟨_, _, _, rfl⟩
/-- a node with lists of the call's own -/
structure Owns (w : World) (B : Nat) (n : Nd) (x1 x2 x3 x4 : Value) : Prop where
  o1 : w.ownsRow B 50 2 x1 n.ps.length (n.ps.flatMap Pr.cells)
  o2 : w.ownsRow B 9 1 x2 n.pv.length (n.pv.flatMap tcell)
  o3 : w.ownsRow B 39 4 x3 n.ks.length (n.ks.flatMap E.cells)
  o4 : w.ownsRow B 42 6 x4 n.bf.length (n.bf.flatMap M.cells)

set_option maxRecDepth 100000 in
set_option maxHeartbeats 1000000 in
theorem own9 (n : Nd) (p : Pl) (w : World) (hf : Few n) (hp : p.Ok) (h : Lies w n p) :
    Calls Tryz.prog 36 #[nv n p] w fun x w' => ∃ x1 x2 x3 x4, x = .returned (.agg #[.bool n.leaf, x1, x2, x3, x4]) ∧ Owns w' (w.heap.size + 1 + 1) n x1 x2 x3 x4 ∧ Below w.heap.size w w' := by
  have hb0 : Below w.heap.size w ((w.alloc (.cells #[.bool n.leaf, .slice p.a1 n.ps.length p.c1, .slice p.a2 n.pv.length p.c2, .slice p.a3 n.ks.length p.c3, .slice p.a4 n.bf.length p.c4] 46)).alloc (.cells #[.bool false, .slice none 0 0, .slice none 0 0, .slice none 0 0, .slice none 0 0] 46)) := (below_box w _).alloc (by simp) _
  have N0 := (NBox.new w (.bool n.leaf) (.slice p.a1 n.ps.length p.c1) (.slice p.a2 n.pv.length p.c2) (.slice p.a3 n.ks.length p.c3) (.slice p.a4 n.bf.length p.c4)).alloc (.cells #[.bool false, .slice none 0 0, .slice none 0 0, .slice none 0 0, .slice none 0 0] 46)
  have M0 := NBox.new (w.alloc (.cells #[.bool n.leaf, .slice p.a1 n.ps.length p.c1, .slice p.a2 n.pv.length p.c2, .slice p.a3 n.ks.length p.c3, .slice p.a4 n.bf.length p.c4] 46)) (.bool false) (.slice none 0 0) (.slice none 0 0) (.slice none 0 0) (.slice none 0 0)
  have hsz : ((w.alloc (.cells #[.bool n.leaf, .slice p.a1 n.ps.length p.c1, .slice p.a2 n.pv.length p.c2, .slice p.a3 n.ks.length p.c3, .slice p.a4 n.bf.length p.c4] 46)).alloc (.cells #[.bool false, .slice none 0 0, .slice none 0 0, .slice none 0 0, .slice none 0 0] 46)).heap.size = w.heap.size + 1 + 1 := by simp
  simp only [World.size_alloc] at M0
  have A1 := hid (fun w' (hb : Below w.heap.size w w') => again24 p.a1 p.c1 n.ps w' hf.l1 hp.z1 (h.h1.later hb))
  have A2 := hid (fun w' (hb : Below w.heap.size w w') => again25 p.a2 p.c2 n.pv w' hf.l2 hp.z2 (h.h2.later hb))
  have A3 := hid (fun w' (hb : Below w.heap.size w w') => again26 p.a3 p.c3 n.ks w' hf.l3 hp.z3 (h.h3.later hb))
  have A4 := hid (fun w' (hb : Below w.heap.size w w') => again27 p.a4 p.c4 n.bf w' hf.l4 hp.z4 (h.h4.later hb))
  clear h hp hf
  obtain ⟨lf, ps, pv, ks, bf⟩ := n
  obtain ⟨a1, c1, a2, c2, a3, c3, a4, c4⟩ := p
  dsimp only [nv] at *
  go_enter Tryz.func36, Tryz.ntmps36
  go_wp2_with fail
  generalize (w.alloc (.cells #[.bool lf, .slice a1 ps.length c1, .slice a2 pv.length c2, .slice a3 ks.length c3, .slice a4 bf.length c4] 46)).alloc (.cells #[.bool false, .slice none 0 0, .slice none 0 0, .slice none 0 0, .slice none 0 0] 46) = w2 at *
  generalize hk0 : w.heap.size = k0 at *
  obtain ⟨B, hB⟩ : ∃ B, k0 + 1 + 1 = B := ⟨_, rfl⟩
  rw [hB] at hsz
  refine wp_region_last [(some 3, [], false), (some 4, [(0, 3)], false), (some 5, [], false), (some 6, [(2, 5)], false), (some 7, [(3, 6)], false), (some 8, [], false), (some 9, [(5, 8)], false), (some 10, [(6, 9)], false), (some 11, [], false), (some 12, [(8, 11)], false), (some 13, [(9, 12)], false), (some 14, [], false), (some 15, [(11, 14)], false), (some 16, [(12, 15)], false), (some 17, [(1, 4), (4, 7), (7, 10), (10, 13), (13, 16)], true), (none, [(14, 17)], false)]
      (fun u => Below w2.heap.size w2 u) (fun _ u u' => Below u.heap.size u u')
      (fun i v u => match i with | 0 => v = .pointer (some ⟨k0, 0, none⟩) | 1 => v = .bool lf | 2 => v = .pointer (some ⟨k0, 1, none⟩) | 3 => v = .slice a1 ps.length c1 | 4 => u.ownsRow B 50 2 v ps.length (ps.flatMap Pr.cells) | 5 => v = .pointer (some ⟨k0, 2, none⟩) | 6 => v = .slice a2 pv.length c2 | 7 => u.ownsRow B 9 1 v pv.length (pv.flatMap tcell) | 8 => v = .pointer (some ⟨k0, 3, none⟩) | 9 => v = .slice a3 ks.length c3 | 10 => u.ownsRow B 39 4 v ks.length (ks.flatMap E.cells) | 11 => v = .pointer (some ⟨k0, 4, none⟩) | 12 => v = .slice a4 bf.length c4 | 13 => u.ownsRow B 42 6 v bf.length (bf.flatMap M.cells) | 14 => ∃ x1 x2 x3 x4, v = .agg #[.bool lf, x1, x2, x3, x4] ∧ Owns u B ⟨lf, ps, pv, ks, bf⟩ x1 x2 x3 x4 | _ => True)
      (by kernel_rfl) (by kernel_rfl) (Below.refl _ _).drew (fun i u u' h h' => h.trans (h'.mono h.size)) (fun i j v u u' hn h h' hv => ?_) [(some 3, [], false), (some 4, [(0, 3)], false), (some 5, [], false), (some 6, [(2, 5)], false), (some 7, [(3, 6)], false), (some 8, [], false), (some 9, [(5, 8)], false), (some 10, [(6, 9)], false), (some 11, [], false), (some 12, [(8, 11)], false), (some 13, [(9, 12)], false), (some 14, [], false), (some 15, [(11, 14)], false), (some 16, [(12, 15)], false), (some 17, [(1, 4), (4, 7), (7, 10), (10, 13), (13, 16)], true)] 15 rfl _ rfl rfl (by kernel_rfl) (by kernel_rfl) ⟨?_, ?_, ?_, ?_, ?_, ?_, ?_, ?_, ?_, ?_, ?_, ?_, ?_, ?_, ?_, trivial⟩ ?_
  · match j with
    | 0 => exact hv
    | 1 => exact hv
    | 2 => exact hv
    | 3 => exact hv
    | 4 => exact row_later hv h'
    | 5 => exact hv
    | 6 => exact hv
    | 7 => exact row_later hv h'
    | 8 => exact hv
    | 9 => exact hv
    | 10 => exact row_later hv h'
    | 11 => exact hv
    | 12 => exact hv
    | 13 => exact row_later hv h'
    | 14 => obtain ⟨x1, x2, x3, x4, e, ho⟩ := hv; exact ⟨x1, x2, x3, x4, e, row_later ho.o1 h', row_later ho.o2 h', row_later ho.o3 h', row_later ho.o4 h'⟩
    | _ + 15 => trivial
  · rintro u hu
    exact opYields_val _ (by kernel_rfl) (by go_simp) ⟨Below.refl _ _, rfl⟩
  · rintro u hu _ rfl
    obtain ⟨m0, m1, m2, m3, m4⟩ := (N0.later hu).cells
    exact opYields_val (.bool lf) (by kernel_rfl) (by go_simp) ⟨Below.refl _ _, rfl⟩
  · rintro u hu
    exact opYields_val _ (by kernel_rfl) (by go_simp) ⟨Below.refl _ _, rfl⟩
  · rintro u hu _ rfl
    obtain ⟨m0, m1, m2, m3, m4⟩ := (N0.later hu).cells
    exact opYields_val (.slice a1 ps.length c1) (by kernel_rfl) (by go_simp) ⟨Below.refl _ _, rfl⟩
  · rintro u hu _ rfl
    exact opYields_call 55 #[.slice a1 ps.length c1] (by kernel_rfl) (by go_simp) ((A1.out u (hb0.trans (hu.mono (by have := hb0.size; omega)))).mono fun x u' ⟨v, h1, h2, h3⟩ => ⟨v, h1, h3, row_mono h2 (by have := hu.size; omega)⟩)
  · rintro u hu
    exact opYields_val _ (by kernel_rfl) (by go_simp) ⟨Below.refl _ _, rfl⟩
  · rintro u hu _ rfl
    obtain ⟨m0, m1, m2, m3, m4⟩ := (N0.later hu).cells
    exact opYields_val (.slice a2 pv.length c2) (by kernel_rfl) (by go_simp) ⟨Below.refl _ _, rfl⟩
  · rintro u hu _ rfl
    exact opYields_call 56 #[.slice a2 pv.length c2] (by kernel_rfl) (by go_simp) ((A2.out u (hb0.trans (hu.mono (by have := hb0.size; omega)))).mono fun x u' ⟨v, h1, h2, h3⟩ => ⟨v, h1, h3, row_mono h2 (by have := hu.size; omega)⟩)
  · rintro u hu
    exact opYields_val _ (by kernel_rfl) (by go_simp) ⟨Below.refl _ _, rfl⟩
  · rintro u hu _ rfl
    obtain ⟨m0, m1, m2, m3, m4⟩ := (N0.later hu).cells
    exact opYields_val (.slice a3 ks.length c3) (by kernel_rfl) (by go_simp) ⟨Below.refl _ _, rfl⟩
  · rintro u hu _ rfl
    exact opYields_call 57 #[.slice a3 ks.length c3] (by kernel_rfl) (by go_simp) ((A3.out u (hb0.trans (hu.mono (by have := hb0.size; omega)))).mono fun x u' ⟨v, h1, h2, h3⟩ => ⟨v, h1, h3, row_mono h2 (by have := hu.size; omega)⟩)
  · rintro u hu
    exact opYields_val _ (by kernel_rfl) (by go_simp) ⟨Below.refl _ _, rfl⟩
  · rintro u hu _ rfl
    obtain ⟨m0, m1, m2, m3, m4⟩ := (N0.later hu).cells
    exact opYields_val (.slice a4 bf.length c4) (by kernel_rfl) (by go_simp) ⟨Below.refl _ _, rfl⟩
  · rintro u hu _ rfl
    exact opYields_call 58 #[.slice a4 bf.length c4] (by kernel_rfl) (by go_simp) ((A4.out u (hb0.trans (hu.mono (by have := hb0.size; omega)))).mono fun x u' ⟨v, h1, h2, h3⟩ => ⟨v, h1, h3, row_mono h2 (by have := hu.size; omega)⟩)
  · rintro u hu _ rfl x1 h1 x2 h2 x3 h3 x4 h4
    obtain ⟨b1, n1, d1, rfl⟩ := row_slice h1
    obtain ⟨b2, n2, d2, rfl⟩ := row_slice h2
    obtain ⟨b3, n3, d3, rfl⟩ := row_slice h3
    obtain ⟨b4, n4, d4, rfl⟩ := row_slice h4
    exact opYields_val (.agg #[.bool lf, .slice b1 n1 d1, .slice b2 n2 d2, .slice b3 n3 d3, .slice b4 n4 d4]) (by kernel_rfl) (by go_simp) ⟨Below.refl _ _, _, _, _, _, rfl, ⟨h1, h2, h3, h4⟩⟩
  · intro u g1 x0 x1 x2 x3 x4 x5 x6 x7 x8 x9 x10 x11 x12 x13 x14 e14
    replace e14 : ∃ x1 x2 x3 x4, x14 = .agg #[.bool lf, x1, x2, x3, x4] ∧ Owns u B ⟨lf, ps, pv, ks, bf⟩ x1 x2 x3 x4 := e14
    obtain ⟨y1, y2, y3, y4, e14, ho⟩ := e14
    subst e14
    obtain ⟨b1, n1, d1, rfl⟩ := row_slice ho.o1
    obtain ⟨b2, n2, d2, rfl⟩ := row_slice ho.o2
    obtain ⟨b3, n3, d3, rfl⟩ := row_slice ho.o3
    obtain ⟨b4, n4, d4, rfl⟩ := row_slice ho.o4
    have M1 := M0.later g1
    obtain ⟨z0, z1, z2, z3, z4⟩ := M1.cells
    have f := M1.free
    have f0 := f 0
    have f1 := f 1
    have f2 := f 2
    have f3 := f 3
    have f4 := f 4
    clear f
    refine Puts.mk (((((u.setCell ⟨k0 + 1, 0, none⟩ (.bool lf)).setCell ⟨k0 + 1, 1, none⟩ (.slice b1 n1 d1)).setCell ⟨k0 + 1, 2, none⟩ (.slice b2 n2 d2)).setCell ⟨k0 + 1, 3, none⟩ (.slice b3 n3 d3)).setCell ⟨k0 + 1, 4, none⟩ (.slice b4 n4 d4)) (by kernel_rfl) (by go_simp) ?_
    have M2 := M1.put (.bool lf) (.slice b1 n1 d1) (.slice b2 n2 d2) (.slice b3 n3 d3) (.slice b4 n4 d4)
    have hb5 := below_five' (hb0.trans (g1.mono (by have := hb0.size; omega))) (show k0 ≤ k0 + 1 by omega) (.bool lf) (.slice b1 n1 d1) (.slice b2 n2 d2) (.slice b3 n3 d3) (.slice b4 n4 d4)
    have O5 : Owns (((((u.setCell ⟨k0 + 1, 0, none⟩ (.bool lf)).setCell ⟨k0 + 1, 1, none⟩ (.slice b1 n1 d1)).setCell ⟨k0 + 1, 2, none⟩ (.slice b2 n2 d2)).setCell ⟨k0 + 1, 3, none⟩ (.slice b3 n3 d3)).setCell ⟨k0 + 1, 4, none⟩ (.slice b4 n4 d4)) B ⟨lf, ps, pv, ks, bf⟩ (.slice b1 n1 d1) (.slice b2 n2 d2) (.slice b3 n3 d3) (.slice b4 n4 d4) :=
      ⟨row_five ho.o1 (by omega), row_five ho.o2 (by omega), row_five ho.o3 (by omega), row_five ho.o4 (by omega)⟩
    clear z0 z1 z2 z3 z4 f0 f1 f2 f3 f4 M1 ho
    generalize ((((u.setCell ⟨k0 + 1, 0, none⟩ (.bool lf)).setCell ⟨k0 + 1, 1, none⟩ (.slice b1 n1 d1)).setCell ⟨k0 + 1, 2, none⟩ (.slice b2 n2 d2)).setCell ⟨k0 + 1, 3, none⟩ (.slice b3 n3 d3)).setCell ⟨k0 + 1, 4, none⟩ (.slice b4 n4 d4) = u1 at *
    obtain ⟨v0, v1, v2, v3, v4⟩ := M2.cells
    simp only [Act.put, List.setIfInBounds_toArray, List.set_cons_zero, List.set_cons_succ]
    go_wp2_with fail
    refine bodyPost_ret (v := .agg #[.bool lf, .slice b1 n1 d1, .slice b2 n2 d2, .slice b3 n3 d3, .slice b4 n4 d4]) (by simp [results, Tryz.results36, go_sem, v0, v1, v2, v3, v4]) rfl ⟨_, _, _, _, rfl, ?_, ?_⟩
    · first | exact O5 | (rw [hk0, hB]; exact O5)
    · first | exact hb5 | (rw [hk0]; exact hb5)
end Go.Proofs.YtegmpfmhlpdmhaaGreat.Key
