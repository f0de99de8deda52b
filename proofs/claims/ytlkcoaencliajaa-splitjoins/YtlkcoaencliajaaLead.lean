/-
  Contracts of Lead and Step, the document's.
-/
import Derived.Test.YtlkcoaencliajaaStep
import Derived.Test.YtlkcoaencliajaaKidRef
import Derived.Test.YtlkcoaencliajaaRefMay2
import Derived.Test.YtlkcoaencliajaaKd
namespace Go.Proofs.Ytlkcoaencliajaa.Key
open Go.RowKit Draw
open Go.Op (bytesLess)

theorem EBox.put {w : World} {k : Nat} {e0 : E} (h : EBox w k e0) (e : E) :
    EBox ((((w.setCell ⟨k, 0, none⟩ (.int .u32 e.blk)).setCell ⟨k, 1, none⟩ (.int .u16 e.deep)).setCell ⟨k, 2, none⟩ (.string e.strip)).setCell ⟨k, 3, none⟩ (.string e.add)) k e :=
  Go.Joins.block_setCell (Go.Joins.block_setCell (Go.Joins.block_setCell (Go.Joins.block_setCell h _) _) _) _

theorem WBox.beside4 {w : World} {k g : Nat} {v0 v1 v2 v3 v4 : Value} (h : WBox w k v0 v1 v2 v3 v4) (hne : k < g) (y0 y1 y2 y3 : Value) :
    WBox ((((w.setCell ⟨g, 0, none⟩ y0).setCell ⟨g, 1, none⟩ y1).setCell ⟨g, 2, none⟩ y2).setCell ⟨g, 3, none⟩ y3) k v0 v1 v2 v3 v4 := by
  unfold WBox
  rw [Below.heap_setCell _ _ _ _ (Nat.ne_of_lt hne), Below.heap_setCell _ _ _ _ (Nat.ne_of_lt hne), Below.heap_setCell _ _ _ _ (Nat.ne_of_lt hne), Below.heap_setCell _ _ _ _ (Nat.ne_of_lt hne)]
  exact h
theorem below_four {B k : Nat} {w w' : World} (h : Below B w w') (hk : B ≤ k) (v0 v1 v2 v3 : Value) :
    Below B w ((((w'.setCell ⟨k, 0, none⟩ v0).setCell ⟨k, 1, none⟩ v1).setCell ⟨k, 2, none⟩ v2).setCell ⟨k, 3, none⟩ v3) :=
  (((h.setCell (p := ⟨k, 0, none⟩) hk _).setCell (p := ⟨k, 1, none⟩) hk _).setCell (p := ⟨k, 2, none⟩) hk _).setCell (p := ⟨k, 3, none⟩) hk _
theorem EBox.free {w : World} {k : Nat} {e : E} (h : EBox w k e) (i : Nat) : w.frozen? ⟨k, i, none⟩ = false := frozen_of_row _ _ i _ _ h

set_option maxRecDepth 100000 in
set_option maxHeartbeats 600000 in
theorem lead43 (n : Nd) (p : Pl) (k : ByteArray) (w : World) (hf : Small n) (hk : k.size ≤ 1000) (h : Lies w n p) (hr : mayI n = 0) :
    Calls Try.prog 40 #[nv n p, .string k] w fun x w' => x = .returned (wv (stepW n k.data.toList)) ∧ Below w.heap.size w w' := by
  have hb0 : Below w.heap.size w ((w.alloc (.cells #[.bool n.leaf, .slice p.a1 n.ps.length p.c1, .slice p.a2 n.pv.length p.c2, .slice p.a3 n.ks.length p.c3, .slice p.a4 n.bf.length p.c4] 27)).alloc (.cells #[.int .u8 0, .string ⟨#[]⟩, .int .u32 0, .int .u16 0, .string ⟨#[]⟩] 56)) := (below_box w _).alloc (by simp) _
  have N0 := (NBox.new w (.bool n.leaf) (.slice p.a1 n.ps.length p.c1) (.slice p.a2 n.pv.length p.c2) (.slice p.a3 n.ks.length p.c3) (.slice p.a4 n.bf.length p.c4)).alloc (.cells #[.int .u8 0, .string ⟨#[]⟩, .int .u32 0, .int .u16 0, .string ⟨#[]⟩] 56)
  have W0 := WBox.new (w.alloc (.cells #[.bool n.leaf, .slice p.a1 n.ps.length p.c1, .slice p.a2 n.pv.length p.c2, .slice p.a3 n.ks.length p.c3, .slice p.a4 n.bf.length p.c4] 27)) (.int .u8 0) (.string ⟨#[]⟩) (.int .u32 0) (.int .u16 0) (.string ⟨#[]⟩)
  simp only [World.size_alloc] at W0
  obtain ⟨few, kb, ab, ae, _, _⟩ := hf
  have hf1 := few.l1
  have hf2 := few.l2
  have hf3 := few.l3
  have hf4 := few.l4
  have HP := hid (fun w' (h : Prs w' p.a1 n.ps) => get51 p.a1 p.c1 n.ps k w' few.l1 h)
  have HL := hid (fun w' (h : Msgs w' p.a4 n.bf) => last52 p.a4 p.c4 n.bf k w' (by unfold maxLen; omega) h)
  have HK := hid (fun w' (h : Lies w' n p) => kid53 n p k w' few.l2 few.l3 h)
  have hS : stepW n k.data.toList = if mayI n = 0 then if n.leaf then pairW n.ps k.data.toList else if 0 ≤ lastI n.bf k.data.toList then byM (n.bf.getD (lastI n.bf k.data.toList).toNat M.nil) k.data.toList else byE (n.ks.getD (kidC n.pv k.data.toList) E.nil) k.data.toList else noWay := rfl
  have hMF := fun h hl => @may_fork n h hl
  have HLC := hid (lastI_cases n.bf k.data.toList)
  have hh := hid h
  have hP : pairW n.ps k.data.toList = if getB n.ps k.data.toList then toVal (getV n.ps k.data.toList) else noWay := rfl
  rw [if_pos hr] at hS
  have hMF := hMF hr
  clear hr
  cases hlf : n.leaf
  case true =>
    rw [hlf, if_pos rfl, hP] at hS
    rw [hS]
    clear hS hMF HLC HL HK h few kb ab ae hP
    generalize getB n.ps k.data.toList = B at *
    generalize getV n.ps k.data.toList = V at *
    obtain ⟨lf, ps, pv, ks, bf⟩ := n
    obtain ⟨a1, c1, a2, c2, a3, c3, a4, c4⟩ := p
    dsimp only [nv] at *
    subst hlf
    have h1 := hid (hh.out.h1.later hb0)
    dsimp only at h1
    clear hh
    generalize ps.length = n1 at *
    generalize pv.length = n2 at *
    generalize ks.length = n3 at *
    generalize bf.length = n4 at *
    go_enter Try.func40, Try.ntmps40
    go_wp2_with fail
    refine (HP.out _ h1.out).mono ?_
    clear HP
    rintro x w1 ⟨rfl, rfl⟩
    cases B
    · go_wp2_with fail
      exact bodyPost_ret (v := .agg #[.int .u8 0, .string ⟨#[]⟩, .int .u32 0, .int .u16 0, .string ⟨#[]⟩]) (by simp [results, Try.results40, go_sem]) rfl ⟨rfl, (below_box w _).alloc (by simp) _⟩
    · go_wp2_with fail
      exact bodyPost_ret (v := .agg #[.int .u8 1, .string V, .int .u32 0, .int .u16 0, .string ⟨#[]⟩]) (by simp [results, Try.results40, go_sem]) rfl ⟨rfl, (below_box w _).alloc (by simp) _⟩
  case false =>
  rw [hlf, if_neg (by simp)] at hS
  clear hP HP
  obtain ⟨hlen, hup⟩ := hMF hlf
  rcases HLC.out with ⟨i, hi, hil⟩ | hi
  case inl =>
    rw [hi, if_pos (by omega), Int.toNat_natCast, getD_at hil] at hS
    rw [hi] at HL
    rw [hS]
    clear hS hMF HLC HK h few kb ae hup
    have HB := hid (fun w' => on54 ⟨n.bf[i].blk, n.bf[i].deep, n.bf[i].key, n.bf[i].add⟩ k w' (by have := ab n.bf[i] (List.getElem_mem hil); dsimp only; omega) (by omega))
    have hM : byM n.bf[i] k.data.toList = if n.bf[i].kind = 1 then toVal n.bf[i].val else if n.bf[i].kind = 3 then byE ⟨n.bf[i].blk, n.bf[i].deep, n.bf[i].key, n.bf[i].add⟩ k.data.toList else noWay := rfl
    rw [hM]
    clear ab hi hM
    obtain ⟨b, off, ha4, h6⟩ := hh.out.h4.at hil
    obtain ⟨m, HS⟩ : ∃ m, Hid (n.bf[i] = m) := ⟨_, hid rfl⟩
    rw [HS.out] at h6 HB ⊢
    clear HS
    have h4 := hid (hh.out.h4.later hb0)
    clear hh
    obtain ⟨lf, ps, pv, ks, bf⟩ := n
    obtain ⟨a1, c1, a2, c2, a3, c3, a4, c4⟩ := p
    dsimp only [nv] at *
    subst hlf ha4
    obtain ⟨kd, ky, vl, bk, dp, ad⟩ := m
    dsimp only at HB ⊢
    generalize byE ⟨bk, dp, ky, ad⟩ k.data.toList = y at *
    generalize ps.length = n1 at *
    generalize pv.length = n2 at *
    generalize ks.length = n3 at *
    generalize bf.length = n4 at *
    have key : ∀ (R : Wy), (kd = 1 → R = toVal vl) → (kd ≠ 1 → kd = 3 → R = y) → (kd ≠ 1 → kd ≠ 3 → R = noWay) →
        Calls Try.prog 40 #[.agg #[.bool false, .slice a1 n1 c1, .slice a2 n2 c2, .slice a3 n3 c3, .slice (some ⟨b, off, none⟩) n4 c4], .string k] w fun x w' => x = .returned (wv R) ∧ Below w.heap.size w w' := by
      intro R r1 r2 r3
      by_cases h1 : kd = 1
      · obtain rfl := r1 h1
        clear r1 r2 r3 HB
        subst h1
        go_enter Try.func40, Try.ntmps40
        go_wp2_with fail
        refine (HL.out _ h4.out).mono ?_
        clear HL
        rintro x w2 ⟨rfl, hb3⟩
        have W2 := W0.later hb3
        have N2 := N0.later hb3
        have hb4 := hb0.trans (hb3.mono hb0.size)
        obtain ⟨d0, d1, d2, d3, d4, d5⟩ := h6.later hb4
        obtain ⟨m0, m1, m2, m3, m4⟩ := N2.cells
        have hi0 : ¬ (i : Int) < 0 := by omega
        obtain ⟨v0, v1, v2, v3, v4⟩ := W2.cells
        have hlt := W2.lt
        have f := W2.free
        have f0 := f 0
        have f1 := f 1
        have f2 := f 2
        have f3 := f 3
        have f4 := f 4
        dsimp only at d0 d1 d2 d3 d4 d5
        clear N0 W0 hb3 hb0 f h4 W2
        have q5 := below_five hb4 (show w.heap.size ≤ w.heap.size + 1 by omega) (.int .u8 1) (.string vl) (.int .u32 0) (.int .u16 0) (.string ⟨#[]⟩)
        go_wp2_with fail
        exact bodyPost_ret (v := .agg #[.int .u8 1, .string vl, .int .u32 0, .int .u16 0, .string ⟨#[]⟩]) (by simp [results, Try.results40, go_sem, v0, v1, v2, v3, v4, hlt]) rfl ⟨rfl, q5.alloc q5.size _⟩
      have h1' : (kd == 1) = false := by simp; omega
      by_cases h3 : kd = 3
      · obtain rfl := r2 h1 h3
        clear r1 r2 r3
        subst h3
        go_enter Try.func40, Try.ntmps40
        go_wp2_with fail
        refine (HL.out _ h4.out).mono ?_
        clear HL
        rintro x w2 ⟨rfl, hb3⟩
        have W2 := W0.later hb3
        have N2 := N0.later hb3
        have hb4 := hb0.trans (hb3.mono hb0.size)
        obtain ⟨d0, d1, d2, d3, d4, d5⟩ := h6.later hb4
        obtain ⟨m0, m1, m2, m3, m4⟩ := N2.cells
        have hi0 : ¬ (i : Int) < 0 := by omega
        dsimp only at d0 d1 d2 d3 d4 d5
        have hb5 := hb4.alloc hb4.size (.cells #[.int .u8 3, .string ky, .string vl, .int .u32 bk, .int .u16 dp, .string ad] 90)
        have W3 := W2.alloc (.cells #[.int .u8 3, .string ky, .string vl, .int .u32 bk, .int .u16 dp, .string ad] 90)
        clear N0 W0 hb3 hb0 h4 W2
        go_wp2_with fail
        refine (HB.out _).mono ?_
        clear HB
        rintro x w3 ⟨rfl, hb6⟩
        have hb7 := hb5.trans (hb6.mono hb5.size)
        have W4 := W3.later hb6
        obtain ⟨v0, v1, v2, v3, v4⟩ := W4.cells
        have f := W4.free
        have f0 := f 0
        have f1 := f 1
        have f2 := f 2
        have f3 := f 3
        have f4 := f 4
        clear f W3 W4 hb6 hb5 m0 m1 m2 m3 m4 d0 d1 d2 d3 d4 d5
        obtain ⟨yk, yv, yb, yd, yy⟩ := R
        dsimp only
        go_wp2_with fail
        exact bodyPost_ret (v := .agg #[.int .u8 yk, .string yv, .int .u32 yb, .int .u16 yd, .string yy]) (by simp [results, Try.results40, go_sem, v0, v1, v2, v3, v4]) rfl ⟨rfl, below_five hb7 (by omega) _ _ _ _ _⟩
      · have h3' : (kd == 3) = false := by simp; omega
        obtain rfl := r3 h1 h3
        clear r1 r2 r3 HB
        go_enter Try.func40, Try.ntmps40
        go_wp2_with fail
        refine (HL.out _ h4.out).mono ?_
        clear HL
        rintro x w2 ⟨rfl, hb3⟩
        have W2 := W0.later hb3
        have N2 := N0.later hb3
        have hb4 := hb0.trans (hb3.mono hb0.size)
        obtain ⟨d0, d1, d2, d3, d4, d5⟩ := h6.later hb4
        obtain ⟨m0, m1, m2, m3, m4⟩ := N2.cells
        have hi0 : ¬ (i : Int) < 0 := by omega
        obtain ⟨v0, v1, v2, v3, v4⟩ := W2.cells
        have hlt := W2.lt
        have f := W2.free
        have f0 := f 0
        have f1 := f 1
        have f2 := f 2
        have f3 := f 3
        have f4 := f 4
        dsimp only at d0 d1 d2 d3 d4 d5
        clear N0 W0 hb3 hb0 f h4 W2
        have q5 := below_five hb4 (show w.heap.size ≤ w.heap.size + 1 by omega) (.int .u8 0) (.string ⟨#[]⟩) (.int .u32 0) (.int .u16 0) (.string ⟨#[]⟩)
        go_wp2_with fail
        exact bodyPost_ret (v := .agg #[.int .u8 0, .string ⟨#[]⟩, .int .u32 0, .int .u16 0, .string ⟨#[]⟩]) (by simp [results, Try.results40, go_sem, v0, v1, v2, v3, v4, hlt]) rfl ⟨rfl, q5.alloc q5.size _⟩
    refine key _ (fun h => by rw [if_pos h]) (fun h h' => by rw [if_neg h, if_pos h']) (fun h h' => by rw [if_neg h, if_neg h'])
  case inr =>
    rw [hi, if_neg (by omega)] at hS
    rw [hi] at HL
    rw [hS]
    obtain ⟨_, hk1, hk3⟩ := kid_same (k := k.data.toList) hup hlen
    rw [getD_at hk3]
    rw [hk1] at HK
    clear hS hMF HLC h few kb ab hup hk1 hlen
    have HB := hid (fun w' => on54 (n.ks[kidC n.pv k.data.toList]) k w' (by have := ae _ (List.getElem_mem hk3); omega) (by omega))
    generalize byE (n.ks[kidC n.pv k.data.toList]) k.data.toList = y at *
    clear ae hi
    obtain ⟨b, off, ha3, h6⟩ := hh.out.h3.at hk3
    obtain ⟨e, HS⟩ : ∃ m, Hid (n.ks[kidC n.pv k.data.toList] = m) := ⟨_, hid rfl⟩
    rw [HS.out] at h6 HB
    clear HS
    generalize kidC n.pv k.data.toList = q at *
    have h4 := hid (hh.out.h4.later hb0)
    have HK' := hid (fun w' (hb : Below w.heap.size w w') => HK.out w' (hh.out.later hb))
    clear hh HK
    obtain ⟨lf, ps, pv, ks, bf⟩ := n
    obtain ⟨a1, c1, a2, c2, a3, c3, a4, c4⟩ := p
    dsimp only [nv] at *
    subst hlf ha3
    obtain ⟨bk, dp, st, ad⟩ := e
    try dsimp only at HB
    generalize ps.length = n1 at *
    generalize pv.length = n2 at *
    generalize ks.length = n3 at *
    generalize bf.length = n4 at *
    go_enter Try.func40, Try.ntmps40
    go_wp2_with fail
    refine (HL.out _ h4.out).mono ?_
    clear HL
    rintro x w2 ⟨rfl, hb3⟩
    have W2 := W0.later hb3
    have N2 := N0.later hb3
    have hb4 := hb0.trans (hb3.mono hb0.size)
    clear W0 N0 hb3 hb0 h4
    obtain ⟨yk, yv, yb, yd, yy⟩ := y
    try dsimp only at HB
    obtain ⟨m0, m1, m2, m3, m4⟩ := N2.cells
    go_wp2_with fail
    clear m0 m1 m2 m3 m4
    generalize hk0 : w.heap.size = k0 at *
    have hs2 := hb4.size
    refine wp_region_last [(some 29, [], false), (some 30, [(0, 29)], false), (some 31, [], false), (some 32, [], false), (some 33, [(2, 31), (3, 32)], false), (some 34, [(1, 30), (4, 33)], false), (some 35, [(5, 34)], true), (some 8, [], true), (none, [(7, 8), (6, 35)], false)]
      (fun u => Below w2.heap.size w2 u) (fun _ u u' => Below u.heap.size u u')
      (fun i v u => match i with | 0 => v = .pointer (some ⟨k0, 3, none⟩) | 1 => v = .slice (some ⟨b, off, none⟩) n3 c3 | 2 => v = .agg #[.bool false, .slice a1 n1 c1, .slice a2 n2 c2, .slice (some ⟨b, off, none⟩) n3 c3, .slice a4 n4 c4] | 3 => v = .string k | 4 => v = .int .i64 q | 5 => v = .pointer (some ⟨b, off + q * 4, none⟩) | 6 => v = ev ⟨bk, dp, st, ad⟩ | 7 => ∃ g, v = .pointer (some ⟨g, 0, none⟩) ∧ EBox u g E.nil ∧ w2.heap.size ≤ g | _ => True)
      (by kernel_rfl) (by kernel_rfl) (Below.refl _ _).drew (fun i u u' h h' => h.trans (h'.mono h.size)) (fun i j v u u' hn h h' hv => ?_) [(some 29, [], false), (some 30, [(0, 29)], false), (some 31, [], false), (some 32, [], false), (some 33, [(2, 31), (3, 32)], false), (some 34, [(1, 30), (4, 33)], false), (some 35, [(5, 34)], true), (some 8, [], true)] 8 rfl _ rfl rfl (by kernel_rfl) (by kernel_rfl) ⟨?_, ?_, ?_, ?_, ?_, ?_, ?_, ?_, trivial⟩ ?_
    · match j with
      | 0 => exact hv
      | 1 => exact hv
      | 2 => exact hv
      | 3 => exact hv
      | 4 => exact hv
      | 5 => exact hv
      | 6 => exact hv
      | 7 => obtain ⟨g, e1, e2, e3⟩ := hv; exact ⟨g, e1, e2.later h', e3⟩
      | _ + 8 => trivial
    · rintro u g1
      exact opYields_val _ (by kernel_rfl) (by go_simp) ⟨Below.refl _ _, rfl⟩
    · rintro u g1 _ rfl
      obtain ⟨m0, m1, m2, m3, m4⟩ := (N2.later g1).cells
      exact opYields_val (.slice (some ⟨b, off, none⟩) n3 c3) (by kernel_rfl) (by go_simp) ⟨Below.refl _ _, rfl⟩
    · rintro u g1
      obtain ⟨m0, m1, m2, m3, m4⟩ := (N2.later g1).cells
      exact opYields_val (.agg #[.bool false, .slice a1 n1 c1, .slice a2 n2 c2, .slice (some ⟨b, off, none⟩) n3 c3, .slice a4 n4 c4]) (by kernel_rfl) (by go_simp) ⟨Below.refl _ _, rfl⟩
    · rintro u g1
      exact opYields_val _ (by kernel_rfl) (by go_simp) ⟨Below.refl _ _, rfl⟩
    · rintro u g1 _ rfl _ rfl
      exact opYields_call 68 #[.agg #[.bool false, .slice a1 n1 c1, .slice a2 n2 c2, .slice (some ⟨b, off, none⟩) n3 c3, .slice a4 n4 c4], .string k] (by kernel_rfl) (by go_simp) ((HK'.out u (hb4.trans (g1.mono (by omega)))).mono fun x u' ⟨h1, h2⟩ => ⟨_, h1, h2, rfl⟩)
    · rintro u g1 _ rfl _ rfl
      exact opYields_val (.pointer (some ⟨b, off + q * 4, none⟩)) (by kernel_rfl) (by go_simp) ⟨Below.refl _ _, rfl⟩
    · rintro u g1 _ rfl
      obtain ⟨d0, d1, d2, d3⟩ := h6.below (hb4.trans (g1.mono (by omega))) (by rw [← hk0]; exact h6.lt)
      exact opYields_val (ev ⟨bk, dp, st, ad⟩) (by kernel_rfl) (by go_simp) ⟨Below.refl _ _, rfl⟩
    · rintro u g1
      exact opYields_val (.pointer (some ⟨u.heap.size, 0, none⟩)) (u' := u.alloc (.cells #[.int .u32 0, .int .u16 0, .string ⟨#[]⟩, .string ⟨#[]⟩] 72)) (by kernel_rfl) (by go_simp) ⟨below_box _ _, u.heap.size, rfl, EBox.new u E.nil, g1.size⟩
    · intro u g1 x0 x1 x2 x3 x4 x5 x6 e6 x7 e7
      replace e6 : x6 = ev ⟨bk, dp, st, ad⟩ := e6
      replace e7 : ∃ g, x7 = .pointer (some ⟨g, 0, none⟩) ∧ EBox u g E.nil ∧ w2.heap.size ≤ g := e7
      obtain ⟨g, e7, hE, hg⟩ := e7
      subst e6 e7
      obtain ⟨z0, z1, z2, z3⟩ := hE.four
      have f := hE.free
      have f0 := f 0
      have f1 := f 1
      have f2 := f 2
      have f3 := f 3
      clear f
      simp only [Nat.zero_add] at z1 z2 z3
      have hkg : k0 + 1 < g := Nat.lt_of_lt_of_le W2.lt hg
      refine Puts.mk ((((u.setCell ⟨g, 0, none⟩ (.int .u32 bk)).setCell ⟨g, 1, none⟩ (.int .u16 dp)).setCell ⟨g, 2, none⟩ (.string st)).setCell ⟨g, 3, none⟩ (.string ad)) (by kernel_rfl) (by go_simp) ?_
      have E1 := hE.put ⟨bk, dp, st, ad⟩
      have W3 := (W2.later g1).beside4 hkg (.int .u32 bk) (.int .u16 dp) (.string st) (.string ad)
      have hb5 := below_four (hb4.trans (g1.mono (by omega))) (show k0 ≤ g by omega) (.int .u32 bk) (.int .u16 dp) (.string st) (.string ad)
      dsimp only at E1
      clear z0 z1 z2 z3 f0 f1 f2 f3 hE
      generalize (((u.setCell ⟨g, 0, none⟩ (.int .u32 bk)).setCell ⟨g, 1, none⟩ (.int .u16 dp)).setCell ⟨g, 2, none⟩ (.string st)).setCell ⟨g, 3, none⟩ (.string ad) = u1 at *
      obtain ⟨d0, d1, d2, d3⟩ := E1.four
      simp only [Nat.zero_add] at d1 d2 d3
      dsimp only at d0 d1 d2 d3
      simp only [Act.put, List.setIfInBounds_toArray, List.set_cons_zero, List.set_cons_succ]
      go_wp2_with fail
      refine (HB.out _).mono ?_
      clear HB
      rintro x w3 ⟨rfl, hb6⟩
      have hb7 := hb5.trans (hb6.mono (by have := hb5.size; omega))
      have W4 := W3.later hb6
      obtain ⟨v0, v1, v2, v3, v4⟩ := W4.cells
      have f := W4.free
      have f0 := f 0
      have f1 := f 1
      have f2 := f 2
      have f3 := f 3
      have f4 := f 4
      clear f W3 W4 hb6 hb5 d0 d1 d2 d3
      go_wp2_with fail
      refine bodyPost_ret (v := .agg #[.int .u8 yk, .string yv, .int .u32 yb, .int .u16 yd, .string yy]) (by simp [results, Try.results40, go_sem, v0, v1, v2, v3, v4]) rfl ⟨rfl, ?_⟩
      have q5 := below_five hb7 (show k0 ≤ k0 + 1 by omega) (.int .u8 yk) (.string yv) (.int .u32 yb) (.int .u16 yd) (.string yy)
      first | exact q5 | (rw [hk0]; exact q5)

set_option maxRecDepth 100000 in
set_option maxHeartbeats 1000000 in
/-- Step, the document's -/
theorem step20 (n : Nd) (p : Pl) (k : ByteArray) (w : World) (hf : Small n) (hk : k.size ≤ 1000) (h : Lies w n p) :
    Calls Try.prog 21 #[nv n p, .string k] w fun x w' => x = .returned (wv (stepW n k.data.toList)) ∧ Below w.heap.size w w' := by
  have hb0 : Below w.heap.size w ((w.alloc (.cells #[.bool n.leaf, .slice p.a1 n.ps.length p.c1, .slice p.a2 n.pv.length p.c2, .slice p.a3 n.ks.length p.c3, .slice p.a4 n.bf.length p.c4] 27)).alloc (.cells #[.int .u8 0, .string ⟨#[]⟩, .int .u32 0, .int .u16 0, .string ⟨#[]⟩] 56)) := (below_box w _).alloc (by simp) _
  have N0 := (NBox.new w (.bool n.leaf) (.slice p.a1 n.ps.length p.c1) (.slice p.a2 n.pv.length p.c2) (.slice p.a3 n.ks.length p.c3) (.slice p.a4 n.bf.length p.c4)).alloc (.cells #[.int .u8 0, .string ⟨#[]⟩, .int .u32 0, .int .u16 0, .string ⟨#[]⟩] 56)
  have W0 := WBox.new (w.alloc (.cells #[.bool n.leaf, .slice p.a1 n.ps.length p.c1, .slice p.a2 n.pv.length p.c2, .slice p.a3 n.ks.length p.c3, .slice p.a4 n.bf.length p.c4] 27)) (.int .u8 0) (.string ⟨#[]⟩) (.int .u32 0) (.int .u16 0) (.string ⟨#[]⟩)
  simp only [World.size_alloc] at W0
  have HM := hid (may13 n p _ hf.few (h.later hb0) (fun m hm => (hf.db m hm).1))
  have HL := hid (fun hr w' (hb : Below w.heap.size w w') => lead43 n p k w' hf hk (h.later hb) hr)
  have hS : ¬ mayI n = 0 → stepW n k.data.toList = noWay := fun hr => by unfold stepW; rw [if_neg hr]
  clear hf h
  generalize stepW n k.data.toList = y at *
  generalize mayI n = R at *
  obtain ⟨lf, ps, pv, ks, bf⟩ := n
  obtain ⟨a1, c1, a2, c2, a3, c3, a4, c4⟩ := p
  dsimp only [nv] at *
  generalize ps.length = n1 at *
  generalize pv.length = n2 at *
  generalize ks.length = n3 at *
  generalize bf.length = n4 at *
  by_cases hr : R = 0
  · subst hr
    have HL' := HL.out rfl
    have HLL := hid HL'
    clear HL HL' hS
    go_enter Try.func21, Try.ntmps21
    go_wp2_with fail
    refine HM.out.mono ?_
    clear HM
    rintro x w1 ⟨rfl, hb1⟩
    have hb2 := hb0.trans (hb1.mono hb0.size)
    have W1 := W0.later hb1
    obtain ⟨m0, m1, m2, m3, m4⟩ := (N0.later hb1).cells
    clear W0 hb0 hb1 N0
    go_wp2_with fail
    refine (HLL.out w1 hb2).mono ?_
    clear HLL m0 m1 m2 m3 m4
    rintro x w2 ⟨rfl, hb3⟩
    have W2 := W1.later hb3
    have hb4 := hb2.trans (hb3.mono hb2.size)
    obtain ⟨v0, v1, v2, v3, v4⟩ := W2.cells
    have f := W2.free
    have f0 := f 0
    have f1 := f 1
    have f2 := f 2
    have f3 := f 3
    have f4 := f 4
    clear f W1 W2 hb3 hb2
    obtain ⟨yk, yv, yb, yd, yy⟩ := y
    dsimp only
    go_wp2_with fail
    exact bodyPost_ret (v := .agg #[.int .u8 yk, .string yv, .int .u32 yb, .int .u16 yd, .string yy]) (by simp [results, Try.results21, go_sem, v0, v1, v2, v3, v4]) rfl ⟨rfl, below_five hb4 (by omega) _ _ _ _ _⟩
  · obtain rfl := hS hr
    clear HL hS
    have hr' : (R == 0) = false := by simpa using hr
    go_enter Try.func21, Try.ntmps21
    go_wp2_with fail
    refine HM.out.mono ?_
    clear HM
    rintro x w1 ⟨rfl, hb1⟩
    have hb2 := hb0.trans (hb1.mono hb0.size)
    have W1 := W0.later hb1
    obtain ⟨v0, v1, v2, v3, v4⟩ := W1.cells
    have f := W1.free
    have f0 := f 0
    have f1 := f 1
    have f2 := f 2
    have f3 := f 3
    have f4 := f 4
    clear f W0 W1 hb0 hb1 N0
    go_wp2_with fail
    exact bodyPost_ret (v := .agg #[.int .u8 0, .string ⟨#[]⟩, .int .u32 0, .int .u16 0, .string ⟨#[]⟩]) (by simp [results, Try.results21, go_sem, v0, v1, v2, v3, v4]) rfl ⟨rfl, below_five hb2 (by omega) _ _ _ _ _⟩
end Go.Proofs.Ytlkcoaencliajaa.Key
