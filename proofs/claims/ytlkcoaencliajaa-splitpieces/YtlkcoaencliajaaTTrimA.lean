/-
  Contract of Trim, the program's.
-/
import Derived.Test.YtlkcoaencliajaaTFork
import Derived.Test.YtlkcoaencliajaaTLeaf
namespace Go.Proofs.Ytlkcoaencliajaa.Key
open Go.RowKit Draw
open Go.Op (bytesLess)
set_option linter.unusedVariables false
set_option linter.unusedSimpArgs false

theorem three_boxes (w : World) (v0 v1 v2 v3 v4 r0 r1 r2 x0 x1 x2 x3 x4 : Value) :
    NBox (((w.alloc (.cells #[v0, v1, v2, v3, v4] 27)).alloc (.cells #[r0, r1, r2] 29)).alloc (.cells #[x0, x1, x2, x3, x4] 27)) w.heap.size v0 v1 v2 v3 v4 ∧
    Box (((w.alloc (.cells #[v0, v1, v2, v3, v4] 27)).alloc (.cells #[r0, r1, r2] 29)).alloc (.cells #[x0, x1, x2, x3, x4] 27)) (w.heap.size + 1) r0 r1 r2 ∧
    NBox (((w.alloc (.cells #[v0, v1, v2, v3, v4] 27)).alloc (.cells #[r0, r1, r2] 29)).alloc (.cells #[x0, x1, x2, x3, x4] 27)) (w.heap.size + 1 + 1) x0 x1 x2 x3 x4 ∧
    Below w.heap.size w (((w.alloc (.cells #[v0, v1, v2, v3, v4] 27)).alloc (.cells #[r0, r1, r2] 29)).alloc (.cells #[x0, x1, x2, x3, x4] 27)) ∧
    (((w.alloc (.cells #[v0, v1, v2, v3, v4] 27)).alloc (.cells #[r0, r1, r2] 29)).alloc (.cells #[x0, x1, x2, x3, x4] 27)).heap.size = w.heap.size + 1 + 1 + 1 := by
  have a1 : (w.alloc (.cells #[v0, v1, v2, v3, v4] 27)).heap.size = w.heap.size + 1 := by simp
  have a2 : ((w.alloc (.cells #[v0, v1, v2, v3, v4] 27)).alloc (.cells #[r0, r1, r2] 29)).heap.size = w.heap.size + 1 + 1 := by simp
  have h0 := NBox.new w v0 v1 v2 v3 v4
  have h1 := Box.new (w.alloc (.cells #[v0, v1, v2, v3, v4] 27)) r0 r1 r2
  have h2 := NBox.new ((w.alloc (.cells #[v0, v1, v2, v3, v4] 27)).alloc (.cells #[r0, r1, r2] 29)) x0 x1 x2 x3 x4
  rw [a1] at h1
  rw [a2] at h2
  exact ⟨(h0.alloc _).alloc _, h1.alloc _, h2, ((below_box w _).alloc (by simp) _).alloc (by simp; omega) _, by simp⟩
/-- what Trim answers -/
def TrimSay (w w' : World) (x : Ending) (n : Nd) (r : Rng) (a : ByteArray) : Prop :=
  ∃ x1 x2 x3 x4, x = .returned (.tuple #[.agg #[.bool (trimA n r a).leaf, x1, x2, x3, x4], .int .i64 (trimE n r a)]) ∧ Owns w' w.heap.size (trimA n r a) x1 x2 x3 x4
theorem say_none {w w' : World} {x : Ending} {n : Nd} {r : Rng} {a : ByteArray} {z : Int} (hz : trimE n r a = z) (h0 : z ≠ 0) (hx : x = .returned (.tuple #[.agg #[.bool false, .slice none 0 0, .slice none 0 0, .slice none 0 0, .slice none 0 0], .int .i64 z])) : TrimSay w w' x n r a := by
  have e : trimA n r a = nilN := by unfold trimA; rw [hz, if_neg h0]
  refine ⟨.slice none 0 0, .slice none 0 0, .slice none 0 0, .slice none 0 0, ?_, ?_⟩
  · rw [hx, hz, e]; rfl
  · rw [e]; exact ⟨row_nil _ _ _ _, row_nil _ _ _ _, row_nil _ _ _ _, row_nil _ _ _ _⟩
theorem say_some {w w' : World} {x : Ending} {n : Nd} {r : Rng} {a : ByteArray} {m : Nd} {x1 x2 x3 x4 : Value} {B : Nat} (hz : trimE n r a = 0) (hm : trimN n r a = m) (hx : x = .returned (.tuple #[.agg #[.bool m.leaf, x1, x2, x3, x4], .int .i64 0])) (hO : Owns w' B m x1 x2 x3 x4) (hB : w.heap.size ≤ B) : TrimSay w w' x n r a := by
  have e : trimA n r a = m := by unfold trimA; rw [if_pos hz, hm]
  refine ⟨x1, x2, x3, x4, ?_, ?_⟩
  · rw [hx, hz, e]
  · rw [e]; exact ⟨row_mono hO.o1 hB, row_mono hO.o2 hB, row_mono hO.o3 hB, row_mono hO.o4 hB⟩
/-- a pivot between two kids that are touched is as long as what is cut off it -/
theorem piv_long {n : Nd} {r : Rng} {a : ByteArray} (hup : upTo (pivAt n.pv) n.pv.length = true) (hf : fitsT r a = true) {i : Nat} {s : ByteArray} (hs : n.pv[i]? = some s) (ht : tch n.pv r (i + 1) = true) (h0 : 0 < (ksT n r a (i + 1)).length) : a.size ≤ s.size := by
  obtain ⟨hi, rfl⟩ := List.getElem?_eq_some_iff.1 hs
  have hne : picks n.pv r (i + 1) ≠ [] := by
    intro e
    rw [ksT_nil.2 e] at h0
    simp at h0
  obtain ⟨j, hj⟩ := List.exists_mem_of_ne_nil _ hne
  obtain ⟨h1, h2⟩ := mem_picks.1 hj
  obtain ⟨hin, _⟩ := piv_in hup hi ht (show j ≤ i by omega) h2
  exact has_size (fits_all hf hin)
theorem fork_sizes {n : Nd} (h : mayI n = 0) (hl : n.leaf = false) : (∀ x ∈ n.ks, x.strip.size ≤ 1000 ∧ x.add.size ≤ 1000) ∧ ∀ m ∈ n.bf, m.key.size ≤ 1000 ∧ m.add.size ≤ 1000 := by
  obtain ⟨_, hb⟩ := may_iff.1 h
  unfold fineB at hb
  rw [hl, if_neg (by simp)] at hb
  obtain ⟨_, _, _, g4, g5⟩ := fork_iff.1 hb
  refine ⟨fun x hx => ?_, fun m hm => ?_⟩
  · have := g4 x hx
    unfold okE at this
    simp only [Bool.and_eq_true, decide_eq_true_eq] at this
    omega
  · have := g5 m hm
    unfold mayB at this
    simp only [Bool.and_eq_true, decide_eq_true_eq] at this
    omega

set_option maxRecDepth 100000 in
set_option maxHeartbeats 4000000 in
theorem trim10 (n : Nd) (p : Pl) (lo hi : ByteArray) (e : Bool) (a : ByteArray) (w : World) (hf : Few n) (h : Lies w n p) (hlo : lo.size ≤ 1000) (hhi : hi.size ≤ 1000) (ha : a.size ≤ 1000) :
    Calls Try.prog 35 #[nv n p, av lo hi e, .string a] w fun x w' => TrimSay w w' x n (rg lo hi e) a ∧ Below w.heap.size w w' := by
  have HM := hid (fun (wr : World) (hb : Below w.heap.size w wr) => may12 n p wr hf (h.later hb))
  by_cases hm : mayI n = 0
  case neg =>
    have HE := hid (show trimE n (rg lo hi e) a = 3 from by unfold trimE; rw [if_neg hm])
    clear h hf
    generalize mayI n = MI at *
    obtain ⟨N0, R0, M0, hb0, hs0⟩ := three_boxes w (.bool n.leaf) (.slice p.a1 n.ps.length p.c1) (.slice p.a2 n.pv.length p.c2) (.slice p.a3 n.ks.length p.c3) (.slice p.a4 n.bf.length p.c4) (.string lo) (.string hi) (.bool e) (.bool false) (.slice none 0 0) (.slice none 0 0) (.slice none 0 0) (.slice none 0 0)
    obtain ⟨lB, ps, ws, ks, bf⟩ := n
    obtain ⟨a1, c1, a2, c2, a3, c3, a4, c4⟩ := p
    dsimp only [nv] at *
    generalize ps.length = n1 at *
    generalize ws.length = n2 at *
    generalize ks.length = n3 at *
    generalize bf.length = n4 at *
    go_enter Try.func35, Try.ntmps35
    go_upto_region 1 with fail
    generalize ((w.alloc (.cells #[.bool lB, .slice a1 n1 c1, .slice a2 n2 c2, .slice a3 n3 c3, .slice a4 n4 c4] 27)).alloc (.cells #[.string lo, .string hi, .bool e] 29)).alloc (.cells #[.bool false, .slice none 0 0, .slice none 0 0, .slice none 0 0, .slice none 0 0] 27) = w3 at *
    generalize hk0 : w.heap.size = k0 at *
    generalize hk1 : k0 + 1 = k1 at *
    generalize hk2 : k1 + 1 = k2 at *
    have HQ0 := hid hk0
    have HQ := hid (And.intro hk1 hk2)
    clear hk0 hk1 hk2
    have hkk := HQ.out
    obtain ⟨m0, m1, m2, m3, m4⟩ := N0.cells
    go_wp2_with fail
    refine (HM.out _ hb0).mono ?_
    rintro x w4 ⟨rfl, hb4⟩
    have hs4 := hb4.size
    have N4 := N0.later hb4
    have R4 := R0.later hb4
    have M4 := M0.later hb4
    replace hb4 := hb0.trans (hb4.mono (by omega))
    clear HM m0 m1 m2 m3 m4 N0 R0 M0
    obtain ⟨z0, z1, z2, z3, z4⟩ := M4.cells
    have f := M4.free
    have f0 := f 0
    have f1 := f 1
    have f2 := f 2
    have f3 := f 3
    have f4 := f 4
    clear f
    have hb9 := below_five hb4 (show k0 ≤ k2 by omega) (.bool false) (.slice none 0 0) (.slice none 0 0) (.slice none 0 0) (.slice none 0 0)
    go_wp2_with fail
    refine bodyPost_ret (v := .tuple #[.agg #[.bool false, .slice none 0 0, .slice none 0 0, .slice none 0 0, .slice none 0 0], .int .i64 3]) (by simp [results, Try.results35, go_sem, z0, z1, z2, z3, z4]) rfl ⟨?_, ?_⟩
    · exact say_none HE.out (by decide) rfl
    · rw [HQ0.out]; exact hb9
  case pos =>
  have HU := hid (fun wr => under24 lo hi e wr hlo hhi)
  have HY := hid (fun wr => empty25 lo hi e wr)
  rw [hm] at HM
  cases hE : emptyR (rg lo hi e)
  case true =>
    have HE := hid (show trimE n (rg lo hi e) a = 1 from by unfold trimE fitsT; rw [if_pos hm, hE]; rfl)
    rw [hE] at HY
    clear h hf hm hE
    obtain ⟨N0, R0, M0, hb0, hs0⟩ := three_boxes w (.bool n.leaf) (.slice p.a1 n.ps.length p.c1) (.slice p.a2 n.pv.length p.c2) (.slice p.a3 n.ks.length p.c3) (.slice p.a4 n.bf.length p.c4) (.string lo) (.string hi) (.bool e) (.bool false) (.slice none 0 0) (.slice none 0 0) (.slice none 0 0) (.slice none 0 0)
    obtain ⟨lB, ps, ws, ks, bf⟩ := n
    obtain ⟨a1, c1, a2, c2, a3, c3, a4, c4⟩ := p
    dsimp only [nv] at *
    generalize ps.length = n1 at *
    generalize ws.length = n2 at *
    generalize ks.length = n3 at *
    generalize bf.length = n4 at *
    go_enter Try.func35, Try.ntmps35
    go_upto_region 1 with fail
    generalize ((w.alloc (.cells #[.bool lB, .slice a1 n1 c1, .slice a2 n2 c2, .slice a3 n3 c3, .slice a4 n4 c4] 27)).alloc (.cells #[.string lo, .string hi, .bool e] 29)).alloc (.cells #[.bool false, .slice none 0 0, .slice none 0 0, .slice none 0 0, .slice none 0 0] 27) = w3 at *
    generalize hk0 : w.heap.size = k0 at *
    generalize hk1 : k0 + 1 = k1 at *
    generalize hk2 : k1 + 1 = k2 at *
    have HQ0 := hid hk0
    have HQ := hid (And.intro hk1 hk2)
    clear hk0 hk1 hk2
    have hkk := HQ.out
    obtain ⟨m0, m1, m2, m3, m4⟩ := N0.cells
    go_wp2_with fail
    refine (HM.out _ hb0).mono ?_
    rintro x w4 ⟨rfl, hb4⟩
    have hs4 := hb4.size
    have N4 := N0.later hb4
    have R4 := R0.later hb4
    have M4 := M0.later hb4
    replace hb4 := hb0.trans (hb4.mono (by omega))
    clear HM m0 m1 m2 m3 m4 N0 R0 M0
    obtain ⟨r0, r1, r2⟩ := R4.cells
    go_wp2_with fail
    refine (HY.out _).mono ?_
    rintro x w5 ⟨rfl, hb5⟩
    have M5 := M4.later hb5
    replace hb5 := hb4.trans (hb5.mono (by omega))
    clear r0 r1 r2
    obtain ⟨z0, z1, z2, z3, z4⟩ := M5.cells
    have f := M5.free
    have f0 := f 0
    have f1 := f 1
    have f2 := f 2
    have f3 := f 3
    have f4 := f 4
    clear f
    have hb9 := below_five hb5 (show k0 ≤ k2 by omega) (.bool false) (.slice none 0 0) (.slice none 0 0) (.slice none 0 0) (.slice none 0 0)
    go_wp2_with fail
    refine bodyPost_ret (v := .tuple #[.agg #[.bool false, .slice none 0 0, .slice none 0 0, .slice none 0 0, .slice none 0 0], .int .i64 1]) (by simp [results, Try.results35, go_sem, z0, z1, z2, z3, z4]) rfl ⟨?_, ?_⟩
    · exact say_none HE.out (by decide) rfl
    · rw [HQ0.out]; exact hb9
  case false =>
  rw [hE] at HY
  cases hH : has (under (rg lo hi e)) a.data.toList
  case false =>
    have HE := hid (show trimE n (rg lo hi e) a = 1 from by unfold trimE fitsT; rw [if_pos hm, hE, hH]; rfl)
    have HA := hid (fun wr => has21 (str (under (rg lo hi e))) a wr)
    rw [str_data, hH] at HA
    generalize str (under (rg lo hi e)) = U at *
    clear h hf hm hE hH
    obtain ⟨N0, R0, M0, hb0, hs0⟩ := three_boxes w (.bool n.leaf) (.slice p.a1 n.ps.length p.c1) (.slice p.a2 n.pv.length p.c2) (.slice p.a3 n.ks.length p.c3) (.slice p.a4 n.bf.length p.c4) (.string lo) (.string hi) (.bool e) (.bool false) (.slice none 0 0) (.slice none 0 0) (.slice none 0 0) (.slice none 0 0)
    obtain ⟨lB, ps, ws, ks, bf⟩ := n
    obtain ⟨a1, c1, a2, c2, a3, c3, a4, c4⟩ := p
    dsimp only [nv] at *
    generalize ps.length = n1 at *
    generalize ws.length = n2 at *
    generalize ks.length = n3 at *
    generalize bf.length = n4 at *
    go_enter Try.func35, Try.ntmps35
    go_upto_region 1 with fail
    generalize ((w.alloc (.cells #[.bool lB, .slice a1 n1 c1, .slice a2 n2 c2, .slice a3 n3 c3, .slice a4 n4 c4] 27)).alloc (.cells #[.string lo, .string hi, .bool e] 29)).alloc (.cells #[.bool false, .slice none 0 0, .slice none 0 0, .slice none 0 0, .slice none 0 0] 27) = w3 at *
    generalize hk0 : w.heap.size = k0 at *
    generalize hk1 : k0 + 1 = k1 at *
    generalize hk2 : k1 + 1 = k2 at *
    have HQ0 := hid hk0
    have HQ := hid (And.intro hk1 hk2)
    clear hk0 hk1 hk2
    have hkk := HQ.out
    obtain ⟨m0, m1, m2, m3, m4⟩ := N0.cells
    go_wp2_with fail
    refine (HM.out _ hb0).mono ?_
    rintro x w4 ⟨rfl, hb4⟩
    have hs4 := hb4.size
    have N4 := N0.later hb4
    have R4 := R0.later hb4
    have M4 := M0.later hb4
    replace hb4 := hb0.trans (hb4.mono (by omega))
    clear HM m0 m1 m2 m3 m4 N0 R0 M0
    obtain ⟨r0, r1, r2⟩ := R4.cells
    go_wp2_with fail
    refine (HY.out _).mono ?_
    rintro x w5 ⟨rfl, hb5⟩
    have M5 := M4.later hb5
    have R5 := R4.later hb5
    have hs5 := hb5.size
    replace hb5 := hb4.trans (hb5.mono (by omega))
    clear r0 r1 r2
    obtain ⟨r0, r1, r2⟩ := R5.cells
    go_wp2_with fail
    refine (HU.out _).mono ?_
    rintro x w6 ⟨rfl, hb6⟩
    have M6 := M5.later hb6
    replace hb6 := hb5.trans (hb6.mono (by omega))
    clear r0 r1 r2
    go_wp2_with fail
    refine (HA.out _).mono ?_
    rintro x w7 ⟨rfl, rfl⟩
    obtain ⟨z0, z1, z2, z3, z4⟩ := M6.cells
    have f := M6.free
    have f0 := f 0
    have f1 := f 1
    have f2 := f 2
    have f3 := f 3
    have f4 := f 4
    clear f
    have hb9 := below_five hb6 (show k0 ≤ k2 by omega) (.bool false) (.slice none 0 0) (.slice none 0 0) (.slice none 0 0) (.slice none 0 0)
    go_wp2_with fail
    refine bodyPost_ret (v := .tuple #[.agg #[.bool false, .slice none 0 0, .slice none 0 0, .slice none 0 0, .slice none 0 0], .int .i64 1]) (by simp [results, Try.results35, go_sem, z0, z1, z2, z3, z4]) rfl ⟨?_, ?_⟩
    · exact say_none HE.out (by decide) rfl
    · rw [HQ0.out]; exact hb9
  case true =>
  have hft : fitsT (rg lo hi e) a = true := by unfold fitsT; rw [hE, hH]; rfl
  have HA := hid (fun wr => has21 (str (under (rg lo hi e))) a wr)
  rw [str_data, hH] at HA
  generalize str (under (rg lo hi e)) = U at *
  clear hE hH
  cases hl : n.leaf
  case true =>
    have HE := hid (show trimE n (rg lo hi e) a = 0 from by unfold trimE; rw [if_pos hm, if_pos hft, hl, if_pos rfl])
    have HN := hid (show trimN n (rg lo hi e) a = ⟨true, psT n.ps (rg lo hi e) a, [], [], []⟩ from by unfold trimN; rw [hl]; rfl)
    have HT := hid (fun (wr : World) (hb : Below w.heap.size w wr) => leaf29 n p lo hi e a wr hf.l1 (h.later hb).h1 (fun k hk => fits_all hft hk))
    clear h hf hm hft
    obtain ⟨N0, R0, M0, hb0, hs0⟩ := three_boxes w (.bool n.leaf) (.slice p.a1 n.ps.length p.c1) (.slice p.a2 n.pv.length p.c2) (.slice p.a3 n.ks.length p.c3) (.slice p.a4 n.bf.length p.c4) (.string lo) (.string hi) (.bool e) (.bool false) (.slice none 0 0) (.slice none 0 0) (.slice none 0 0) (.slice none 0 0)
    obtain ⟨lB, ps, ws, ks, bf⟩ := n
    obtain ⟨a1, c1, a2, c2, a3, c3, a4, c4⟩ := p
    dsimp only [nv] at *
    generalize ps.length = n1 at *
    generalize ws.length = n2 at *
    generalize ks.length = n3 at *
    generalize bf.length = n4 at *
    subst hl
    go_enter Try.func35, Try.ntmps35
    go_upto_region 1 with fail
    generalize ((w.alloc (.cells #[.bool true, .slice a1 n1 c1, .slice a2 n2 c2, .slice a3 n3 c3, .slice a4 n4 c4] 27)).alloc (.cells #[.string lo, .string hi, .bool e] 29)).alloc (.cells #[.bool false, .slice none 0 0, .slice none 0 0, .slice none 0 0, .slice none 0 0] 27) = w3 at *
    generalize hk0 : w.heap.size = k0 at *
    generalize hk1 : k0 + 1 = k1 at *
    generalize hk2 : k1 + 1 = k2 at *
    have HQ0 := hid hk0
    have HQ := hid (And.intro hk1 hk2)
    clear hk0 hk1 hk2
    have hkk := HQ.out
    obtain ⟨m0, m1, m2, m3, m4⟩ := N0.cells
    go_wp2_with fail
    refine (HM.out _ hb0).mono ?_
    rintro x w4 ⟨rfl, hb4⟩
    have hs4 := hb4.size
    have N4 := N0.later hb4
    have R4 := R0.later hb4
    have M4 := M0.later hb4
    replace hb4 := hb0.trans (hb4.mono (by omega))
    clear HM m0 m1 m2 m3 m4 N0 R0 M0
    obtain ⟨r0, r1, r2⟩ := R4.cells
    go_wp2_with fail
    refine (HY.out _).mono ?_
    rintro x w5 ⟨rfl, hb5⟩
    have M5 := M4.later hb5
    have R5 := R4.later hb5
    have N5 := N4.later hb5
    have hs5 := hb5.size
    replace hb5 := hb4.trans (hb5.mono (by omega))
    clear r0 r1 r2
    obtain ⟨r0, r1, r2⟩ := R5.cells
    go_wp2_with fail
    refine (HU.out _).mono ?_
    rintro x w6 ⟨rfl, hb6⟩
    have M6 := M5.later hb6
    have R6 := R5.later hb6
    have N6 := N5.later hb6
    have hs6 := hb6.size
    replace hb6 := hb5.trans (hb6.mono (by omega))
    clear r0 r1 r2
    obtain ⟨r0, r1, r2⟩ := R6.cells
    obtain ⟨m0, m1, m2, m3, m4⟩ := N6.cells
    go_wp2_with fail
    refine (HA.out _).mono ?_
    rintro x w7 ⟨rfl, rfl⟩
    go_wp2_with fail
    refine (HT.out _ hb6).mono ?_
    rintro x w8 ⟨x1, rfl, q1, hb8⟩
    have M8 := M6.later hb8
    have hk8 := M6.lt
    replace hb8 := hb6.trans (hb8.mono (by omega))
    clear r0 r1 r2 m0 m1 m2 m3 m4
    obtain ⟨b1, d1, t1, rfl⟩ := row_slice q1
    obtain ⟨z0, z1, z2, z3, z4⟩ := M8.cells
    have f := M8.free
    have f0 := f 0
    have f1 := f 1
    have f2 := f 2
    have f3 := f 3
    have f4 := f 4
    clear f
    have hb9 := below_five hb8 (show k0 ≤ k2 by omega) (.bool true) (.slice b1 d1 t1) (.slice none 0 0) (.slice none 0 0) (.slice none 0 0)
    have q1 := row_five q1 (show k2 < w7.heap.size + 1 by omega) (y0 := .bool true) (y1 := .slice b1 d1 t1) (y2 := .slice none 0 0) (y3 := .slice none 0 0) (y4 := .slice none 0 0)
    go_wp2_with fail
    refine bodyPost_ret (v := .tuple #[.agg #[.bool true, .slice b1 d1 t1, .slice none 0 0, .slice none 0 0, .slice none 0 0], .int .i64 0]) (by simp [results, Try.results35, go_sem, z0, z1, z2, z3, z4]) rfl ⟨?_, ?_⟩
    · exact say_some HE.out HN.out rfl ⟨q1, row_nil _ _ _ _, row_nil _ _ _ _, row_nil _ _ _ _⟩ (by rw [HQ0.out]; omega)
    · rw [HQ0.out]; exact hb9
  case false =>
  obtain ⟨hz1, hz2⟩ := fork_sizes hm hl
  obtain ⟨hlen, hup⟩ := may_fork hm hl
  have HT := hid (fun (wr : World) (hb : Below w.heap.size w wr) => fork30 n p lo hi e a wr hf (h.later hb) ha hz1 hz2 hlen (fun i s hs ht h0 => piv_long hup hft hs ht h0))
  have HN := hid (show trimN n (rg lo hi e) a = trimF n (rg lo hi e) a from by unfold trimN; rw [hl]; rfl)
  have HE := hid (show trimE n (rg lo hi e) a = if forkT n (rg lo hi e) a then 0 else 1 from by
    unfold trimE forkT
    rw [if_pos hm, if_pos hft, hl, if_neg (by simp)]
    cases okT n (rg lo hi e) a n.ks.length <;> cases trimB n.bf (rg lo hi e) a <;> rfl)
  clear h hf hm hft hz1 hz2 hlen hup
  generalize forkT n (rg lo hi e) a = FT at *
  obtain ⟨N0, R0, M0, hb0, hs0⟩ := three_boxes w (.bool n.leaf) (.slice p.a1 n.ps.length p.c1) (.slice p.a2 n.pv.length p.c2) (.slice p.a3 n.ks.length p.c3) (.slice p.a4 n.bf.length p.c4) (.string lo) (.string hi) (.bool e) (.bool false) (.slice none 0 0) (.slice none 0 0) (.slice none 0 0) (.slice none 0 0)
  obtain ⟨lB, ps, ws, ks, bf⟩ := n
  obtain ⟨a1, c1, a2, c2, a3, c3, a4, c4⟩ := p
  dsimp only [nv] at *
  generalize ps.length = n1 at *
  generalize ws.length = n2 at *
  generalize ks.length = n3 at *
  generalize bf.length = n4 at *
  subst hl
  go_enter Try.func35, Try.ntmps35
  go_upto_region 1 with fail
  generalize ((w.alloc (.cells #[.bool false, .slice a1 n1 c1, .slice a2 n2 c2, .slice a3 n3 c3, .slice a4 n4 c4] 27)).alloc (.cells #[.string lo, .string hi, .bool e] 29)).alloc (.cells #[.bool false, .slice none 0 0, .slice none 0 0, .slice none 0 0, .slice none 0 0] 27) = w3 at *
  generalize hk0 : w.heap.size = k0 at *
  generalize hk1 : k0 + 1 = k1 at *
  generalize hk2 : k1 + 1 = k2 at *
  have HQ0 := hid hk0
  have HQ := hid (And.intro hk1 hk2)
  clear hk0 hk1 hk2
  have hkk := HQ.out
  obtain ⟨m0, m1, m2, m3, m4⟩ := N0.cells
  go_wp2_with fail
  refine (HM.out _ hb0).mono ?_
  rintro x w4 ⟨rfl, hb4⟩
  have hs4 := hb4.size
  have N4 := N0.later hb4
  have R4 := R0.later hb4
  have M4 := M0.later hb4
  replace hb4 := hb0.trans (hb4.mono (by omega))
  clear HM m0 m1 m2 m3 m4 N0 R0 M0
  obtain ⟨r0, r1, r2⟩ := R4.cells
  go_wp2_with fail
  refine (HY.out _).mono ?_
  rintro x w5 ⟨rfl, hb5⟩
  have M5 := M4.later hb5
  have R5 := R4.later hb5
  have N5 := N4.later hb5
  have hs5 := hb5.size
  replace hb5 := hb4.trans (hb5.mono (by omega))
  clear r0 r1 r2
  obtain ⟨r0, r1, r2⟩ := R5.cells
  go_wp2_with fail
  refine (HU.out _).mono ?_
  rintro x w6 ⟨rfl, hb6⟩
  have M6 := M5.later hb6
  have R6 := R5.later hb6
  have N6 := N5.later hb6
  have hs6 := hb6.size
  replace hb6 := hb5.trans (hb6.mono (by omega))
  clear r0 r1 r2
  obtain ⟨r0, r1, r2⟩ := R6.cells
  obtain ⟨m0, m1, m2, m3, m4⟩ := N6.cells
  go_wp2_with fail
  refine (HA.out _).mono ?_
  rintro x w7 ⟨rfl, rfl⟩
  go_wp2_with fail
  refine (HT.out _ hb6).mono ?_
  rintro x w8 ⟨⟨hx1, hx2⟩, hb8⟩
  have M8 := M6.later hb8
  have hk8 := M6.lt
  replace hb8 := hb6.trans (hb8.mono (by omega))
  clear r0 r1 r2 m0 m1 m2 m3 m4
  cases FT
  · obtain rfl := hx2 rfl
    clear hx1 hx2
    obtain ⟨z0, z1, z2, z3, z4⟩ := M8.cells
    have f := M8.free
    have f0 := f 0
    have f1 := f 1
    have f2 := f 2
    have f3 := f 3
    have f4 := f 4
    clear f
    have hb9 := below_five hb8 (show k0 ≤ k2 by omega) (.bool false) (.slice none 0 0) (.slice none 0 0) (.slice none 0 0) (.slice none 0 0)
    go_wp2_with fail
    refine bodyPost_ret (v := .tuple #[.agg #[.bool false, .slice none 0 0, .slice none 0 0, .slice none 0 0, .slice none 0 0], .int .i64 1]) (by simp [results, Try.results35, go_sem, z0, z1, z2, z3, z4]) rfl ⟨?_, ?_⟩
    · exact say_none HE.out (by decide) rfl
    · rw [HQ0.out]; exact hb9
  · obtain ⟨x2, x3, x4, rfl, hO⟩ := hx1 rfl
    clear hx1 hx2
    obtain ⟨q1, q2, q3, q4⟩ := hO
    obtain ⟨b2, d2, t2, rfl⟩ := row_slice q2
    obtain ⟨b3, d3, t3, rfl⟩ := row_slice q3
    obtain ⟨b4, d4, t4, rfl⟩ := row_slice q4
    obtain ⟨z0, z1, z2, z3, z4⟩ := M8.cells
    have f := M8.free
    have f0 := f 0
    have f1 := f 1
    have f2 := f 2
    have f3 := f 3
    have f4 := f 4
    clear f
    have hb9 := below_five hb8 (show k0 ≤ k2 by omega) (.bool false) (.slice none 0 0) (.slice b2 d2 t2) (.slice b3 d3 t3) (.slice b4 d4 t4)
    have q2 := row_five q2 (show k2 < w7.heap.size + 1 by omega) (y0 := .bool false) (y1 := .slice none 0 0) (y2 := .slice b2 d2 t2) (y3 := .slice b3 d3 t3) (y4 := .slice b4 d4 t4)
    have q3 := row_five q3 (show k2 < w7.heap.size + 1 by omega) (y0 := .bool false) (y1 := .slice none 0 0) (y2 := .slice b2 d2 t2) (y3 := .slice b3 d3 t3) (y4 := .slice b4 d4 t4)
    have q4 := row_five q4 (show k2 < w7.heap.size + 1 by omega) (y0 := .bool false) (y1 := .slice none 0 0) (y2 := .slice b2 d2 t2) (y3 := .slice b3 d3 t3) (y4 := .slice b4 d4 t4)
    go_wp2_with fail
    refine bodyPost_ret (v := .tuple #[.agg #[.bool false, .slice none 0 0, .slice b2 d2 t2, .slice b3 d3 t3, .slice b4 d4 t4], .int .i64 0]) (by simp [results, Try.results35, go_sem, z0, z1, z2, z3, z4]) rfl ⟨?_, ?_⟩
    · exact say_some HE.out HN.out rfl ⟨row_nil _ _ _ _, q2, q3, q4⟩ (by rw [HQ0.out]; omega)
    · rw [HQ0.out]; exact hb9
end Go.Proofs.Ytlkcoaencliajaa.Key
