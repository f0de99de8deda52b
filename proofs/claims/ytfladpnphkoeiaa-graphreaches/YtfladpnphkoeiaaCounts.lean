/-
  Contract of Counts, the program's.
-/
import Derived.Test.YtfladpnphkoeiaaThru
import Derived.Test.YtfladpnphkoeiaaEach
import Derived.Maps.AppendAt
namespace Go.Proofs.Ytfladpnphkoeiaa.Key
open Go.RowKit Go.Shelf Draw
attribute [local go_sem] Oper.semAt_some
set_option linter.unusedVariables false
set_option linter.unusedSimpArgs false

/-- what Counts hands back -/
def refsOf (s : St) : List Rf := (s.1.zip s.2).map fun x => ⟨x.1, x.2⟩
def countsL (l : List It) (roots : List Vo) (pend : List Rf) : List Rf := refsOf (cnt (namesL l roots pend))
/-- a row of refs of the call's own -/
def OwnR (w : World) (base : Nat) (v : Value) (l : List Rf) : Prop := w.ownsRow base 58 2 v l.length (l.flatMap Rf.cells)
def cellsZ (l : List (Int × Int)) : List Value := l.flatMap fun x => [.int .u32 x.1, .int .u32 x.2]
theorem cellsZ_snoc (l : List (Int × Int)) (x : Int × Int) : cellsZ (l ++ [x]) = cellsZ l ++ [.int .u32 x.1, .int .u32 x.2] := by simp [cellsZ]
theorem cellsZ_R (l : List (Int × Int)) : cellsZ l = (l.map fun x => (⟨x.1, x.2⟩ : Rf)).flatMap Rf.cells := by
  induction l with
  | nil => rfl
  | cons x l ih =>
    unfold cellsZ at *
    rw [List.flatMap_cons, List.map_cons, List.flatMap_cons, ih]
    rfl
set_option maxRecDepth 100000 in
theorem info58 : (Try.prog.info? 58).map (fun i => (i.zero, i.size, i.bytes)) = some (some (.agg #[.int .u32 0, .int .u32 0]), 2, 8) := by kernel_rfl
theorem two_new (W : World) (x1 x2 : Int) : ∀ j u, [Value.int .u32 x1, Value.int .u32 x2][j]? = some u → (W.alloc (.cells #[.int .u32 x1, .int .u32 x2] 58)).cell? ((⟨W.heap.size, 0, none⟩ : Addr).add j) = some u := by
  intro j u hu
  rw [add_plain, Nat.zero_add, World.cell?_alloc_mark]
  simpa using hu
theorem two_one (x1 x2 : Int) : ∀ u ∈ [Value.int .u32 x1, Value.int .u32 x2], u.oneCell' = true := by
  intro u hu
  simp only [List.mem_cons, List.not_mem_nil, or_false] at hu
  rcases hu with rfl | rfl <;> rfl
theorem uKeep_append {W w5 : World} {tmp : Obj} {v : Value} {Bd B n : Nat} {xs : List Value} (hgrow : (W.alloc tmp).grownBy w5 v.ownBlock) (hrow : W.ownsRow B 58 2 v n xs) (hv : Boxed W Bd 37 v) (v' : Value) : UKeep W (w5.setCell ⟨Bd, 0, none⟩ v') := by
  have hg2 := grownBy_setCell' w5 Bd v'
  have hs0 : W.heap.size ≤ (W.alloc tmp).heap.size := by rw [World.size_alloc]; exact Nat.le_succ _
  refine ⟨Nat.le_trans hs0 (Nat.le_trans hgrow.size hg2.size), fun b cs hb => ?_⟩
  have hlt := (Array.getElem?_eq_some_iff.1 hb).1
  have h1 : some b ≠ some Bd := fun e => by
    cases e
    rw [show W.heap[Bd]? = _ from hv] at hb
    cases hb
  have h2 : some b ≠ v.ownBlock := fun e => by
    rcases hrow.2 with ⟨rfl, _⟩ | ⟨g, cap, cur, rfl, _, hg, _⟩
    · simp [Value.ownBlock] at e
    · simp only [Value.ownBlock, Option.some.injEq] at e
      subst e
      rw [hb] at hg
      cases hg
  rw [hg2.block b (Nat.lt_of_lt_of_le (Nat.lt_of_lt_of_le hlt hs0) hgrow.size) h1, hgrow.block b (Nat.lt_of_lt_of_le hlt hs0) h2]
  exact heap_alloc_old W tmp hlt
set_option maxRecDepth 100000 in
set_option maxHeartbeats 1000000 in
theorem counts15 (a ra pa : Option Addr) (c rc pc : Nat) (l : List It) (roots : List Vo) (pend : List Rf) (w : World) (hl : Fine l) (hr1 : roots.length ≤ 1000) (hp1 : pend.length ≤ 1000) (hpn : ∀ x ∈ pend, 0 ≤ x.n ∧ x.n ≤ 4294967295)
    (hN : (namesL l roots pend).length ≤ 10000) (hi : Items w a l) (hr : Vols w ra roots) (hp : Refs w pa pend) :
    Calls Try.prog 15 #[.slice a l.length c, .slice ra roots.length rc, .slice pa pend.length pc] w fun e w' => (∃ v, e = .returned v ∧ OwnR w' w.heap.size v (countsL l roots pend)) ∧ Below w.heap.size w w' := by
  have hmf : ∀ (fn : Fn) (first cap : Array Value) (w : World), (Instr.makeFunc fn first cap).run Try.prog w = .ok (.func fn first cap) w := fun _ _ _ _ => rfl
  have HE := hid (fun k cb w' (h : CW w w.heap.size k cb ([], []) none w') => each33 a ra pa c rc pc l roots pend k cb w w' hl hr1 hp1 hpn hN hi hr hp h)
  have hlen := Nat.le_trans (cnt_len (namesL l roots pend)) hN
  have HCL := hid (show countsL l roots pend = refsOf (cnt (namesL l roots pend)) from rfl)
  generalize countsL l roots pend = CL at *
  generalize cnt (namesL l roots pend) = st at *
  clear hl hpn hN hi hr hp
  generalize l.length = m1 at *
  generalize roots.length = m2 at *
  generalize pend.length = m3 at *
  refine (callsIn_wide (n := 9)).1 ?_
  refine callsIn_of_wp_marks Try.func15 rfl trivial ?_ rfl
  simp only [Try.ntmps15, List.size_toArray, List.length_cons, List.length_nil, Nat.reduceAdd, Nat.reduceSub, Array.replicate_succ, Array.replicate_zero, List.push_toArray, List.append_toArray, List.nil_append, List.cons_append]
  gi_wp2_with (refine ⟨trivial, ?_⟩; gi_at_call 32; refine (callsIn_wide.2 (new32 w)).mono ?_; rintro e w1 ⟨rfl, hm1, hb1⟩)
  have hkl := hm1.lt
  have hCW : CW w w.heap.size w.heap.size w1.heap.size ([], []) none (w1.alloc (.cells #[.pointer (some ⟨w.heap.size, 0, none⟩)] 72)) :=
    ⟨⟨_, _, hm1.later (below_box w1 _), fun g _ => by simp [Value.ownBlock]⟩, Go.heap_alloc_new w1 _, by omega, hb1.alloc (by omega) _⟩
  have HE1 := hid (HE.out _ _ _ hCW)
  clear HE hCW
  gi_wp2_with (refine ⟨trivial, ?_⟩; gi_at_call 33; refine (callsIn_wide.2 HE1.out).mono ?_; rintro e w2 ⟨⟨v2, rfl⟩, hC2⟩; have hb2 := hC2.below; obtain ⟨⟨kv, vv, hS, _⟩, hcb, _, _⟩ := hC2; have hcc := cell_of_row _ _ 0 _ _ _ hcb; dsimp at hcc; have hcc3 := ((below_box w2 (.cells #[.slice none 0 0] 37)).cell (p := ⟨w1.heap.size, 0, none⟩) (Array.getElem?_eq_some_iff.1 hcb).1).trans hcc)
  clear HE1 hm1 hb1 hcb
  generalize w1.heap.size = cb at *
  generalize hB : w.heap.size = B at *
  gi_wp2_with (refine ⟨trivial, ?_⟩; gi_at_call 37; refine (callsIn_wide.2 (all37 B _)).mono ?_; rintro e w' ⟨rfl, rfl⟩)
  have hbs : B ≤ w2.heap.size := by rw [← hB]; exact hb2.size
  have bD := (Boxed.new w2 37 (.slice none 0 0)).alloc (.cells #[.pointer (some ⟨B, 0, none⟩)] 72)
  have bM := Boxed.new (w2.alloc (.cells #[.slice none 0 0] 37)) 72 (.pointer (some ⟨B, 0, none⟩))
  rw [World.size_alloc] at bM
  have hbb : Below w2.heap.size w2 ((w2.alloc (.cells #[.slice none 0 0] 37)).alloc (.cells #[.pointer (some ⟨B, 0, none⟩)] 72)) := (below_box w2 _).alloc (by simp) _
  have hS0 := hS.later hbb
  have hb0 := hb2.trans (hbb.mono hbs)
  have hsz : ((w2.alloc (.cells #[.slice none 0 0] 37)).alloc (.cells #[.pointer (some ⟨B, 0, none⟩)] 72)).heap.size = w2.heap.size + 2 := by simp
  clear hcc hcc3
  generalize ((w2.alloc (.cells #[.slice none 0 0] 37)).alloc (.cells #[.pointer (some ⟨B, 0, none⟩)] 72)) = W0 at *
  refine wpIn_rangeFunc_ownF rfl (by omega) (gf := 57) (lb := #[.pointer (some ⟨w2.heap.size + 1, 0, none⟩)]) rfl trivial (enters_of Try.func57 (by kernel_rfl) rfl)
    (all_stops _ (by omega) (w2.heap.size + 1) B B kv vv st.1 st.2 W0 bM.cell hS0 (by omega)) (fun h k => h.trans k) (uK_b (w := W0)) (Below.refl _ _) (fun _ => rfl)
    (fun pre W => (∃ v, Boxed W w2.heap.size 37 v ∧ W.ownsRow B 58 2 v pre.length (cellsZ pre) ∧ True) ∧ Below B w W)
    (fun _ _ _ => False)
    (OwnFrom.and (Go.Own.from (holdsRow_own B w2.heap.size 37 58 2 (fun pre => pre.length) cellsZ (fun _ _ => True)) _) (ownFrom_below (by omega) (by omega)))
    (fun c => fun s A B row hs hg hr => hs.elim)
    ⟨⟨_, bD, World.ownsRow_nil _ _ _ _, trivial⟩, hb0⟩
    ?a1 ?assign ?body ?done ?stop
  case assign =>
    intro lp x W K hK
    gi_wp2
    exact hK
  case stop =>
    rintro D cc pre W hD _ h _
    exact h.elim
  case body =>
    rintro lp pre x W ⟨⟨v, hv, hrow, _⟩, hBl⟩ hplt
    obtain ⟨i0, hi, hz0, hz1, hz2⟩ := info_parts info58
    have hcv := hv.cell
    have hBs := hBl.size
    obtain ⟨x1, x2⟩ := x
    gi_wp2_with (gi_at_builtin; refine wpListIn_append_own _ rfl _ _ 37 rfl B 58 i0 _ 2 8 Try.underlying37 hi hz0 hz1 hz2 rfl (by decide) _ _ _ rfl (hrow.alloc _) ⟨W.heap.size, 0, none⟩ 1 1 [.int .u32 x1, .int .u32 x2] rfl rfl (two_new W x1 x2) (two_one x1 x2) (by unfold maxLen; omega) (by omega) (by simp; omega) ?_; intro v' w5 hown' hgrow _; obtain ⟨g', cap', rfl⟩ := ownsRow_succ hown'; obtain ⟨hv1, hv2, hr2, hk2, hb2⟩ := hv.appended (by decide) hrow (by omega) (by omega) hown' hgrow; have hc1 := hv1.cell; have hf1 := hv1.frozen)
    refine ⟨hk2, uKeep_append hgrow hrow hv _, ⟨⟨_, hv2, ?_⟩, hBl.trans hb2⟩⟩
    rw [cellsZ_snoc, List.length_append]
    exact hr2
  case done =>
    rintro D ys W hD rfl ⟨⟨v, hv, hrow, _⟩, hBl⟩ hK
    have hcv := hv.cell
    gi_wp2
    refine ⟨by simp, .inl ⟨_, _, rfl, run_takeDeferred hK, ?_⟩⟩
    refine ⟨v, by simp [results, Try.f15, go_sem], ⟨v, rfl, ?_⟩, ?_⟩
    · rw [hB, HCL.out]
      unfold OwnR refsOf
      rw [← cellsZ_R, List.length_map]
      refine World.ownsRow.kept hrow (grownBy_putObj' W D (.deferred none)) ?_
      rcases hrow.2 with ⟨rfl, _⟩ | ⟨g, cap, cur, rfl, _, hg, _⟩
      · exact .inl rfl
      · refine .inr fun e => ?_
        simp only [Value.ownBlock, Option.some.injEq] at e
        subst e
        rw [hK] at hg
        cases hg
    · rw [hB]
      exact hBl.trans (belowK_b (w := W0) (by omega) W D _ _ hD hK rfl rfl)
end Go.Proofs.Ytfladpnphkoeiaa.Key
