/-
  Contracts of what goes through a map of nothings, and of its All.
-/
import Derived.Test.YtfladpnphkoeiaaZMap
namespace Go.Proofs.Ytfladpnphkoeiaa.Key
open Go.RowKit Go.Shelf Draw
attribute [local go_sem] Oper.semAt_some
set_option linter.unusedVariables false
set_option linter.unusedSimpArgs false

/-- the row that a box's slice lies in -/
def rowOf (W : World) (Bd : Nat) : Option Nat := match W.heap[Bd]? with | some (.cells cs _ _) => (match cs[0]? with | some v => v.ownBlock | none => none) | _ => none
theorem rowOf_box {W : World} {Bd : Nat} {t : TypeId} {v : Value} (h : Boxed W Bd t v) : rowOf W Bd = v.ownBlock := by
  unfold rowOf
  rw [show W.heap[Bd]? = _ from h]
  rfl
theorem rowOf_same {W W' : World} {Bd : Nat} (h : W'.heap[Bd]? = W.heap[Bd]?) : rowOf W' Bd = rowOf W Bd := by
  unfold rowOf
  rw [h]
/-- rows of blocks stay, but the one behind a box -/
structure BKeep (Bd : Nat) (W W' : World) : Prop where
  size : W.heap.size ≤ W'.heap.size
  row : ∀ (b : Nat) (cs : Array Value), W.heap[b]? = some (.cells cs 23 (0, 0)) → b ≠ Bd → rowOf W Bd ≠ some b → W'.heap[b]? = W.heap[b]? ∧ rowOf W' Bd ≠ some b
theorem BKeep.trans {Bd : Nat} {A B C : World} (h : BKeep Bd A B) (k : BKeep Bd B C) : BKeep Bd A C :=
  ⟨Nat.le_trans h.size k.size, fun b cs hb h1 h2 => by
    obtain ⟨e, h3⟩ := h.row b cs hb h1 h2
    obtain ⟨e', h4⟩ := k.row b cs (e.trans hb) h1 h3
    exact ⟨e'.trans e, h4⟩⟩
theorem OwnU.keepB {w w' : World} {B Bd : Nat} {v : Value} {ss : List Int} (h : OwnU w B v ss) (hB : Bd < B) (hr : ∀ g, v.ownBlock = some g → rowOf w Bd ≠ some g) (hk : BKeep Bd w w') : OwnU w' B v ss ∧ ∀ g, v.ownBlock = some g → rowOf w' Bd ≠ some g := by
  rcases h.2 with h0 | ⟨g, cap, cur, rfl, hb, hg, r⟩
  · exact ⟨⟨h.1, .inl h0⟩, fun g e => by rw [h0.1] at e; simp [Value.ownBlock] at e⟩
  · obtain ⟨e, h3⟩ := hk.row g cur hg (by omega) (hr g rfl)
    exact ⟨⟨h.1, .inr ⟨g, cap, cur, rfl, hb, e.trans hg, r⟩⟩, fun g' e' => by simp only [Value.ownBlock, Option.some.injEq] at e'; subst e'; exact h3⟩
theorem bK_b {w : World} {Bd : Nat} (hBd : Bd < w.heap.size) (W : World) (l : Nat) (o o' : Obj) (hl : w.heap.size ≤ l) (h : W.heap[l]? = some o) (hc : o.isCells = false) (_ : o.isWalk = false) : BKeep Bd W (W.putObj l o') := by
  have hg := grownBy_putObj' W l o'
  refine ⟨hg.size, fun b cs hb h1 h2 => ⟨hg.block b (Array.getElem?_eq_some_iff.1 hb).1 fun e => ?_, ?_⟩⟩
  · cases e
    rw [h] at hb
    cases hb
    cases hc
  · rw [rowOf_same (W := W)]
    · exact h2
    · have hlt := (Array.getElem?_eq_some_iff.1 h).1
      exact hg.block Bd (by omega) fun e => by cases e; omega
set_option maxRecDepth 100000 in
set_option maxHeartbeats 1000000 in
theorem through63 (n : Nat) (hn : 1 ≤ n) (lp k B Bd : Nat) (kv vv : Value) (ks : List Int) (J Jx : List Int → World → Prop) (W : World) (hm : ZMap W B k kv vv ks) (hl : ks.length ≤ 10000) (hBd : Bd < W.heap.size) (hBr : ∀ g, rowOf W Bd = some g → g < W.heap.size) (hAJ : AbidesFrom W.heap.size J)
    (hY : ∀ pre x W1, J pre W1 → pre.length < ks.length → YieldAt Fence.wide (n - 1) Try.prog lp #[.int .u32 x, .agg #[]] W1 fun e W' => (e = .returned (.bool true) ∧ J (pre ++ [x]) W' ∧ BKeep Bd W1 W') ∨ (e = .returned (.bool false) ∧ Jx (pre ++ [x]) W'))
    (h0 : J [] W) : CallsIn Fence.wide n Try.prog 63 #[.pointer (some ⟨k, 0, none⟩), .int .i64 0, .func (.yield lp) #[] #[]] W fun e W' => (∃ v, e = .returned v) ∧
      ((∃ ys, ys = ks ∧ J ys W') ∨ (∃ pre, (∃ j, j ≤ ks.length ∧ pre = ks.take j) ∧ Jx pre W')) := by
  have CK := hid (fun u (h : OwnU u B kv ks) => clone70 B kv ks u h (by omega))
  have CV := hid (fun u => clone75 vv ks.length u hm.vals (by omega))
  have c0 := cell_of_row _ _ 0 _ _ _ hm.box
  have c1 := cell_of_row _ _ 1 _ _ _ hm.box
  dsimp at c0 c1
  obtain ⟨ka, kn, kc, rfl⟩ := hm.keys.slice
  obtain ⟨va, vn, vc, rfl⟩ := hm.vals.slice
  refine callsIn_of_wp Try.func63 rfl trivial ?_ rfl
  simp only [Try.ntmps63, List.size_toArray, List.length_cons, List.length_nil, Nat.reduceAdd, Nat.reduceSub, Array.replicate_succ, Array.replicate_zero, List.push_toArray, List.append_toArray, List.nil_append, List.cons_append]
  gi_wp2
  refine wpIn_wide.2 ?_
  refine wp_region_each [(some 12, [], false), (some 13, [(0, 12)], false), (some 14, [(1, 13)], false), (some 15, [(2, 14)], false), (some 16, [], false), (some 17, [(3, 15), (4, 16)], false), (some 18, [(5, 17)], false), (some 19, [], false), (some 20, [(7, 19)], false), (some 21, [(8, 20)], false), (some 22, [(9, 21)], false), (some 23, [], false), (some 24, [(10, 22), (11, 23)], false), (some 25, [(12, 24)], false), (some 6, [(6, 18)], true), (some 7, [(13, 25)], true)]
    (fun u => Below W.heap.size W u) (fun _ u u' => Below u.heap.size u u')
    (fun i v u => match i with | 0 => v = .pointer (some ⟨k, 0, none⟩) | 1 => v = .pointer (some ⟨k, 0, none⟩) | 2 => v = .pointer (some ⟨k, 0, none⟩) | 3 => v = .slice ka kn kc | 4 => v = .int .i64 0 | 5 => v = .slice ka kn kc | 6 => OwnU u W.heap.size v ks | 7 => v = .pointer (some ⟨k, 0, none⟩) | 8 => v = .pointer (some ⟨k, 0, none⟩) | 9 => v = .pointer (some ⟨k, 1, none⟩) | 10 => v = .slice va vn vc | 11 => v = .int .i64 0 | 12 => v = .slice va vn vc | 13 => ZV v ks.length | 14 => OwnU u W.heap.size v ks | 15 => ZV v ks.length | _ => True)
    (by kernel_rfl) (by kernel_rfl) (Below.refl _ _).drew (fun i u u' h h' => h.trans (h'.mono h.size)) (fun i j v u u' hn h h' hv => ?_) ⟨?_, ?_, ?_, ?_, ?_, ?_, ?_, ?_, ?_, ?_, ?_, ?_, ?_, ?_, ?_, ?_, trivial⟩ ?_
  · match j with
    | 0 => exact hv
    | 1 => exact hv
    | 2 => exact hv
    | 3 => exact hv
    | 4 => exact hv
    | 5 => exact hv
    | 6 => exact OwnU.later hv h'
    | 7 => exact hv
    | 8 => exact hv
    | 9 => exact hv
    | 10 => exact hv
    | 11 => exact hv
    | 12 => exact hv
    | 13 => exact hv
    | 14 => exact OwnU.later hv h'
    | 15 => exact hv
    | _ + 16 => trivial
  · rintro u hu
    exact opYields_val _ (by kernel_rfl) (by go_simp) ⟨Below.refl _ _, rfl⟩
  · rintro u hu _ rfl
    exact opYields_val _ (by kernel_rfl) (by go_simp) ⟨Below.refl _ _, rfl⟩
  · rintro u hu _ rfl
    exact opYields_val _ (by kernel_rfl) (by go_simp) ⟨Below.refl _ _, rfl⟩
  · rintro u hu _ rfl
    have e0 := (hu.cell (p := ⟨k, 0, none⟩) hm.lt).trans c0
    exact opYields_val _ (by kernel_rfl) (by go_simp) ⟨Below.refl _ _, rfl⟩
  · rintro u hu
    exact opYields_val _ (by kernel_rfl) (by go_simp) ⟨Below.refl _ _, rfl⟩
  · rintro u hu _ rfl _ rfl
    rcases hm.keys.row with ⟨e, _⟩ | ⟨g, cap, cur, e, _, _, hc, hx⟩
    · simp only [Value.slice.injEq] at e
      obtain ⟨rfl, rfl, rfl⟩ := e
      exact opYields_val _ (by kernel_rfl) (by go_simp) ⟨Below.refl _ _, rfl⟩
    · simp only [Value.slice.injEq] at e
      obtain ⟨rfl, rfl, rfl⟩ := e
      unfold maxLen at hx
      have hle : (ks.length : Int) ≤ (kc : Int) := by omega
      exact opYields_val _ (by kernel_rfl) (by go_simp) ⟨Below.refl _ _, rfl⟩
  · rintro u hu _ rfl
    exact opYields_call 70 #[.slice ka kn kc] (by kernel_rfl) (by go_simp) ((CK.out u (hm.keys.later hu)).mono fun x u' ⟨v, h1, h2, h3⟩ => ⟨v, h1, h3, ownU_mono h2 hu.size⟩)
  · rintro u hu
    exact opYields_val _ (by kernel_rfl) (by go_simp) ⟨Below.refl _ _, rfl⟩
  · rintro u hu _ rfl
    exact opYields_val _ (by kernel_rfl) (by go_simp) ⟨Below.refl _ _, rfl⟩
  · rintro u hu _ rfl
    exact opYields_val _ (by kernel_rfl) (by go_simp) ⟨Below.refl _ _, rfl⟩
  · rintro u hu _ rfl
    have e1 := (hu.cell (p := ⟨k, 1, none⟩) hm.lt).trans c1
    exact opYields_val _ (by kernel_rfl) (by go_simp) ⟨Below.refl _ _, rfl⟩
  · rintro u hu
    exact opYields_val _ (by kernel_rfl) (by go_simp) ⟨Below.refl _ _, rfl⟩
  · rintro u hu _ rfl _ rfl
    rcases hm.vals with ⟨e, _⟩ | ⟨g, cap, e, hc, hx⟩
    · simp only [Value.slice.injEq] at e
      obtain ⟨rfl, rfl, rfl⟩ := e
      exact opYields_val _ (by kernel_rfl) (by go_simp) ⟨Below.refl _ _, rfl⟩
    · simp only [Value.slice.injEq] at e
      obtain ⟨rfl, rfl, rfl⟩ := e
      unfold maxLen at hx
      have hle : (ks.length : Int) ≤ (vc : Int) := by omega
      exact opYields_val _ (by kernel_rfl) (by go_simp) ⟨Below.refl _ _, rfl⟩
  · rintro u hu _ rfl
    exact opYields_call 75 #[.slice va vn vc] (by kernel_rfl) (by go_simp) ((CV.out u).mono fun x u' ⟨⟨v, h1, h2⟩, h3⟩ => ⟨v, h1, h3, h2⟩)
  · rintro u hu v hv
    exact opYields_val v (by kernel_rfl) (by go_simp) ⟨Below.refl _ _, hv⟩
  · rintro u hu v hv
    exact opYields_val v (by kernel_rfl) (by go_simp) ⟨Below.refl _ _, hv⟩
  · rintro u hu _ _ _ _ _ _ _ _ _ _ _ _ _ _ kw hkw vw hvw
    simp only [givingAll, Act.put, List.setIfInBounds_toArray, List.set_cons_zero, List.set_cons_succ]
    have hJ := hAJ [] W u none h0 ⟨hu.os, hu.tape, hu.output, hu.size, fun b hb _ => hu.block b hb⟩ (fun r e => by cases e)
    have hap : ∀ g, kw.ownBlock = some g → rowOf u Bd ≠ some g := fun g e e' => by
      rw [rowOf_same (hu.block Bd hBd)] at e'
      have h1 := hBr g e'
      have h2 := (World.ownsRow.lt hkw g e).1
      omega
    clear hBr
    generalize W.heap.size = B0 at hkw hBd
    replace hvw : ZV vw ks.length := hvw
    obtain ⟨ka', kn', kc', rfl⟩ := hkw.slice
    obtain ⟨va', vn', vc', rfl⟩ := hvw.slice
    have hkn : kn' = ks.length := by
      rcases hkw.row with ⟨e, e2⟩ | ⟨g, cap, cur, e, _⟩
      · simp only [Value.slice.injEq] at e; rw [e2]; exact e.2.1
      · simp only [Value.slice.injEq] at e; exact e.2.1
    have hvn : vn' = ks.length := by
      rcases hvw with ⟨e, e2⟩ | ⟨g, cap, e, _⟩
      · simp only [Value.slice.injEq] at e; rw [e2]; exact e.2.1
      · simp only [Value.slice.injEq] at e; exact e.2.1
    have hva : 0 < ks.length → ∃ g, va' = some ⟨g, 0, none⟩ := fun h0 => by
      rcases hvw with ⟨e, e2⟩ | ⟨g, cap, e, _⟩
      · omega
      · simp only [Value.slice.injEq] at e; exact ⟨g, e.1⟩
    subst hkn
    subst hvn
    clear CK CV c0 c1 hm hAJ h0 hu
    have HZ := hid (fun j (hj : j < ks.length) => (show ks.take (j + 1) = ks.take j ++ [ks.getD j 0] by
      rw [List.take_succ_eq_append_getElem hj]
      simp [List.getD, List.getElem?_eq_getElem hj]))
    have HVA := hid hva
    clear hva hvw
    have HZ0 := hid (show ks.take 0 = [] by simp)
    have HZN := hid (show ks.take ks.length = ks by rw [List.take_length])
    generalize hN : ks.length = N at *
    have HN := hid hN
    clear hN
    gi_wp2
    gi_loopw [28] (fun i wr => ∃ j : Nat, j ≤ N ∧ i = .int .i64 j ∧ J (ks.take j) wr ∧ OwnU wr B0 (.slice ka' N kc') ks ∧ ∀ g, (Value.slice ka' N kc').ownBlock = some g → rowOf wr Bd ≠ some g) (fun i _ => N - (intOf i).toNat)
    case atStart => exact ⟨0, Nat.zero_le _, rfl, by rw [HZ0.out]; exact hJ, hkw, hap⟩
    case round =>
      obtain ⟨j, hj, rfl, hJj, hk', hap'⟩ := hrel
      by_cases hlt : j < N
      · obtain ⟨g, c, e, d0⟩ := hk'.at HN.out hlt
        have HAP := hid hap'
        obtain ⟨g', rfl⟩ := HVA.out (by omega)
        simp only [Value.slice.injEq, true_and] at e
        obtain ⟨rfl, rfl⟩ := e
        obtain ⟨fn, tmps, assign, body, hy, hR⟩ := hY _ (ks.getD j 0) wr hJj (by rw [List.length_take]; omega)
        have HZj := hid (HZ.out j hlt)
        generalize ks.getD j 0 = x at *
        gi_wp2
        refine hR.mono ?_
        rintro e W3 (⟨rfl, hJ3, hk3⟩ | ⟨rfl, hJx3⟩)
        · gi_wp2
          go_roundw
          case rel => exact ⟨j + 1, by omega, by go_num, by rw [HZj.out]; exact hJ3, hk'.keepB hBd HAP.out hk3⟩
          case measure => simp [intOf]; omega
        · gi_wp2
          refine bodyPost_ret (results_none rfl _ _ _) rfl ?_
          exact ⟨⟨_, rfl⟩, .inr ⟨_, ⟨j + 1, by rw [HN.out]; omega, HZj.out.symm⟩, hJx3⟩⟩
      · obtain rfl : j = N := by omega
        gi_wp2
        go_end0
        exact ⟨⟨_, rfl⟩, .inl ⟨_, rfl, by rw [HZN.out] at hJj; exact hJj⟩⟩
set_option maxRecDepth 100000 in
set_option maxHeartbeats 1000000 in
theorem all43 (k : Nat) (w : World) : Calls Try.prog 43 #[.pointer (some ⟨k, 0, none⟩)] w fun e w' => e = .returned (.func (.func 62) #[] #[.pointer (some ⟨w.heap.size, 0, none⟩)]) ∧ w' = w.alloc (.cells #[.pointer (some ⟨k, 0, none⟩)] 85) := by
  have hmf : ∀ (fn : Fn) (first cap : Array Value) (w : World), (Instr.makeFunc fn first cap).run Try.prog w = .ok (.func fn first cap) w := fun _ _ _ _ => rfl
  go_enter Try.func43, Try.ntmps43
  go_wp2_with fail
  go_ret
  exact ⟨rfl, rfl⟩
set_option maxRecDepth 100000 in
set_option maxHeartbeats 1000000 in
theorem all_stopsZ (n : Nat) (hn : 3 ≤ n) (bx k B Bd : Nat) (kv vv : Value) (ks : List Int) (w : World) (hbx : w.cell? ⟨bx, 0, none⟩ = some (.pointer (some ⟨k, 0, none⟩))) (hm : ZMap w B k kv vv ks) (hl : ks.length ≤ 10000) (hbd : Boxed w Bd 41 (.slice none 0 0)) :
    SeqStopsK Fence.wide n Try.prog 62 #[.pointer (some ⟨bx, 0, none⟩)] (fun x : Int => #[Value.int .u32 x, Value.agg #[]]) (BKeep Bd) (fun ys => ys = ks)
      (fun pre => ∃ j, j ≤ ks.length ∧ pre = ks.take j) ks.length w := fun lp J Jx W hW hA _ hY h0 => by
  have hmW := hm.later hW
  have hc := (hW.cell (p := ⟨bx, 0, none⟩) (World.block_lt_of_cell? w _ hbx)).trans hbx
  have HT := hid (through63 (n - 1) (by omega) lp k B Bd kv vv ks J Jx W hmW hl (Nat.lt_of_lt_of_le hbd.lt hW.size) (fun g e => by
    rw [rowOf_same (hW.block Bd hbd.lt), rowOf_box hbd] at e
    simp [Value.ownBlock] at e) hA (fun pre x W1 hJ hlt => yield_any (n - 1 - 1) (hY pre x W1 hJ hlt)) h0)
  clear hmW hm hW hA hY h0
  refine callsIn_of_wp Try.func62 rfl trivial ?_ rfl
  simp only [Try.ntmps62, List.size_toArray, List.length_cons, List.length_nil, Nat.reduceAdd, Nat.reduceSub, Array.replicate_succ, Array.replicate_zero, List.push_toArray, List.append_toArray, List.nil_append, List.cons_append]
  gi_wp2
  refine ⟨trivial, fun _ => by omega, HT.out.mono ?_⟩
  rintro e w' ⟨⟨v, rfl⟩, hh⟩
  gi_wp2
  go_end0
  exact ⟨⟨_, rfl⟩, hh⟩
end Go.Proofs.Ytfladpnphkoeiaa.Key
