/-
  Contracts of slices.Clone on rows of the call's own, of what goes through a map, and of All.
-/
import Derived.Test.YtfladpnphkoeiaaMp
import Derived.Test.YtfladpnphkoeiaaMs
import Derived.Test.YtfladpnphkoeiaaDraw
namespace Go.Proofs.Ytfladpnphkoeiaa.Key
open Go.RowKit Go.Shelf Draw
attribute [local go_sem] Oper.semAt_some
set_option linter.unusedVariables false
set_option linter.unusedSimpArgs false

set_option maxRecDepth 100000 in
set_option maxHeartbeats 600000 in
theorem clone70 (B : Nat) (v : Value) (ss : List Int) (w : World) (h : OwnU w B v ss) (hl : ss.length ≤ 10000) :
    Calls Try.prog 70 #[v] w fun e w' => ∃ v', e = .returned v' ∧ OwnU w' w.heap.size v' ss ∧ Below w.heap.size w w' := by
  have q41 : ∀ (w : World) (a : Option Addr) (n c n' c' : Nat), (binOp .eql 41 (.slice a n c) (.slice none n' c')).run Try.prog w = .ok (.bool a.isNone) w := fun w a n c n' c' => Lib.run_eql_slice_nil w _ _ a n c n' c' Try.underlying41
  obtain ⟨a, cap, rfl, hn, hz⟩ := h.nums
  cases a with
  | none =>
    obtain ⟨h0, rfl⟩ := hz rfl
    obtain rfl : ss = [] := List.eq_nil_of_length_eq_zero h0
    simp only [List.length_nil]
    go_enter Try.func70, Try.ntmps70
    go_wp2_with fail
    go_ret
    exact ⟨_, rfl, OwnU.nil _ _, Below.refl _ _⟩
  | some ad =>
    have hn' := hid (hn.later (below_box w (.cells #[] 23)))
    have hm := hid (OwnU.made w)
    have hb := hid (below_box w (.cells #[] 23))
    clear h hn hz
    obtain ⟨m, HM⟩ : ∃ m, Hid (ss.length = m) := ⟨_, hid rfl⟩
    rw [HM.out] at hl ⊢
    go_enter Try.func70, Try.ntmps70
    go_wp2_with (first | (at_builtin; refine appUs (w0 := w) rfl _ _ rfl w.heap.size _ [] rfl hm.out (some ad) m cap ss rfl (fun e => by cases e) HM.out hn'.out (by simp; omega) (by simp) hb.out ?_; intro v' w' h1 h2) | fail)
    go_ret
    exact ⟨v', rfl, by simpa using h1, h2⟩
/-- rows of texts stay -/
structure UKeep (W W' : World) : Prop where
  size : W.heap.size ≤ W'.heap.size
  row : ∀ (b : Nat) (cs : Array Value), W.heap[b]? = some (.cells cs 23 (0, 0)) → W'.heap[b]? = W.heap[b]?
theorem UKeep.refl (W : World) : UKeep W W := ⟨Nat.le_refl _, fun _ _ _ => rfl⟩
theorem UKeep.trans {A B C : World} (h : UKeep A B) (k : UKeep B C) : UKeep A C :=
  ⟨Nat.le_trans h.size k.size, fun b cs hb => (k.row b cs ((h.row b cs hb).trans hb)).trans (h.row b cs hb)⟩
theorem OwnU.keep {w w' : World} {B : Nat} {v : Value} {ss : List Int} (h : OwnU w B v ss) (hk : UKeep w w') : OwnU w' B v ss := by
  refine ⟨h.1, ?_⟩
  rcases h.2 with h0 | ⟨g, cap, cur, hv, hb, hg, r⟩
  · exact .inl h0
  · exact .inr ⟨g, cap, cur, hv, hb, (hk.row g cur hg).trans hg, r⟩
theorem zip_at {ks vs : List Int} (hb : vs.length = ks.length) {j : Nat} (hj : j < ks.length) : (ks.zip vs).take (j + 1) = (ks.zip vs).take j ++ [(ks.getD j 0, vs.getD j 0)] := by
  have hz : j < (ks.zip vs).length := by rw [List.length_zip]; omega
  rw [List.take_succ_eq_append_getElem hz, List.getElem_zip]
  simp [List.getD, List.getElem?_eq_getElem hj, List.getElem?_eq_getElem (show j < vs.length by omega)]

theorem ownU_mono {w : World} {B B' : Nat} {v : Value} {l : List Int} (h : OwnU w B v l) (hB : B' ≤ B) : OwnU w B' v l := by
  refine ⟨h.1, ?_⟩
  rcases h.2 with h | ⟨g, cap, cur, h1, h2, h3⟩
  · exact .inl h
  · exact .inr ⟨g, cap, cur, h1, by omega, h3⟩

set_option maxRecDepth 100000 in
set_option maxHeartbeats 1000000 in
theorem through58 (n : Nat) (hn : 1 ≤ n) (lp k B : Nat) (kv vv : Value) (ks vs : List Int) (J Jx : List (Int × Int) → World → Prop) (W : World) (hm : UMap W B k kv vv ks vs) (hl : ks.length ≤ 10000) (hAJ : AbidesFrom W.heap.size J)
    (hY : ∀ pre x W1, J pre W1 → pre.length < ks.length → YieldAt Fence.wide (n - 1) Try.prog lp #[.int .u32 x.1, .int .u32 x.2] W1 fun e W' => (e = .returned (.bool true) ∧ J (pre ++ [x]) W' ∧ UKeep W1 W') ∨ (e = .returned (.bool false) ∧ Jx (pre ++ [x]) W'))
    (h0 : J [] W) : CallsIn Fence.wide n Try.prog 58 #[.pointer (some ⟨k, 0, none⟩), .int .i64 0, .func (.yield lp) #[] #[]] W fun e W' => (∃ v, e = .returned v) ∧
      ((∃ ys, ys = ks.zip vs ∧ J ys W') ∨ (∃ pre, (∃ j, j ≤ ks.length ∧ pre = (ks.zip vs).take j) ∧ Jx pre W')) := by
  have CK := hid (fun u (h : OwnU u B kv ks) => clone70 B kv ks u h (by omega))
  have CV := hid (fun u (h : OwnU u B vv vs) => clone70 B vv vs u h (by rw [hm.both]; omega))
  have hmb := hm.both
  have c0 := cell_of_row _ _ 0 _ _ _ hm.box
  have c1 := cell_of_row _ _ 1 _ _ _ hm.box
  dsimp at c0 c1
  have HLK := hid (show (ks.zip vs).length = ks.length by rw [List.length_zip]; omega)
  obtain ⟨ka, kn, kc, rfl⟩ := hm.keys.slice
  obtain ⟨va, vn, vc, rfl⟩ := hm.vals.slice
  refine callsIn_of_wp Try.func58 rfl trivial ?_ rfl
  simp only [Try.ntmps58, List.size_toArray, List.length_cons, List.length_nil, Nat.reduceAdd, Nat.reduceSub, Array.replicate_succ, Array.replicate_zero, List.push_toArray, List.append_toArray, List.nil_append, List.cons_append]
  gi_wp2
  refine wpIn_wide.2 ?_
  refine wp_region_each [(some 12, [], false), (some 13, [(0, 12)], false), (some 14, [(1, 13)], false), (some 15, [(2, 14)], false), (some 16, [], false), (some 17, [(3, 15), (4, 16)], false), (some 18, [(5, 17)], false), (some 19, [], false), (some 20, [(7, 19)], false), (some 21, [(8, 20)], false), (some 22, [(9, 21)], false), (some 23, [], false), (some 24, [(10, 22), (11, 23)], false), (some 25, [(12, 24)], false), (some 6, [(6, 18)], true), (some 7, [(13, 25)], true)]
    (fun u => Below W.heap.size W u) (fun _ u u' => Below u.heap.size u u')
    (fun i v u => match i with | 0 => v = .pointer (some ⟨k, 0, none⟩) | 1 => v = .pointer (some ⟨k, 0, none⟩) | 2 => v = .pointer (some ⟨k, 0, none⟩) | 3 => v = .slice ka kn kc | 4 => v = .int .i64 0 | 5 => v = .slice ka kn kc | 6 => OwnU u W.heap.size v ks | 7 => v = .pointer (some ⟨k, 0, none⟩) | 8 => v = .pointer (some ⟨k, 0, none⟩) | 9 => v = .pointer (some ⟨k, 1, none⟩) | 10 => v = .slice va vn vc | 11 => v = .int .i64 0 | 12 => v = .slice va vn vc | 13 => OwnU u W.heap.size v vs | 14 => OwnU u W.heap.size v ks | 15 => OwnU u W.heap.size v vs | _ => True)
    (by kernel_rfl) (by kernel_rfl) (Below.refl _ _).drew (fun i u u' h h' => h.trans (h'.mono h.size)) (fun i j v u u' hn h h' hv => ?_) ⟨?_, ?_, ?_, ?_, ?_, ?_, ?_, ?_, ?_, ?_, ?_, ?_, ?_, ?_, ?_, ?_, trivial⟩ ?_
  · match j with
    | 0 => exact hv
    | 1 => exact hv
    | 2 => exact hv
    | 3 => exact hv
    | 4 => exact hv
    | 5 => exact hv
    | 6 => exact OwnU.later hv h'
    | 7 => exact hv
    | 8 => exact hv
    | 9 => exact hv
    | 10 => exact hv
    | 11 => exact hv
    | 12 => exact hv
    | 13 => exact OwnU.later hv h'
    | 14 => exact OwnU.later hv h'
    | 15 => exact OwnU.later hv h'
    | _ + 16 => trivial
  · rintro u hu
    exact opYields_val _ (by kernel_rfl) (by go_simp) ⟨Below.refl _ _, rfl⟩
  · rintro u hu _ rfl
    exact opYields_val _ (by kernel_rfl) (by go_simp) ⟨Below.refl _ _, rfl⟩
  · rintro u hu _ rfl
    exact opYields_val _ (by kernel_rfl) (by go_simp) ⟨Below.refl _ _, rfl⟩
  · rintro u hu _ rfl
    have e0 := (hu.cell (p := ⟨k, 0, none⟩) hm.lt).trans c0
    exact opYields_val _ (by kernel_rfl) (by go_simp) ⟨Below.refl _ _, rfl⟩
  · rintro u hu
    exact opYields_val _ (by kernel_rfl) (by go_simp) ⟨Below.refl _ _, rfl⟩
  · rintro u hu _ rfl _ rfl
    rcases hm.keys.row with ⟨e, _⟩ | ⟨g, cap, cur, e, _, _, hc, hx⟩
    · simp only [Value.slice.injEq] at e
      obtain ⟨rfl, rfl, rfl⟩ := e
      exact opYields_val _ (by kernel_rfl) (by go_simp) ⟨Below.refl _ _, rfl⟩
    · simp only [Value.slice.injEq] at e
      obtain ⟨rfl, rfl, rfl⟩ := e
      unfold maxLen at hx
      have hle : (ks.length : Int) ≤ (kc : Int) := by omega
      exact opYields_val _ (by kernel_rfl) (by go_simp) ⟨Below.refl _ _, rfl⟩
  · rintro u hu _ rfl
    exact opYields_call 70 #[.slice ka kn kc] (by kernel_rfl) (by go_simp) ((CK.out u (hm.keys.later hu)).mono fun x u' ⟨v, h1, h2, h3⟩ => ⟨v, h1, h3, ownU_mono h2 hu.size⟩)
  · rintro u hu
    exact opYields_val _ (by kernel_rfl) (by go_simp) ⟨Below.refl _ _, rfl⟩
  · rintro u hu _ rfl
    exact opYields_val _ (by kernel_rfl) (by go_simp) ⟨Below.refl _ _, rfl⟩
  · rintro u hu _ rfl
    exact opYields_val _ (by kernel_rfl) (by go_simp) ⟨Below.refl _ _, rfl⟩
  · rintro u hu _ rfl
    have e1 := (hu.cell (p := ⟨k, 1, none⟩) hm.lt).trans c1
    exact opYields_val _ (by kernel_rfl) (by go_simp) ⟨Below.refl _ _, rfl⟩
  · rintro u hu
    exact opYields_val _ (by kernel_rfl) (by go_simp) ⟨Below.refl _ _, rfl⟩
  · rintro u hu _ rfl _ rfl
    rcases hm.vals.row with ⟨e, _⟩ | ⟨g, cap, cur, e, _, _, hc, hx⟩
    · simp only [Value.slice.injEq] at e
      obtain ⟨rfl, rfl, rfl⟩ := e
      exact opYields_val _ (by kernel_rfl) (by go_simp) ⟨Below.refl _ _, rfl⟩
    · simp only [Value.slice.injEq] at e
      obtain ⟨rfl, rfl, rfl⟩ := e
      unfold maxLen at hx
      have hle : (vs.length : Int) ≤ (vc : Int) := by omega
      exact opYields_val _ (by kernel_rfl) (by go_simp) ⟨Below.refl _ _, rfl⟩
  · rintro u hu _ rfl
    exact opYields_call 70 #[.slice va vn vc] (by kernel_rfl) (by go_simp) ((CV.out u (hm.vals.later hu)).mono fun x u' ⟨v, h1, h2, h3⟩ => ⟨v, h1, h3, ownU_mono h2 hu.size⟩)
  · rintro u hu v hv
    exact opYields_val v (by kernel_rfl) (by go_simp) ⟨Below.refl _ _, hv⟩
  · rintro u hu v hv
    exact opYields_val v (by kernel_rfl) (by go_simp) ⟨Below.refl _ _, hv⟩
  · rintro u hu _ _ _ _ _ _ _ _ _ _ _ _ _ _ kw hkw vw hvw
    simp only [givingAll, Act.put, List.setIfInBounds_toArray, List.set_cons_zero, List.set_cons_succ]
    have hJ := hAJ [] W u none h0 ⟨hu.os, hu.tape, hu.output, hu.size, fun b hb _ => hu.block b hb⟩ (fun r e => by cases e)
    generalize W.heap.size = B0 at hkw hvw
    obtain ⟨ka', kn', kc', rfl⟩ := hkw.slice
    obtain ⟨va', vn', vc', rfl⟩ := hvw.slice
    have hkn : kn' = ks.length := by
      rcases hkw.row with ⟨e, e2⟩ | ⟨g, cap, cur, e, _⟩
      · simp only [Value.slice.injEq] at e; rw [e2]; exact e.2.1
      · simp only [Value.slice.injEq] at e; exact e.2.1
    have hvn : vn' = ks.length := by
      rcases hvw.row with ⟨e, e2⟩ | ⟨g, cap, cur, e, _⟩
      · simp only [Value.slice.injEq] at e; rw [← hmb, e2]; exact e.2.1
      · simp only [Value.slice.injEq] at e; rw [← hmb]; exact e.2.1
    subst hkn
    subst hvn
    clear CK CV c0 c1 hm hAJ h0 hu
    have HMB := hid hmb
    have HZ := hid (fun j => @zip_at ks vs hmb j)
    have HZ0 := hid (show (ks.zip vs).take 0 = [] by simp)
    have HZN := hid (show (ks.zip vs).take ks.length = ks.zip vs by rw [← HLK.out, List.take_length])
    clear hmb
    generalize hN : ks.length = N at *
    have HN := hid hN
    clear hN
    gi_wp2
    gi_loopw [28] (fun i wr => ∃ j : Nat, j ≤ N ∧ i = .int .i64 j ∧ J ((ks.zip vs).take j) wr ∧ OwnU wr B0 (.slice ka' N kc') ks ∧ OwnU wr B0 (.slice va' N vc') vs) (fun i _ => N - (intOf i).toNat)
    case atStart => exact ⟨0, Nat.zero_le _, rfl, by rw [HZ0.out]; exact hJ, hkw, hvw⟩
    case round =>
      obtain ⟨j, hj, rfl, hJj, hk', hv'⟩ := hrel
      by_cases hlt : j < N
      · obtain ⟨g, c, e, d0⟩ := hk'.at HN.out hlt
        obtain ⟨g', c', e', d1⟩ := hv'.at HMB.out hlt
        simp only [Value.slice.injEq, true_and] at e e'
        obtain ⟨rfl, rfl⟩ := e
        obtain ⟨rfl, rfl⟩ := e'
        obtain ⟨fn, tmps, assign, body, hy, hR⟩ := hY _ (ks.getD j 0, vs.getD j 0) wr hJj (by rw [List.length_take]; omega)
        have HZj := hid (HZ.out j hlt)
        dsimp only at hy hR
        generalize ks.getD j 0 = x at *
        generalize vs.getD j 0 = y at *
        gi_wp2
        refine hR.mono ?_
        rintro e W3 (⟨rfl, hJ3, hk3⟩ | ⟨rfl, hJx3⟩)
        · gi_wp2
          go_roundw
          case rel => exact ⟨j + 1, by omega, by go_num, by rw [HZj.out]; exact hJ3, hk'.keep hk3, hv'.keep hk3⟩
          case measure => simp [intOf]; omega
        · gi_wp2
          refine bodyPost_ret (results_none rfl _ _ _) rfl ?_
          exact ⟨⟨_, rfl⟩, .inr ⟨_, ⟨j + 1, by rw [HN.out]; omega, HZj.out.symm⟩, hJx3⟩⟩
      · obtain rfl : j = N := by omega
        gi_wp2
        go_end0
        exact ⟨⟨_, rfl⟩, .inl ⟨_, rfl, by rw [HZN.out] at hJj; exact hJj⟩⟩
theorem round_any {m m' : Nat} {P : Program} {l : Nat} {f : FuncId} {tmps : Array Value} {assign body : Code} {w : World} {R : Ending → World → Prop}
    (h : RoundIn Fence.wide m P l f tmps assign body w R) : RoundIn Fence.wide m' P l f tmps assign body w R := ⟨h.1, fun c cs _ => h.2 c cs (room_wide _)⟩
theorem yield_any {m : Nat} (m' : Nat) {P : Program} {l : Nat} {args : Array Value} {W : World} {R : Ending → World → Prop} (h : YieldAt Fence.wide m P l args W R) : YieldAt Fence.wide m' P l args W R := by
  obtain ⟨fn, tmps, assign, body, hy, hR⟩ := h
  exact ⟨fn, tmps, assign, body, hy, round_any hR⟩
theorem uK_b {w : World} (W : World) (l : Nat) (o o' : Obj) (_ : w.heap.size ≤ l) (h : W.heap[l]? = some o) (hc : o.isCells = false) (_ : o.isWalk = false) : UKeep W (W.putObj l o') := by
  have hg := grownBy_putObj' W l o'
  refine ⟨hg.size, fun b cs hb => hg.block b (Array.getElem?_eq_some_iff.1 hb).1 fun e => ?_⟩
  cases e
  rw [h] at hb
  cases hb
  cases hc

set_option maxRecDepth 100000 in
set_option maxHeartbeats 1000000 in
theorem all37 (k : Nat) (w : World) : Calls Try.prog 37 #[.pointer (some ⟨k, 0, none⟩)] w fun e w' => e = .returned (.func (.func 57) #[] #[.pointer (some ⟨w.heap.size, 0, none⟩)]) ∧ w' = w.alloc (.cells #[.pointer (some ⟨k, 0, none⟩)] 72) := by
  have hmf : ∀ (fn : Fn) (first cap : Array Value) (w : World), (Instr.makeFunc fn first cap).run Try.prog w = .ok (.func fn first cap) w := fun _ _ _ _ => rfl
  go_enter Try.func37, Try.ntmps37
  go_wp2_with fail
  go_ret
  exact ⟨rfl, rfl⟩
set_option maxRecDepth 100000 in
set_option maxHeartbeats 1000000 in
theorem all_stops (n : Nat) (hn : 3 ≤ n) (bx k B : Nat) (kv vv : Value) (ks vs : List Int) (w : World) (hbx : w.cell? ⟨bx, 0, none⟩ = some (.pointer (some ⟨k, 0, none⟩))) (hm : UMap w B k kv vv ks vs) (hl : ks.length ≤ 10000) :
    SeqStopsK Fence.wide n Try.prog 57 #[.pointer (some ⟨bx, 0, none⟩)] (fun x : Int × Int => #[Value.int .u32 x.1, Value.int .u32 x.2]) UKeep (fun ys => ys = ks.zip vs)
      (fun pre => ∃ j, j ≤ ks.length ∧ pre = (ks.zip vs).take j) ks.length w := fun lp J Jx W hW hA _ hY h0 => by
  have hmW := hm.later hW
  have hc := (hW.cell (p := ⟨bx, 0, none⟩) (World.block_lt_of_cell? w _ hbx)).trans hbx
  have HT := hid (through58 (n - 1) (by omega) lp k B kv vv ks vs J Jx W hmW hl hA (fun pre x W1 hJ hlt => yield_any (n - 1 - 1) (hY pre x W1 hJ hlt)) h0)
  clear hmW hm hW hA hY h0
  refine callsIn_of_wp Try.func57 rfl trivial ?_ rfl
  simp only [Try.ntmps57, List.size_toArray, List.length_cons, List.length_nil, Nat.reduceAdd, Nat.reduceSub, Array.replicate_succ, Array.replicate_zero, List.push_toArray, List.append_toArray, List.nil_append, List.cons_append]
  gi_wp2
  refine ⟨trivial, fun _ => by omega, HT.out.mono ?_⟩
  rintro e w' ⟨⟨v, rfl⟩, hh⟩
  gi_wp2
  go_end0
  exact ⟨⟨_, rfl⟩, hh⟩
end Go.Proofs.Ytfladpnphkoeiaa.Key
