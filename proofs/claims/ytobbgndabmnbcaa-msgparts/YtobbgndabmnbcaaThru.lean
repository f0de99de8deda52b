/-
  Contract of through: a map's pairs, gone through.
-/
import Derived.Test.YtobbgndabmnbcaaThrough
namespace Go.Proofs.Ytobbgndabmnbcaa.Key
open Go.RowKit Go.Shelf Draw
open Go.Op (bytesLess)
attribute [local go_sem] Oper.semAt_some

theorem zip_at {ks vs : List ByteArray} (hb : vs.length = ks.length) {j : Nat} (hj : j < ks.length) : (ks.zip vs).take (j + 1) = (ks.zip vs).take j ++ [(ks.getD j ByteArray.empty, vs.getD j ByteArray.empty)] := by
  have hz : j < (ks.zip vs).length := by rw [List.length_zip]; omega
  rw [List.take_succ_eq_append_getElem hz, List.getElem_zip]
  simp [List.getD, List.getElem?_eq_getElem hj, List.getElem?_eq_getElem (show j < vs.length by omega)]

theorem ownS_mono {w : World} {B B' : Nat} {v : Value} {l : List ByteArray} (h : OwnS w B v l) (hB : B' ≤ B) : OwnS w B' v l := by
  refine ⟨h.1, ?_⟩
  rcases h.2 with h | ⟨g, cap, cur, h1, h2, h3⟩
  · exact .inl h
  · exact .inr ⟨g, cap, cur, h1, by omega, h3⟩

set_option maxRecDepth 100000 in
set_option maxHeartbeats 1000000 in
theorem through58 (n : Nat) (hn : 1 ≤ n) (lp k B : Nat) (kv vv : Value) (ks vs : List ByteArray) (J Jx : List (ByteArray × ByteArray) → World → Prop) (W : World) (hm : SMap W B k kv vv ks vs) (hl : ks.length ≤ 10000) (hAJ : AbidesFrom W.heap.size J)
    (hY : ∀ pre x W1, J pre W1 → pre.length < ks.length → YieldAt Fence.wide (n - 1) Try.prog lp #[.string x.1, .string x.2] W1 fun e W' => (e = .returned (.bool true) ∧ J (pre ++ [x]) W' ∧ StrKeep W1 W') ∨ (e = .returned (.bool false) ∧ Jx (pre ++ [x]) W'))
    (h0 : J [] W) : CallsIn Fence.wide n Try.prog 58 #[.pointer (some ⟨k, 0, none⟩), .int .i64 0, .func (.yield lp) #[] #[]] W fun e W' => (∃ v, e = .returned v) ∧
      ((∃ ys, ys = ks.zip vs ∧ J ys W') ∨ (∃ pre, (∃ j, j ≤ ks.length ∧ pre = (ks.zip vs).take j) ∧ Jx pre W')) := by
  have CK := hid (fun u (h : OwnS u B kv ks) => clone63 B kv ks u h (by omega))
  have CV := hid (fun u (h : OwnS u B vv vs) => clone63 B vv vs u h (by rw [hm.both]; omega))
  have hmb := hm.both
  have c0 := cell_of_row _ _ 0 _ _ _ hm.box
  have c1 := cell_of_row _ _ 1 _ _ _ hm.box
  dsimp at c0 c1
  have HLK := hid (show (ks.zip vs).length = ks.length by rw [List.length_zip]; omega)
  obtain ⟨ka, kn, kc, rfl⟩ := hm.keys.slice
  obtain ⟨va, vn, vc, rfl⟩ := hm.vals.slice
  refine callsIn_of_wp Try.func58 rfl trivial ?_ rfl
  simp only [Try.ntmps58, List.size_toArray, List.length_cons, List.length_nil, Nat.reduceAdd, Nat.reduceSub, Array.replicate_succ, Array.replicate_zero, List.push_toArray, List.append_toArray, List.nil_append, List.cons_append]
  gi_wp2
  refine wpIn_wide.2 ?_
  refine wp_region_each [(some 12, [], false), (some 13, [(0, 12)], false), (some 14, [(1, 13)], false), (some 15, [(2, 14)], false), (some 16, [], false), (some 17, [(3, 15), (4, 16)], false), (some 18, [(5, 17)], false), (some 19, [], false), (some 20, [(7, 19)], false), (some 21, [(8, 20)], false), (some 22, [(9, 21)], false), (some 23, [], false), (some 24, [(10, 22), (11, 23)], false), (some 25, [(12, 24)], false), (some 6, [(6, 18)], true), (some 7, [(13, 25)], true)]
    (fun u => Below W.heap.size W u) (fun _ u u' => Below u.heap.size u u')
    (fun i v u => match i with | 0 => v = .pointer (some ⟨k, 0, none⟩) | 1 => v = .pointer (some ⟨k, 0, none⟩) | 2 => v = .pointer (some ⟨k, 0, none⟩) | 3 => v = .slice ka kn kc | 4 => v = .int .i64 0 | 5 => v = .slice ka kn kc | 6 => OwnS u W.heap.size v ks | 7 => v = .pointer (some ⟨k, 0, none⟩) | 8 => v = .pointer (some ⟨k, 0, none⟩) | 9 => v = .pointer (some ⟨k, 1, none⟩) | 10 => v = .slice va vn vc | 11 => v = .int .i64 0 | 12 => v = .slice va vn vc | 13 => OwnS u W.heap.size v vs | 14 => OwnS u W.heap.size v ks | 15 => OwnS u W.heap.size v vs | _ => True)
    (by kernel_rfl) (by kernel_rfl) (Below.refl _ _).drew (fun i u u' h h' => h.trans (h'.mono h.size)) (fun i j v u u' hn h h' hv => ?_) ⟨?_, ?_, ?_, ?_, ?_, ?_, ?_, ?_, ?_, ?_, ?_, ?_, ?_, ?_, ?_, ?_, trivial⟩ ?_
  · match j with
    | 0 => exact hv
    | 1 => exact hv
    | 2 => exact hv
    | 3 => exact hv
    | 4 => exact hv
    | 5 => exact hv
    | 6 => exact OwnS.later hv h'
    | 7 => exact hv
    | 8 => exact hv
    | 9 => exact hv
    | 10 => exact hv
    | 11 => exact hv
    | 12 => exact hv
    | 13 => exact OwnS.later hv h'
    | 14 => exact OwnS.later hv h'
    | 15 => exact OwnS.later hv h'
    | _ + 16 => trivial
  · rintro u hu
    exact opYields_val _ (by kernel_rfl) (by go_simp) ⟨Below.refl _ _, rfl⟩
  · rintro u hu _ rfl
    exact opYields_val _ (by kernel_rfl) (by go_simp) ⟨Below.refl _ _, rfl⟩
  · rintro u hu _ rfl
    exact opYields_val _ (by kernel_rfl) (by go_simp) ⟨Below.refl _ _, rfl⟩
  · rintro u hu _ rfl
    have e0 := (hu.cell (p := ⟨k, 0, none⟩) hm.lt).trans c0
    exact opYields_val _ (by kernel_rfl) (by go_simp) ⟨Below.refl _ _, rfl⟩
  · rintro u hu
    exact opYields_val _ (by kernel_rfl) (by go_simp) ⟨Below.refl _ _, rfl⟩
  · rintro u hu _ rfl _ rfl
    rcases hm.keys.row with ⟨e, _⟩ | ⟨g, cap, cur, e, _, _, hc, hx⟩
    · simp only [Value.slice.injEq] at e
      obtain ⟨rfl, rfl, rfl⟩ := e
      exact opYields_val _ (by kernel_rfl) (by go_simp) ⟨Below.refl _ _, rfl⟩
    · simp only [Value.slice.injEq] at e
      obtain ⟨rfl, rfl, rfl⟩ := e
      unfold maxLen at hx
      have hle : (ks.length : Int) ≤ (kc : Int) := by omega
      exact opYields_val _ (by kernel_rfl) (by go_simp) ⟨Below.refl _ _, rfl⟩
  · rintro u hu _ rfl
    exact opYields_call 63 #[.slice ka kn kc] (by kernel_rfl) (by go_simp) ((CK.out u (hm.keys.later hu)).mono fun x u' ⟨v, h1, h2, h3⟩ => ⟨v, h1, h3, ownS_mono h2 hu.size⟩)
  · rintro u hu
    exact opYields_val _ (by kernel_rfl) (by go_simp) ⟨Below.refl _ _, rfl⟩
  · rintro u hu _ rfl
    exact opYields_val _ (by kernel_rfl) (by go_simp) ⟨Below.refl _ _, rfl⟩
  · rintro u hu _ rfl
    exact opYields_val _ (by kernel_rfl) (by go_simp) ⟨Below.refl _ _, rfl⟩
  · rintro u hu _ rfl
    have e1 := (hu.cell (p := ⟨k, 1, none⟩) hm.lt).trans c1
    exact opYields_val _ (by kernel_rfl) (by go_simp) ⟨Below.refl _ _, rfl⟩
  · rintro u hu
    exact opYields_val _ (by kernel_rfl) (by go_simp) ⟨Below.refl _ _, rfl⟩
  · rintro u hu _ rfl _ rfl
    rcases hm.vals.row with ⟨e, _⟩ | ⟨g, cap, cur, e, _, _, hc, hx⟩
    · simp only [Value.slice.injEq] at e
      obtain ⟨rfl, rfl, rfl⟩ := e
      exact opYields_val _ (by kernel_rfl) (by go_simp) ⟨Below.refl _ _, rfl⟩
    · simp only [Value.slice.injEq] at e
      obtain ⟨rfl, rfl, rfl⟩ := e
      unfold maxLen at hx
      have hle : (vs.length : Int) ≤ (vc : Int) := by omega
      exact opYields_val _ (by kernel_rfl) (by go_simp) ⟨Below.refl _ _, rfl⟩
  · rintro u hu _ rfl
    exact opYields_call 63 #[.slice va vn vc] (by kernel_rfl) (by go_simp) ((CV.out u (hm.vals.later hu)).mono fun x u' ⟨v, h1, h2, h3⟩ => ⟨v, h1, h3, ownS_mono h2 hu.size⟩)
  · rintro u hu v hv
    exact opYields_val v (by kernel_rfl) (by go_simp) ⟨Below.refl _ _, hv⟩
  · rintro u hu v hv
    exact opYields_val v (by kernel_rfl) (by go_simp) ⟨Below.refl _ _, hv⟩
  · rintro u hu _ _ _ _ _ _ _ _ _ _ _ _ _ _ kw hkw vw hvw
    simp only [givingAll, Act.put, List.setIfInBounds_toArray, List.set_cons_zero, List.set_cons_succ]
    have hJ := hAJ [] W u none h0 ⟨hu.os, hu.tape, hu.output, hu.size, fun b hb _ => hu.block b hb⟩ (fun r e => by cases e)
    generalize W.heap.size = B0 at hkw hvw
    obtain ⟨ka', kn', kc', rfl⟩ := hkw.slice
    obtain ⟨va', vn', vc', rfl⟩ := hvw.slice
    have hkn : kn' = ks.length := by
      rcases hkw.row with ⟨e, e2⟩ | ⟨g, cap, cur, e, _⟩
      · simp only [Value.slice.injEq] at e; rw [e2]; exact e.2.1
      · simp only [Value.slice.injEq] at e; exact e.2.1
    have hvn : vn' = ks.length := by
      rcases hvw.row with ⟨e, e2⟩ | ⟨g, cap, cur, e, _⟩
      · simp only [Value.slice.injEq] at e; rw [← hmb, e2]; exact e.2.1
      · simp only [Value.slice.injEq] at e; rw [← hmb]; exact e.2.1
    subst hkn
    subst hvn
    clear CK CV c0 c1 hm hAJ h0 hu
    have HMB := hid hmb
    have HZ := hid (fun j => @zip_at ks vs hmb j)
    have HZ0 := hid (show (ks.zip vs).take 0 = [] by simp)
    have HZN := hid (show (ks.zip vs).take ks.length = ks.zip vs by rw [← HLK.out, List.take_length])
    clear hmb
    generalize hN : ks.length = N at *
    have HN := hid hN
    clear hN
    gi_wp2
    gi_loopw [28] (fun i wr => ∃ j : Nat, j ≤ N ∧ i = .int .i64 j ∧ J ((ks.zip vs).take j) wr ∧ OwnS wr B0 (.slice ka' N kc') ks ∧ OwnS wr B0 (.slice va' N vc') vs) (fun i _ => N - (intOf i).toNat)
    case atStart => exact ⟨0, Nat.zero_le _, rfl, by rw [HZ0.out]; exact hJ, hkw, hvw⟩
    case round =>
      obtain ⟨j, hj, rfl, hJj, hk', hv'⟩ := hrel
      by_cases hlt : j < N
      · obtain ⟨g, c, e, d0⟩ := hk'.at HN.out hlt
        obtain ⟨g', c', e', d1⟩ := hv'.at HMB.out hlt
        simp only [Value.slice.injEq, true_and] at e e'
        obtain ⟨rfl, rfl⟩ := e
        obtain ⟨rfl, rfl⟩ := e'
        obtain ⟨fn, tmps, assign, body, hy, hR⟩ := hY _ (ks.getD j ByteArray.empty, vs.getD j ByteArray.empty) wr hJj (by rw [List.length_take]; omega)
        have HZj := hid (HZ.out j hlt)
        dsimp only at hy hR
        generalize ks.getD j ByteArray.empty = x at *
        generalize vs.getD j ByteArray.empty = y at *
        gi_wp2
        refine hR.mono ?_
        rintro e W3 (⟨rfl, hJ3, hk3⟩ | ⟨rfl, hJx3⟩)
        · gi_wp2
          go_roundw
          case rel => exact ⟨j + 1, by omega, by go_num, by rw [HZj.out]; exact hJ3, hk'.keep hk3, hv'.keep hk3⟩
          case measure => simp [intOf]; omega
        · gi_wp2
          refine bodyPost_ret (results_none rfl _ _ _) rfl ?_
          exact ⟨⟨_, rfl⟩, .inr ⟨_, ⟨j + 1, by rw [HN.out]; omega, HZj.out.symm⟩, hJx3⟩⟩
      · obtain rfl : j = N := by omega
        gi_wp2
        go_end0
        exact ⟨⟨_, rfl⟩, .inl ⟨_, rfl, by rw [HZN.out] at hJj; exact hJj⟩⟩
end Go.Proofs.Ytobbgndabmnbcaa.Key
