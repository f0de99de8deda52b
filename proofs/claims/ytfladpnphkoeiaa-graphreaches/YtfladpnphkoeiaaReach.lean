/-
  Contract of Reach, the program's.
-/
import Derived.Test.YtfladpnphkoeiaaRow
import Derived.Test.YtfladpnphkoeiaaThruZ
import Derived.Test.YtfladpnphkoeiaaCounts
import Derived.Deep.LoopGhost
import Derived.Maps.OwnIn
namespace Go.Proofs.Ytfladpnphkoeiaa.Key
open Go.RowKit Go.Shelf Draw Go.Maps
attribute [local go_sem] Oper.semAt_some
set_option linter.unusedVariables false
set_option linter.unusedSimpArgs false

set_option maxRecDepth 100000 in
/-- 'append(out, l...)', its run -/
theorem runU (w : World) (ty : TypeId) (B : Nat) (v : Value) (l : List Int) (hown : OwnU w B v l) (ad : Option Addr) (m c : Nat) (ys : List Int) (hnil : ad = none → m = 0 ∧ c = 0) (hl : ys.length = m) (hn : Nums w ad ys) (hsz : l.length + m ≤ 100000000) (hB : B ≤ w.heap.size) :
    ∃ v' w', (Builtin.append_ #[41, 41] ty #[v, .slice ad m c]).run Try.prog w = .ok v' w' ∧ OwnU w' B v' (l ++ ys) ∧ w.grownBy w' v.ownBlock ∧ (v'.ownBlock = v.ownBlock ∨ v'.ownBlock = some w.heap.size) := by
  obtain ⟨i0, hi, hz0, hz1, hz2⟩ := info_parts info23
  cases ad with
  | none =>
    obtain ⟨rfl, rfl⟩ := hnil rfl
    have hy : ys = [] := List.eq_nil_of_length_eq_zero hl
    subst hy
    exact ⟨v, w, run_append_owned_none (P := Try.prog) (w := w) B 41 ty 23 i0 1 Try.underlying41 hi v _ _ hown, by simpa using hown, ⟨rfl, rfl, rfl, Nat.le_refl _, fun _ _ _ => rfl⟩, .inl rfl⟩
  | some ad =>
    obtain ⟨v', w', hr, h2, h3, _, h5⟩ := run_append_own_at (P := Try.prog) w B 41 ty 23 i0 (.int .u32 0) 1 4 Try.underlying41 hi hz0 hz1 hz2 rfl (by decide) v _ _ hown ad m c (ys.map (Value.int .u32)) (by simp [hl]) hn.news (by intro u hu; simp at hu; obtain ⟨_, _, rfl⟩ := hu; rfl)
      (by unfold maxLen; omega) (by omega) hB
    refine ⟨v', w', hr, ?_, h3, h5⟩
    unfold OwnU
    rw [List.map_append, List.length_append, hl]
    exact h2
theorem appUsIn {F : Fence} {nF : Nat} {w : World} {ops : Array Oper} {rest : List Oper} {o : Oper} {a : Act} {Q : Exit → Act → World → Prop} (hgd : o.guard = none) (s x : Operand)
    (ho : o.op = .call { callee := .builtin .append, args := #[s, x], argTypes := #[41, 41] })
    (B : Nat) (v : Value) (l : List Int) (hs : a.eval s = v) (hown : OwnU w B v l) (ad : Option Addr) (m c : Nat) (ys : List Int) (hx : a.eval x = .slice ad m c) (hnil : ad = none → m = 0 ∧ c = 0) (hl : ys.length = m) (hn : Nums w ad ys) (hsz : l.length + m ≤ 100000000) (hB : B ≤ w.heap.size)
    (h : ∀ v' w', OwnU w' B v' (l ++ ys) → w.grownBy w' v.ownBlock → (v'.ownBlock = v.ownBlock ∨ v'.ownBlock = some w.heap.size) → wpListIn F nF Try.prog ops Q rest (a.put o.dst v') w') : wpListIn F nF Try.prog ops Q (o :: rest) a w := by
  refine wpListIn_plain hgd fun K hK => ?_
  obtain ⟨v', w', hr, h2, h3, h5⟩ := runU w o.type B v l hown ad m c ys hnil hl hn hsz hB
  unfold Oper.wpIn
  refine ⟨by simp [Oper.about, ho, resolve, Target.leads, Sem.run_pure], ?_⟩
  rw [Oper.semAt_plain F _ _ (by rw [ho]; intro c hc'; cases hc')]
  simp [execOp, ho, resolve, invoke, builtin, hs, hx, hr, Result.andThen]
  exact hK _ _ (h v' w' h2 h3 h5)
theorem bKeep_append {W w5 : World} {tmp : Obj} {v v' : Value} {Bd : Nat} (hgrow : (W.alloc tmp).grownBy w5 v.ownBlock) (hv : Boxed W Bd 41 v) (hat : v'.ownBlock = v.ownBlock ∨ v'.ownBlock = some (W.alloc tmp).heap.size) (hv2 : Boxed (w5.setCell ⟨Bd, 0, none⟩ v') Bd 41 v') : BKeep Bd W (w5.setCell ⟨Bd, 0, none⟩ v') := by
  have hg2 := grownBy_setCell' w5 Bd v'
  have hs0 : (W.alloc tmp).heap.size = W.heap.size + 1 := World.size_alloc _ _
  refine ⟨Nat.le_trans (by omega) (Nat.le_trans hgrow.size hg2.size), fun b cs hb h1 h2 => ?_⟩
  have hlt := (Array.getElem?_eq_some_iff.1 hb).1
  rw [rowOf_box hv] at h2
  rw [rowOf_box hv2]
  refine ⟨?_, ?_⟩
  · have hs := hgrow.size
    rw [hg2.block b (by omega) (fun e => h1 (by cases e; rfl)), hgrow.block b (by omega) (fun e => h2 e.symm)]
    exact heap_alloc_old W tmp hlt
  · rcases hat with h | h
    · rw [h]; exact h2
    · rw [h]
      intro e
      cases e
      omega
set_option maxRecDepth 100000 in
set_option maxHeartbeats 1000000 in
theorem reach17 (a ra : Option Addr) (c rc : Nat) (l : List It) (roots : List Int) (w : World) (hl : Fine l) (hr1 : roots.length ≤ 1000) (hU : (univ l roots).length ≤ 10000) (hwf : ∀ b ∈ univ l roots, (Lit.int .u32 b).wf = true)
    (hi : Items w a l) (hr : Nums w ra roots) (hnil : ra = none → roots.length = 0 ∧ rc = 0) :
    Calls Try.prog 17 #[.slice a l.length c, .slice ra roots.length rc] w fun e w' => (∃ ks, Full l roots ks ∧ ∃ v, e = .returned v ∧ OwnU w' w.heap.size v ks) ∧ Below w.heap.size w w' := by
  have hmf : ∀ (fn : Fn) (first cap : Array Value) (w : World), (Instr.makeFunc fn first cap).run Try.prog w = .ok (.func fn first cap) w := fun _ _ _ _ => rfl
  obtain ⟨hln, hin, hsm⟩ := hl
  have HP := places39 a c l w hln hin hi
  have HI := hid hi
  have HIN := hid hin
  have HSM := hid hsm
  have HWF := hid hwf
  have HU := hid hU
  have HR := hid hr
  obtain ⟨m1, HM1⟩ : ∃ m, Hid (l.length = m) := ⟨_, hid rfl⟩
  obtain ⟨m2, HM2⟩ : ∃ m, Hid (roots.length = m) := ⟨_, hid rfl⟩
  rw [HM1.out] at hln HP ⊢
  rw [HM2.out] at hr1 hnil ⊢
  clear hi hin hsm hwf hU hr
  refine (callsIn_wide (n := 9)).1 ?_
  refine callsIn_of_wp_marks Try.func17 rfl trivial ?_ rfl
  simp only [Try.ntmps17, List.size_toArray, List.length_cons, List.length_nil, Nat.reduceAdd, Nat.reduceSub, Array.replicate_succ, Array.replicate_zero, List.push_toArray, List.append_toArray, List.nil_append, List.cons_append]
  have HNL := hid hnil
  clear hnil
  gi_wp2_with (first
    | (refine ⟨trivial, ?_⟩; gi_at_call 39; refine (callsIn_wide.2 HP).mono ?_; rintro e w1 ⟨rfl, ⟨mm, hG⟩, hb1⟩)
    | (refine ⟨trivial, ?_⟩; gi_at_call 40; refine (callsIn_wide.2 (new40 w1)).mono ?_; rintro e w2 ⟨rfl, hZ2, hb2⟩; have hR2 := hid ((HR.out.later hb1).later hb2); have hs2 := hb2.size)
    | (gi_at_builtin; refine appUsIn rfl _ _ rfl w1.heap.size _ [] rfl (OwnU.nil _ _) ra m2 rc roots rfl HNL.out HM2.out hR2.out (by simp; omega) hs2 ?_; intro lv w3 ho3 hg3 hat3))
  have hR0 : RM w1 w1.heap.size [] roots (.slice none 0 0) (.slice none 0 0) lv w3 := by
    have h0 : RM w1 w1.heap.size [] [] (.slice none 0 0) (.slice none 0 0) (.slice none 0 0) w2 := ⟨hZ2, OwnU.nil _ _, by simp [Value.ownBlock], hb2⟩
    exact h0.app ho3 hg3 hat3
  obtain ⟨la, lc, rfl, hxx⟩ := hR0.row.nums
  clear hxx
  clear ho3 hg3 hat3 hZ2 hs2 hR2 HP HNL HR
  have hs1 := hb1.size
  generalize hB : w1.heap.size = B at *
  generalize hk0 : w.heap.size = k0 at *
  refine wpIn_wide.2 ?_
  go_loopg [7] ((univ l roots).length * 2001 + roots.length) (fun k v wr => ∃ ks left kv vv la lc, v = .slice la left.length lc ∧ Goes l roots ks left ∧ RM w1 B ks left kv vv (.slice la left.length lc) wr ∧ ((univ l roots).length - ks.length) * 2001 + left.length ≤ k ∧ k ≤ 30000000)
  case atStart => exact ⟨[], roots, _, _, la, lc, rfl, Goes.start l roots, hR0, by simp, by have := HU.out; rw [HM2.out]; omega⟩
  case round =>
    clear hR0
    obtain ⟨ks, left, kv, vv, ja, jc, rfl, hgo, hrm, hms, hgk⟩ := hrel
    have hks := Nat.le_trans hgo.len HU.out
    rcases List.eq_nil_or_concat left with rfl | ⟨left0, b, e⟩
    · have hfull := hid hgo.full
      have hS := hrm.map
      have hbw := hrm.bel
      clear hgo hms hrm hb2 hG
      have hb0w : Below k0 w wr := hb1.trans (hbw.mono hs1)
      have hbs : k0 ≤ wr.heap.size := by have := hS.lt; omega
      clear hb1 hbw
      go_wp2_with fail
      gi_wp2_with (refine ⟨trivial, ?_⟩; gi_at_call 43; refine (callsIn_wide.2 (all43 B _)).mono ?_; rintro e w' ⟨rfl, rfl⟩)
      have bD := (Boxed.new wr 41 (.slice none 0 0)).alloc (.cells #[.pointer (some ⟨B, 0, none⟩)] 85)
      have bM := Boxed.new (wr.alloc (.cells #[.slice none 0 0] 41)) 85 (.pointer (some ⟨B, 0, none⟩))
      rw [World.size_alloc] at bM
      have hbb : Below wr.heap.size wr ((wr.alloc (.cells #[.slice none 0 0] 41)).alloc (.cells #[.pointer (some ⟨B, 0, none⟩)] 85)) := (below_box wr _).alloc (by simp) _
      have hS0 := hS.later hbb
      have hb0 := hb0w.trans (hbb.mono hbs)
      have hsz : ((wr.alloc (.cells #[.slice none 0 0] 41)).alloc (.cells #[.pointer (some ⟨B, 0, none⟩)] 85)).heap.size = wr.heap.size + 2 := by simp
      clear hS hbb hb0w
      generalize ((wr.alloc (.cells #[.slice none 0 0] 41)).alloc (.cells #[.pointer (some ⟨B, 0, none⟩)] 85)) = W0 at *
      refine wpIn_rangeFunc_ownF rfl (by omega) (gf := 62) (lb := #[.pointer (some ⟨wr.heap.size + 1, 0, none⟩)]) rfl trivial (enters_of Try.func62 (by kernel_rfl) rfl)
        (all_stopsZ _ (by omega) (wr.heap.size + 1) B B wr.heap.size kv vv ks W0 bM.cell hS0 hks bD) (fun h k => h.trans k) (bK_b (w := W0) (by omega)) (Below.refl _ _) (fun _ => rfl)
        (fun (pre : List Int) W => (∃ v, Boxed W wr.heap.size 41 v ∧ W.ownsRow k0 23 1 v pre.length (pre.map (Value.int .u32)) ∧ True) ∧ Below k0 w W)
        (fun _ _ _ => False)
        (OwnFrom.and (Go.Own.from (holdsRow_own k0 wr.heap.size 41 23 1 (fun pre : List Int => pre.length) (fun pre : List Int => pre.map (Value.int .u32)) (fun _ _ => True)) _) (ownFrom_below (by omega) (by omega)))
        (fun c => fun s A B row hs hg hr => hs.elim)
        ⟨⟨_, bD, World.ownsRow_nil _ _ _ _, trivial⟩, hb0⟩
        ?a1 ?assign ?body ?done ?stop
      case assign =>
        intro lp x W K hK
        gi_wp2
        exact hK
      case stop =>
        rintro D cc pre W hD _ h _
        exact h.elim
      case body =>
        rintro lp pre x W ⟨⟨v, hv, hrow, _⟩, hBl⟩ hplt
        obtain ⟨i0, hi, hz0, hz1, hz2⟩ := info_parts info23
        have hcv := hv.cell
        have hBs := hBl.size
        have hpl2 : pre.length ≤ 10000 := by omega
        gi_wp2_with (gi_at_builtin; refine wpListIn_append_own_at _ rfl _ _ 41 rfl k0 23 i0 _ 1 4 Try.underlying41 hi hz0 hz1 hz2 rfl (by decide) _ _ _ rfl (hrow.alloc _) ⟨W.heap.size, 0, none⟩ 1 1 [.int .u32 x] rfl rfl (cell_one_new W _ _) (by intro u hu; simp at hu; subst hu; rfl) (by unfold maxLen; omega) (by omega) (by simp; omega) ?_; intro v' w5 hown' hgrow _ hat; obtain ⟨g', cap', rfl⟩ := ownsRow_succ hown'; obtain ⟨hv1, hv2, hr2, hk2, hb2⟩ := hv.appended (by decide) hrow (by omega) (by omega) hown' hgrow; have hc1 := hv1.cell; have hf1 := hv1.frozen)
        refine ⟨hk2, ?_, ⟨⟨_, hv2, ?_⟩, hBl.trans hb2⟩⟩
        · exact bKeep_append hgrow hv hat hv2
        · rw [List.map_append, List.length_append]
          exact ⟨hr2, trivial⟩
      case done =>
        rintro D ys W hD rfl ⟨⟨v, hv, hrow, _⟩, hBl⟩ hK
        have hcv := hv.cell
        gi_wp2
        refine ⟨by simp, .inl ⟨_, _, rfl, run_takeDeferred hK, ?_⟩⟩
        refine ⟨v, by simp [results, Try.f17, go_sem], ⟨ys, hfull.out, v, rfl, ?_⟩, ?_⟩
        · rw [hk0]
          unfold OwnU
          refine World.ownsRow.kept hrow (grownBy_putObj' W D (.deferred none)) ?_
          rcases hrow.2 with ⟨rfl, _⟩ | ⟨g, cap, cur, rfl, _, hg, _⟩
          · exact .inl rfl
          · refine .inr fun e => ?_
            simp only [Value.ownBlock, Option.some.injEq] at e
            subst e
            rw [hK] at hg
            cases hg
        · rw [hk0]
          exact hBl.trans (belowK_b (w := W0) (by omega) W D _ _ hD hK rfl rfl)
    · rw [List.concat_eq_append] at e
      subst e
      have hbu := (hgo.inL b (by simp)).univ
      have hwb := HWF.out b hbu
      have hlen : (left0 ++ [b]).length = left0.length + 1 := by simp
      rw [hlen] at hrm hms ⊢
      obtain ⟨g, c', e, d0⟩ := hrm.row.at hlen (Nat.lt_succ_self _)
      simp only [Value.slice.injEq, true_and] at e
      obtain ⟨rfl, rfl⟩ := e
      have hgd : (left0 ++ [b]).getD left0.length 0 = b := by simp [List.getD]
      rw [hgd] at d0
      have HPUT := put41 B B kv vv ks b w1 wr hrm.map hks hrm.bel
      have hcap : left0.length + 1 ≤ jc := by
        rcases hrm.row.2 with ⟨h, _⟩ | ⟨g, cap, cur, h, _, _, h5, _⟩
        · simp at h
        · simp only [Value.slice.injEq] at h
          rw [← h.2.2, hlen] at h5
          exact h5
      have HRM := hid hrm
      have HGO := hid hgo
      have HMS := hid hms
      clear hrm hgo hms hgd hlen
      generalize hN : left0.length = N at *
      have HN := hid hN
      clear hN
      have hNb : N ≤ 30000000 := by have := HMS.out; omega
      have hw1 : IntKind.i64.wrap (((N + 1 : Nat) : Int) - 1) = (N : Int) := by rw [IntKind.wrap_i64]; omega
      go_wp2_with fail
      refine HPUT.mono ?_
      clear HPUT
      rintro e w4 ⟨rfl, ⟨kv', vv', hm4, hf4⟩, hb4⟩
      have hrm4 := hid (HRM.out.put (by rw [HN.out]) HN.out.symm hm4 hf4 hb4)
      clear HRM hm4 hf4 d0
      cases ht : there ks b
      · have hlk := hid (putK_new ht)
        have hln2 := hid (HGO.out.new.len)
        have hG4 := hG.later (by rw [hB]; exact hb4)
        obtain ⟨y, HY⟩ : ∃ y, Hid (placeF l b = y) := ⟨_, hid rfl⟩
        clear ht
        cases y with
        | none =>
          have hgo' := HGO.out.new
          rw [succ_none HY.out, List.append_nil] at hgo'
          have HGO' := hid hgo'
          clear hgo' HGO
          go_wp2_with (first | (at_lookup; refine look rfl _ _ 83 rfl 3 .i64 Try.underlying83 Try.underlying3 (zero3 _) k0 mm (placeF l) rfl hG4 b rfl hwb ?_; rw [HY.out]; dsimp only [Option.getD, Option.isSome]) | fail)
          go_roundg (((univ l roots).length - (putK ks b).length) * 2001 + left0.length)
          case measure => have := HMS.out; rw [hlk.out, HN.out]; omega
          case rel => exact ⟨putK ks b, left0, kv', vv', _, jc, by rw [HN.out], HGO'.out, by rw [HN.out]; exact hrm4.out, Nat.le_refl _, by have := HMS.out; rw [hlk.out, HN.out]; omega⟩
        | some p =>
          obtain ⟨i, hi, rfl, hsu⟩ := succ_of HY.out
          have hi1 : i < m1 := by rw [← HM1.out]; exact hi
          have hxs := HSM.out _ (List.getElem_mem hi)
          have hgo' := HGO.out.new
          obtain ⟨bb, off, rfl, h6, h7⟩ := (HI.out.later (by rw [hk0]; exact hb1.trans (hb4.mono hs1))).at hi
          have HT := targets17 _ _ _ hxs.few h7
          have htl := targets_len hxs.few
          rw [hsu] at hgo'
          have HGO' := hid hgo'
          obtain ⟨x, HX⟩ : ∃ m, Hid (l[i] = m) := ⟨_, hid rfl⟩
          rw [HX.out] at h6 HT htl HGO'
          generalize targetsL x.nd = T at *
          obtain ⟨bk, ⟨lf, ps, pv, es, bf⟩, ⟨a1, c1, a2, c2, a3, c3, a4, c4⟩⟩ := x
          obtain ⟨d0, d1, d2, d3, d4, d5⟩ := h6
          dsimp only [nv] at *
          clear h7 hxs hgo' HGO hsu
          generalize ps.length = n1 at *
          generalize pv.length = n2 at *
          generalize es.length = n3 at *
          generalize bf.length = n4 at *
          go_wp2_with (first | (at_lookup; refine look rfl _ _ 83 rfl 3 .i64 Try.underlying83 Try.underlying3 (zero3 _) k0 mm (placeF l) rfl hG4 b rfl hwb ?_; rw [HY.out]; dsimp only [Option.getD, Option.isSome]) | fail)
          refine HT.mono ?_
          clear HT d0 d1 d2 d3 d4 d5
          rintro e w5 ⟨tv, rfl, hv5, hb5⟩
          obtain ⟨ta, tc, rfl, hnums, hnil⟩ := hv5.nums
          have hrm5 := hid (hrm4.out.later hb5)
          have hB5 : B ≤ w5.heap.size := Nat.le_of_lt hrm5.out.big
          obtain ⟨tn, HTN⟩ : ∃ m, Hid (T.length = m) := ⟨_, hid rfl⟩
          rw [HTN.out] at htl hnil ⊢
          have HNL := hid hnil
          have HNU := hid hnums
          clear hv5 hb5 hb4 hrm4 hnil hnums
          go_wp2_with (first | (at_builtin; refine appUsAt rfl _ _ rfl B _ left0 rfl hrm5.out.row ta tn tc T rfl HNL.out HTN.out HNU.out (by rw [HN.out]; omega) hB5 ?_; intro lv' w6 ho6 hg6 hat6; have hrm6 := hid (hrm5.out.app ho6 hg6 hat6); clear hrm5 ho6 hg6 hat6) | fail)
          obtain ⟨ja', jc', rfl, _⟩ := hrm6.out.row.nums
          go_roundg (((univ l roots).length - (putK ks b).length) * 2001 + (left0 ++ T).length)
          case measure => have := HMS.out; have := hln2.out; rw [hlk.out, List.length_append, HTN.out, HN.out]; rw [hlk.out] at this; omega
          case rel => exact ⟨putK ks b, left0 ++ T, kv', vv', _, jc', rfl, HGO'.out, hrm6.out, Nat.le_refl _, by have := HMS.out; have := hln2.out; rw [hlk.out, List.length_append, HTN.out, HN.out]; rw [hlk.out] at this; omega⟩
      · have hgo' := hid (HGO.out.old ht)
        have hrm5 := hrm4.out
        rw [putK_old ht] at hrm5
        have hrm5 := hid hrm5
        clear HGO hrm4 ht
        go_wp2_with fail
        go_roundg (((univ l roots).length - ks.length) * 2001 + left0.length)
        case measure => have := HMS.out; rw [HN.out]; omega
        case rel => exact ⟨ks, left0, kv', vv', _, jc, by rw [HN.out], hgo'.out, by rw [HN.out]; exact hrm5.out, Nat.le_refl _, by have := HMS.out; rw [HN.out]; omega⟩
end Go.Proofs.Ytfladpnphkoeiaa.Key
