/-
  Contract of Apply.
-/
import Derived.Test.YtobbgndabmnbcaaAll
import Derived.Maps.AppendAt
namespace Go.Proofs.Ytobbgndabmnbcaa.Key
open Go.RowKit Go.Shelf Draw
open Go.Op (bytesLess)
attribute [local go_sem] Oper.semAt_some

/-- a map: its keys, its values -/
abbrev St := List ByteArray × List ByteArray
def putS (s : St) (x v : ByteArray) : St := (putK s.1 x, putV s.1 s.2 x v)
def delS (s : St) (x : ByteArray) : St := (delK s.1 x, delV s.1 s.2 x)
def doM (s : St) (m : M) : St := if m.kind = 1 then putS s m.key m.val else delS s m.key
def doP (s : St) (p : Pr) : St := putS s p.key p.val
def afterS (pairs : List Pr) (l : List M) : St := l.foldl doM (pairs.foldl doP ([], []))
/-- what Apply leaves -/
def applyL (pairs : List Pr) (l : List M) : List Pr := ((afterS pairs l).1.zip (afterS pairs l).2).map fun x => ⟨x.1, x.2⟩
def cellsP (l : List Pr) : List Value := l.flatMap Pr.cells
/-- a row of pairs of the call's own -/
def OwnP (w : World) (base : Nat) (v : Value) (l : List Pr) : Prop := w.ownsRow base 64 2 v l.length (cellsP l)
/-- what Apply answers -/
def ApplyPost (w w' : World) (e : Ending) (pairs : List Pr) (l : List M) : Prop :=
  (anyOther l = true → e = .returned (.tuple #[.slice none 0 0, .int .i64 7])) ∧
  (anyOther l = false → riseB pairs = false → e = .returned (.tuple #[.slice none 0 0, .int .i64 1])) ∧
  (anyOther l = false → riseB pairs = true → ∃ v, e = .returned (.tuple #[v, .int .i64 0]) ∧ OwnP w' w.heap.size v (applyL pairs l))

def cellsZ (l : List (ByteArray × ByteArray)) : List Value := l.flatMap fun x => [.string x.1, .string x.2]
theorem cellsZ_snoc (l : List (ByteArray × ByteArray)) (x : ByteArray × ByteArray) : cellsZ (l ++ [x]) = cellsZ l ++ [.string x.1, .string x.2] := by simp [cellsZ]
theorem cellsZ_P (l : List (ByteArray × ByteArray)) : cellsZ l = cellsP (l.map fun x => ⟨x.1, x.2⟩) := by
  induction l with
  | nil => rfl
  | cons x l ih =>
    unfold cellsZ cellsP at *
    rw [List.flatMap_cons, List.map_cons, List.flatMap_cons, ih]
    rfl
theorem info64 : (Try.prog.info? 64).map (fun i => (i.zero, i.size, i.bytes)) = some (some (.agg #[.string ⟨#[]⟩, .string ⟨#[]⟩]), 2, 32) := by kernel_rfl
theorem pair_new (W : World) (x1 x2 : ByteArray) : ∀ j u, [Value.string x1, Value.string x2][j]? = some u → (W.alloc (.cells #[.string x1, .string x2] 64)).cell? ((⟨W.heap.size, 0, none⟩ : Addr).add j) = some u := by
  intro j u hu
  rw [add_plain, Nat.zero_add, World.cell?_alloc_mark]
  simpa using hu
theorem pair_one (x1 x2 : ByteArray) : ∀ u ∈ [Value.string x1, Value.string x2], u.oneCell' = true := by
  intro u hu
  simp only [List.mem_cons, List.not_mem_nil, or_false] at hu
  rcases hu with rfl | rfl <;> rfl
theorem strKeep_append {W w5 : World} {tmp : Obj} {v : Value} {Bd B n : Nat} {xs : List Value} (hgrow : (W.alloc tmp).grownBy w5 v.ownBlock) (hrow : W.ownsRow B 64 2 v n xs) (hv : Boxed W Bd 47 v) (v' : Value) : StrKeep W (w5.setCell ⟨Bd, 0, none⟩ v') := by
  have hg2 := grownBy_setCell' w5 Bd v'
  have hs0 : W.heap.size ≤ (W.alloc tmp).heap.size := by rw [World.size_alloc]; exact Nat.le_succ _
  refine ⟨Nat.le_trans hs0 (Nat.le_trans hgrow.size hg2.size), fun b cs hb => ?_⟩
  have hlt := (Array.getElem?_eq_some_iff.1 hb).1
  have h1 : some b ≠ some Bd := fun e => by
    cases e
    rw [show W.heap[Bd]? = _ from hv] at hb
    cases hb
  have h2 : some b ≠ v.ownBlock := fun e => by
    rcases hrow.2 with ⟨rfl, _⟩ | ⟨g, cap, cur, rfl, _, hg, _⟩
    · simp [Value.ownBlock] at e
    · simp only [Value.ownBlock, Option.some.injEq] at e
      subst e
      rw [hb] at hg
      cases hg
  rw [hg2.block b (Nat.lt_of_lt_of_le (Nat.lt_of_lt_of_le hlt hs0) hgrow.size) h1, hgrow.block b (Nat.lt_of_lt_of_le hlt hs0) h2]
  exact heap_alloc_old W tmp hlt
theorem SMap.mono {w : World} {B B' k : Nat} {kv vv : Value} {ks vs : List ByteArray} (h : SMap w B k kv vv ks vs) (hB : B' ≤ B) : SMap w B' k kv vv ks vs :=
  ⟨h.box, Nat.le_trans hB h.above, ownS_mono h.keys hB, ownS_mono h.vals hB, h.rise, h.both, h.apart⟩
theorem putK_len (ks : List ByteArray) (x : ByteArray) : (putK ks x).length ≤ ks.length + 1 := by
  unfold putK
  split
  · omega
  · rw [insertAt_length ks _ x (pos_le ks x)]
    exact Nat.le_refl _
theorem delK_len (ks : List ByteArray) (x : ByteArray) : (delK ks x).length ≤ ks.length := by
  unfold delK
  split
  · exact List.length_eraseIdx_le ..
  · exact Nat.le_refl _
theorem doP_len (s : St) (p : Pr) : (doP s p).1.length ≤ s.1.length + 1 := putK_len _ _
theorem doM_len (s : St) (m : M) : (doM s m).1.length ≤ s.1.length + 1 := by
  unfold doM
  split
  · exact putK_len _ _
  · exact Nat.le_succ_of_le (delK_len _ _)
theorem foldP_len (l : List Pr) (s : St) : (l.foldl doP s).1.length ≤ s.1.length + l.length := by
  induction l generalizing s with
  | nil => exact Nat.le_refl _
  | cons p l ih => have := ih (doP s p); have := doP_len s p; simp only [List.foldl_cons, List.length_cons]; omega
theorem foldM_len (l : List M) (s : St) : (l.foldl doM s).1.length ≤ s.1.length + l.length := by
  induction l generalizing s with
  | nil => exact Nat.le_refl _
  | cons p l ih => have := ih (doM s p); have := doM_len s p; simp only [List.foldl_cons, List.length_cons]; omega
theorem fold_take {α β : Type} (f : β → α → β) (s : β) (l : List α) {j : Nat} (h : j < l.length) : (l.take (j + 1)).foldl f s = f ((l.take j).foldl f s) l[j] := by
  rw [List.take_succ_eq_append_getElem h, List.foldl_append]
  rfl
theorem not_other {l : List M} (h : anyOther l = false) {j : Nat} (hj : j < l.length) : l[j].kind = 1 ∨ l[j].kind = 2 := by
  have := List.any_eq_false.1 h l[j] (List.getElem_mem hj)
  simp [otherB] at this
  by_cases h1 : l[j].kind = 1
  · exact .inl h1
  · exact .inr (this h1)

set_option maxRecDepth 100000 in
set_option maxHeartbeats 1000000 in
theorem apply26 (pa a : Option Addr) (pc c : Nat) (pairs : List Pr) (l : List M) (w : World) (hpl : pairs.length ≤ 1000) (hl : l.length ≤ 1000) (hp : Prs w pa pairs) (hm : Msgs w a l) :
    Calls Try.prog 26 #[.slice pa pairs.length pc, .slice a l.length c] w fun e w' => ApplyPost w w' e pairs l ∧ Below w.heap.size w w' := by
  have HC := contains42 a c l w (by unfold maxLen; omega) hm
  have HR := hid (fun w' (h : Prs w' pa pairs) => rise43 pa pc pairs w' hpl h)
  refine (callsIn_wide (n := 9)).1 ?_
  refine callsIn_of_wp_marks Try.func26 rfl trivial ?_ rfl
  simp only [Try.ntmps26, List.size_toArray, List.length_cons, List.length_nil, Nat.reduceAdd, Nat.reduceSub, Array.replicate_succ, Array.replicate_zero, List.push_toArray, List.append_toArray, List.nil_append, List.cons_append]
  cases ho : anyOther l
  case true =>
    rw [ho] at HC
    gi_wp2_with (refine ⟨trivial, ?_⟩; gi_at_call 42; refine (callsIn_wide.2 HC).mono ?_; rintro e w1 ⟨rfl, hb1⟩)
    refine ⟨.tuple #[.slice none 0 0, .int .i64 7], by simp [results, Try.f26, go_sem], ⟨fun _ => rfl, fun h => ?_, fun h => ?_⟩, hb1⟩
    · rw [ho] at h; cases h
    · rw [ho] at h; cases h
  case false =>
  rw [ho] at HC
  cases hri : riseB pairs
  case false =>
    rw [hri] at HR
    gi_wp2_with (first | (refine ⟨trivial, ?_⟩; gi_at_call 42; refine (callsIn_wide.2 HC).mono ?_; rintro e w1 ⟨rfl, hb1⟩) | (refine ⟨trivial, ?_⟩; gi_at_call 43; refine (callsIn_wide.2 (HR.out w1 (hp.later hb1))).mono ?_; rintro e w2 ⟨rfl, hb2⟩))
    refine ⟨.tuple #[.slice none 0 0, .int .i64 1], by simp [results, Try.f26, go_sem], ⟨fun h => ?_, fun _ _ => rfl, fun _ h => ?_⟩, hb1.trans (hb2.mono hb1.size)⟩
    · rw [ho] at h; cases h
    · rw [hri] at h; cases h
  case true =>
  rw [hri] at HR
  gi_wp2_with (first | (refine ⟨trivial, ?_⟩; gi_at_call 42; refine (callsIn_wide.2 HC).mono ?_; rintro e w1 ⟨rfl, hb1⟩) | (refine ⟨trivial, ?_⟩; gi_at_call 43; refine (callsIn_wide.2 (HR.out w1 (hp.later hb1))).mono ?_; rintro e w2 ⟨rfl, hb2⟩) | (refine ⟨trivial, ?_⟩; gi_at_call 44; refine (callsIn_wide.2 (new44 w2)).mono ?_; rintro e w3 ⟨rfl, hm3, hb3⟩))
  have hb2' := hb1.trans (hb2.mono hb1.size)
  have hb3' := hb2'.trans (hb3.mono hb2'.size)
  have hm3' := hm3.mono hb2'.size
  have LP := hid (fun j => foldP_len (pairs.take j) ([], []))
  clear HC HR hb1 hb2 hb3 hm3 hb2'
  generalize w2.heap.size = k at *
  generalize hB : w.heap.size = B at *
  generalize hpn : pairs.length = pn at *
  have HPN := hid hpn
  clear hpn
  gi_loopw [24] (fun i wr => ∃ j : Nat, j ≤ pn ∧ i = .int .i64 j ∧ (∃ kv vv, SMap wr B k kv vv ((pairs.take j).foldl doP ([], [])).1 ((pairs.take j).foldl doP ([], [])).2) ∧ Below B w wr) (fun i _ => pn - (intOf i).toNat)
  case atStart => exact ⟨0, Nat.zero_le _, rfl, ⟨_, _, by simpa using hm3'⟩, hb3'⟩
  case round =>
    obtain ⟨j, hj, rfl, ⟨kv, vv, hS⟩, hb⟩ := hrel
    by_cases hlt : j < pn
    · have hlt' : j < pairs.length := by rw [HPN.out]; exact hlt
      obtain ⟨b, off, rfl, h2⟩ := (hp.later (by rw [hB]; exact hb)).at hlt'
      have FPj := hid (fold_take doP ([], []) pairs hlt')
      have hlen := LP.out j
      rw [List.length_take] at hlen
      obtain ⟨x, HX⟩ : ∃ m, Hid (pairs[j] = m) := ⟨_, hid rfl⟩
      rw [HX.out] at h2 FPj
      obtain ⟨xk, xv⟩ := x
      obtain ⟨c0, c1⟩ := h2
      dsimp only at c0 c1
      generalize (pairs.take j).foldl doP ([], []) = st at *
      have hS' := hS.later (below_box wr (.cells #[.string xk, .string xv] 64))
      have hbs := hb.size
      have HP := hid (put45 B k kv vv st.1 st.2 xk xv w _ hS' (by simp at hlen; omega) (hb.alloc (by rw [← hB]; exact hbs) _))
      gi_wp2_with (refine ⟨trivial, ?_⟩; gi_at_call 45; refine (callsIn_wide.2 HP.out).mono ?_; rintro e w5 ⟨⟨bb, rfl⟩, hS5, hb5⟩)
      go_roundw
      case rel => exact ⟨j + 1, by omega, by go_num, by rw [FPj.out]; exact hS5, hb5⟩
      case measure => simp [intOf]; omega
    · obtain rfl : j = pn := by omega
      have e1 : pairs.take j = pairs := by rw [← HPN.out, List.take_length]
      rw [e1] at hS
      have hlen := foldP_len pairs ([], [])
      have HAF := hid (show afterS pairs l = l.foldl doM (pairs.foldl doP ([], [])) from rfl)
      have LM := hid (fun j => foldM_len (l.take j) (pairs.foldl doP ([], [])))
      generalize pairs.foldl doP ([], []) = s0 at *
      gi_wp2
      clear e1 hm3' hb3' LP hlt hj
      have hs0 : s0.1.length ≤ 1000 := by simp at hlen; rw [HPN.out] at hlen; omega
      generalize hln : l.length = ln at *
      have HLN := hid hln
      clear hln
      gi_loopw [37] (fun i wr => ∃ j : Nat, j ≤ ln ∧ i = .int .i64 j ∧ (∃ kv vv, SMap wr B k kv vv ((l.take j).foldl doM s0).1 ((l.take j).foldl doM s0).2) ∧ Below B w wr) (fun i _ => ln - (intOf i).toNat)
      case atStart => exact ⟨0, Nat.zero_le _, rfl, ⟨_, _, by simpa using hS⟩, hb⟩
      case round =>
        clear hS hb
        obtain ⟨j, hj, rfl, ⟨kv, vv, hS⟩, hb⟩ := hrel
        by_cases hlt : j < ln
        · have hlt' : j < l.length := by rw [HLN.out]; exact hlt
          obtain ⟨b, off, rfl, h6⟩ := (hm.later (by rw [hB]; exact hb)).at hlt'
          have FMj := hid (fold_take doM s0 l hlt')
          have hno := not_other ho hlt'
          have hlen := LM.out j
          rw [List.length_take] at hlen
          obtain ⟨x, HX⟩ : ∃ m, Hid (l[j] = m) := ⟨_, hid rfl⟩
          rw [HX.out] at h6 FMj hno
          have hbx := MBox.new wr x
          obtain ⟨kd, ky, vl, bk, dp, ad⟩ := x
          obtain ⟨c0, c1, c2, c3, c4, c5⟩ := h6
          dsimp only at c0 c1 c2 c3 c4 c5 hno
          generalize (l.take j).foldl doM s0 = st at *
          have hS' := hS.later (below_box wr (.cells #[.int .u8 kd, .string ky, .string vl, .int .u32 bk, .int .u16 dp, .string ad] 26))
          have hbs := hb.size
          have hbe := hb.alloc (by rw [← hB]; exact hbs) (.cells #[.int .u8 kd, .string ky, .string vl, .int .u32 bk, .int .u16 dp, .string ad] 26)
          rcases hno with rfl | rfl
          · have HP := hid (put45 B k kv vv st.1 st.2 ky vl w _ hS' (by omega) hbe)
            gi_wp2_with (refine ⟨trivial, ?_⟩; gi_at_call 45; refine (callsIn_wide.2 HP.out).mono ?_; rintro e w5 ⟨⟨bb, rfl⟩, hS5, hb5⟩)
            go_roundw
            case rel => exact ⟨j + 1, by omega, by go_num, by rw [FMj.out]; exact hS5, hb5⟩
            case measure => simp [intOf]; omega
          · have HP := hid (del46 B k kv vv st.1 st.2 ky w _ hS' (by omega) hbe)
            gi_wp2_with (refine ⟨trivial, ?_⟩; gi_at_call 46; refine (callsIn_wide.2 HP.out).mono ?_; rintro e w5 ⟨⟨bb, rfl⟩, hS5, hb5⟩)
            go_roundw
            case rel => exact ⟨j + 1, by omega, by go_num, by rw [FMj.out]; exact hS5, hb5⟩
            case measure => simp [intOf]; omega
        · obtain rfl : j = ln := by omega
          have hlen := LM.out j
          rw [List.length_take] at hlen
          have e1 : l.take j = l := by rw [← HLN.out, List.take_length]
          rw [e1] at hS hlen
          have HAL := hid (show applyL pairs l = ((afterS pairs l).1.zip (afterS pairs l).2).map (fun x => ⟨x.1, x.2⟩) from rfl)
          rw [HAF.out] at HAL
          generalize l.foldl doM s0 = st at *
          clear e1 LM HAF
          gi_wp2_with (refine ⟨trivial, ?_⟩; gi_at_call 47; refine (callsIn_wide.2 (all47 k _)).mono ?_; rintro e w' ⟨rfl, rfl⟩)
          have bD := (Boxed.new wr 47 (.slice none 0 0)).alloc (.cells #[.pointer (some ⟨k, 0, none⟩)] 66)
          have bM := Boxed.new (wr.alloc (.cells #[.slice none 0 0] 47)) 66 (.pointer (some ⟨k, 0, none⟩))
          rw [World.size_alloc] at bM
          have hbb : Below wr.heap.size wr ((wr.alloc (.cells #[.slice none 0 0] 47)).alloc (.cells #[.pointer (some ⟨k, 0, none⟩)] 66)) := (below_box wr _).alloc (by simp) _
          have hS0 := hS.later hbb
          have hbs := hb.size
          have hb0 := hb.trans (hbb.mono (by omega))
          have hsz : ((wr.alloc (.cells #[.slice none 0 0] 47)).alloc (.cells #[.pointer (some ⟨k, 0, none⟩)] 66)).heap.size = wr.heap.size + 2 := by simp
          generalize ((wr.alloc (.cells #[.slice none 0 0] 47)).alloc (.cells #[.pointer (some ⟨k, 0, none⟩)] 66)) = W0 at *
          have hl2 : st.1.length ≤ 3000 := by omega
          refine wpIn_rangeFunc_ownF rfl (by omega) (gf := 57) (lb := #[.pointer (some ⟨wr.heap.size + 1, 0, none⟩)]) rfl trivial (enters_of Try.func57 (by kernel_rfl) rfl)
            (all_stops _ (by omega) (wr.heap.size + 1) k B kv vv st.1 st.2 W0 bM.cell hS0 (by omega)) (fun h k => h.trans k) (strK_b (w := W0)) (Below.refl _ _) (fun _ => rfl)
            (fun pre W => (∃ v, Boxed W wr.heap.size 47 v ∧ W.ownsRow B 64 2 v pre.length (cellsZ pre) ∧ True) ∧ Below B w W)
            (fun _ _ _ => False)
            (OwnFrom.and (Go.Own.from (holdsRow_own B wr.heap.size 47 64 2 (fun pre => pre.length) cellsZ (fun _ _ => True)) _) (ownFrom_below (by omega) (by omega)))
            (fun c => fun s A B row hs hg hr => hs.elim)
            ⟨⟨_, bD, World.ownsRow_nil _ _ _ _, trivial⟩, hb0⟩
            ?a1 ?assign ?body ?done ?stop
          case assign =>
            intro lp x W K hK
            gi_wp2
            exact hK
          case stop =>
            rintro D cc pre W hD _ h _
            exact h.elim
          case body =>
            rintro lp pre x W ⟨⟨v, hv, hrow, _⟩, hBl⟩ hplt
            obtain ⟨i0, hi, hz0, hz1, hz2⟩ := info_parts info64
            have hcv := hv.cell
            have hBs := hBl.size
            obtain ⟨x1, x2⟩ := x
            gi_wp2_with (gi_at_builtin; refine wpListIn_append_own _ rfl _ _ 47 rfl B 64 i0 _ 2 32 Try.underlying47 hi hz0 hz1 hz2 rfl (by decide) _ _ _ rfl (hrow.alloc _) ⟨W.heap.size, 0, none⟩ 1 1 [.string x1, .string x2] rfl rfl (pair_new W x1 x2) (pair_one x1 x2) (by unfold maxLen; omega) (by omega) (by simp; omega) ?_; intro v' w5 hown' hgrow _; obtain ⟨g', cap', rfl⟩ := ownsRow_succ hown'; obtain ⟨hv1, hv2, hr2, hk2, hb2⟩ := hv.appended (by decide) hrow (by omega) (by omega) hown' hgrow; have hc1 := hv1.cell; have hf1 := hv1.frozen)
            refine ⟨hk2, strKeep_append hgrow hrow hv _, ⟨⟨_, hv2, ?_⟩, hBl.trans hb2⟩⟩
            rw [cellsZ_snoc, List.length_append]
            exact hr2
          case done =>
            rintro D ys W hD rfl ⟨⟨v, hv, hrow, _⟩, hBl⟩ hK
            have hcv := hv.cell
            gi_wp2
            refine ⟨by simp, .inl ⟨_, _, rfl, run_takeDeferred hK, ?_⟩⟩
            refine ⟨.tuple #[v, .int .i64 0], by simp [results, Try.f26, go_sem], ⟨fun h => ?_, fun _ h => ?_, fun _ _ => ⟨v, rfl, ?_⟩⟩, ?_⟩
            · rw [ho] at h; cases h
            · rw [hri] at h; cases h
            · rw [hB, HAL.out]
              unfold OwnP
              rw [← cellsZ_P, List.length_map]
              refine World.ownsRow.kept hrow (grownBy_putObj' W D (.deferred none)) ?_
              rcases hrow.2 with ⟨rfl, _⟩ | ⟨g, cap, cur, rfl, _, hg, _⟩
              · exact .inl rfl
              · refine .inr fun e => ?_
                simp only [Value.ownBlock, Option.some.injEq] at e
                subst e
                rw [hK] at hg
                cases hg
            · rw [hB]
              exact hBl.trans (belowK_b (w := W0) (by omega) W D _ _ hD hK rfl rfl)
end Go.Proofs.Ytobbgndabmnbcaa.Key
