/-
  Contract of the document's add.
-/
import Derived.Test.YtfladpnphkoeiaaAddP
import Derived.Test.YtfladpnphkoeiaaAwake
namespace Go.Proofs.Ytfladpnphkoeiaa.Key
open Go.RowKit
set_option linter.unusedVariables false
set_option linter.unusedSimpArgs false

theorem appR {w0 w : World} {ops : Array Oper} {rest : List Oper} {o : Oper} {a : Act} {Q : Exit → Act → World → Prop} (hgd : o.guard = none) (s x : Operand)
    (ho : o.op = .call { callee := .builtin .append, args := #[s, x], argTypes := #[37, 37] })
    (B : Nat) (v : Value) (l : List Rf) (hs : a.eval s = v) (hown : OwnR w B v l) (zb zn : Int) (k : Nat) (hx : a.eval x = .slice (some ⟨k, 0, none⟩) 1 1) (hk : k = w.heap.size) (hsz : l.length ≤ 100000) (hB : B ≤ w.heap.size) (hbel : Below B w0 w)
    (h : ∀ v' w', OwnR w' B v' (l ++ [⟨zb, zn⟩]) → Below B w0 w' → (w.alloc (.cells #[.int .u32 zb, .int .u32 zn] 58)).grownBy w' v.ownBlock → wpList Try.prog ops Q rest (a.put o.dst v') w') : wpList Try.prog ops Q (o :: rest) a (w.alloc (.cells #[.int .u32 zb, .int .u32 zn] 58)) := by
  subst hk
  obtain ⟨i0, hi, hz0, hz1, hz2⟩ := info_parts info58
  have hown' := World.ownsRow.alloc hown (.cells #[.int .u32 zb, .int .u32 zn] 58)
  have hbel' := hbel.alloc hB (.cells #[.int .u32 zb, .int .u32 zn] 58)
  refine wpList_append_own _ hgd s x 37 ho B 58 i0 _ 2 8 Try.underlying37 hi hz0 hz1 hz2 rfl (by decide) v _ _ hs hown' ⟨w.heap.size, 0, none⟩ 1 1 [.int .u32 zb, .int .u32 zn] hx rfl (two_new w zb zn) (two_one zb zn) (by unfold maxLen; omega) (by omega) (by simp; omega) ?_
  intro v' w' h1 h2 _
  refine h v' w' ?_ (hbel'.grown h2 (by simp; omega) fun j hj => (World.ownsRow.lt hown' j hj).1) h2
  unfold OwnR
  rw [List.length_append, List.flatMap_append]
  exact h1
/-- a slice of refs -/
def RefsV (w : World) (v : Value) (l : List Rf) : Prop := ∃ a c, v = .slice a l.length c ∧ Refs w a l
theorem RefsV.later {w w' : World} {v : Value} {l : List Rf} (h : RefsV w v l) (hb : Below w.heap.size w w') : RefsV w' v l := by
  obtain ⟨a, c, e, hr⟩ := h
  exact ⟨a, c, e, hr.later hb⟩
theorem OwnR.made (w : World) : OwnR (w.alloc (.cells #[] 58)) w.heap.size (.slice (some ⟨w.heap.size, 0, none⟩) 0 0) [] :=
  World.ownsRow_made w #[] 0 (Nat.le_refl _) (Nat.zero_le _) (by simp)
theorem OwnR.slice {w : World} {B : Nat} {v : Value} {l : List Rf} (h : OwnR w B v l) : ∃ a n c, v = .slice a n c := row_slice h
theorem OwnR.alloc {w : World} {B : Nat} {v : Value} {l : List Rf} (h : OwnR w B v l) (o : Obj) : OwnR (w.alloc o) B v l := World.ownsRow.alloc h o
theorem fold_take2 {α β : Type} (f : β → α → β) (s : β) (l : List α) {j : Nat} (h : j < l.length) : (l.take (j + 1)).foldl f s = f ((l.take j).foldl f s) l[j] := by
  rw [List.take_succ_eq_append_getElem h, List.foldl_append]
  rfl
theorem step_len (b n : Int) (st : List Rf × Bool) (x : Rf) : (stepR b n st x).1.length ≤ st.1.length + 2 := by
  unfold stepR
  split <;> simp
theorem fold_len2 (b n : Int) : ∀ (l : List Rf) (st : List Rf × Bool), (l.foldl (stepR b n) st).1.length ≤ st.1.length + 2 * l.length
  | [], st => by simp
  | x :: l, st => by
    have h1 := fold_len2 b n l (stepR b n st x)
    have h2 := step_len b n st x
    simp only [List.foldl_cons, List.length_cons]
    omega
theorem wrapu {z : Int} (h : 0 ≤ z ∧ z ≤ 4294967295) : IntKind.u32.wrap z = z := by
  have : IntKind.u32.wrap z = z % 4294967296 := rfl
  rw [this]; omega
theorem step_eq {b n : Int} {out : List Rf} {d : Bool} {x : Rf} (h : x.blk = b) : stepR b n (out, d) x = (out ++ [⟨b, upC x.n n⟩], true) := by
  simp [stepR, upR, h]
theorem step_done {b n : Int} {out : List Rf} {x : Rf} (h : x.blk ≠ b) : stepR b n (out, true) x = (out ++ [x], true) := by
  simp [stepR, upR, h]
theorem step_low {b n : Int} {out : List Rf} {x : Rf} (h : x.blk ≠ b) (h2 : b < x.blk) : stepR b n (out, false) x = (out ++ [⟨b, n⟩] ++ [x], true) := by
  simp [stepR, upR, h, h2]
theorem step_high {b n : Int} {out : List Rf} {x : Rf} (h : x.blk ≠ b) (h2 : ¬ b < x.blk) : stepR b n (out, false) x = (out ++ [x], false) := by
  simp [stepR, upR, h, h2]
theorem box_set {w : World} {k : Nat} {u v : Value} (h : w.heap[k]? = some (.cells #[u, v] 58 (0, 0))) (y : Value) : (w.setCell ⟨k, 1, none⟩ y).heap[k]? = some (.cells #[u, y] 58 (0, 0)) := by
  rw [heap_setCell_same w k 1 _ 58 y h]
  rfl
theorem OwnR.set {w : World} {B k i : Nat} {u v : Value} {l : List Rf} (h : OwnR w B v l) (hk : v.ownBlock ≠ some k) : OwnR (w.setCell ⟨k, i, none⟩ u) B v l :=
  World.ownsRow.kept (row := some k) h ⟨rfl, rfl, rfl, by simp, fun j _ hj => heap_setCell_other w ⟨k, i, none⟩ j u (fun e => hj (by simp [e]))⟩ (.inr hk)
set_option maxRecDepth 100000 in
set_option maxHeartbeats 1000000 in
theorem add38 (v : Value) (l : List Rf) (b n : Int) (w : World) (hl : l.length ≤ 10000) (hv : RefsV w v l) (hx : ∀ x ∈ l, 0 ≤ x.n ∧ x.n ≤ 4294967295) (hn : 0 ≤ n ∧ n ≤ 4294967295) :
    Calls Try.prog 38 #[v, .int .u32 b, .int .u32 n] w fun e w' => (∃ v', e = .returned v' ∧ RefsV w' v' (addR l b n)) ∧ Below w.heap.size w w' := by
  have hA : addR l b n = if n = 0 then l else endR b n (l.foldl (stepR b n) ([], false)) := rfl
  obtain ⟨a, c, rfl, hr⟩ := hv
  by_cases h0 : n = 0
  · have HA := hid (hA.trans (if_pos h0))
    have h0' : (n == 0) = true := by simpa using h0
    clear hA h0
    have HR := hid hr
    generalize hm : l.length = m at *
    have HM := hid hm
    clear hm
    go_enter Try.func38, Try.ntmps38
    go_wp2_with fail
    go_ret
    exact ⟨⟨.slice a m c, rfl, a, c, by rw [HA.out, HM.out], by rw [HA.out]; exact HR.out⟩, Below.refl _ _⟩
  · have HA := hid (hA.trans (if_neg h0))
    have h0' : (n == 0) = false := by simpa using h0
    clear hA h0
    have HL := hid (fun j => fold_len2 b n (l.take j) ([], false))
    have HR := hid hr
    clear hr
    obtain ⟨m, HM⟩ : ∃ m, Hid (l.length = m) := ⟨_, hid rfl⟩
    rw [HM.out] at hl ⊢
    have O0 := OwnR.made w
    have hb0 := below_box w (.cells #[] 58)
    go_enter Try.func38, Try.ntmps38
    go_wp2_with fail
    generalize w.alloc (.cells #[] 58) = w0 at *
    generalize hk0 : w.heap.size = k0 at *
    go_loopw [7, 8, 17] (fun o d i wr => ∃ j : Nat, j ≤ m ∧ i = .int .i64 j ∧ OwnR wr k0 o ((l.take j).foldl (stepR b n) ([], false)).1 ∧ d = .bool ((l.take j).foldl (stepR b n) ([], false)).2 ∧ Below k0 w wr) (fun _ _ i _ => m - (intOf i).toNat)
    case atStart => exact ⟨0, Nat.zero_le _, rfl, O0, rfl, hb0⟩
    case round =>
      obtain ⟨j, hj, rfl, hO, rfl, hb⟩ := hrel
      have hbs : k0 ≤ wr.heap.size := by rw [← hk0]; exact hb.size
      by_cases hlt : j < m
      · have hlt' : j < l.length := by rw [HM.out]; exact hlt
        have hst := fold_take2 (stepR b n) ([], false) l hlt'
        have hle := HL.out j
        rw [List.length_take] at hle
        have hxx := hx _ (List.getElem_mem hlt')
        obtain ⟨bb, off, rfl, h2⟩ := (HR.out.later (by rw [hk0]; exact hb)).one hlt'
        obtain ⟨x, HX⟩ : ∃ m, Hid (l[j] = m) := ⟨_, hid rfl⟩
        rw [HX.out] at h2 hst hxx
        generalize (l.take j).foldl (stepR b n) ([], false) = st at *
        obtain ⟨out, d⟩ := st
        obtain ⟨xb, xn⟩ := x
        obtain ⟨d0, d1⟩ := h2
        dsimp only at *
        simp only [List.length_nil, Nat.zero_add] at hle
        have hle2 : out.length ≤ 20000 := by omega
        clear hle HL
        obtain ⟨oa, on, oc, rfl⟩ := hO.slice
        have hbx := below_box wr (.cells #[.int .u32 xb, .int .u32 xn] 58)
        have hO5 := hO.alloc (.cells #[.int .u32 xb, .int .u32 xn] 58)
        have hb5 := hb.alloc hbs (.cells #[.int .u32 xb, .int .u32 xn] 58)
        have X5 := Go.heap_alloc_new wr (.cells #[.int .u32 xb, .int .u32 xn] 58)
        have hnk : (Value.slice oa on oc).ownBlock ≠ some wr.heap.size := fun e => by have := (World.ownsRow.lt hO _ e).2; omega
        have hs5 : (wr.alloc (.cells #[.int .u32 xb, .int .u32 xn] 58)).heap.size = wr.heap.size + 1 := by simp
        by_cases he : xb = b
        · have he' : (xb == b) = true := by simpa using he
          have hst2 := hst.trans (step_eq (b := b) (n := n) (out := out) (d := d) he)
          dsimp only at hst2
          have hU : upC xn n = if n ≤ 4294967295 - xn then xn + n else 4294967295 := rfl
          have hw1 : IntKind.u32.wrap (4294967295 - n) = 4294967295 - n := wrapu (by omega)
          subst he
          generalize upC xn n = U at *
          replace hst2 := hid hst2
          by_cases hov : n ≤ 4294967295 - xn
          · have HU : Hid (U = xn + n) := hid (hU.trans (if_pos hov))
            have hov' : decide (4294967295 - n < xn) = false := by simp; omega
            have hw2 : IntKind.u32.wrap (xn + n) = xn + n := wrapu (by omega)
            have e0 := cell_of_row _ _ 0 _ _ _ X5
            have e1 := cell_of_row _ _ 1 _ _ _ X5
            have f1 := frozen_of_row _ _ 1 _ _ X5
            dsimp at e0 e1
            have X6 := Go.heap_alloc_new wr (.cells #[.int .u32 xb, .int .u32 (xn + n)] 58)
            have hO6 := hO.alloc (.cells #[.int .u32 xb, .int .u32 (xn + n)] 58)
            have hb6 := hb.alloc hbs (.cells #[.int .u32 xb, .int .u32 (xn + n)] 58)
            have hs6 : (wr.alloc (.cells #[.int .u32 xb, .int .u32 (xn + n)] 58)).heap.size = wr.heap.size + 1 := by simp
            clear hU hov hst X5 hO5 hb5
            go_upto_region 13 with fail
            generalize wr.alloc (.cells #[.int .u32 xb, .int .u32 (xn + n)] 58) = w6 at *
            clear e0 e1 f1
            have g0 := cell_of_row _ _ 0 _ _ _ X6
            have g1 := cell_of_row _ _ 1 _ _ _ X6
            dsimp at g0 g1
            have hsx : k0 ≤ w6.heap.size := by omega
            clear hs5 hs6
            go_wp2_with (first | (at_builtin; refine appR (w0 := w) rfl _ _ rfl k0 _ out rfl hO6 xb (xn + n) w6.heap.size rfl rfl (by omega) hsx hb6 ?_; intro v' w7 h1 h2 _) | fail)
            go_roundw
            case rel => exact ⟨j + 1, by omega, by go_num, by rw [hst2.out, HU.out]; exact h1, by rw [hst2.out], h2⟩
            case measure => simp [intOf]; omega
          · have HU : Hid (U = 4294967295) := hid (hU.trans (if_neg hov))
            have hov' : decide (4294967295 - n < xn) = true := by simp; omega
            have e0 := cell_of_row _ _ 0 _ _ _ X5
            have e1 := cell_of_row _ _ 1 _ _ _ X5
            have f1 := frozen_of_row _ _ 1 _ _ X5
            dsimp at e0 e1
            have X6 := Go.heap_alloc_new wr (.cells #[.int .u32 xb, .int .u32 4294967295] 58)
            have hO6 := hO.alloc (.cells #[.int .u32 xb, .int .u32 4294967295] 58)
            have hb6 := hb.alloc hbs (.cells #[.int .u32 xb, .int .u32 4294967295] 58)
            have hs6 : (wr.alloc (.cells #[.int .u32 xb, .int .u32 4294967295] 58)).heap.size = wr.heap.size + 1 := by simp
            clear hU hov hst X5 hO5 hb5
            go_upto_region 13 with fail
            generalize wr.alloc (.cells #[.int .u32 xb, .int .u32 4294967295] 58) = w6 at *
            clear e0 e1 f1
            have g0 := cell_of_row _ _ 0 _ _ _ X6
            have g1 := cell_of_row _ _ 1 _ _ _ X6
            dsimp at g0 g1
            have hsx : k0 ≤ w6.heap.size := by omega
            clear hs5 hs6
            go_wp2_with (first | (at_builtin; refine appR (w0 := w) rfl _ _ rfl k0 _ out rfl hO6 xb 4294967295 w6.heap.size rfl rfl (by omega) hsx hb6 ?_; intro v' w7 h1 h2 _) | fail)
            go_roundw
            case rel => exact ⟨j + 1, by omega, by go_num, by rw [hst2.out, HU.out]; exact h1, by rw [hst2.out], h2⟩
            case measure => simp [intOf]; omega
        · have he' : (xb == b) = false := by simpa using he
          have e0 := cell_of_row _ _ 0 _ _ _ X5
          have e1 := cell_of_row _ _ 1 _ _ _ X5
          dsimp at e0 e1
          have hsx : k0 ≤ (wr.alloc (.cells #[.int .u32 xb, .int .u32 xn] 58)).heap.size := by omega
          have hwl : wr.heap.size < (wr.alloc (.cells #[.int .u32 xb, .int .u32 xn] 58)).heap.size := by omega
          clear hs5
          cases d
          · by_cases hlow : b < xb
            · have hlow' : decide (b < xb) = true := by simpa using hlow
              have hst2 := hid (hst.trans (step_low (b := b) (n := n) (out := out) (x := ⟨xb, xn⟩) he hlow))
              clear he hlow hst
              go_upto_region 15 with fail
              generalize wr.alloc (.cells #[.int .u32 xb, .int .u32 xn] 58) = w6 at *
              go_wp2_with (first | (at_builtin; refine appR (w0 := w) rfl _ _ rfl k0 _ out rfl hO5 b n w6.heap.size rfl rfl (by omega) hsx hb5 ?_; intro v' w7 h1 h2 hg7; have X7 := (hg7.block wr.heap.size (by simp; omega) (fun e => hnk e.symm)).trans ((heap_alloc_old w6 _ (by omega)).trans X5); have g0 := cell_of_row _ _ 0 _ _ _ X7; have g1 := cell_of_row _ _ 1 _ _ _ X7; dsimp at g0 g1; obtain ⟨pa, pn, pc, rfl⟩ := h1.slice; have hsy : k0 ≤ w7.heap.size := (by have := hg7.size; simp at this; omega)) | (at_builtin; refine appR (w0 := w) rfl _ _ rfl k0 _ (out ++ [⟨b, n⟩]) rfl h1 xb xn w7.heap.size rfl rfl (by simp; omega) hsy h2 ?_; intro v'' w8 h3 h4 _) | fail)
              go_roundw
              case rel => exact ⟨j + 1, by omega, by go_num, by rw [hst2.out]; exact h3, by rw [hst2.out], h4⟩
              case measure => simp [intOf]; omega
            · have hlow' : decide (b < xb) = false := by simpa using hlow
              have hst2 := hid (hst.trans (step_high (b := b) (n := n) (out := out) (x := ⟨xb, xn⟩) he hlow))
              clear he hlow hst
              go_upto_region 17 with fail
              generalize wr.alloc (.cells #[.int .u32 xb, .int .u32 xn] 58) = w6 at *
              go_wp2_with (first | (at_builtin; refine appR (w0 := w) rfl _ _ rfl k0 _ out rfl hO5 xb xn w6.heap.size rfl rfl (by omega) hsx hb5 ?_; intro v' w7 h1 h2 _) | fail)
              go_roundw
              case rel => exact ⟨j + 1, by omega, by go_num, by rw [hst2.out]; exact h1, by rw [hst2.out], h2⟩
              case measure => simp [intOf]; omega
          · have hst2 := hid (hst.trans (step_done (b := b) (n := n) (out := out) (x := ⟨xb, xn⟩) he))
            clear he hst
            go_upto_region 17 with fail
            generalize wr.alloc (.cells #[.int .u32 xb, .int .u32 xn] 58) = w6 at *
            go_wp2_with (first | (at_builtin; refine appR (w0 := w) rfl _ _ rfl k0 _ out rfl hO5 xb xn w6.heap.size rfl rfl (by omega) hsx hb5 ?_; intro v' w7 h1 h2 _) | fail)
            go_roundw
            case rel => exact ⟨j + 1, by omega, by go_num, by rw [hst2.out]; exact h1, by rw [hst2.out], h2⟩
            case measure => simp [intOf]; omega
      · obtain rfl : j = m := by omega
        rw [show l.take j = l by rw [← HM.out, List.take_length]] at hO ⊢
        have hle := HL.out j
        rw [show l.take j = l by rw [← HM.out, List.take_length]] at hle
        rw [HM.out] at hle
        generalize l.foldl (stepR b n) ([], false) = st at *
        obtain ⟨out, d⟩ := st
        dsimp only at *
        simp only [List.length_nil, Nat.zero_add] at hle
        obtain ⟨oa, on, oc, rfl⟩ := hO.slice
        cases d
        · have HA2 : Hid (addR l b n = out ++ [⟨b, n⟩]) := HA
          go_upto_region 20 with fail
          go_wp2_with (first | (at_builtin; refine appR (w0 := w) rfl _ _ rfl k0 _ out rfl hO b n wr.heap.size rfl rfl (by omega) hbs hb ?_; intro v' w7 h1 h2 _) | fail)
          go_ret
          obtain ⟨a', c', e', h3, _⟩ := h1.refs
          exact ⟨⟨v', rfl, a', c', by rw [HA2.out]; exact e', by rw [HA2.out]; exact h3⟩, by first | exact h2 | (rw [hk0]; exact h2)⟩
        · have HA2 : Hid (addR l b n = out) := HA
          go_wp2_with fail
          go_ret
          obtain ⟨a', c', e', h3, _⟩ := hO.refs
          exact ⟨⟨_, rfl, a', c', by rw [HA2.out]; exact e', by rw [HA2.out]; exact h3⟩, by first | exact hb | (rw [hk0]; exact hb)⟩
end Go.Proofs.Ytfladpnphkoeiaa.Key
