/-
  Contracts of the document's Find, and of its leads.
  Maps of the call's own from blocks to values of whatever type, told by a plain function.
-/
import Derived.Test.YtegmpfmhlpdmhaaGreatFind
import Derived.Test.YtegmpfmhlpdmhaaGreatGMap
namespace Go.Proofs.YtegmpfmhlpdmhaaGreat.Key
open Go.RowKit
set_option linter.unusedVariables false
set_option linter.unusedSimpArgs false

set_option maxRecDepth 100000 in
set_option maxHeartbeats 800000 in
theorem find10 (a : Option Addr) (c : Nat) (l : List It) (b : Int) (w : World) (hln : l.length ≤ 1000) (h : Items w a l) :
    Calls Tryz.prog 14 #[.slice a l.length c, .int .u32 b] w fun x w' => (∃ (n : Nd) (p : Pl), x = .returned (.tuple #[nv n p, .bool (findI l b).isSome]) ∧ n = foundN l b ∧ Lies w' n p) ∧ Below w.heap.size w w' := by
  generalize hn : l.length = n at *
  have HN := hid hn
  clear hn
  have N0 := NBox.new w (.bool false) (.slice none 0 0) (.slice none 0 0) (.slice none 0 0) (.slice none 0 0)
  have hb0 := below_box w (.cells #[.bool false, .slice none 0 0, .slice none 0 0, .slice none 0 0, .slice none 0 0] 46)
  have HI := hid h
  clear h
  go_enter Tryz.func14, Tryz.ntmps14
  go_wp2_with fail
  generalize (w.alloc (.cells #[.bool false, .slice none 0 0, .slice none 0 0, .slice none 0 0, .slice none 0 0] 46)) = w0 at *
  generalize hk0 : w.heap.size = k0 at *
  go_loop [9] (fun i => ∃ j : Nat, j ≤ n ∧ i = .int .i64 j ∧ Hid (findI (l.take j) b = none)) (fun i => n - (intOf i).toNat)
  case atStart => exact ⟨0, Nat.zero_le _, rfl, rfl⟩
  case round =>
    obtain ⟨j, hj, rfl, hjn⟩ := hrel
    by_cases hlt : j < n
    · have hlt' : j < l.length := by rw [HN.out]; exact hlt
      obtain ⟨bb, off, rfl, h6, h7⟩ := (HI.out.later (by rw [hk0]; exact hb0)).at hlt'
      have HIT := hid (fun e => find_hit hlt' hjn.out e)
      have NXT := hid (fun e => find_next hlt' hjn.out e)
      have HL5 := hid (fun u (hu : Below k0 w u) => (show Lies u l[j].nd l[j].pl by
        obtain ⟨b', off', e, h8, h9⟩ := (HI.out.later (by rw [hk0]; exact hu)).at hlt'
        exact h9))
      obtain ⟨x, HX⟩ : ∃ m, Hid (l[j] = m) := ⟨_, hid rfl⟩
      rw [HX.out] at h6 h7 HIT NXT HL5
      have HFN : Hid (x.blk = b → foundN l b = x.nd ∧ (findI l b).isSome = true) := hid (fun e => by unfold foundN; rw [HIT.out e]; exact ⟨rfl, rfl⟩)
      obtain ⟨bk, ⟨lf, ps, pv, ks, bf⟩, ⟨a1, c1, a2, c2, a3, c3, a4, c4⟩⟩ := x
      obtain ⟨d0, d1, d2, d3, d4, d5⟩ := h6
      dsimp only [nv] at *
      clear h7 HIT
      by_cases hbk : bk = b
      · have hbk' : (bk == b) = true := by simpa using hbk
        obtain ⟨HF1, HF2⟩ := HFN.out hbk
        replace HF1 := hid HF1
        replace HF2 := hid HF2
        clear hbk HFN NXT
        have M2 := N0.put (.bool lf) (.slice a1 ps.length c1) (.slice a2 pv.length c2) (.slice a3 ks.length c3) (.slice a4 bf.length c4)
        have hb7 := below_five' hb0 (Nat.le_refl k0) (.bool lf) (.slice a1 ps.length c1) (.slice a2 pv.length c2) (.slice a3 ks.length c3) (.slice a4 bf.length c4)
        have HL6 := hid (HL5.out _ hb7)
        obtain ⟨z0, z1, z2, z3, z4⟩ := N0.cells
        have f0 := N0.free 0
        have f1 := N0.free 1
        have f2 := N0.free 2
        have f3 := N0.free 3
        have f4 := N0.free 4
        have HQ : Hid (nv ⟨lf, ps, pv, ks, bf⟩ ⟨a1, c1, a2, c2, a3, c3, a4, c4⟩ = .agg #[.bool lf, .slice a1 ps.length c1, .slice a2 pv.length c2, .slice a3 ks.length c3, .slice a4 bf.length c4]) := hid rfl
        generalize ps.length = n1 at *
        generalize pv.length = n2 at *
        generalize ks.length = n3 at *
        generalize bf.length = n4 at *
        clear N0
        go_wp2_with fail
        obtain ⟨v0, v1, v2, v3, v4⟩ := M2.cells
        refine bodyPost_ret (v := .tuple #[.agg #[.bool lf, .slice a1 n1 c1, .slice a2 n2 c2, .slice a3 n3 c3, .slice a4 n4 c4], .bool true]) (by simp [results, Tryz.results14, go_sem, v0, v1, v2, v3, v4]) rfl ⟨⟨⟨lf, ps, pv, ks, bf⟩, ⟨a1, c1, a2, c2, a3, c3, a4, c4⟩, ?_, HF1.out.symm, HL6.out⟩, ?_⟩
        · rw [HF2.out, HQ.out]
        · first | exact hb7 | (rw [hk0]; exact hb7)
      · have hbk' : (bk == b) = false := by simpa using hbk
        have NX := hid (NXT.out hbk)
        clear hbk HFN
        go_wp2_with fail
        go_round
        case rel => exact ⟨j + 1, by omega, by go_num, NX⟩
        case measure => simp [intOf]; omega
    · obtain rfl : j = n := by omega
      have HF : Hid (findI l b = none) := hid (by have := hjn.out; rw [← HN.out, List.take_length] at this; exact this)
      have M2 := N0.put (.bool false) (.slice none 0 0) (.slice none 0 0) (.slice none 0 0) (.slice none 0 0)
      have hb7 := below_five' hb0 (Nat.le_refl k0) (.bool false) (.slice none 0 0) (.slice none 0 0) (.slice none 0 0) (.slice none 0 0)
      obtain ⟨z0, z1, z2, z3, z4⟩ := N0.cells
      have f0 := N0.free 0
      have f1 := N0.free 1
      have f2 := N0.free 2
      have f3 := N0.free 3
      have f4 := N0.free 4
      clear N0 hjn
      go_wp2_with fail
      obtain ⟨v0, v1, v2, v3, v4⟩ := M2.cells
      refine bodyPost_ret (v := .tuple #[.agg #[.bool false, .slice none 0 0, .slice none 0 0, .slice none 0 0, .slice none 0 0], .bool false]) (by simp [results, Tryz.results14, go_sem, v0, v1, v2, v3, v4]) rfl ⟨⟨zeroN, ⟨none, 0, none, 0, none, 0, none, 0⟩, ?_, ?_, ?_⟩, ?_⟩
      · rw [HF.out]; rfl
      · unfold foundN; rw [HF.out]; rfl
      · exact ⟨.inl rfl, .inl rfl, .inl rfl, .inl rfl⟩
      · first | exact hb7 | (rw [hk0]; exact hb7)

theorem found_small {l : List It} (h : ∀ x ∈ l, Small x.nd) (b : Int) : Small (foundN l b) := by
  unfold foundN
  cases hf : findI l b with
  | none => exact ⟨⟨by simp [zeroN], by simp [zeroN], by simp [zeroN], by simp [zeroN]⟩, by simp [zeroN], by simp [zeroN], by simp [zeroN], by simp [zeroN], by simp [zeroN]⟩
  | some x => exact h x (List.mem_of_find?_eq_some hf)
theorem fits_found (l : List It) (b d : Int) : fitsB l b d = ((findI l b).isSome && (decide (d < 65535) && decide (deepI (foundN l b) = d))) := by
  unfold fitsB foundN
  cases findI l b with
  | none => rfl
  | some x => simp [Bool.and_comm]
set_option maxRecDepth 100000 in
set_option maxHeartbeats 600000 in
theorem leads29 (a : Option Addr) (c : Nat) (l : List It) (b d : Int) (w : World) (hl : Fine l) (h : Items w a l) :
    Calls Tryz.prog 27 #[.slice a l.length c, .int .u32 b, .int .u16 d] w fun x w' => x = .returned (.bool (fitsB l b d)) ∧ Below w.heap.size w w' := by
  have HFD := find10 a c l b w hl.len h
  have HG := hid (fits_found l b d)
  have hsm := found_small hl.sml b
  generalize fitsB l b d = G at *
  generalize l.length = n at *
  obtain ⟨t, HT⟩ : ∃ t, Hid ((findI l b).isSome = t) := ⟨_, hid rfl⟩
  rw [HT.out] at HFD HG
  cases t
  case false =>
    go_enter Tryz.func27, Tryz.ntmps27
    go_wp2_with fail
    refine HFD.mono ?_
    rintro e w1 ⟨⟨N, P, rfl, hN, hL⟩, hb1⟩
    clear hN hL
    have hb2 := hb1.alloc hb1.size (.cells #[.bool N.leaf, .slice P.a1 N.ps.length P.c1, .slice P.a2 N.pv.length P.c2, .slice P.a3 N.ks.length P.c3, .slice P.a4 N.bf.length P.c4] 46)
    go_wp2_with fail
    go_ret
    exact ⟨ret_bool HG.out.symm, hb2⟩
  case true =>
  by_cases hd : d < 65535
  case neg =>
    have hd' : decide (d < 65535) = false := by simpa using hd
    have HG2 : Hid (G = false) := hid (by rw [HG.out, hd']; rfl)
    clear hd
    go_enter Tryz.func27, Tryz.ntmps27
    go_wp2_with fail
    refine HFD.mono ?_
    rintro e w1 ⟨⟨N, P, rfl, hN, hL⟩, hb1⟩
    clear hN hL
    have hb2 := hb1.alloc hb1.size (.cells #[.bool N.leaf, .slice P.a1 N.ps.length P.c1, .slice P.a2 N.pv.length P.c2, .slice P.a3 N.ks.length P.c3, .slice P.a4 N.bf.length P.c4] 46)
    go_wp2_with fail
    go_ret
    exact ⟨ret_bool HG2.out.symm, hb2⟩
  case pos =>
  have hd' : decide (d < 65535) = true := by simpa using hd
  have HG2 : Hid (G = decide (deepI (foundN l b) = d)) := hid (by rw [HG.out, hd']; rfl)
  clear hd HG
  go_enter Tryz.func27, Tryz.ntmps27
  go_wp2_with fail
  refine HFD.mono ?_
  rintro e w1 ⟨⟨N, P, rfl, hN, hL⟩, hb1⟩
  rw [← hN] at hsm HG2
  have hbx := below_box w1 (.cells #[.bool N.leaf, .slice P.a1 N.ps.length P.c1, .slice P.a2 N.pv.length P.c2, .slice P.a3 N.ks.length P.c3, .slice P.a4 N.bf.length P.c4] 46)
  have HD := deep15 N P _ hsm (hL.later hbx)
  have hb2 := hb1.trans (hbx.mono hb1.size)
  obtain ⟨m0, m1, m2, m3, m4⟩ := (NBox.new w1 (.bool N.leaf) (.slice P.a1 N.ps.length P.c1) (.slice P.a2 N.pv.length P.c2) (.slice P.a3 N.ks.length P.c3) (.slice P.a4 N.bf.length P.c4)).cells
  obtain ⟨DN, HDN⟩ : ∃ m, Hid (deepI N = m) := ⟨_, hid rfl⟩
  rw [HDN.out] at HD HG2
  clear HFD hbx hL hN
  go_wp2_with fail
  refine HD.mono ?_
  rintro e w2 ⟨rfl, hb3⟩
  have hb4 := hb2.trans (hb3.mono hb2.size)
  go_wp2_with fail
  go_ret
  refine ⟨ret_bool ?_, hb4⟩
  rw [HG2.out]
  exact Bool.eq_iff_iff.2 (by simp)
end Go.Proofs.YtegmpfmhlpdmhaaGreat.Key

namespace Go.Proofs.YtegmpfmhlpdmhaaGreat.Key
open Go.RowKit Go.Maps
set_option linter.unusedVariables false
set_option linter.unusedSimpArgs false

/-- an element reads as itself -/
def heldE (v : Value) : Option (DataW Value × List MemPlace) := some (.held v, [])
/-- a map: what it has at a block -/
def VMap (w : World) (b n : Nat) (f : Int → Option Value) : Prop :=
  ∃ D : DataW Value, w.ownsMap Tryz.prog 23 heldE b n D ∧ ∀ z, Maps.has D (.int .u32 z) = (f z).isSome ∧ ∀ y, D.atKey (.int .u32 z) (.held y) = .held ((f z).getD y)
theorem VMap.made (w : World) : VMap (w.alloc (.map #[] 0)) w.heap.size 0 (fun _ => none) :=
  ⟨.map [], World.ownsMap_made _ _ _ _, fun z => ⟨rfl, fun _ => rfl⟩⟩
theorem VMap.kept {w w' : World} {b n : Nat} {f : Int → Option Value} {row : Option Nat} (h : VMap w b n f) (hg : w.grownBy w' row) (hne : some b ≠ row) : VMap w' b n f := by
  obtain ⟨D, h1, h2⟩ := h
  exact ⟨D, h1.kept hg hne, h2⟩
theorem VMap.later {w w' : World} {b n : Nat} {f : Int → Option Value} (h : VMap w b n f) (hb : Below w.heap.size w w') : VMap w' b n f :=
  h.kept (row := none) ⟨hb.os, hb.tape, hb.output, hb.size, fun k hk _ => hb.block k hk⟩ (by simp)
theorem VMap.lt {w : World} {b n : Nat} {f : Int → Option Value} (h : VMap w b n f) : b < w.heap.size := by
  obtain ⟨D, h1, _⟩ := h
  exact h1.lt
/-- what a map has behind a store -/
def putV (f : Int → Option Value) (z : Int) (v : Value) : Int → Option Value := fun y => if z = y then some v else f y
/-- a store's run -/
theorem VMap.store {w : World} {e t : TypeId} {b n : Nat} {f : Int → Option Value} (h : VMap w b n f) (ht : Tryz.prog.underlying t = some (.map 23 e)) (hn : n < maxLen) (z : Int) (v : Value) (hz : (Lit.int .u32 z).wf = true) :
    ∃ w', (Instr.mapUpdate t (.map (some b)) (.int .u32 z) v).run Tryz.prog w = .ok () w' ∧ VMap w' b (n + 1) (putV f z v) ∧ w.grownBy w' (some b) := by
  obtain ⟨D, h1, h2⟩ := h
  obtain ⟨w', r1, r2, r3⟩ := h1.update law23 ht hn (keyOf_int_mk Tryz.underlying23 hz) (show heldE v = some (.held v, []) from rfl)
  refine ⟨w', r1, ⟨_, r2, fun y => ?_⟩, r3⟩
  unfold putV
  by_cases e : z = y
  · subst e
    rw [if_pos rfl]
    exact ⟨has_put_same (k := Lit.int .u32 z) h1.isMap trivial _, fun _ => atKey_put_same (k := Lit.int .u32 z) h1.isMap trivial _ _⟩
  · rw [if_neg e]
    have hne : Lit.int .u32 y ≠ Lit.int .u32 z := by intro h; cases h; exact e rfl
    rw [has_put_other hne]
    refine ⟨(h2 y).1, fun x => ?_⟩
    rw [atKey_put_other hne]
    exact (h2 y).2 x
/-- a look-up's run -/
theorem VMap.lookup {w : World} {e t : TypeId} {b n : Nat} {f : Int → Option Value} (h : VMap w b n f) (ht : Tryz.prog.underlying t = some (.map 23 e)) {y : Value} (hy : (zeroValue e).run Tryz.prog w = .ok y w) (z : Int) (hz : (Lit.int .u32 z).wf = true) :
    (Instr.lookup t (.map (some b)) (.int .u32 z) false).run Tryz.prog w = .ok ((f z).getD y) w := by
  obtain ⟨D, h1, h2⟩ := h
  obtain ⟨v, ps, r1, r2⟩ := h1.lookup law23 ht hy (show heldE y = some (.held y, []) from rfl) (keyOf_int_mk Tryz.underlying23 hz)
  rw [(h2 z).2 y] at r2
  unfold heldE at r2
  simp only [Option.some.injEq, Prod.mk.injEq, DataW.held.injEq] at r2
  rw [r1, r2.1]
/-- .. with whether it is there -/
theorem VMap.lookup_ok {w : World} {e t : TypeId} {b n : Nat} {f : Int → Option Value} (h : VMap w b n f) (ht : Tryz.prog.underlying t = some (.map 23 e)) {y : Value} (hy : (zeroValue e).run Tryz.prog w = .ok y w) (z : Int) (hz : (Lit.int .u32 z).wf = true) :
    (Instr.lookup t (.map (some b)) (.int .u32 z) true).run Tryz.prog w = .ok (.tuple #[(f z).getD y, .bool (f z).isSome]) w := by
  obtain ⟨D, h1, h2⟩ := h
  obtain ⟨v, ps, r1, r2⟩ := h1.look_ok law23 ht hy (show heldE y = some (.held y, []) from rfl) (keyOf_int_mk Tryz.underlying23 hz)
  rw [(h2 z).2 y] at r2
  unfold heldE at r2
  simp only [Option.some.injEq, Prod.mk.injEq, DataW.held.injEq] at r2
  rw [r1, r2.1, (h2 z).1]
set_option maxRecDepth 100000 in
/-- the look-up, as an operation -/
theorem lookV {w : World} {ops : Array Oper} {rest : List Oper} {o : Oper} {a : Act} {Q : Exit → Act → World → Prop} (hg : o.guard = none) (m x : Operand) (t : TypeId) (hop : o.op = Op.lookup t m x false) (e : TypeId)
    (ht : Tryz.prog.underlying t = some (.map 23 e)) {y : Value} (hy : (zeroValue e).run Tryz.prog w = .ok y w) (b n : Nat) (f : Int → Option Value) (hm : a.eval m = .map (some b)) (h : VMap w b n f) (z : Int) (hx : a.eval x = .int .u32 z) (hw : (Lit.int .u32 z).wf = true)
    (hK : wpList Tryz.prog ops Q rest (a.put o.dst ((f z).getD y)) w) : wpList Tryz.prog ops Q (o :: rest) a w := by
  refine wpList_plain hg fun K' hK' => ?_
  have hrun := h.lookup ht hy z hw
  unfold Oper.wp
  simp [execOp, hop, hm, hx, hrun, Result.andThen]
  exact hK' _ _ hK
set_option maxRecDepth 100000 in
theorem lookVok {w : World} {ops : Array Oper} {rest : List Oper} {o : Oper} {a : Act} {Q : Exit → Act → World → Prop} (hg : o.guard = none) (m x : Operand) (t : TypeId) (hop : o.op = Op.lookup t m x true) (e : TypeId)
    (ht : Tryz.prog.underlying t = some (.map 23 e)) {y : Value} (hy : (zeroValue e).run Tryz.prog w = .ok y w) (b n : Nat) (f : Int → Option Value) (hm : a.eval m = .map (some b)) (h : VMap w b n f) (z : Int) (hx : a.eval x = .int .u32 z) (hw : (Lit.int .u32 z).wf = true)
    (hK : wpList Tryz.prog ops Q rest (a.put o.dst (.tuple #[(f z).getD y, .bool (f z).isSome])) w) : wpList Tryz.prog ops Q (o :: rest) a w := by
  refine wpList_plain hg fun K' hK' => ?_
  have hrun := h.lookup_ok ht hy z hw
  unfold Oper.wp
  simp [execOp, hop, hm, hx, hrun, Result.andThen]
  exact hK' _ _ hK
set_option maxRecDepth 100000 in
theorem zero46 (w : World) : (zeroValue 46).run Tryz.prog w = .ok (nv zeroN ⟨none, 0, none, 0, none, 0, none, 0⟩) w := by kernel_rfl

/-- the nodes of a list in a map of the call's own -/
def lastX (l : List It) (z : Int) : Option It := findI l.reverse z
theorem lastX_snoc {l : List It} {j : Nat} (h : j < l.length) (z : Int) : lastX (l.take (j + 1)) z = if l[j].blk = z then some l[j] else lastX (l.take j) z := by
  unfold lastX findI
  rw [List.take_succ_eq_append_getElem h, List.reverse_append]
  simp only [List.reverse_cons, List.reverse_nil, List.nil_append, List.cons_append, List.find?_cons]
  by_cases e : l[j].blk = z
  · simp [e]
  · rw [if_neg e, beq_eq_false_iff_ne.2 e]
structure NMap (w : World) (b n : Nat) (g : Int → Option It) : Prop where
  ex : ∃ f, VMap w b n f ∧ ∀ z, match g z with | none => f z = none | some x => ∃ p, f z = some (nv x.nd p) ∧ Lies w x.nd p
theorem NMap.made (w : World) : NMap (w.alloc (.map #[] 0)) w.heap.size 0 (fun _ => none) := ⟨_, VMap.made w, fun _ => rfl⟩
theorem NMap.lt {w : World} {b n : Nat} {g : Int → Option It} (h : NMap w b n g) : b < w.heap.size := by
  obtain ⟨f, h1, _⟩ := h.ex
  exact h1.lt
theorem NMap.later {w w' : World} {b n : Nat} {g : Int → Option It} (h : NMap w b n g) (hb : Below w.heap.size w w') : NMap w' b n g := by
  obtain ⟨f, h1, h2⟩ := h.ex
  refine ⟨f, h1.later hb, fun z => ?_⟩
  have := h2 z
  cases hg : g z with
  | none => rw [hg] at this; exact this
  | some x =>
    rw [hg] at this
    obtain ⟨p, h3, h4⟩ := this
    exact ⟨p, h3, h4.later hb⟩
theorem NMap.congr {w : World} {b n : Nat} {g g' : Int → Option It} (h : NMap w b n g) (e : ∀ z, g z = g' z) : NMap w b n g' := by
  obtain rfl : g = g' := funext e
  exact h
/-- a map's block has no cells -/
theorem cell_map {w : World} {b : Nat} {es : Array MapEntry} {c : Nat} (h : w.heap[b]? = some (.map es c)) (p : Addr) (hp : p.block = b) : w.cell? p = none := by
  obtain ⟨k, i, q⟩ := p
  obtain rfl : k = b := hp
  simp [World.cell?, h]
theorem cells_kept {w w' : World} {b : Nat} {es : Array MapEntry} {c : Nat} (h : w.heap[b]? = some (.map es c)) (hg : w.grownBy w' (some b)) : ∀ p v, w.cell? p = some v → w'.cell? p = some v := by
  intro p v hv
  have hne : p.block ≠ b := by
    intro e
    rw [cell_map h p e] at hv
    cases hv
  have hlt := World.block_lt_of_cell? w _ hv
  have := hg.block p.block hlt (by simpa using hne)
  unfold World.cell? at hv ⊢
  rw [this]
  exact hv
theorem Lies.cells {w w' : World} {n : Nd} {p : Pl} (hk : ∀ p v, w.cell? p = some v → w'.cell? p = some v) (h : Lies w n p) : Lies w' n p := by
  obtain ⟨h1, h2, h3, h4⟩ := h
  refine ⟨?_, ?_, ?_, ?_⟩
  · rcases h1 with e | ⟨b, off, e, hc⟩
    · exact .inl e
    · exact .inr ⟨b, off, e, fun i hi => ⟨hk _ _ (hc i hi).c0, hk _ _ (hc i hi).c1⟩⟩
  · rcases h2 with e | ⟨b, off, e, hc⟩
    · exact .inl e
    · exact .inr ⟨b, off, e, fun i hi => hk _ _ (hc i hi)⟩
  · rcases h3 with e | ⟨b, off, e, hc⟩
    · exact .inl e
    · exact .inr ⟨b, off, e, fun i hi => ⟨hk _ _ (hc i hi).c0, hk _ _ (hc i hi).c1, hk _ _ (hc i hi).c2, hk _ _ (hc i hi).c3⟩⟩
  · rcases h4 with e | ⟨b, off, e, hc⟩
    · exact .inl e
    · exact .inr ⟨b, off, e, fun i hi => ⟨hk _ _ (hc i hi).c0, hk _ _ (hc i hi).c1, hk _ _ (hc i hi).c2, hk _ _ (hc i hi).c3, hk _ _ (hc i hi).c4, hk _ _ (hc i hi).c5⟩⟩
/-- a node put into it -/
theorem NMap.store {w : World} {b n : Nat} {g : Int → Option It} (h : NMap w b n g) (hn : n < maxLen) (x : It) (q : Pl) (hq : Lies w x.nd q) (hz : (Lit.int .u32 x.blk).wf = true) :
    ∃ w', (Instr.mapUpdate 67 (.map (some b)) (.int .u32 x.blk) (nv x.nd q)).run Tryz.prog w = .ok () w' ∧ NMap w' b (n + 1) (fun z => if x.blk = z then some x else g z) ∧ w.grownBy w' (some b) := by
  obtain ⟨f, h1, h2⟩ := h.ex
  obtain ⟨w', r1, r2, r3⟩ := h1.store Tryz.underlying67 hn x.blk (nv x.nd q) hz
  obtain ⟨D, ⟨es, c, hm, _⟩, _⟩ := h1
  have hk := cells_kept hm r3
  refine ⟨w', r1, ⟨_, r2, fun z => ?_⟩, r3⟩
  unfold putV
  by_cases e : x.blk = z
  · simp only [if_pos e]
    exact ⟨q, rfl, hq.cells hk⟩
  · simp only [if_neg e]
    have := h2 z
    cases hg : g z with
    | none => rw [hg] at this; exact this
    | some y =>
      rw [hg] at this
      obtain ⟨p, h3, h4⟩ := this
      exact ⟨p, h3, h4.cells hk⟩
end Go.Proofs.YtegmpfmhlpdmhaaGreat.Key
