/-
  What Reach bears along: a map of blocks, and a row of blocks beside it.
-/
import Derived.Test.YtfladpnphkoeiaaZMap
import Derived.Test.YtfladpnphkoeiaaPlaces
import Derived.Maps.AppendAt
namespace Go.Proofs.Ytfladpnphkoeiaa.Key
open Go.RowKit
set_option linter.unusedVariables false
set_option linter.unusedSimpArgs false

theorem OwnU.same {w w' : World} {B : Nat} {v : Value} {l : List Int} (h : OwnU w B v l) (he : ∀ g, v.ownBlock = some g → w'.heap[g]? = w.heap[g]?) : OwnU w' B v l := by
  refine ⟨h.1, ?_⟩
  rcases h.2 with h0 | ⟨g, cap, cur, rfl, hb, hg, r⟩
  · exact .inl h0
  · exact .inr ⟨g, cap, cur, rfl, hb, (he g rfl).trans hg, r⟩
/-- the last one off -/
theorem OwnU.cut {w : World} {B c : Nat} {a : Option Addr} {l : List Int} {x : Int} (h : OwnU w B (.slice a (l.length + 1) c) (l ++ [x])) : OwnU w B (.slice a l.length c) l := by
  refine ⟨by simp, ?_⟩
  rcases h.2 with ⟨h0, _⟩ | ⟨g, cap, cur, hv, hb, hg, hc, hm, hs, ht⟩
  · simp at h0
  · simp only [Value.slice.injEq, List.length_append, List.length_cons, List.length_nil] at hv hc ht
    obtain ⟨rfl, _, rfl⟩ := hv
    refine .inr ⟨g, c, cur, rfl, hb, hg, by omega, hm, hs, ?_⟩
    have := congrArg (List.take l.length) ht
    rw [List.take_take, List.map_append] at this
    simpa using this
theorem ZMap.kept {w w' : World} {B k : Nat} {kv vv : Value} {ks : List Int} {row : Option Nat} (h : ZMap w B k kv vv ks) (hg : w.grownBy w' row) (h1 : row ≠ some k) (h2 : ∀ g, kv.ownBlock = some g → row ≠ some g) : ZMap w' B k kv vv ks :=
  ⟨(hg.block k h.lt fun e => h1 e.symm).trans h.box, h.above, h.keys.same fun g e => hg.block g (World.ownsRow.lt h.keys g e).2 fun e' => h2 g e e'.symm, h.vals, h.rise, h.apart⟩
set_option maxRecDepth 100000 in
/-- 'out = append(out, l...)', out of the call's own; where it lies -/
theorem appUsAt {w : World} {ops : Array Oper} {rest : List Oper} {o : Oper} {a : Act} {Q : Exit → Act → World → Prop} (hgd : o.guard = none) (s x : Operand)
    (ho : o.op = .call { callee := .builtin .append, args := #[s, x], argTypes := #[41, 41] })
    (B : Nat) (v : Value) (l : List Int) (hs : a.eval s = v) (hown : OwnU w B v l) (ad : Option Addr) (m c : Nat) (ys : List Int) (hx : a.eval x = .slice ad m c) (hnil : ad = none → m = 0 ∧ c = 0) (hl : ys.length = m) (hn : Nums w ad ys) (hsz : l.length + m ≤ 100000000) (hB : B ≤ w.heap.size)
    (h : ∀ v' w', OwnU w' B v' (l ++ ys) → w.grownBy w' v.ownBlock → (v'.ownBlock = v.ownBlock ∨ v'.ownBlock = some w.heap.size) → wpList Try.prog ops Q rest (a.put o.dst v') w') : wpList Try.prog ops Q (o :: rest) a w := by
  obtain ⟨i0, hi, hz0, hz1, hz2⟩ := info_parts info23
  cases ad with
  | none =>
    obtain ⟨rfl, rfl⟩ := hnil rfl
    have hy : ys = [] := List.eq_nil_of_length_eq_zero hl
    subst hy
    refine wpList_append_own_none hgd s x 41 ho B 23 i0 1 Try.underlying41 hi v _ _ hs hown hx ?_
    exact h v w (by simpa using hown) ⟨rfl, rfl, rfl, Nat.le_refl _, fun _ _ _ => rfl⟩ (.inl rfl)
  | some ad =>
    refine wpList_append_own_at _ hgd s x 41 ho B 23 i0 (.int .u32 0) 1 4 Try.underlying41 hi hz0 hz1 hz2 rfl (by decide) v _ _ hs hown ad m c (ys.map (Value.int .u32)) hx (by simp [hl]) hn.news (by intro u hu; simp at hu; obtain ⟨_, _, rfl⟩ := hu; rfl)
      (by unfold maxLen; omega) (by omega) hB ?_
    intro v' w' h1 h2 _ h4
    refine h v' w' ?_ h2 h4
    unfold OwnU
    rw [List.map_append, List.length_append, hl]
    exact h1
/-- a map of what is reached, a row of what is left -/
structure RM (w1 : World) (B : Nat) (ks left : List Int) (kv vv lv : Value) (wr : World) : Prop where
  map : ZMap wr B B kv vv ks
  row : OwnU wr B lv left
  ap : ∀ g, lv.ownBlock = some g → g ≠ B ∧ kv.ownBlock ≠ some g
  bel : Below B w1 wr
theorem RM.big {w1 wr : World} {B : Nat} {ks left : List Int} {kv vv lv : Value} (h : RM w1 B ks left kv vv lv wr) : B < wr.heap.size := h.map.lt
theorem RM.later {w1 wr w' : World} {B : Nat} {ks left : List Int} {kv vv lv : Value} (h : RM w1 B ks left kv vv lv wr) (hb : Below wr.heap.size wr w') : RM w1 B ks left kv vv lv w' :=
  ⟨h.map.later hb, h.row.later hb, h.ap, h.bel.trans (hb.mono (Nat.le_of_lt h.big))⟩
theorem RM.put {w1 wr w' : World} {B c n : Nat} {ks left : List Int} {b : Int} {kv vv kv' vv' : Value} {a : Option Addr} (h : RM w1 B ks (left ++ [b]) kv vv (.slice a n c) wr) (hn : n = left.length + 1) {m : Nat} (hm' : m = left.length)
    (hm : ZMap w' B B kv' vv' (putK ks b)) (hf : FreeZ wr w' B kv kv') (hb : Below B w1 w') : RM w1 B (putK ks b) left kv' vv' (.slice a m c) w' := by
  subst hn hm'
  have hr := h.row.cut
  have hx : ∀ g, (Value.slice a left.length c).ownBlock = some g → g < wr.heap.size ∧ g ≠ B ∧ kv.ownBlock ≠ some g := fun g e => ⟨(World.ownsRow.lt hr g e).2, h.ap g (by cases a <;> exact e)⟩
  exact ⟨hm, hr.same fun g e => (hf g (hx g e).1 (hx g e).2.1 (hx g e).2.2).1, fun g e => ⟨(hx g e).2.1, (hf g (hx g e).1 (hx g e).2.1 (hx g e).2.2).2⟩, hb⟩
theorem RM.app {w1 wr w' : World} {B : Nat} {ks left ts : List Int} {kv vv lv lv' : Value} (h : RM w1 B ks left kv vv lv wr) (ho : OwnU w' B lv' (left ++ ts)) (hg : wr.grownBy w' lv.ownBlock) (hat : lv'.ownBlock = lv.ownBlock ∨ lv'.ownBlock = some wr.heap.size) :
    RM w1 B ks (left ++ ts) kv vv lv' w' := by
  have hbig := h.big
  refine ⟨h.map.kept hg (fun e => (h.ap _ e).1 rfl) (fun g e e' => (h.ap g e').2 e), ho, fun g e => ?_, h.bel.grown hg (Nat.le_of_lt hbig) fun j hj => (World.ownsRow.lt h.row j hj).1⟩
  rcases hat with h1 | h1
  · exact h.ap g (h1.symm.trans e)
  · rw [h1] at e
    cases e
    exact ⟨by omega, fun e => by have := (World.ownsRow.lt h.map.keys _ e).2; omega⟩
theorem succ_of {l : List It} {b p : Int} (h : placeF l b = some p) : ∃ (i : Nat) (hi : i < l.length), p = (i : Int) ∧ succB l b = targetsL l[i].nd := by
  obtain ⟨i, hi, e, hf⟩ := placeF_some h
  exact ⟨i, hi, e, by unfold succB foundN; rw [hf]; rfl⟩
theorem succ_none {l : List It} {b : Int} (h : placeF l b = none) : succB l b = [] := by
  unfold succB foundN
  rw [placeF_none h]
  rfl
theorem targets_len {n : Nd} (h : Few n) : (targetsL n).length ≤ 2000 := by
  have h1 := h.l3
  have h2 := h.l4
  have h3 := blocks_len n.bf
  unfold targetsL
  simp
  omega
end Go.Proofs.Ytfladpnphkoeiaa.Key
