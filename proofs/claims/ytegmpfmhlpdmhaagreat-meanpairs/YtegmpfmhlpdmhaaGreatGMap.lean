/-
  Maps of the call's own from blocks to numbers, told by a plain function.
-/
import Derived.Test.YtegmpfmhlpdmhaaGreatItems
import Derived.Maps.OwnSet
namespace Go.Proofs.YtegmpfmhlpdmhaaGreat.Key
open Go.RowKit Go.Maps
set_option linter.unusedVariables false
set_option linter.unusedSimpArgs false

theorem law23 : Keyed Tryz.prog 23 := int_keyed Tryz.underlying23
theorem zero35 (w : World) : (zeroValue 35).run Tryz.prog w = .ok (.int .u16 0) w := by kernel_rfl
theorem zero3 (w : World) : (zeroValue 3).run Tryz.prog w = .ok (.int .i64 0) w := by kernel_rfl
/-- a map: what it has at a block -/
def GMap (w : World) (e : TypeId) (q : IntKind) (b n : Nat) (f : Int → Option Int) : Prop :=
  ∃ D : DataW Unit, w.ownsMap Tryz.prog 23 (plainElem Tryz.prog e) b n D ∧ ∀ z, Maps.has D (.int .u32 z) = (f z).isSome ∧ D.atKey (.int .u32 z) (.lit (.int q 0)) = .lit (.int q ((f z).getD 0))
theorem GMap.made (w : World) (e : TypeId) (q : IntKind) : GMap (w.alloc (.map #[] 0)) e q w.heap.size 0 (fun _ => none) :=
  ⟨.map [], World.ownsMap_made _ _ _ _, fun z => ⟨rfl, rfl⟩⟩
theorem GMap.kept {w w' : World} {e : TypeId} {q : IntKind} {b n : Nat} {f : Int → Option Int} {row : Option Nat} (h : GMap w e q b n f) (hg : w.grownBy w' row) (hne : some b ≠ row) : GMap w' e q b n f := by
  obtain ⟨D, h1, h2⟩ := h
  exact ⟨D, h1.kept hg hne, h2⟩
theorem GMap.later {w w' : World} {e : TypeId} {q : IntKind} {b n : Nat} {f : Int → Option Int} (h : GMap w e q b n f) (hb : Below w.heap.size w w') : GMap w' e q b n f :=
  h.kept (row := none) ⟨hb.os, hb.tape, hb.output, hb.size, fun k hk _ => hb.block k hk⟩ (by simp)
theorem GMap.lt {w : World} {e : TypeId} {q : IntKind} {b n : Nat} {f : Int → Option Int} (h : GMap w e q b n f) : b < w.heap.size := by
  obtain ⟨D, h1, _⟩ := h
  exact h1.lt
/-- what a map has behind a store -/
def putF (f : Int → Option Int) (z c : Int) : Int → Option Int := fun y => if z = y then some c else f y
theorem GMap.stored {w' : World} {e : TypeId} {q : IntKind} {b n : Nat} {f : Int → Option Int} {D : DataW Unit} (hD : Maps.IsMap D) (hf : ∀ z, Maps.has D (.int .u32 z) = (f z).isSome ∧ D.atKey (.int .u32 z) (.lit (.int q 0)) = .lit (.int q ((f z).getD 0))) (z c : Int) (h : w'.ownsMap Tryz.prog 23 (plainElem Tryz.prog e) b n (D.put (.int .u32 z) (.lit (.int q c)))) : GMap w' e q b n (putF f z c) := by
  refine ⟨_, h, fun y => ?_⟩
  unfold putF
  by_cases e : z = y
  · subst e
    rw [if_pos rfl]
    exact ⟨has_put_same (k := Lit.int .u32 z) hD trivial _, atKey_put_same (k := Lit.int .u32 z) hD trivial _ _⟩
  · rw [if_neg e]
    have hne : Lit.int .u32 y ≠ Lit.int .u32 z := by intro h; cases h; exact e rfl
    rw [has_put_other hne, atKey_put_other hne]
    exact hf y
set_option maxRecDepth 100000 in
/-- the look-up, as an operation -/
theorem look {w : World} {ops : Array Oper} {rest : List Oper} {o : Oper} {a : Act} {Q : Exit → Act → World → Prop} (hg : o.guard = none) (m x : Operand) (t : TypeId) (hop : o.op = Op.lookup t m x true) (e : TypeId) (q : IntKind)
    (ht : Tryz.prog.underlying t = some (.map 23 e)) (he : Tryz.prog.underlying e = some (.int q)) (hz : (zeroValue e).run Tryz.prog w = .ok (.int q 0) w) (b n : Nat) (f : Int → Option Int) (hm : a.eval m = .map (some b)) (h : GMap w e q b n f) (z : Int) (hx : a.eval x = .int .u32 z) (hw : (Lit.int .u32 z).wf = true)
    (hK : wpList Tryz.prog ops Q rest (a.put o.dst (.tuple #[.int q ((f z).getD 0), .bool (f z).isSome])) w) : wpList Tryz.prog ops Q (o :: rest) a w := by
  obtain ⟨D, h1, h2⟩ := h
  refine wpList_lookup_own_ok_int w hg m x t hop 23 e q law23 ht he hz b n D hm h1 _ _ hx (keyOf_int_mk Tryz.underlying23 hw) ?_
  intro c hat _
  obtain ⟨e1, e2⟩ := h2 z
  rw [e2] at hat
  have : (f z).getD 0 = c := by injection hat with h; injection h
  rw [← this, e1]
  exact hK
set_option maxRecDepth 100000 in
/-- .. the store's run -/
theorem GMap.store {w : World} {e t : TypeId} {q : IntKind} {b n : Nat} {f : Int → Option Int} (h : GMap w e q b n f) (ht : Tryz.prog.underlying t = some (.map 23 e)) (he : Tryz.prog.underlying e = some (.int q)) (hn : n < maxLen) (z c : Int) (hz : (Lit.int .u32 z).wf = true) (hc : (Lit.int q c).wf = true) :
    ∃ w', (Instr.mapUpdate t (.map (some b)) (.int .u32 z) (.int q c)).run Tryz.prog w = .ok () w' ∧ GMap w' e q b (n + 1) (putF f z c) ∧ w.grownBy w' (some b) := by
  obtain ⟨D, h1, h2⟩ := h
  obtain ⟨w', r1, r2, r3⟩ := h1.update law23 ht hn (keyOf_int_mk Tryz.underlying23 hz) (plainElem_int he hc)
  exact ⟨w', r1, GMap.stored h1.isMap h2 z c r2, r3⟩
end Go.Proofs.YtegmpfmhlpdmhaaGreat.Key
