/-
  What PackReads wants besides: a byte stored into a row of the call's own; both readers side by side ('Half').
-/
import Derived.Test.YtkefkjpacfgbdaaStay
import Derived.Deep.Quiet
namespace Go.Proofs.Ytkefkjpacfgbdaa.Pack
open Go.RowKit

/-- in a region that draws: an operation that yields v in every world of the class -/
theorem quiet_val {P : Program} {ops : Array Oper} {C : World → Prop} {K : Act → Prop} {a : Act} {o : Oper} (v : Value) (hw : Region.wanted o (yielded ops a.tmps) = true)
    (hv : ∀ u, C u → (execOp a.eval o).run P u = .ok (.value v) u) (h : K (a.put o.dst v)) : if Region.wanted o (yielded ops a.tmps) then o.quiet P a C K else K (a.put o.dst undef) := by
  rw [if_pos hw]
  refine ⟨v, fun u hu => ?_, h⟩
  unfold Oper.quietAt
  rw [hv u hu]
  exact ⟨rfl, rfl⟩
/-- .. a call that hands back v and leaves a world of the class -/
theorem quiet_call {P : Program} {ops : Array Oper} {C : World → Prop} {K : Act → Prop} {a : Act} {o : Oper} (v : Value) (f : FuncId) (args : Array Value) (hw : Region.wanted o (yielded ops a.tmps) = true)
    (hv : ∀ u, C u → (execOp a.eval o).run P u = .ok (.enter f args) u) (hc : ∀ u, C u → Calls P f args u fun e u' => e = .returned v ∧ C u') (h : K (a.put o.dst v)) : if Region.wanted o (yielded ops a.tmps) then o.quiet P a C K else K (a.put o.dst undef) := by
  rw [if_pos hw]
  refine ⟨v, fun u hu => ?_, h⟩
  unfold Oper.quietAt
  rw [hv u hu]
  exact ⟨rfl, hc u hu⟩
theorem gV_lt {zs : List Int} (hz : Byt zs) (p : Nat) (e : Int) (s : Nat) : gV zs p e s < 256 ^ s := by
  unfold gV
  split
  · have h := val_take_lt (hz.drop p) s
    exact h
  · exact Nat.pow_pos (by omega)
theorem Own.formAt {w : World} {B : Nat} {v : Value} {zs : List Int} {n : Nat} (h : Own w B v zs) (hn : zs.length = n) : ∃ a c, v = .slice a n c ∧ Bytes w a zs ∧ (a = none → n = 0 ∧ c = 0) ∧ (∀ k, v.ownBlock = some k → B ≤ k ∧ k < w.heap.size) ∧ n ≤ c := by
  subst hn
  exact h.form
/-- a byte stored into a row of the call's own -/
theorem Own.stored {w : World} {B g n c : Nat} {ys : List Int} (h : Own w B (.slice (some ⟨g, 0, none⟩) n c) ys) (hn : ys.length = n) (j : Nat) (x : Int) :
    Own (w.setCell ⟨g, j, none⟩ (.int .u8 x)) B (.slice (some ⟨g, 0, none⟩) n c) (ys.set j x) ∧ w.grownBy (w.setCell ⟨g, j, none⟩ (.int .u8 x)) (some g) := by
  subst hn
  have h1 := World.ownsRow.stored h j (.int .u8 x)
  refine ⟨?_, h1.2⟩
  unfold Own
  rw [List.length_set, List.map_set]
  exact h1.1
theorem Own.at {w : World} {B g n c : Nat} {ys : List Int} (h : Own w B (.slice (some ⟨g, 0, none⟩) n c) ys) (hn : ys.length = n) {j : Nat} (hj : j < n) :
    w.cell? ⟨g, j, none⟩ = some (.int .u8 (ys.getD j 0)) ∧ w.frozen? ⟨g, j, none⟩ = false := by
  subst hn
  refine ⟨?_, World.ownsRow.frozenAt h j⟩
  rw [World.ownsRow.cellAt h j (by simpa using hj)]
  simp [List.getD, List.getElem?_eq_getElem hj]
/-- both readers: r has p' and e', the document's (block km) p and e -/
def Half (w wx : World) (B k km : Nat) (a : Option Addr) (n c : Nat) (xs : List Int) (p : Nat) (e : Int) (p' : Nat) (e' : Int) : Prop :=
  Rd wx B k xs p' e' ∧ wx.heap[km]? = some (.cells #[.slice a n c, .int .i64 (p : Int), .int .i64 e] 38 (0, 0)) ∧ Below w.heap.size w wx ∧ w.heap.size ≤ B ∧ k < km
theorem Half.step {w wx wy : World} {B k km : Nat} {a : Option Addr} {n c : Nat} {xs : List Int} {p p' q : Nat} {e e' f : Int} (h : Half w wx B k km a n c xs p e p' e') (hr : Rd wy B k xs q f) (hg : wx.grownBy wy (some k)) : Half w wy B k km a n c xs p e q f := by
  obtain ⟨h1, h2, h3, h4, h5⟩ := h
  exact ⟨hr, (hg.block km (Array.getElem?_eq_some_iff.1 h2).1 (by simp; omega)).trans h2, Below.own h3 hg h4 h1.lt.2, h4, h5⟩
theorem Half.later {w wx wy : World} {B k km : Nat} {a : Option Addr} {n c : Nat} {xs : List Int} {p p' : Nat} {e e' : Int} (h : Half w wx B k km a n c xs p e p' e') (hb : RowKit.Below wx.heap.size wx wy) : Half w wy B k km a n c xs p e p' e' := by
  obtain ⟨h1, h2, h3, h4, h5⟩ := h
  exact ⟨h1.later hb, (hb.block km (Array.getElem?_eq_some_iff.1 h2).1).trans h2, h3.trans (hb.mono h3.size), h4, h5⟩
theorem Half.cells {w wx : World} {B k km : Nat} {a : Option Addr} {n c : Nat} {xs : List Int} {p p' : Nat} {e e' : Int} (h : Half w wx B k km a n c xs p e p' e') :
    wx.cell? ⟨km, 0, none⟩ = some (.slice a n c) ∧ wx.cell? ⟨km, 1, none⟩ = some (.int .i64 (p : Int)) ∧ wx.cell? ⟨km, 2, none⟩ = some (.int .i64 e) ∧ wx.frozen? ⟨km, 0, none⟩ = false ∧ wx.frozen? ⟨km, 1, none⟩ = false ∧ wx.frozen? ⟨km, 2, none⟩ = false := by
  obtain ⟨_, h2, _⟩ := h
  exact ⟨cell_of_row wx km 0 _ 38 _ h2, cell_of_row wx km 1 _ 38 _ h2, cell_of_row wx km 2 _ 38 _ h2, frozen_of_row wx km 0 _ 38 h2, frozen_of_row wx km 1 _ 38 h2, frozen_of_row wx km 2 _ 38 h2⟩
theorem Half.set {w wx : World} {B k km : Nat} {a : Option Addr} {n c : Nat} {xs : List Int} {p p' : Nat} {e e' : Int} (h : Half w wx B k km a n c xs p e p' e') :
    Half w (((wx.setCell ⟨km, 0, none⟩ (.slice a n c)).setCell ⟨km, 1, none⟩ (.int .i64 (p' : Int))).setCell ⟨km, 2, none⟩ (.int .i64 e')) B k km a n c xs p' e' p' e' := by
  obtain ⟨h1, h2, h3, h4, h5⟩ := h
  have hk := h1.lt.2
  have g0 := fun (u : World) (v : Value) (i : Nat) => (⟨rfl, rfl, rfl, by simp, fun j _ hj => heap_setCell_other u ⟨km, i, none⟩ j v (fun e => hj (by simp [e]))⟩ : u.grownBy (u.setCell ⟨km, i, none⟩ v) (some km))
  have s0 := heap_setCell_same wx km 0 _ 38 (.slice a n c) h2
  have s1 := heap_setCell_same _ km 1 _ 38 (.int .i64 (p' : Int)) s0
  have s2 := heap_setCell_same _ km 2 _ 38 (.int .i64 e') s1
  have q := grown_trans (g0 wx (.slice a n c) 0) (grown_trans (g0 _ (.int .i64 (p' : Int)) 1) (g0 _ (.int .i64 e') 2))
  exact ⟨h1.grown q (.inr h5), s2, h3.grown q h3.size (fun j hj => by cases hj; omega), h4, h5⟩
theorem Half.setE {w wx : World} {B k km : Nat} {a : Option Addr} {n c : Nat} {xs : List Int} {p : Nat} {e e' : Int} (h : Half w wx B k km a n c xs p e p e') :
    Half w (wx.setCell ⟨km, 2, none⟩ (.int .i64 e')) B k km a n c xs p e' p e' := by
  obtain ⟨h1, h2, h3, h4, h5⟩ := h
  have hk := h1.lt.2
  have q : wx.grownBy (wx.setCell ⟨km, 2, none⟩ (.int .i64 e')) (some km) := ⟨rfl, rfl, rfl, by simp, fun j _ hj => heap_setCell_other wx ⟨km, 2, none⟩ j _ (fun e => hj (by simp [e]))⟩
  have s2 := heap_setCell_same _ km 2 _ 38 (.int .i64 e') h2
  exact ⟨h1.grown q (.inr h5), s2, h3.grown q h3.size (fun j hj => by cases hj; omega), h4, h5⟩
theorem Half.new {w wr : World} {B k : Nat} {a : Option Addr} {n c : Nat} {xs : List Int} (hr : Rd wr B k xs 0 0) (hb : RowKit.Below w.heap.size w wr) (hB : w.heap.size ≤ B) :
    Half w (wr.alloc (.cells #[.slice a n c, .int .i64 0, .int .i64 0] 38)) B k wr.heap.size a n c xs 0 0 0 0 :=
  ⟨hr.later ((Below.refl _ _).alloc (Nat.le_refl _) _), Go.heap_alloc_new _ _, hb.alloc hb.size _, hB, hr.lt.1⟩
end Go.Proofs.Ytkefkjpacfgbdaa.Pack
