/-
  The program's disk in memory: two maps, blocks, the writes that wait; what a store into one of them keeps.
-/
import Derived.Test.YtklfpoojpfomeaaDw
import Derived.Maps.RangeWalk
import Derived.Maps.Own
import Derived.Maps.OwnSet
namespace Go.Proofs.Ytklfpoojpfomeaa.Key
open Go.RowKit Go.Maps
set_option linter.unusedVariables false
set_option linter.unusedSimpArgs false

theorem law3 : Keyed Try.prog 3 := int_keyed Try.underlying3
/-- an element reads as itself -/
def heldE (v : Value) : Option (DataW Value × List MemPlace) := some (.held v, [])
/-- a map's datum: what it has at a number -/
def Told (D : DataW Value) (f : Int → Option Value) : Prop := ∀ z, Maps.has D (.int .i64 z) = (f z).isSome ∧ ∀ y, D.atKey (.int .i64 z) (.held y) = .held ((f z).getD y)
/-- a map in memory -/
def VMap (w : World) (b n : Nat) (f : Int → Option Value) : Prop := ∃ D : DataW Value, w.ownsMap Try.prog 3 heldE b n D ∧ Told D f
theorem VMap.made (w : World) : VMap (w.alloc (.map #[] 0)) w.heap.size 0 (fun _ => none) :=
  ⟨.map [], World.ownsMap_made _ _ _ _, fun z => ⟨rfl, fun _ => rfl⟩⟩
theorem VMap.kept {w w' : World} {b n : Nat} {f : Int → Option Value} {row : Option Nat} (h : VMap w b n f) (hg : w.grownBy w' row) (hne : some b ≠ row) : VMap w' b n f := by
  obtain ⟨D, h1, h2⟩ := h
  exact ⟨D, h1.kept hg hne, h2⟩
theorem grown_below {w w' : World} (h : Below w.heap.size w w') (row : Option Nat) : w.grownBy w' row :=
  ⟨h.os, h.tape, h.output, h.size, fun i hi _ => h.block i hi⟩
theorem VMap.later {w w' : World} {b n : Nat} {f : Int → Option Value} (h : VMap w b n f) (hb : Below w.heap.size w w') : VMap w' b n f :=
  h.kept (row := none) (grown_below hb none) (by simp)
theorem VMap.lt {w : World} {b n : Nat} {f : Int → Option Value} (h : VMap w b n f) : b < w.heap.size := by
  obtain ⟨D, h1, _⟩ := h
  exact h1.lt
theorem VMap.isMap {w : World} {b n : Nat} {f : Int → Option Value} (h : VMap w b n f) : ∃ es c, w.heap[b]? = some (.map es c) := by
  obtain ⟨D, ⟨es, c, hm, _⟩, _⟩ := h
  exact ⟨es, c, hm⟩
theorem VMap.notCells {w : World} {b n : Nat} {f : Int → Option Value} (h : VMap w b n f) {j : Nat} {cs : Array Value} {t : TypeId} {ly : Nat × Nat} (hj : w.heap[j]? = some (.cells cs t ly)) : b ≠ j := by
  rintro rfl
  obtain ⟨es, c, hm⟩ := h.isMap
  rw [hm] at hj
  cases hj
theorem VMap.mono {w : World} {b n n' : Nat} {f : Int → Option Value} (h : VMap w b n f) (hn : n ≤ n') : VMap w b n' f := by
  obtain ⟨D, h1, h2⟩ := h
  exact ⟨D, h1.mono hn, h2⟩
/-- what a map has behind a store -/
def putV {α : Type} (f : Int → Option α) (z : Int) (v : α) : Int → Option α := fun y => if z = y then some v else f y
theorem Told.put {D : DataW Value} {f : Int → Option Value} (hm : IsMap D) (h : Told D f) (z : Int) (v : Value) : Told (D.put (.int .i64 z) (.held v)) (putV f z v) := by
  intro y
  unfold putV
  by_cases e : z = y
  · subst e
    rw [if_pos rfl]
    exact ⟨has_put_same (k := Lit.int .i64 z) hm trivial _, fun _ => atKey_put_same (k := Lit.int .i64 z) hm trivial _ _⟩
  · rw [if_neg e]
    have hne : Lit.int .i64 y ≠ Lit.int .i64 z := by intro h; cases h; exact e rfl
    rw [has_put_other hne]
    refine ⟨(h y).1, fun x => ?_⟩
    rw [atKey_put_other hne]
    exact (h y).2 x
/-- a store's run -/
theorem VMap.store {w : World} {b n : Nat} {f : Int → Option Value} (h : VMap w b n f) (hn : n < maxLen) (z : Int) (v : Value) (hz : (Lit.int .i64 z).wf = true) :
    ∃ w', (Instr.mapUpdate 54 (.map (some b)) (.int .i64 z) v).run Try.prog w = .ok () w' ∧ VMap w' b (n + 1) (putV f z v) ∧ w.grownBy w' (some b) := by
  obtain ⟨D, h1, h2⟩ := h
  obtain ⟨w', r1, r2, r3⟩ := h1.update law3 Try.underlying54 hn (keyOf_int_mk Try.underlying3 hz) (show heldE v = some (.held v, []) from rfl)
  exact ⟨w', r1, ⟨_, r2, h2.put h1.isMap z v⟩, r3⟩
theorem zero34 (w : World) : (zeroValue 34).run Try.prog w = .ok (.slice none 0 0) w := by kernel_rfl
/-- a look-up's run -/
theorem VMap.lookup {w : World} {b n : Nat} {f : Int → Option Value} (h : VMap w b n f) (z : Int) (hz : (Lit.int .i64 z).wf = true) :
    (Instr.lookup 54 (.map (some b)) (.int .i64 z) false).run Try.prog w = .ok ((f z).getD (.slice none 0 0)) w := by
  obtain ⟨D, h1, h2⟩ := h
  obtain ⟨v, ps, r1, r2⟩ := h1.lookup law3 Try.underlying54 (zero34 w) (show heldE (.slice none 0 0) = some (.held _, []) from rfl) (keyOf_int_mk Try.underlying3 hz)
  rw [(h2 z).2 _] at r2
  unfold heldE at r2
  simp only [Option.some.injEq, Prod.mk.injEq, DataW.held.injEq] at r2
  rw [r1, r2.1]
/-- .. with whether it is there -/
theorem VMap.lookup_ok {w : World} {b n : Nat} {f : Int → Option Value} (h : VMap w b n f) (z : Int) (hz : (Lit.int .i64 z).wf = true) :
    (Instr.lookup 54 (.map (some b)) (.int .i64 z) true).run Try.prog w = .ok (.tuple #[(f z).getD (.slice none 0 0), .bool (f z).isSome]) w := by
  obtain ⟨D, h1, h2⟩ := h
  obtain ⟨v, ps, r1, r2⟩ := h1.look_ok law3 Try.underlying54 (zero34 w) (show heldE (.slice none 0 0) = some (.held _, []) from rfl) (keyOf_int_mk Try.underlying3 hz)
  rw [(h2 z).2 _] at r2
  unfold heldE at r2
  simp only [Option.some.injEq, Prod.mk.injEq, DataW.held.injEq] at r2
  rw [r1, r2.1, (h2 z).1]
set_option maxRecDepth 100000 in
theorem lookV {w : World} {ops : Array Oper} {rest : List Oper} {o : Oper} {a : Act} {Q : Exit → Act → World → Prop} (hg : o.guard = none) (m x : Operand) (hop : o.op = Op.lookup 54 m x false)
    (b n : Nat) (f : Int → Option Value) (hm : a.eval m = .map (some b)) (h : VMap w b n f) (z : Int) (hx : a.eval x = .int .i64 z) (hw : (Lit.int .i64 z).wf = true)
    (hK : wpList Try.prog ops Q rest (a.put o.dst ((f z).getD (.slice none 0 0))) w) : wpList Try.prog ops Q (o :: rest) a w := by
  refine wpList_plain hg fun K' hK' => ?_
  have hrun := h.lookup z hw
  unfold Oper.wp
  simp [execOp, hop, hm, hx, hrun, Result.andThen]
  exact hK' _ _ hK
set_option maxRecDepth 100000 in
theorem lookVok {w : World} {ops : Array Oper} {rest : List Oper} {o : Oper} {a : Act} {Q : Exit → Act → World → Prop} (hg : o.guard = none) (m x : Operand) (hop : o.op = Op.lookup 54 m x true)
    (b n : Nat) (f : Int → Option Value) (hm : a.eval m = .map (some b)) (h : VMap w b n f) (z : Int) (hx : a.eval x = .int .i64 z) (hw : (Lit.int .i64 z).wf = true)
    (hK : wpList Try.prog ops Q rest (a.put o.dst (.tuple #[(f z).getD (.slice none 0 0), .bool (f z).isSome])) w) : wpList Try.prog ops Q (o :: rest) a w := by
  refine wpList_plain hg fun K' hK' => ?_
  have hrun := h.lookup_ok z hw
  unfold Oper.wp
  simp [execOp, hop, hm, hx, hrun, Result.andThen]
  exact hK' _ _ hK

/-! what a call leaves -/

/-- Below B nothing has turned, and of what lies from B on no block but disks and rows of their writes. -/
structure Soft (B : Nat) (w w' : World) : Prop where
  below : Below B w w'
  old : ∀ (b : Nat) (arr : Array Value) (ty : TypeId) (ly : Nat × Nat), w.heap[b]? = some (.cells arr ty ly) → ty ≠ 57 → ty ≠ 67 → w'.heap[b]? = some (.cells arr ty ly)
theorem Soft.refl (B : Nat) (w : World) : Soft B w w := ⟨Below.refl _ _, fun _ _ _ _ h _ _ => h⟩
theorem Soft.trans {B : Nat} {a b c : World} (h : Soft B a b) (k : Soft B b c) : Soft B a c := ⟨h.below.trans k.below, fun i arr ty ly hi h1 h2 => k.old i arr ty ly (h.old i arr ty ly hi h1 h2) h1 h2⟩
theorem Soft.new {B : Nat} {w w' : World} (h : Below w.heap.size w w') (hB : B ≤ w.heap.size) : Soft B w w' :=
  ⟨h.mono hB, fun i arr ty ly hi _ _ => (h.block i (Array.getElem?_eq_some_iff.1 hi).1).trans hi⟩
theorem Soft.grown {B : Nat} {w w' : World} {row : Option Nat} (hg : w.grownBy w' row) (hB : B ≤ w.heap.size) (hr : ∀ k, row = some k → B ≤ k ∧ ∀ (arr : Array Value) (ty : TypeId) (ly : Nat × Nat), w.heap[k]? = some (.cells arr ty ly) → ty = 57 ∨ ty = 67) : Soft B w w' :=
  ⟨(Below.refl B w).grown hg hB fun k hk => (hr k hk).1, fun i arr ty ly hi h1 h2 => (hg.block i (Array.getElem?_eq_some_iff.1 hi).1 (fun e => ((hr i e.symm).2 arr ty ly hi).elim h1 h2)).trans hi⟩
theorem Soft.drew {B : Nat} {w w' : World} (h : Soft B w w') (n : Nat) : Soft B w (w'.drewN n) := ⟨below_drew h.below n, h.old⟩
theorem Soft.drew' {B : Nat} {w w' : World} (h : Soft B w w') : Soft B w w'.drew := ⟨h.below.drew, h.old⟩

/-- a block's bytes, and where they lie -/
structure Pb where
  k : Nat
  b : List UInt8
abbrev bval (k : Nat) : Value := .slice (some ⟨k, 0, none⟩) 2048 2048
def bytesC (b : List UInt8) : Array Value := ((nums (str b)).map (Value.int .u8)).toArray
/-- a block in memory; it isn't Z -/
def Blk (w : World) (Z : Nat) (q : Pb) : Prop := w.heap[q.k]? = some (.cells (bytesC q.b) 5 (0, 0)) ∧ q.b.length = 2048 ∧ q.k ≠ Z
theorem Blk.lt {w : World} {Z : Nat} {q : Pb} (h : Blk w Z q) : q.k < w.heap.size := (Array.getElem?_eq_some_iff.1 h.1).1
theorem Blk.soft {B : Nat} {w w' : World} {Z : Nat} {q : Pb} (h : Blk w Z q) (hs : Soft B w w') : Blk w' Z q := ⟨hs.old _ _ _ _ h.1 (by decide) (by decide), h.2⟩
theorem Blk.grown {w w' : World} {Z : Nat} {q : Pb} {row : Option Nat} (h : Blk w Z q) (hg : w.grownBy w' row) (hr : ∀ k, row = some k → q.k ≠ k) : Blk w' Z q :=
  ⟨(hg.block _ h.lt (fun e => hr _ e.symm rfl)).trans h.1, h.2⟩
theorem Blk.later {w w' : World} {Z : Nat} {q : Pb} (h : Blk w Z q) (hb : Below w.heap.size w w') : Blk w' Z q := h.grown (grown_below hb none) (by simp)
theorem Blk.bytes {w : World} {Z : Nat} {q : Pb} (h : Blk w Z q) : Bytes w (some ⟨q.k, 0, none⟩) (nums (str q.b)) := by
  refine .inr ⟨q.k, 0, rfl, fun i hi => ?_⟩
  rw [Nat.zero_add, cell_of_row w q.k i _ 5 _ h.1]
  unfold bytesC
  simp [List.getD, List.getElem?_eq_getElem hi]
theorem Blk.other {w : World} {Z Z' : Nat} {q : Pb} (h : Blk w Z q) (hz : w.heap.size ≤ Z') : Blk w Z' q := ⟨h.1, h.2.1, by have := h.lt; omega⟩

/-- the program's disk -/
structure Pg where
  n : Int
  kept : Int → Option Pb
  last : Int → Option Pb
  waits : List (Int × Pb)
  fuse : Int
  up : Bool
  falls : Int
abbrev pbox (n : Int) (mk ml : Nat) (wv : Value) (fuse : Int) (up : Bool) (falls : Int) : Array Value := #[.int .i64 n, .map (some mk), .map (some ml), wv, .int .i64 fuse, .bool up, .int .i64 falls]
def wcells (x : Int × Pb) : List Value := [.int .i64 x.1, bval x.2.k]
/-- it in memory -/
structure Raw (w : World) (B Z p : Nat) (g : Pg) (mk ml : Nat) (wv : Value) (nk nl : Nat) : Prop where
  box : w.heap[p]? = some (.cells (pbox g.n mk ml wv g.fuse g.up g.falls) 57 (0, 0))
  hp : B ≤ p
  hk : B ≤ mk
  hl : B ≤ ml
  ne : mk ≠ ml
  km : VMap w mk nk (fun z => (g.kept z).map fun q => bval q.k)
  lm : VMap w ml nl (fun z => (g.last z).map fun q => bval q.k)
  kb : ∀ z q, g.kept z = some q → Blk w Z q
  lb : ∀ z q, g.last z = some q → Blk w Z q
  row : w.ownsRow B 67 2 wv g.waits.length (g.waits.flatMap wcells)
  wb : ∀ x ∈ g.waits, Blk w Z x.2
  hnl : nl ≤ g.waits.length
  ff : -1 ≤ g.fuse ∧ g.fuse ≤ 9223372036854775807
  ix : ∀ x ∈ g.waits, (Lit.int .i64 x.1).wf = true
theorem Raw.lt {w : World} {B Z p : Nat} {g : Pg} {mk ml : Nat} {wv : Value} {nk nl : Nat} (h : Raw w B Z p g mk ml wv nk nl) : p < w.heap.size := (Array.getElem?_eq_some_iff.1 h.box).1
theorem Raw.size {w : World} {B Z p : Nat} {g : Pg} {mk ml : Nat} {wv : Value} {nk nl : Nat} (h : Raw w B Z p g mk ml wv nk nl) : B ≤ w.heap.size := by have := h.hp; have := h.lt; omega
theorem row_off {w : World} {B j : Nat} {e e' : TypeId} {sz : Nat} {v : Value} {n : Nat} {xs : List Value} {cur : Array Value} {ly : Nat × Nat} (h : w.ownsRow B e sz v n xs) (hj : w.heap[j]? = some (.cells cur e' ly)) (he : e ≠ e') : v.ownBlock ≠ some j := by
  rcases h.2 with ⟨rfl, _⟩ | ⟨k, cap, cu, rfl, hb, hk, r⟩
  · simp [Value.ownBlock]
  · simp only [Value.ownBlock, ne_eq, Option.some.injEq]
    rintro rfl
    rw [hk] at hj
    simp only [Option.some.injEq, Obj.cells.injEq] at hj
    exact he hj.2.1
theorem row_offMap {w : World} {B j : Nat} {e : TypeId} {sz : Nat} {v : Value} {n : Nat} {xs : List Value} {es : Array MapEntry} {c : Nat} (h : w.ownsRow B e sz v n xs) (hj : w.heap[j]? = some (.map es c)) : v.ownBlock ≠ some j := by
  rcases h.2 with ⟨rfl, _⟩ | ⟨k, cap, cu, rfl, hb, hk, r⟩
  · simp [Value.ownBlock]
  · simp only [Value.ownBlock, ne_eq, Option.some.injEq]
    rintro rfl
    rw [hk] at hj
    cases hj
theorem row_is {w : World} {B : Nat} {e : TypeId} {sz : Nat} {v : Value} {n : Nat} {xs : List Value} (h : w.ownsRow B e sz v n xs) {k : Nat} (hk : v.ownBlock = some k) : ∃ cur, w.heap[k]? = some (.cells cur e (0, 0)) := by
  rcases h.2 with ⟨rfl, _⟩ | ⟨j, cap, cu, rfl, hb, hj, r⟩
  · simp [Value.ownBlock] at hk
  · simp only [Value.ownBlock, Option.some.injEq] at hk
    subst hk
    exact ⟨cu, hj⟩


/-- one block that isn't the disk's turned -/
theorem Raw.grown {w w' : World} {B Z p : Nat} {g : Pg} {mk ml : Nat} {wv : Value} {nk nl : Nat} {row : Option Nat} (h : Raw w B Z p g mk ml wv nk nl) (hg : w.grownBy w' row) (hr : ∀ j, row = some j → j = Z ∧ ∃ cs, w.heap[j]? = some (.cells cs 5 (0, 0))) : Raw w' B Z p g mk ml wv nk nl := by
  have hZ : ∀ q, Blk w Z q → Blk w' Z q := fun q hq => hq.grown hg (fun k hk => by rw [(hr k hk).1]; exact hq.2.2)
  refine ⟨(hg.block p h.lt ?_).trans h.box, h.hp, h.hk, h.hl, h.ne, h.km.kept hg ?_, h.lm.kept hg ?_, fun z q hq => hZ q (h.kb z q hq), fun z q hq => hZ q (h.lb z q hq), h.row.kept hg ?_, fun x hx => hZ _ (h.wb x hx), h.hnl, h.ff, h.ix⟩
  · intro e
    obtain ⟨_, cs, hc⟩ := hr p e.symm
    rw [h.box] at hc
    simp only [Option.some.injEq, Obj.cells.injEq] at hc
    exact absurd hc.2.1 (by decide)
  · intro e
    obtain ⟨_, cs, hc⟩ := hr mk e.symm
    exact h.km.notCells hc rfl
  · intro e
    obtain ⟨_, cs, hc⟩ := hr ml e.symm
    exact h.lm.notCells hc rfl
  · by_cases e : wv.ownBlock = row
    · cases hrow : row with
      | none => exact .inl (by rw [e, hrow])
      | some j =>
        obtain ⟨_, cs, hc⟩ := hr j hrow
        exact .inr (row_off h.row hc (by decide))
    · exact .inr e
theorem Raw.later {w w' : World} {B Z p : Nat} {g : Pg} {mk ml : Nat} {wv : Value} {nk nl : Nat} (h : Raw w B Z p g mk ml wv nk nl) (hb : Below w.heap.size w w') : Raw w' B Z p g mk ml wv nk nl := h.grown (row := none) (grown_below hb none) (by simp)
theorem Raw.drewN {w : World} {B Z p : Nat} {g : Pg} {mk ml : Nat} {wv : Value} {nk nl : Nat} (h : Raw w B Z p g mk ml wv nk nl) (n : Nat) : Raw (w.drewN n) B Z p g mk ml wv nk nl := h.later (below_drew (Below.refl _ _) n)
theorem Raw.drew {w : World} {B Z p : Nat} {g : Pg} {mk ml : Nat} {wv : Value} {nk nl : Nat} (h : Raw w B Z p g mk ml wv nk nl) : Raw w.drew B Z p g mk ml wv nk nl := h.later (Below.refl _ _).drew
theorem Raw.other {w : World} {B Z p : Nat} {g : Pg} {mk ml : Nat} {wv : Value} {nk nl : Nat} {Z' : Nat} (h : Raw w B Z p g mk ml wv nk nl) (hz : w.heap.size ≤ Z') : Raw w B Z' p g mk ml wv nk nl :=
  ⟨h.box, h.hp, h.hk, h.hl, h.ne, h.km, h.lm, fun z q hq => (h.kb z q hq).other hz, fun z q hq => (h.lb z q hq).other hz, h.row, fun x hx => (h.wb x hx).other hz, h.hnl, h.ff, h.ix⟩
theorem Raw.offP {w : World} {B Z p : Nat} {g : Pg} {mk ml : Nat} {wv : Value} {nk nl : Nat} (h : Raw w B Z p g mk ml wv nk nl) : ∀ k, some p = some k → B ≤ k ∧ ∀ (arr : Array Value) (ty : TypeId) (ly : Nat × Nat), w.heap[k]? = some (.cells arr ty ly) → ty = 57 ∨ ty = 67 := by
  intro k e
  obtain rfl : p = k := Option.some.inj e
  refine ⟨h.hp, fun arr ty ly hc => ?_⟩
  rw [h.box] at hc
  simp only [Option.some.injEq, Obj.cells.injEq] at hc
  exact .inl hc.2.1.symm
/-- the disk's own struct turned -/
theorem Raw.boxed {w w' : World} {B Z p : Nat} {g : Pg} {mk ml : Nat} {wv : Value} {nk nl : Nat} {f' : Int} {u' : Bool} {fl' : Int} {g' : Pg} (h : Raw w B Z p g mk ml wv nk nl) (hg : w.grownBy w' (some p)) (hb : w'.heap[p]? = some (.cells (pbox g.n mk ml wv f' u' fl') 57 (0, 0))) (hf : -1 ≤ f' ∧ f' ≤ 9223372036854775807) (hg' : g' = { g with fuse := f', up := u', falls := fl' }) :
    Raw w' B Z p g' mk ml wv nk nl ∧ Soft B w w' := by
  subst hg'
  have hs : Soft B w w' := Soft.grown hg h.size h.offP
  exact ⟨⟨hb, h.hp, h.hk, h.hl, h.ne, h.km.kept hg (fun e => h.km.notCells h.box (Option.some.inj e)), h.lm.kept hg (fun e => h.lm.notCells h.box (Option.some.inj e)), fun z q hq => (h.kb z q hq).soft hs, fun z q hq => (h.lb z q hq).soft hs, h.row.kept hg (.inr (row_off h.row h.box (by decide))), fun x hx => (h.wb x hx).soft hs, h.hnl, hf, h.ix⟩, hs⟩
theorem grown_set (w : World) (p i : Nat) (v : Value) : w.grownBy (w.setCell ⟨p, i, none⟩ v) (some p) := ⟨rfl, rfl, rfl, by simp, fun j _ hj => heap_setCell_other w ⟨p, i, none⟩ j _ (fun e => hj (by simp [e]))⟩
theorem Raw.setFuse {w : World} {B Z p : Nat} {g : Pg} {mk ml : Nat} {wv : Value} {nk nl : Nat} (h : Raw w B Z p g mk ml wv nk nl) (f : Int) (hf : -1 ≤ f ∧ f ≤ 9223372036854775807) : Raw (w.setCell ⟨p, 4, none⟩ (.int .i64 f)) B Z p { g with fuse := f } mk ml wv nk nl ∧ Soft B w (w.setCell ⟨p, 4, none⟩ (.int .i64 f)) :=
  h.boxed (grown_set w p 4 _) (by rw [heap_setCell_same w p 4 _ 57 _ h.box]; rfl) hf rfl
theorem Raw.setUp {w : World} {B Z p : Nat} {g : Pg} {mk ml : Nat} {wv : Value} {nk nl : Nat} (h : Raw w B Z p g mk ml wv nk nl) (u : Bool) : Raw (w.setCell ⟨p, 5, none⟩ (.bool u)) B Z p { g with up := u } mk ml wv nk nl ∧ Soft B w (w.setCell ⟨p, 5, none⟩ (.bool u)) :=
  h.boxed (grown_set w p 5 _) (by rw [heap_setCell_same w p 5 _ 57 _ h.box]; rfl) h.ff rfl
theorem Raw.setFalls {w : World} {B Z p : Nat} {g : Pg} {mk ml : Nat} {wv : Value} {nk nl : Nat} (h : Raw w B Z p g mk ml wv nk nl) (f : Int) : Raw (w.setCell ⟨p, 6, none⟩ (.int .i64 f)) B Z p { g with falls := f } mk ml wv nk nl ∧ Soft B w (w.setCell ⟨p, 6, none⟩ (.int .i64 f)) :=
  h.boxed (grown_set w p 6 _) (by rw [heap_setCell_same w p 6 _ 57 _ h.box]; rfl) h.ff rfl
/-- nothing is last, and nothing waits any more -/
theorem Raw.forget {w w' : World} {B Z p : Nat} {g : Pg} {mk ml : Nat} {wv : Value} {nk nl : Nat} {ml' : Nat} (h : Raw w B Z p g mk ml wv nk nl) (hg : w.grownBy w' (some p)) (hb : w'.heap[p]? = some (.cells (pbox g.n mk ml' (.slice none 0 0) g.fuse g.up g.falls) 57 (0, 0))) (hl : VMap w' ml' 0 (fun _ => none)) (hn : w.heap.size ≤ ml') :
    Raw w' B Z p { g with last := fun _ => none, waits := [] } mk ml' (.slice none 0 0) nk 0 ∧ Soft B w w' := by
  have hs : Soft B w w' := Soft.grown hg h.size h.offP
  refine ⟨⟨hb, h.hp, h.hk, ?_, ?_, h.km.kept hg (fun e => h.km.notCells h.box (Option.some.inj e)), hl, fun z q hq => (h.kb z q hq).soft hs, fun z q hq => (by cases hq), World.ownsRow_nil _ _ _ _, fun x hx => (by cases hx), Nat.le_refl _, h.ff, fun x hx => (by cases hx)⟩, hs⟩
  · have := h.size; omega
  · have := h.km.lt; omega
/-- one more write waits -/
theorem Raw.push {w w' : World} {B Z p : Nat} {g : Pg} {mk ml : Nat} {wv : Value} {nk nl : Nat} {w1 : World} {wv' : Value} {x : Int × Pb} (h : Raw w B Z p g mk ml wv nk nl) (hx : Blk w Z x.2) (hxw : (Lit.int .i64 x.1).wf = true) (hr : w1.ownsRow B 67 2 wv' (g.waits ++ [x]).length ((g.waits ++ [x]).flatMap wcells)) (hg1 : w.grownBy w1 wv.ownBlock) (hg2 : w1.grownBy w' (some p)) (hb : w'.heap[p]? = some (.cells (pbox g.n mk ml wv' g.fuse g.up g.falls) 57 (0, 0))) :
    Raw w' B Z p { g with waits := g.waits ++ [x] } mk ml wv' nk nl ∧ Soft B w w' := by
  have hs1 : Soft B w w1 := Soft.grown hg1 h.size fun k hk => ⟨(h.row.lt k hk).1, fun arr ty ly hc => by
    obtain ⟨cur, h1⟩ := row_is h.row hk
    rw [h1] at hc
    simp only [Option.some.injEq, Obj.cells.injEq] at hc
    exact .inr hc.2.1.symm⟩
  have hbx : w1.heap[p]? = some (.cells (pbox g.n mk ml wv g.fuse g.up g.falls) 57 (0, 0)) := (hg1.block p h.lt (fun e => row_off h.row h.box (by decide) e.symm)).trans h.box
  have hs2 : Soft B w1 w' := Soft.grown hg2 (by have := h.size; have := hg1.size; omega) fun k e => by
    obtain rfl : p = k := Option.some.inj e
    refine ⟨h.hp, fun arr ty ly hc => ?_⟩
    rw [hbx] at hc
    simp only [Option.some.injEq, Obj.cells.injEq] at hc
    exact .inl hc.2.1.symm
  have hs := hs1.trans hs2
  have k1 : VMap w1 mk nk (fun z => (g.kept z).map fun q => bval q.k) := h.km.kept hg1 (fun e => by obtain ⟨es, c, hm⟩ := h.km.isMap; exact row_offMap h.row hm e.symm)
  have l1 : VMap w1 ml nl (fun z => (g.last z).map fun q => bval q.k) := h.lm.kept hg1 (fun e => by obtain ⟨es, c, hm⟩ := h.lm.isMap; exact row_offMap h.row hm e.symm)
  refine ⟨⟨hb, h.hp, h.hk, h.hl, h.ne, k1.kept hg2 (fun e => k1.notCells hbx (Option.some.inj e)), l1.kept hg2 (fun e => l1.notCells hbx (Option.some.inj e)), fun z q hq => (h.kb z q hq).soft hs, fun z q hq => (h.lb z q hq).soft hs, hr.kept hg2 (.inr (row_off hr hbx (by decide))), fun y hy => ?_, ?_, h.ff, fun y hy => ?_⟩, hs⟩
  · rcases List.mem_append.1 hy with hy | hy
    · exact (h.wb y hy).soft hs
    · rw [List.mem_singleton.1 hy]; exact hx.soft hs
  · have := h.hnl
    simp
    omega
  · rcases List.mem_append.1 hy with hy | hy
    · exact h.ix y hy
    · rw [List.mem_singleton.1 hy]; exact hxw
theorem offMap {w : World} {b n : Nat} {f : Int → Option Value} {B : Nat} (h : VMap w b n f) (hB : B ≤ b) : ∀ k, some b = some k → B ≤ k ∧ ∀ (arr : Array Value) (ty : TypeId) (ly : Nat × Nat), w.heap[k]? = some (.cells arr ty ly) → ty = 57 ∨ ty = 67 := by
  intro k e
  obtain rfl : b = k := Option.some.inj e
  exact ⟨hB, fun arr ty ly hc => absurd rfl (h.notCells hc)⟩
theorem putV_map (f : Int → Option Pb) (z : Int) (q : Pb) : putV (fun z => (f z).map fun q => bval q.k) z (bval q.k) = fun y => (putV f z q y).map fun q => bval q.k := by
  funext y
  unfold putV
  by_cases e : z = y
  · rw [if_pos e, if_pos e]; rfl
  · rw [if_neg e, if_neg e]
/-- a block is the last -/
theorem Raw.putL {w w' : World} {B Z p : Nat} {g : Pg} {mk ml : Nat} {wv : Value} {nk nl : Nat} {k : Int} {q : Pb} (h : Raw w B Z p g mk ml wv nk nl) (hq : Blk w Z q) (hn : nl < g.waits.length) (hm : VMap w' ml (nl + 1) (putV (fun z => (g.last z).map fun q => bval q.k) k (bval q.k))) (hg : w.grownBy w' (some ml)) :
    Raw w' B Z p { g with last := putV g.last k q } mk ml wv nk (nl + 1) ∧ Soft B w w' := by
  have hs : Soft B w w' := Soft.grown hg h.size (offMap h.lm h.hl)
  rw [putV_map] at hm
  refine ⟨⟨(hg.block p h.lt (fun e => h.lm.notCells h.box (Option.some.inj e).symm)).trans h.box, h.hp, h.hk, h.hl, h.ne, h.km.kept hg (fun e => h.ne (Option.some.inj e)), hm, fun z q hq => (h.kb z q hq).soft hs, fun z y hy => ?_, h.row.kept hg (.inr (fun e => by obtain ⟨es, c, hm⟩ := h.lm.isMap; exact row_offMap h.row hm e)), fun x hx => (h.wb x hx).soft hs, hn, h.ff, h.ix⟩, hs⟩
  change putV g.last k q z = some y at hy
  unfold putV at hy
  split at hy
  · cases hy; exact hq.soft hs
  · exact (h.lb z y hy).soft hs
/-- a block is kept -/
theorem Raw.putK {w w' : World} {B Z p : Nat} {g : Pg} {mk ml : Nat} {wv : Value} {nk nl : Nat} {k : Int} {q : Pb} (h : Raw w B Z p g mk ml wv nk nl) (hq : Blk w Z q) (hm : VMap w' mk (nk + 1) (putV (fun z => (g.kept z).map fun q => bval q.k) k (bval q.k))) (hg : w.grownBy w' (some mk)) :
    Raw w' B Z p { g with kept := putV g.kept k q } mk ml wv (nk + 1) nl ∧ Soft B w w' := by
  have hs : Soft B w w' := Soft.grown hg h.size (offMap h.km h.hk)
  rw [putV_map] at hm
  refine ⟨⟨(hg.block p h.lt (fun e => h.km.notCells h.box (Option.some.inj e).symm)).trans h.box, h.hp, h.hk, h.hl, h.ne, hm, h.lm.kept hg (fun e => h.ne (Option.some.inj e).symm), fun z y hy => ?_, fun z q hq => (h.lb z q hq).soft hs, h.row.kept hg (.inr (fun e => by obtain ⟨es, c, hm⟩ := h.km.isMap; exact row_offMap h.row hm e)), fun x hx => (h.wb x hx).soft hs, h.hnl, h.ff, h.ix⟩, hs⟩
  change putV g.kept k q z = some y at hy
  unfold putV at hy
  split at hy
  · cases hy; exact hq.soft hs
  · exact (h.kb z y hy).soft hs
/-- what the walk reads of it -/
theorem Raw.cells {w : World} {B Z p : Nat} {g : Pg} {mk ml : Nat} {wv : Value} {nk nl : Nat} (h : Raw w B Z p g mk ml wv nk nl) : w.cell? ⟨p, 0, none⟩ = some (.int .i64 g.n) ∧ w.cell? ⟨p, 1, none⟩ = some (.map (some mk)) ∧ w.cell? ⟨p, 2, none⟩ = some (.map (some ml)) ∧ w.cell? ⟨p, 3, none⟩ = some wv ∧ w.cell? ⟨p, 4, none⟩ = some (.int .i64 g.fuse) ∧ w.cell? ⟨p, 5, none⟩ = some (.bool g.up) ∧ w.cell? ⟨p, 6, none⟩ = some (.int .i64 g.falls) :=
  ⟨cell_of_row w p 0 _ 57 _ h.box, cell_of_row w p 1 _ 57 _ h.box, cell_of_row w p 2 _ 57 _ h.box, cell_of_row w p 3 _ 57 _ h.box, cell_of_row w p 4 _ 57 _ h.box, cell_of_row w p 5 _ 57 _ h.box, cell_of_row w p 6 _ 57 _ h.box⟩
theorem Raw.free {w : World} {B Z p : Nat} {g : Pg} {mk ml : Nat} {wv : Value} {nk nl : Nat} (h : Raw w B Z p g mk ml wv nk nl) (i : Nat) : w.frozen? ⟨p, i, none⟩ = false := frozen_of_row w p i _ 57 h.box
end Go.Proofs.Ytklfpoojpfomeaa.Key
