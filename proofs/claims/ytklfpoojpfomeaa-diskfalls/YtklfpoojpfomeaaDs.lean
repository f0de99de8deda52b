/-
  A step of both disks: what lies in memory.
-/
import Derived.Test.YtklfpoojpfomeaaDh
import Derived.Test.YtklfpoojpfomeaaOp
import Derived.Test.YtklfpoojpfomeaaPi
namespace Go.Proofs.Ytklfpoojpfomeaa.Key
open Go.RowKit Draw Go.Maps
set_option linter.unusedVariables false
set_option linter.unusedSimpArgs false
/-- 'Soft', but that a block of bytes may turn too -/
structure Soft5 (B : Nat) (w w' : World) : Prop where
  below : Below B w w'
  old : ∀ (b : Nat) (arr : Array Value) (ty : TypeId) (ly : Nat × Nat), w.heap[b]? = some (.cells arr ty ly) → ty ≠ 57 → ty ≠ 67 → ty ≠ 5 → w'.heap[b]? = some (.cells arr ty ly)
theorem Soft5.refl (B : Nat) (w : World) : Soft5 B w w := ⟨Below.refl _ _, fun _ _ _ _ h _ _ _ => h⟩
theorem Soft5.trans {B : Nat} {a b c : World} (h : Soft5 B a b) (k : Soft5 B b c) : Soft5 B a c := ⟨h.below.trans k.below, fun i arr ty ly hi h1 h2 h3 => k.old i arr ty ly (h.old i arr ty ly hi h1 h2 h3) h1 h2 h3⟩
theorem Soft.five {B : Nat} {w w' : World} (h : Soft B w w') : Soft5 B w w' := ⟨h.below, fun i arr ty ly hi h1 h2 _ => h.old i arr ty ly hi h1 h2⟩
theorem Soft5.new {B : Nat} {w w' : World} (h : Below w.heap.size w w') (hB : B ≤ w.heap.size) : Soft5 B w w' := (Soft.new h hB).five
theorem Soft5.bytes {B : Nat} {w w' : World} {Z : Nat} {cs : Array Value} {ly0 : Nat × Nat} (hg : w.grownBy w' (some Z)) (hB : B ≤ w.heap.size) (hZ : B ≤ Z) (hc : w.heap[Z]? = some (.cells cs 5 ly0)) : Soft5 B w w' :=
  ⟨(Below.refl B w).grown hg hB fun k hk => (by cases hk; exact hZ), fun i arr ty ly hi _ _ h3 => (hg.block i (Array.getElem?_eq_some_iff.1 hi).1 (fun e => by
    have e : i = Z := Option.some.inj e
    subst e
    rw [hc] at hi
    simp only [Option.some.injEq, Obj.cells.injEq] at hi
    exact h3 hi.2.1.symm)).trans hi⟩
theorem Soft5.at {B : Nat} {w u u' : World} {b : Nat} (h : Soft5 B w u) (hB : B ≤ w.heap.size) (hb : w.heap.size ≤ b) (hg : u.grownBy u' (some b)) : Soft5 B w u' := by
  have hs := h.below.size
  refine ⟨h.below.grown hg (by omega) (fun k hk => by cases hk; omega), fun i arr ty ly hi h1 h2 h3 => ?_⟩
  have hu := h.old i arr ty ly hi h1 h2 h3
  have hlt := (Array.getElem?_eq_some_iff.1 hi).1
  exact (hg.block i (Array.getElem?_eq_some_iff.1 hu).1 (fun e => by have := Option.some.inj e; omega)).trans hu
theorem Soft5.drew {B : Nat} {w w' : World} (h : Soft5 B w w') : Soft5 B w w'.drew := ⟨h.below.drew, h.old⟩
theorem Soft5.later {B : Nat} {w u u' : World} (h : Soft5 B w u) (hb : Below u.heap.size u u') (hB : B ≤ u.heap.size) : Soft5 B w u' := h.trans (Soft5.new hb hB)
theorem DB.five {w' : World} {B : Nat} {w : World} {b : Nat} {n : Int} {k wv : Value} {dn : Bool} {fl fu : Int} (h : DB w b n k wv dn fl fu) (hs : Soft5 B w w') : DB w' b n k wv dn fl fu := hs.old b _ 31 _ h (by decide) (by decide) (by decide)
theorem Wrs.five {w w' : World} {B : Nat} {a : Option Addr} {l : List Wr} (h : Wrs w a l) (hs : Soft5 B w w') : Wrs w' a l := h.keep fun b arr ly hb => hs.old b arr 51 ly hb (by decide) (by decide) (by decide)
theorem DLies.five {w w' : World} {B : Nat} {d : Dk} {ka wa : Option Addr} (h : DLies w d ka wa) (hs : Soft5 B w w') : DLies w' d ka wa := ⟨h.1.five hs, h.2.five hs⟩
theorem DLies.beside {w' : World} {b : Nat} {w : World} {n : Int} {k wv : Value} {dn : Bool} {fl fu : Int} {d : Dk} {ka wa : Option Addr} (h : DLies w d ka wa) (hb : DB w b n k wv dn fl fu) (hg : w.grownBy w' (some b)) : DLies w' d ka wa := ⟨h.1.beside hb hg, h.2.beside hb hg⟩
/-- a step by value, and a block that holds one -/
abbrev sv (x : St) : Value := .agg #[.int .i64 x.kind, .int .i64 x.ix, .slice x.ab x.b.length x.cb, .slice x.ak x.keep.length x.ck, .int .i64 x.torn]
abbrev scs (kd ix : Int) (bv kv : Value) (tn : Int) : Array Value := #[.int .i64 kd, .int .i64 ix, bv, kv, .int .i64 tn]
def SB (w : World) (b : Nat) (kd ix : Int) (bv kv : Value) (tn : Int) : Prop := w.heap[b]? = some (.cells (scs kd ix bv kv tn) 37 (0, 0))
theorem SB.later {w w' : World} {b : Nat} {kd ix : Int} {bv kv : Value} {tn : Int} (h : SB w b kd ix bv kv tn) (hb : Below w.heap.size w w') : SB w' b kd ix bv kv tn := (hb.block b (Array.getElem?_eq_some_iff.1 h).1).trans h
theorem SB.five {w w' : World} {B b : Nat} {kd ix : Int} {bv kv : Value} {tn : Int} (h : SB w b kd ix bv kv tn) (hs : Soft5 B w w') : SB w' b kd ix bv kv tn := hs.old b _ 37 _ h (by decide) (by decide) (by decide)
theorem SB.cells {w : World} {b : Nat} {kd ix : Int} {bv kv : Value} {tn : Int} (h : SB w b kd ix bv kv tn) : w.cell? ⟨b, 0, none⟩ = some (.int .i64 kd) ∧ w.cell? ⟨b, 1, none⟩ = some (.int .i64 ix) ∧ w.cell? ⟨b, 2, none⟩ = some bv ∧ w.cell? ⟨b, 3, none⟩ = some kv ∧ w.cell? ⟨b, 4, none⟩ = some (.int .i64 tn) :=
  ⟨cell_of_row w b 0 _ 37 _ h, cell_of_row w b 1 _ 37 _ h, cell_of_row w b 2 _ 37 _ h, cell_of_row w b 3 _ 37 _ h, cell_of_row w b 4 _ 37 _ h⟩
theorem boxes3 (w : World) (n : Int) (k wv : Value) (dn : Bool) (fl fu : Int) (kd ix : Int) (bv kv : Value) (tn : Int) :
    DB (((w.alloc (.cells #[.int .i64 n, k, wv, .bool dn, .int .i64 fl, .int .i64 fu] 31)).alloc (.cells #[.int .i64 kd, .int .i64 ix, bv, kv, .int .i64 tn] 37)).alloc (.cells #[.int .i64 0, .slice none 0 0, .slice none 0 0, .bool false, .int .i64 0, .int .i64 0] 31)) w.heap.size n k wv dn fl fu ∧
    SB (((w.alloc (.cells #[.int .i64 n, k, wv, .bool dn, .int .i64 fl, .int .i64 fu] 31)).alloc (.cells #[.int .i64 kd, .int .i64 ix, bv, kv, .int .i64 tn] 37)).alloc (.cells #[.int .i64 0, .slice none 0 0, .slice none 0 0, .bool false, .int .i64 0, .int .i64 0] 31)) (w.heap.size + 1) kd ix bv kv tn ∧
    DB (((w.alloc (.cells #[.int .i64 n, k, wv, .bool dn, .int .i64 fl, .int .i64 fu] 31)).alloc (.cells #[.int .i64 kd, .int .i64 ix, bv, kv, .int .i64 tn] 37)).alloc (.cells #[.int .i64 0, .slice none 0 0, .slice none 0 0, .bool false, .int .i64 0, .int .i64 0] 31)) (w.heap.size + 1 + 1) 0 (.slice none 0 0) (.slice none 0 0) false 0 0 ∧
    Below w.heap.size w (((w.alloc (.cells #[.int .i64 n, k, wv, .bool dn, .int .i64 fl, .int .i64 fu] 31)).alloc (.cells #[.int .i64 kd, .int .i64 ix, bv, kv, .int .i64 tn] 37)).alloc (.cells #[.int .i64 0, .slice none 0 0, .slice none 0 0, .bool false, .int .i64 0, .int .i64 0] 31)) := by
  have b0 := below_box w (.cells #[.int .i64 n, k, wv, .bool dn, .int .i64 fl, .int .i64 fu] 31)
  have T1 : DB (w.alloc (.cells #[.int .i64 n, k, wv, .bool dn, .int .i64 fl, .int .i64 fu] 31)) w.heap.size n k wv dn fl fu := Go.heap_alloc_new _ _
  have z1 : (w.alloc (.cells #[.int .i64 n, k, wv, .bool dn, .int .i64 fl, .int .i64 fu] 31)).heap.size = w.heap.size + 1 := World.size_alloc _ _
  generalize w.alloc (.cells #[.int .i64 n, k, wv, .bool dn, .int .i64 fl, .int .i64 fu] 31) = w1 at *
  have b1 := below_box w1 (.cells #[.int .i64 kd, .int .i64 ix, bv, kv, .int .i64 tn] 37)
  have T2 : SB (w1.alloc (.cells #[.int .i64 kd, .int .i64 ix, bv, kv, .int .i64 tn] 37)) w1.heap.size kd ix bv kv tn := Go.heap_alloc_new _ _
  have z2 : (w1.alloc (.cells #[.int .i64 kd, .int .i64 ix, bv, kv, .int .i64 tn] 37)).heap.size = w1.heap.size + 1 := World.size_alloc _ _
  generalize w1.alloc (.cells #[.int .i64 kd, .int .i64 ix, bv, kv, .int .i64 tn] 37) = w2 at *
  have b2 := below_box w2 (.cells #[.int .i64 0, .slice none 0 0, .slice none 0 0, .bool false, .int .i64 0, .int .i64 0] 31)
  have T3 : DB (w2.alloc (.cells #[.int .i64 0, .slice none 0 0, .slice none 0 0, .bool false, .int .i64 0, .int .i64 0] 31)) w2.heap.size 0 (.slice none 0 0) (.slice none 0 0) false 0 0 := Go.heap_alloc_new _ _
  rw [z1] at T2 z2
  rw [z2] at T3
  exact ⟨(T1.later b1).later b2, T2.later b2, T3, b0.trans ((b1.mono b0.size).trans (b2.mono (by omega)))⟩
/-- own bytes: where they lie -/
theorem own_z {w : World} {base : Nat} {v : Value} {zs : List Int} (h : Own w base v zs) (hb : base < w.heap.size) : ∃ a c Z, v = .slice a zs.length c ∧ Bytes w a zs ∧ (a = none → zs.length = 0 ∧ c = 0) ∧ base ≤ Z ∧ Z < w.heap.size ∧ (zs.length = 0 ∨ (a = some ⟨Z, 0, none⟩ ∧ ∃ cur, w.heap[Z]? = some (.cells cur 5 (0, 0)) ∧ zs.length ≤ cur.size)) := by
  obtain ⟨a, c, hv, hby, hn, _, _⟩ := h.form
  rcases h.2 with ⟨_, h0⟩ | ⟨g, cap, cur, hv2, hbg, hg, hcap, _, hsz, _⟩
  · exact ⟨a, c, base, hv, hby, hn, Nat.le_refl _, hb, .inl h0⟩
  · rw [hv] at hv2
    cases hv2
    exact ⟨some ⟨g, 0, none⟩, c, g, hv, hby, hn, hbg, (Array.getElem?_eq_some_iff.1 hg).1, .inr ⟨rfl, cur, hg, by rw [hsz]; omega⟩⟩
/-- a block of another type turned -/
theorem Raw.side {w w' : World} {B Z p : Nat} {g : Pg} {mk ml : Nat} {wv : Value} {nk nl : Nat} {r : Nat} {cs : Array Value} {ty : TypeId} {ly : Nat × Nat} (h : Raw w B Z p g mk ml wv nk nl) (hr : w.heap[r]? = some (.cells cs ty ly)) (h1 : ty ≠ 57) (h2 : ty ≠ 67) (h3 : ty ≠ 5) (hg : w.grownBy w' (some r)) : Raw w' B Z p g mk ml wv nk nl := by
  have hcl : ∀ (j : Nat) (arr : Array Value) (t : TypeId) (y : Nat × Nat), w.heap[j]? = some (.cells arr t y) → t ≠ ty → some j ≠ some r := by
    intro j arr t y hj ht e
    obtain rfl := Option.some.inj e
    rw [hr] at hj
    simp only [Option.some.injEq, Obj.cells.injEq] at hj
    exact ht hj.2.1.symm
  have hmp : ∀ (j n : Nat) (f : Int → Option Value), VMap w j n f → some j ≠ some r := by
    intro j n f hv e
    obtain rfl := Option.some.inj e
    exact hv.notCells hr rfl
  have hbl : ∀ q, Blk w Z q → Blk w' Z q := fun q hq => hq.grown hg (fun k hk e => hcl _ _ _ _ hq.1 (fun e => h3 e.symm) (by rw [e, hk]))
  refine ⟨(hg.block p h.lt (hcl p _ _ _ h.box (fun e => h1 e.symm))).trans h.box, h.hp, h.hk, h.hl, h.ne, h.km.kept hg (hmp _ _ _ h.km), h.lm.kept hg (hmp _ _ _ h.lm), fun z q hq => hbl q (h.kb z q hq), fun z q hq => hbl q (h.lb z q hq), h.row.kept hg (.inr fun e => ?_), fun x hx => hbl _ (h.wb x hx), h.hnl, h.ff, h.ix⟩
  obtain ⟨cur, hc⟩ := row_is h.row e
  exact hcl _ _ _ _ hc (fun e => h2 e.symm) rfl
theorem Raw.toP {w : World} {B Z p : Nat} {g : Pg} {mk ml : Nat} {wv : Value} {nk nl : Nat} (h : Raw w B Z p g mk ml wv nk nl) : Raw w B p p g mk ml wv nk nl := by
  have hbl : ∀ q, Blk w Z q → Blk w p q := fun q hq => ⟨hq.1, hq.2.1, fun e => by
    have hq1 := hq.1
    rw [e, h.box] at hq1
    simp only [Option.some.injEq, Obj.cells.injEq] at hq1
    exact absurd hq1.2.1 (by decide)⟩
  exact ⟨h.box, h.hp, h.hk, h.hl, h.ne, h.km, h.lm, fun z q hq => hbl q (h.kb z q hq), fun z q hq => hbl q (h.lb z q hq), h.row, fun x hx => hbl _ (h.wb x hx), h.hnl, h.ff, h.ix⟩
theorem Dsk.side {w w' : World} {B Z p : Nat} {d : Dk} {m : Nat} {b : Nat} {n : Int} {k wv : Value} {dn : Bool} {fl fu : Int} (h : Dsk w B Z p d m) (hb : DB w b n k wv dn fl fu) (hg : w.grownBy w' (some b)) : Dsk w' B Z p d m := by
  obtain ⟨g, mk, ml, wv, nk, nl, h1, h2⟩ := h
  exact ⟨g, mk, ml, wv, nk, nl, h1.side hb (by decide) (by decide) (by decide) hg, h2⟩
theorem Dsk.toP {w : World} {B Z p : Nat} {d : Dk} {m : Nat} (h : Dsk w B Z p d m) : Dsk w B p p d m := by
  obtain ⟨g, mk, ml, wv, nk, nl, h1, h2⟩ := h
  exact ⟨g, mk, ml, wv, nk, nl, h1.toP, h2⟩
theorem Dsk.drew {w : World} {B Z p : Nat} {d : Dk} {m : Nat} (h : Dsk w B Z p d m) : Dsk w.drew B Z p d m := h.later (Below.refl _ _).drew
/-- a step of the document's disk -/
def stepD (d : Dk) (x : St) : Dk :=
  if x.kind = 0 then (writeD d x.ix x.b).2 else if x.kind = 1 then (if d.down = true then d else barrierD d) else if x.kind = 2 then { d with fuse := max x.ix 0 } else if x.kind = 3 then fallD d else if x.kind = 4 then backD d x.keep x.torn x.ix else d
end Go.Proofs.Ytklfpoojpfomeaa.Key
