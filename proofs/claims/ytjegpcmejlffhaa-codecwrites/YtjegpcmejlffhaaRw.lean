/-
  Blocks of cells ('Row'), a reader's steps ('Rdr'), and lists of the call's own that are appended to one by one.
  Lists of pairs, texts, edges and messages of the call's own.
  Appends to such lists, kind by kind.
  Contracts of the program's reader of nodes: key, count, edge.
-/
import Derived.Test.YtjegpcmejlffhaaPn
import Derived.Test.YtjegpcmejlffhaaPk
namespace Go.Proofs.Ytjegpcmejlffhaa.Cod
set_option linter.unusedSimpArgs false
set_option linter.unusedVariables false
open Go.RowKit
open Key (M E Pr Nd Pl nv Lies mayI)

theorem hid {p : Prop} (h : p) : Hid p := h
/-- a block of these cells -/
def Row (w : World) (k : Nat) (C : Array Value) (t : TypeId) : Prop := w.heap[k]? = some (.cells C t (0, 0))
theorem Row.new (w : World) (C : Array Value) (t : TypeId) : Row (w.alloc (.cells C t)) w.heap.size C t := Go.heap_alloc_new _ _
theorem Row.lt {w : World} {k : Nat} {C : Array Value} {t : TypeId} (h : Row w k C t) : k < w.heap.size := (Array.getElem?_eq_some_iff.1 h).1
theorem Row.later {w w' : World} {k : Nat} {C : Array Value} {t : TypeId} (h : Row w k C t) (hb : Below w.heap.size w w') : Row w' k C t := (hb.block k h.lt).trans h
theorem Row.alloc {w : World} {k : Nat} {C : Array Value} {t : TypeId} (h : Row w k C t) (o : Obj) : Row (w.alloc o) k C t := h.later ((Below.refl _ _).alloc (Nat.le_refl _) o)
theorem Row.grown {w w' : World} {k : Nat} {C : Array Value} {t : TypeId} {r : Option Nat} (h : Row w k C t) (hg : w.grownBy w' r) (hne : some k ≠ r) : Row w' k C t := (hg.block k h.lt hne).trans h
theorem Row.set {w : World} {k : Nat} {C : Array Value} {t : TypeId} (h : Row w k C t) (i : Nat) (v : Value) : Row (w.setCell ⟨k, i, none⟩ v) k (C.setIfInBounds i v) t := heap_setCell_same w k i _ t v h
theorem Row.beside {w : World} {k k' : Nat} {C : Array Value} {t : TypeId} (h : Row w k C t) (i : Nat) (v : Value) (hne : k ≠ k') : Row (w.setCell ⟨k', i, none⟩ v) k C t := (heap_setCell_other w ⟨k', i, none⟩ k v (fun e => hne (by simp [e]))).trans h
theorem Row.cell {w : World} {k : Nat} {C : Array Value} {t : TypeId} (h : Row w k C t) (i : Nat) : w.cell? ⟨k, i, none⟩ = C[i]? := cell_of_row _ _ i _ _ _ h
theorem Row.free {w : World} {k : Nat} {C : Array Value} {t : TypeId} (h : Row w k C t) (i : Nat) : w.frozen? ⟨k, i, none⟩ = false := frozen_of_row _ _ i _ _ h

/-- all but block k, and new ones, is as it was -/
theorem G.set {w u : World} {k b : Nat} (h : w.grownBy u (some k)) (hb : w.heap.size ≤ b) (i : Nat) (v : Value) : w.grownBy (u.setCell ⟨b, i, none⟩ v) (some k) :=
  ⟨h.os, h.tape, h.output, by simpa using h.size, fun j hj hne => (heap_setCell_other u ⟨b, i, none⟩ j v (fun e => by simp at e; omega)).trans (h.block j hj hne)⟩
theorem G.trans {w u u' : World} {k : Nat} (h : w.grownBy u (some k)) (h' : u.grownBy u' (some k)) : w.grownBy u' (some k) := Pack.grown_trans h h'
theorem G.below {w u u' : World} {k : Nat} (h : w.grownBy u (some k)) (h' : Below u.heap.size u u') : w.grownBy u' (some k) := Pack.grown_trans h (Pack.grown_below h' _)
theorem G.alloc {w u : World} {k : Nat} (h : w.grownBy u (some k)) (o : Obj) : w.grownBy (u.alloc o) (some k) := G.below h ((Below.refl _ _).alloc (Nat.le_refl _) o)
theorem G.of {w u : World} {k : Nat} (h : Below w.heap.size w u) : w.grownBy u (some k) := Pack.grown_below h _
/-- .. where k is new itself -/
theorem G.news {w u u' : World} {k : Nat} (h : Below w.heap.size w u) (hk : w.heap.size ≤ k) (h' : u.grownBy u' (some k)) : Below w.heap.size w u' := h.grown h' h.size fun j hj => by cases hj; exact hk

/-- a reader in memory -/
def Rdr (w : World) (B k : Nat) (zs : List Int) (s : St) : Prop := Pack.Rd w B k zs s.p s.e
theorem Rdr.later {w w' : World} {B k : Nat} {zs : List Int} {s : St} (h : Rdr w B k zs s) (hb : Below w.heap.size w w') : Rdr w' B k zs s := Pack.Rd.later h hb
theorem Rdr.alloc {w : World} {B k : Nat} {zs : List Int} {s : St} (h : Rdr w B k zs s) (o : Obj) : Rdr (w.alloc o) B k zs s := h.later ((Below.refl _ _).alloc (Nat.le_refl _) o)
theorem Rdr.lt {w : World} {B k : Nat} {zs : List Int} {s : St} (h : Rdr w B k zs s) : k < w.heap.size ∧ B ≤ k := Pack.Rd.lt h
theorem Rdr.set {w : World} {B k : Nat} {zs : List Int} {s : St} (h : Rdr w B k zs s) {b : Nat} (hb : k < b) (i : Nat) (v : Value) : Rdr (w.setCell ⟨b, i, none⟩ v) B k zs s :=
  Pack.Rd.grown h ⟨rfl, rfl, rfl, by simp, fun j _ hj => heap_setCell_other w ⟨b, i, none⟩ j v (fun e => hj (by simp [e]))⟩ (.inr hb)
theorem Rdr.row {w w' : World} {B k g : Nat} {zs : List Int} {s : St} (h : Rdr w B k zs s) (hg : w.grownBy w' (some g)) (hb : k < g) : Rdr w' B k zs s := Pack.Rd.grown h hg (.inr hb)
theorem Rdr.byt {w : World} {B k : Nat} {zs : List Int} {s : St} (h : Rdr w B k zs s) : Pack.Byt zs := by obtain ⟨_, _, _, _, hz, _⟩ := h; exact hz
theorem gV_lt {zs : List Int} (hz : Pack.Byt zs) (p : Nat) (e : Int) (s : Nat) : Pack.gV zs p e s < 256 ^ s := by
  unfold Pack.gV
  split
  · exact Pack.val_take_lt (hz.drop p) s
  · exact Nat.pow_pos (by omega)

theorem get8 {w : World} {B k : Nat} {zs : List Int} {s : St} (h : Rdr w B k zs s) :
    Calls Try.prog 42 #[.pointer (some ⟨k, 0, none⟩)] w fun x w' => ∃ (v : Nat) (s' : St), Hid (rNum 1 zs s = (v, s')) ∧ v < 256 ∧ x = .returned (.int .u8 (v : Int)) ∧ Rdr w' B k zs s' ∧ w.grownBy w' (some k) :=
  (Pack.Get_1 h).mono fun _ _ ⟨h1, h2, h3⟩ => ⟨_, ⟨_, _⟩, rfl, gV_lt h.byt _ _ 1, h1, h2, h3⟩
theorem get16 {w : World} {B k : Nat} {zs : List Int} {s : St} (h : Rdr w B k zs s) :
    Calls Try.prog 70 #[.pointer (some ⟨k, 0, none⟩)] w fun x w' => ∃ (v : Nat) (s' : St), Hid (rNum 2 zs s = (v, s')) ∧ v < 65536 ∧ x = .returned (.int .u16 (v : Int)) ∧ Rdr w' B k zs s' ∧ w.grownBy w' (some k) :=
  (Pack.Get_2 h).mono fun _ _ ⟨h1, h2, h3⟩ => ⟨_, ⟨_, _⟩, rfl, gV_lt h.byt _ _ 2, h1, h2, h3⟩
theorem get32 {w : World} {B k : Nat} {zs : List Int} {s : St} (h : Rdr w B k zs s) :
    Calls Try.prog 69 #[.pointer (some ⟨k, 0, none⟩)] w fun x w' => ∃ (v : Nat) (s' : St), Hid (rNum 4 zs s = (v, s')) ∧ v < 4294967296 ∧ x = .returned (.int .u32 (v : Int)) ∧ Rdr w' B k zs s' ∧ w.grownBy w' (some k) :=
  (Pack.Get_4 h).mono fun _ _ ⟨h1, h2, h3⟩ => ⟨_, ⟨_, _⟩, rfl, gV_lt h.byt _ _ 4, h1, h2, h3⟩
theorem getText {w : World} {B k : Nat} {zs : List Int} {s : St} (h : Rdr w B k zs s) (most : Int) :
    Calls Try.prog 56 #[.pointer (some ⟨k, 0, none⟩), .int .i64 most] w fun x w' => ∃ (v : ByteArray) (s' : St), Hid (rTxt most zs s = (v, s')) ∧ x = .returned (.string v) ∧ Rdr w' B k zs s' ∧ w.grownBy w' (some k) :=
  (Pack.GetText_any h most).mono fun _ _ ⟨h1, h2, h3⟩ => ⟨_, ⟨_, _⟩, rfl, h1, h2, h3⟩
theorem fail {w : World} {B k : Nat} {zs : List Int} {s : St} (h : Rdr w B k zs s) (x : Int) :
    Calls Try.prog 45 #[.pointer (some ⟨k, 0, none⟩), .int .i64 x] w fun y w' => y = .returned (.tuple #[]) ∧ Rdr w' B k zs (failS x s) ∧ w.grownBy w' (some k) := Pack.fail_any h x

/-- lists of the call's own: an element's cells, its size and type -/
structure Kd (α : Type) where
  f : α → List Value
  sz : Nat
  byt : Nat
  t : TypeId
  e : TypeId
  z : Value
  len : ∀ x, (f x).length = sz
  pos : 0 < sz
  und : Try.prog.underlying t = some (.slice e)
  info : (Try.prog.info? e).map (fun i => (i.zero, i.size, i.bytes)) = some (some z, sz, byt)
  zc : z.cells.size = sz
  small : byt ≤ 100
  one : ∀ x, ∀ u ∈ f x, u.oneCell' = true
def OwnL {α : Type} (S : Kd α) (w : World) (base : Nat) (v : Value) (l : List α) : Prop := w.ownsRow base S.e S.sz v l.length (l.flatMap S.f)
theorem OwnL.nil {α : Type} (S : Kd α) (w : World) (base : Nat) : OwnL S w base (.slice none 0 0) [] := World.ownsRow_nil _ _ _ _
theorem OwnL.later {α : Type} {S : Kd α} {w w' : World} {base : Nat} {v : Value} {l : List α} (h : OwnL S w base v l) (hb : Below w.heap.size w w') : OwnL S w' base v l :=
  World.ownsRow.kept (row := none) h ⟨hb.os, hb.tape, hb.output, hb.size, fun k hk _ => hb.block k hk⟩ (by cases hv : v.ownBlock <;> simp)
theorem OwnL.alloc {α : Type} {S : Kd α} {w : World} {base : Nat} {v : Value} {l : List α} (h : OwnL S w base v l) (o : Obj) : OwnL S (w.alloc o) base v l := h.later ((Below.refl _ _).alloc (Nat.le_refl _) o)
theorem OwnL.kept {α : Type} {S : Kd α} {w w' : World} {base k : Nat} {v : Value} {l : List α} (h : OwnL S w base v l) (hg : w.grownBy w' (some k)) (hk : k < base) : OwnL S w' base v l :=
  World.ownsRow.kept h hg (.inr fun e => by have := (World.ownsRow.lt h k e).1; omega)
theorem OwnL.set {α : Type} {S : Kd α} {w : World} {base k : Nat} {v : Value} {l : List α} (h : OwnL S w base v l) (hk : k < base) (i : Nat) (x : Value) : OwnL S (w.setCell ⟨k, i, none⟩ x) base v l :=
  h.kept (k := k) ⟨rfl, rfl, rfl, by simp, fun j _ hj => heap_setCell_other w ⟨k, i, none⟩ j x (fun e => hj (by simp [e]))⟩ hk
theorem OwnL.mono {α : Type} {S : Kd α} {w : World} {base base' : Nat} {v : Value} {l : List α} (h : OwnL S w base v l) (hb : base' ≤ base) : OwnL S w base' v l := by
  refine ⟨h.1, ?_⟩
  rcases h.2 with h | ⟨g, cap, cur, hv, hg, r⟩
  · exact .inl h
  · exact .inr ⟨g, cap, cur, hv, by omega, r⟩
theorem flat_len {α : Type} (f : α → List Value) (sz : Nat) (hf : ∀ x, (f x).length = sz) (l : List α) : (l.flatMap f).length = l.length * sz := by
  induction l with
  | nil => simp
  | cons x l ih =>
    rw [List.flatMap_cons, List.length_append, ih, hf, List.length_cons, Nat.add_mul]
    omega
theorem flat_at {α : Type} (f : α → List Value) (sz : Nat) (hf : ∀ x, (f x).length = sz) : ∀ (l : List α) (i : Nat) (h : i < l.length) (q : Nat), q < sz → (l.flatMap f)[i * sz + q]? = (f l[i])[q]?
  | [], i, h, _, _ => by simp at h
  | x :: l, 0, _, q, hq => by
    rw [List.flatMap_cons, List.getElem?_append_left (by rw [hf]; omega)]
    simp
  | x :: l, i + 1, h, q, hq => by
    have h' : i < l.length := by simpa using h
    rw [List.flatMap_cons, List.getElem?_append_right (by rw [hf, Nat.add_mul]; omega), hf, show (i + 1) * sz + q - sz = i * sz + q by rw [Nat.add_mul]; omega]
    exact flat_at f sz hf l i h' q hq
/-- where it lies -/
theorem OwnL.form {α : Type} {S : Kd α} {w : World} {base : Nat} {v : Value} {l : List α} (h : OwnL S w base v l) :
    ∃ a c, v = .slice a l.length c ∧ (a = none → l.length = 0 ∧ c = 0) ∧ l.length ≤ c ∧ (l = [] ∨ ∃ b, a = some ⟨b, 0, none⟩ ∧ ∀ i (_ : i < l.length) q u, q < S.sz → (S.f l[i])[q]? = some u → w.cell? ⟨b, 0 + i * S.sz + q, none⟩ = some u) := by
  have hc := fun g hg => World.ownsRow.cells h (g := g) hg
  rcases h.2 with ⟨rfl, h0⟩ | ⟨g, cap, cur, rfl, _, _, hcap, _, _, _⟩
  · have hy : l = [] := List.eq_nil_of_length_eq_zero h0
    subst hy
    exact ⟨none, 0, rfl, fun _ => ⟨rfl, rfl⟩, Nat.le_refl _, .inl rfl⟩
  · refine ⟨_, cap, rfl, (fun h => by cases h), hcap, .inr ⟨g, rfl, fun i hi q u hq hu => ?_⟩⟩
    have := hc g rfl (i * S.sz + q) u ((flat_at S.f S.sz S.len l i hi q hq).trans hu)
    rw [Pack.add_plain] at this
    rw [Nat.zero_add]
    rw [Nat.zero_add] at this
    exact this
theorem G.own {W u u' : World} {k : Nat} {r : Option Nat} (h : W.grownBy u (some k)) (hg : u.grownBy u' r) (hr : ∀ j, r = some j → W.heap.size ≤ j) : W.grownBy u' (some k) :=
  ⟨hg.os.trans h.os, hg.tape.trans h.tape, hg.output.trans h.output, Nat.le_trans h.size hg.size, fun i hi hne => (hg.block i (Nat.lt_of_lt_of_le hi h.size) (fun e => by have := hr i e.symm; omega)).trans (h.block i hi hne)⟩
theorem Rdr.own {w w' : World} {B k : Nat} {zs : List Int} {s : St} {r : Option Nat} (h : Rdr w B k zs s) (hg : w.grownBy w' r) (hr : ∀ j, r = some j → k < j) : Rdr w' B k zs s := by
  cases r with
  | none => exact h.later ⟨hg.os, hg.tape, hg.output, hg.size, fun i hi => hg.block i hi (by simp)⟩
  | some g => exact h.row hg (hr g rfl)
/-- 'out = append(out, x)', out of the call's own -/
theorem appL {α : Type} (S : Kd α) {w : World} {ops : Array Oper} {rest : List Oper} {o : Oper} {a : Act} {Q : Exit → Act → World → Prop} (hgd : o.guard = none) (s x : Operand)
    (ho : o.op = .call { callee := .builtin .append, args := #[s, x], argTypes := #[S.t, S.t] })
    (B : Nat) (v : Value) (l : List α) (hs : a.eval s = v) (hown : OwnL S w B v l) (m : α) (k : Nat) (hx : a.eval x = .slice (some ⟨k, 0, none⟩) 1 1) (hk : Row w k (S.f m).toArray S.e) (hsz : l.length ≤ 1000) (hB : B ≤ w.heap.size)
    (h : ∀ v' w', OwnL S w' B v' (l ++ [m]) → w.grownBy w' v.ownBlock → (∀ j, v.ownBlock = some j → B ≤ j) → wpList Try.prog ops Q rest (a.put o.dst v') w') : wpList Try.prog ops Q (o :: rest) a w := by
  obtain ⟨i0, hi, hz0, hz1, hz2⟩ := info_parts S.info
  refine wpList_append_own _ hgd s x S.t ho B S.e i0 S.z S.sz S.byt S.und hi hz0 hz1 hz2 S.zc S.pos v _ _ hs hown ⟨k, 0, none⟩ 1 1 (S.f m) hx (by rw [S.len, Nat.one_mul]) ?_ (S.one m) (by unfold maxLen; omega) ?_ hB ?_
  · intro j u hu
    rw [Pack.add_plain, Nat.zero_add, hk.cell]
    simpa using hu
  · exact Nat.le_trans (Nat.mul_le_mul (show l.length + 1 ≤ 1001 by omega) S.small) (by decide)
  · intro v' w' h1 h2 _
    refine h v' w' ?_ h2 fun j hj => (World.ownsRow.lt hown j hj).1
    unfold OwnL
    rw [List.length_append, List.flatMap_append, List.flatMap_singleton]
    exact h1
end Go.Proofs.Ytjegpcmejlffhaa.Cod

namespace Go.Proofs.Ytjegpcmejlffhaa.Cod
set_option linter.unusedSimpArgs false
set_option linter.unusedVariables false
open Go.RowKit
open Key (M E Pr Nd Pl nv Lies mayI Prs Txts Eds Msgs)

def tcell (s : ByteArray) : List Value := [.string s]
set_option maxRecDepth 100000 in
def kP : Kd Pr where
  f := Pr.cells
  sz := 2
  byt := 32
  t := 22
  e := 53
  z := .agg #[.string ⟨#[]⟩, .string ⟨#[]⟩]
  len := fun _ => rfl
  pos := by decide
  und := Try.underlying22
  info := by kernel_rfl
  zc := rfl
  small := by decide
  one := fun x u hu => by
    simp only [Pr.cells, List.mem_cons, List.not_mem_nil, or_false] at hu
    rcases hu with rfl | rfl <;> rfl
set_option maxRecDepth 100000 in
def kT : Kd ByteArray where
  f := tcell
  sz := 1
  byt := 16
  t := 23
  e := 9
  z := .string ⟨#[]⟩
  len := fun _ => rfl
  pos := by decide
  und := Try.underlying23
  info := by kernel_rfl
  zc := rfl
  small := by decide
  one := fun x u hu => by
    simp only [tcell, List.mem_cons, List.not_mem_nil, or_false] at hu
    subst hu
    rfl
set_option maxRecDepth 100000 in
def kE : Kd E where
  f := E.cells
  sz := 4
  byt := 40
  t := 24
  e := 51
  z := .agg #[.int .u32 0, .int .u16 0, .string ⟨#[]⟩, .string ⟨#[]⟩]
  len := fun _ => rfl
  pos := by decide
  und := Try.underlying24
  info := by kernel_rfl
  zc := rfl
  small := by decide
  one := fun x u hu => by
    simp only [E.cells, List.mem_cons, List.not_mem_nil, or_false] at hu
    rcases hu with rfl | rfl | rfl | rfl <;> rfl
set_option maxRecDepth 100000 in
def kM : Kd M where
  f := M.cells
  sz := 6
  byt := 64
  t := 25
  e := 60
  z := .agg #[.int .u8 0, .string ⟨#[]⟩, .string ⟨#[]⟩, .int .u32 0, .int .u16 0, .string ⟨#[]⟩]
  len := fun _ => rfl
  pos := by decide
  und := Try.underlying25
  info := by kernel_rfl
  zc := rfl
  small := by decide
  one := Key.one_cell
theorem OwnL.prs {w : World} {base : Nat} {v : Value} {l : List Pr} (h : OwnL kP w base v l) : ∃ a c, v = .slice a l.length c ∧ (a = none → l.length = 0 ∧ c = 0) ∧ l.length ≤ c ∧ Prs w a l := by
  obtain ⟨a, c, h1, h2, h3, h4⟩ := h.form
  refine ⟨a, c, h1, h2, h3, ?_⟩
  rcases h4 with h4 | ⟨b, rfl, hc⟩
  · exact .inl h4
  · exact .inr ⟨b, 0, rfl, fun i hi => ⟨hc i hi 0 _ (by decide) rfl, hc i hi 1 _ (by decide) rfl⟩⟩
theorem OwnL.txts {w : World} {base : Nat} {v : Value} {l : List ByteArray} (h : OwnL kT w base v l) : ∃ a c, v = .slice a l.length c ∧ (a = none → l.length = 0 ∧ c = 0) ∧ l.length ≤ c ∧ Txts w a l := by
  obtain ⟨a, c, h1, h2, h3, h4⟩ := h.form
  refine ⟨a, c, h1, h2, h3, ?_⟩
  rcases h4 with h4 | ⟨b, rfl, hc⟩
  · exact .inl h4
  · refine .inr ⟨b, 0, rfl, fun i hi => ?_⟩
    have := hc i hi 0 _ (by decide) rfl
    rw [show 0 + i * kT.sz + 0 = 0 + i by show 0 + i * 1 + 0 = 0 + i; omega] at this
    exact this
theorem OwnL.eds {w : World} {base : Nat} {v : Value} {l : List E} (h : OwnL kE w base v l) : ∃ a c, v = .slice a l.length c ∧ (a = none → l.length = 0 ∧ c = 0) ∧ l.length ≤ c ∧ Eds w a l := by
  obtain ⟨a, c, h1, h2, h3, h4⟩ := h.form
  refine ⟨a, c, h1, h2, h3, ?_⟩
  rcases h4 with h4 | ⟨b, rfl, hc⟩
  · exact .inl h4
  · exact .inr ⟨b, 0, rfl, fun i hi => ⟨hc i hi 0 _ (by decide) rfl, hc i hi 1 _ (by decide) rfl, hc i hi 2 _ (by decide) rfl, hc i hi 3 _ (by decide) rfl⟩⟩
theorem OwnL.msgs {w : World} {base : Nat} {v : Value} {l : List M} (h : OwnL kM w base v l) : ∃ a c, v = .slice a l.length c ∧ (a = none → l.length = 0 ∧ c = 0) ∧ l.length ≤ c ∧ Msgs w a l := by
  obtain ⟨a, c, h1, h2, h3, h4⟩ := h.form
  refine ⟨a, c, h1, h2, h3, ?_⟩
  rcases h4 with h4 | ⟨b, rfl, hc⟩
  · exact .inl h4
  · exact .inr ⟨b, 0, rfl, fun i hi => ⟨hc i hi 0 _ (by decide) rfl, hc i hi 1 _ (by decide) rfl, hc i hi 2 _ (by decide) rfl, hc i hi 3 _ (by decide) rfl, hc i hi 4 _ (by decide) rfl, hc i hi 5 _ (by decide) rfl⟩⟩
end Go.Proofs.Ytjegpcmejlffhaa.Cod

namespace Go.Proofs.Ytjegpcmejlffhaa.Cod
set_option linter.unusedSimpArgs false
set_option linter.unusedVariables false
open Go.RowKit
open Key (M E Pr Nd Pl nv Lies mayI Prs Txts Eds Msgs)

theorem appP {w : World} {ops : Array Oper} {rest : List Oper} {o : Oper} {a : Act} {Q : Exit → Act → World → Prop} (hgd : o.guard = none) (s x : Operand)
    (ho : o.op = .call { callee := .builtin .append, args := #[s, x], argTypes := #[22, 22] })
    (B : Nat) (v : Value) (l : List Pr) (hs : a.eval s = v) (hown : OwnL kP w B v l) (m : Pr) (k : Nat) (hx : a.eval x = .slice (some ⟨k, 0, none⟩) 1 1) (hk : Row w k #[.string m.key, .string m.val] 53) (hsz : l.length ≤ 1000) (hB : B ≤ w.heap.size)
    (h : ∀ v' w', OwnL kP w' B v' (l ++ [m]) → w.grownBy w' v.ownBlock → (∀ j, v.ownBlock = some j → B ≤ j) → wpList Try.prog ops Q rest (a.put o.dst v') w') : wpList Try.prog ops Q (o :: rest) a w :=
  appL kP hgd s x ho B v l hs hown m k hx hk hsz hB h

theorem appT {w : World} {ops : Array Oper} {rest : List Oper} {o : Oper} {a : Act} {Q : Exit → Act → World → Prop} (hgd : o.guard = none) (s x : Operand)
    (ho : o.op = .call { callee := .builtin .append, args := #[s, x], argTypes := #[23, 23] })
    (B : Nat) (v : Value) (l : List ByteArray) (hs : a.eval s = v) (hown : OwnL kT w B v l) (m : ByteArray) (k : Nat) (hx : a.eval x = .slice (some ⟨k, 0, none⟩) 1 1) (hk : Row w k #[.string m] 9) (hsz : l.length ≤ 1000) (hB : B ≤ w.heap.size)
    (h : ∀ v' w', OwnL kT w' B v' (l ++ [m]) → w.grownBy w' v.ownBlock → (∀ j, v.ownBlock = some j → B ≤ j) → wpList Try.prog ops Q rest (a.put o.dst v') w') : wpList Try.prog ops Q (o :: rest) a w :=
  appL kT hgd s x ho B v l hs hown m k hx hk hsz hB h

theorem appE {w : World} {ops : Array Oper} {rest : List Oper} {o : Oper} {a : Act} {Q : Exit → Act → World → Prop} (hgd : o.guard = none) (s x : Operand)
    (ho : o.op = .call { callee := .builtin .append, args := #[s, x], argTypes := #[24, 24] })
    (B : Nat) (v : Value) (l : List E) (hs : a.eval s = v) (hown : OwnL kE w B v l) (m : E) (k : Nat) (hx : a.eval x = .slice (some ⟨k, 0, none⟩) 1 1) (hk : Row w k #[.int .u32 m.blk, .int .u16 m.deep, .string m.strip, .string m.add] 51) (hsz : l.length ≤ 1000) (hB : B ≤ w.heap.size)
    (h : ∀ v' w', OwnL kE w' B v' (l ++ [m]) → w.grownBy w' v.ownBlock → (∀ j, v.ownBlock = some j → B ≤ j) → wpList Try.prog ops Q rest (a.put o.dst v') w') : wpList Try.prog ops Q (o :: rest) a w :=
  appL kE hgd s x ho B v l hs hown m k hx hk hsz hB h

theorem appM {w : World} {ops : Array Oper} {rest : List Oper} {o : Oper} {a : Act} {Q : Exit → Act → World → Prop} (hgd : o.guard = none) (s x : Operand)
    (ho : o.op = .call { callee := .builtin .append, args := #[s, x], argTypes := #[25, 25] })
    (B : Nat) (v : Value) (l : List M) (hs : a.eval s = v) (hown : OwnL kM w B v l) (m : M) (k : Nat) (hx : a.eval x = .slice (some ⟨k, 0, none⟩) 1 1) (hk : Row w k #[.int .u8 m.kind, .string m.key, .string m.val, .int .u32 m.blk, .int .u16 m.deep, .string m.add] 60) (hsz : l.length ≤ 1000) (hB : B ≤ w.heap.size)
    (h : ∀ v' w', OwnL kM w' B v' (l ++ [m]) → w.grownBy w' v.ownBlock → (∀ j, v.ownBlock = some j → B ≤ j) → wpList Try.prog ops Q rest (a.put o.dst v') w') : wpList Try.prog ops Q (o :: rest) a w :=
  appL kM hgd s x ho B v l hs hown m k hx hk hsz hB h
end Go.Proofs.Ytjegpcmejlffhaa.Cod

namespace Go.Proofs.Ytjegpcmejlffhaa.Cod
set_option linter.unusedSimpArgs false
set_option linter.unusedVariables false
open Go.RowKit
open Key (M E Pr Nd Pl nv Lies mayI)

/-- a reader of nodes, as a value -/
abbrev rdv (k : Nat) : Value := .agg #[.pointer (some ⟨k, 0, none⟩)]
theorem one_box (w : World) (o : Obj) : Below w.heap.size w (w.alloc o) := (Below.refl _ _).alloc (Nat.le_refl _) o

set_option maxRecDepth 100000 in
set_option maxHeartbeats 600000 in
theorem key55 {w : World} {B k : Nat} {zs : List Int} {s : St} (h : Rdr w B k zs s) :
    Calls Try.prog 55 #[rdv k] w fun x w' => ∃ (v : ByteArray) (s' : St), Hid (rTxt 16 zs s = (v, s')) ∧ x = .returned (.string v) ∧ Rdr w' B k zs s' ∧ w.grownBy w' (some k) := by
  have hr := h.alloc (.cells #[.pointer (some ⟨k, 0, none⟩)] 64)
  go_enter Try.func55, Try.ntmps55
  go_wp2_with fail
  refine (getText hr 16).mono ?_
  rintro x w1 ⟨v, s', hs, rfl, hr1, hg⟩
  go_wp2
  go_ret
  exact ⟨v, s', hs, rfl, hr1, G.trans (G.of (one_box _ _)) hg⟩

set_option maxRecDepth 100000 in
set_option maxHeartbeats 600000 in
theorem count54 {w : World} {B k : Nat} {zs : List Int} {s : St} (h : Rdr w B k zs s) (most : Nat) (hm : most ≤ 100) :
    Calls Try.prog 54 #[rdv k, .int .i64 (most : Int)] w fun x w' => ∃ (v : Nat) (s' : St), Hid (rCount most zs s = (v, s')) ∧ v ≤ most ∧ x = .returned (.int .i64 (v : Int)) ∧ Rdr w' B k zs s' ∧ w.grownBy w' (some k) := by
  have hr := h.alloc (.cells #[.pointer (some ⟨k, 0, none⟩)] 64)
  have R := Row.new w #[.pointer (some ⟨k, 0, none⟩)] 64
  have hk := h.lt.1
  go_enter Try.func54, Try.ntmps54
  go_wp2_with fail
  refine (get8 hr).mono ?_
  rintro x w1 ⟨v, s1, hs, hv, rfl, hr1, hg⟩
  have R1 := R.grown hg (by simp; omega)
  have c0 : w1.cell? ⟨w.heap.size, 0, none⟩ = some (.pointer (some ⟨k, 0, none⟩)) := R1.cell 0
  have HG := hid (G.trans (G.of (one_box w (.cells #[.pointer (some ⟨k, 0, none⟩)] 64))) hg)
  clear hg R R1 hr h
  by_cases hlt : most < v
  · have hd : decide ((most : Int) < (v : Int)) = true := by simp; omega
    go_wp2_with fail
    refine (fail hr1 13).mono ?_
    rintro x w2 ⟨rfl, hr2, hg2⟩
    go_wp2
    go_ret
    exact ⟨0, failS 13 s1, by simp [Hid, rCount, bnd, hs.out, hlt, rFail], Nat.zero_le _, rfl, hr2, G.trans HG.out hg2⟩
  · have hd : decide ((most : Int) < (v : Int)) = false := by simp; omega
    go_wp2
    go_ret
    exact ⟨v, s1, by simp [Hid, rCount, bnd, hs.out, hlt, rPure], by omega, rfl, hr1, HG.out⟩
end Go.Proofs.Ytjegpcmejlffhaa.Cod
