/-
  What the document's Get keeps in memory ('Fr'): its result, the empty node, the node that is read, the reader.
-/
import Derived.Test.YtjegpcmejlffhaaRefA
import Derived.Test.YtjegpcmejlffhaaRw
namespace Go.Proofs.Ytjegpcmejlffhaa.Cod
set_option linter.unusedSimpArgs false
set_option linter.unusedVariables false
open Go.RowKit
open Key (M E Pr Nd Pl nv Lies mayI ev mv)

abbrev zeros : Array Value := #[.bool false, .slice none 0 0, .slice none 0 0, .slice none 0 0, .slice none 0 0]
structure Fr (w u : World) (B k0 k1 k2 k3 : Nat) (C : Array Value) (a : Option Addr) (n c : Nat) (s : St) : Prop where
  r0 : Row u k0 zeros 27
  r1 : Row u k1 zeros 27
  r2 : Row u k2 C 27
  r3 : Row u k3 #[.slice a n c, .int .i64 (s.p : Int), .int .i64 s.e] 70
  hb : Below w.heap.size w u
  o0 : w.heap.size ≤ k0
  o1 : k0 < k1
  o2 : k1 < k2
  o3 : k2 < k3
  o4 : k3 < B
  o5 : B ≤ u.heap.size
theorem Fr.later {w u u' : World} {B k0 k1 k2 k3 : Nat} {C : Array Value} {a : Option Addr} {n c : Nat} {s : St} (h : Fr w u B k0 k1 k2 k3 C a n c s) (hb : Below u.heap.size u u') : Fr w u' B k0 k1 k2 k3 C a n c s :=
  ⟨h.r0.later hb, h.r1.later hb, h.r2.later hb, h.r3.later hb, h.hb.trans (hb.mono h.hb.size), h.o0, h.o1, h.o2, h.o3, h.o4, Nat.le_trans h.o5 hb.size⟩
theorem Fr.alloc {w u : World} {B k0 k1 k2 k3 : Nat} {C : Array Value} {a : Option Addr} {n c : Nat} {s : St} (h : Fr w u B k0 k1 k2 k3 C a n c s) (o : Obj) : Fr w (u.alloc o) B k0 k1 k2 k3 C a n c s := h.later (one_box u o)
theorem Fr.base {w u : World} {B k0 k1 k2 k3 : Nat} {C : Array Value} {a : Option Addr} {n c : Nat} {s : St} (h : Fr w u B k0 k1 k2 k3 C a n c s) {B' : Nat} (h4 : k3 < B') (h5 : B' ≤ u.heap.size) : Fr w u B' k0 k1 k2 k3 C a n c s :=
  ⟨h.r0, h.r1, h.r2, h.r3, h.hb, h.o0, h.o1, h.o2, h.o3, h4, h5⟩
theorem Fr.grown {w u u' : World} {B k0 k1 k2 k3 : Nat} {C : Array Value} {a : Option Addr} {n c : Nat} {s : St} {r : Option Nat} (h : Fr w u B k0 k1 k2 k3 C a n c s) (hg : u.grownBy u' r) (hr : ∀ j, r = some j → B ≤ j) : Fr w u' B k0 k1 k2 k3 C a n c s := by
  have o0 := h.o0
  have o1 := h.o1
  have o2 := h.o2
  have o3 := h.o3
  have o4 := h.o4
  exact ⟨h.r0.grown hg (fun e => by have := hr k0 e.symm; omega), h.r1.grown hg (fun e => by have := hr k1 e.symm; omega), h.r2.grown hg (fun e => by have := hr k2 e.symm; omega), h.r3.grown hg (fun e => by have := hr k3 e.symm; omega),
    h.hb.grown hg h.hb.size (fun j e => by have := hr j e; omega), o0, o1, o2, o3, o4, Nat.le_trans h.o5 hg.size⟩
theorem Fr.setR {w u : World} {B k0 k1 k2 k3 : Nat} {C : Array Value} {a : Option Addr} {n c : Nat} {s : St} (h : Fr w u B k0 k1 k2 k3 C a n c s) (s' : St) :
    Fr w (((u.setCell ⟨k3, 0, none⟩ (.slice a n c)).setCell ⟨k3, 1, none⟩ (.int .i64 (s'.p : Int))).setCell ⟨k3, 2, none⟩ (.int .i64 s'.e)) B k0 k1 k2 k3 C a n c s' := by
  have o0 := h.o0
  have o1 := h.o1
  have o2 := h.o2
  have o3 := h.o3
  have o4 := h.o4
  exact ⟨h.r0.beside3 _ _ _ (by omega), h.r1.beside3 _ _ _ (by omega), h.r2.beside3 _ _ _ (by omega), h.r3.put3 _ _ _, below3 h.hb (by omega) _ _ _, o0, o1, o2, o3, o4, by simpa using h.o5⟩
theorem Fr.set2 {w u : World} {B k0 k1 k2 k3 : Nat} {C : Array Value} {a : Option Addr} {n c : Nat} {s : St} (h : Fr w u B k0 k1 k2 k3 C a n c s) (i : Nat) (v : Value) :
    Fr w (u.setCell ⟨k2, i, none⟩ v) B k0 k1 k2 k3 (C.setIfInBounds i v) a n c s := by
  have o0 := h.o0
  have o1 := h.o1
  have o2 := h.o2
  have o3 := h.o3
  have o4 := h.o4
  exact ⟨h.r0.beside _ _ (by omega), h.r1.beside _ _ (by omega), h.r2.set _ _, h.r3.beside _ _ (by omega), Below.setCell h.hb (p := ⟨k2, i, none⟩) (by show w.heap.size ≤ k2; omega) v, o0, o1, o2, o3, o4, by simpa using h.o5⟩
theorem Fr.rd {w u : World} {B k0 k1 k2 k3 : Nat} {C : Array Value} {a : Option Addr} {n c : Nat} {s : St} (h : Fr w u B k0 k1 k2 k3 C a n c s) :
    u.cell? ⟨k3, 0, none⟩ = some (.slice a n c) ∧ u.cell? ⟨k3, 1, none⟩ = some (.int .i64 (s.p : Int)) ∧ u.cell? ⟨k3, 2, none⟩ = some (.int .i64 s.e) ∧ u.frozen? ⟨k3, 0, none⟩ = false ∧ u.frozen? ⟨k3, 1, none⟩ = false ∧ u.frozen? ⟨k3, 2, none⟩ = false :=
  ⟨h.r3.cell 0, h.r3.cell 1, h.r3.cell 2, h.r3.free 0, h.r3.free 1, h.r3.free 2⟩
/-- the bytes that came in -/
theorem Fr.doc {w u : World} {B k0 k1 k2 k3 : Nat} {C : Array Value} {a : Option Addr} {n c : Nat} {s : St} {zs : List Int} (h : Fr w u B k0 k1 k2 k3 C a n c s) (hd : Doc w a n c zs) : Doc u a n c zs := hd.later h.hb
theorem OwnL.setB {α : Type} {S : Kd α} {w : World} {base k : Nat} {v : Value} {l : List α} (h : OwnL S w base v l) (hk : k < base) (x y z : Value) : OwnL S (((w.setCell ⟨k, 0, none⟩ x).setCell ⟨k, 1, none⟩ y).setCell ⟨k, 2, none⟩ z) base v l := ((h.set hk 0 x).set hk 1 y).set hk 2 z
end Go.Proofs.Ytjegpcmejlffhaa.Cod
