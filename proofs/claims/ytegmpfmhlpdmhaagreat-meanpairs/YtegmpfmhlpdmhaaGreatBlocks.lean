/-
  Contract of Blocks: the blocks of all Gotos.
-/
import Derived.Test.YtegmpfmhlpdmhaaGreatMs
namespace Go.Proofs.YtegmpfmhlpdmhaaGreat.Key
open Go.RowKit
open Go.Op (bytesLess)

set_option maxRecDepth 100000 in
theorem info23 : (Tryz.prog.info? 23).map (fun i => (i.zero, i.size, i.bytes)) = some (some (.int .u32 0), 1, 4) := by kernel_rfl
/-- a row of numbers of the call's own -/
def OwnU (w : World) (base : Nat) (v : Value) (zs : List Int) : Prop := w.ownsRow base 23 1 v zs.length (zs.map (Value.int .u32))
set_option maxRecDepth 100000 in
theorem OwnU.later {w w' : World} {base : Nat} {v : Value} {l : List Int} (h : OwnU w base v l) (hb : Below w.heap.size w w') : OwnU w' base v l :=
  World.ownsRow.kept (row := none) h ⟨hb.os, hb.tape, hb.output, hb.size, fun k hk _ => hb.block k hk⟩ (by cases hv : v.ownBlock <;> simp)
set_option maxRecDepth 100000 in
theorem OwnU.nil (w : World) (base : Nat) : OwnU w base (.slice none 0 0) [] := World.ownsRow_nil _ _ _ _
set_option maxRecDepth 100000 in
theorem OwnU.form {w : World} {base : Nat} {v : Value} {l : List Int} (h : OwnU w base v l) : ∃ a cap, v = .slice a l.length cap ∧ (∀ i z, l[i]? = some z → ∃ b off, a = some ⟨b, off, none⟩ ∧ w.cell? ⟨b, off + i, none⟩ = some (.int .u32 z)) := by
  have hc := fun g hg => World.ownsRow.cells h (g := g) hg
  rcases h.2 with ⟨rfl, h0⟩ | ⟨g, cap, cur, rfl, _, _, _, _, _, _⟩
  · have hy : l = [] := List.eq_nil_of_length_eq_zero h0
    subst hy
    exact ⟨none, 0, rfl, fun i z hz => by simp at hz⟩
  · refine ⟨_, cap, rfl, fun i z hz => ⟨g, 0, rfl, ?_⟩⟩
    have := hc g rfl i (.int .u32 z) (by simp [hz])
    rw [add_plain] at this
    exact this
set_option maxRecDepth 100000 in
/-- 'out = append(out, n)', out of the call's own -/
theorem appU {w0 w : World} {ops : Array Oper} {rest : List Oper} {o : Oper} {a : Act} {Q : Exit → Act → World → Prop} (hgd : o.guard = none) (s x : Operand)
    (ho : o.op = .call { callee := .builtin .append, args := #[s, x], argTypes := #[63, 63] })
    (B : Nat) (v : Value) (l : List Int) (hs : a.eval s = v) (hown : OwnU w B v l) (z : Int) (k : Nat) (hx : a.eval x = .slice (some ⟨k, 0, none⟩) 1 1) (hk : k = w.heap.size) (hsz : l.length ≤ 900000) (hB : B ≤ w.heap.size) (hbel : Below B w0 w)
    (h : ∀ v' w', OwnU w' B v' (l ++ [z]) → Below B w0 w' → (w.alloc (.cells #[.int .u32 z] 23)).grownBy w' v.ownBlock → wpList Tryz.prog ops Q rest (a.put o.dst v') w') : wpList Tryz.prog ops Q (o :: rest) a (w.alloc (.cells #[.int .u32 z] 23)) := by
  subst hk
  obtain ⟨i0, hi, hz0, hz1, hz2⟩ := info_parts info23
  have hown' := World.ownsRow.alloc hown (.cells #[.int .u32 z] 23)
  have hbel' := hbel.alloc hB (.cells #[.int .u32 z] 23)
  refine wpList_append_own _ hgd s x 63 ho B 23 i0 _ 1 4 Tryz.underlying63 hi hz0 hz1 hz2 rfl (by decide) v _ _ hs hown' ⟨w.heap.size, 0, none⟩ 1 1 [.int .u32 z] hx rfl ?_ (by intro u hu; rw [List.mem_singleton.1 hu]; rfl) (by unfold maxLen; omega) (by omega) (by simp; omega) ?_
  · intro j u hu
    rw [add_plain, Nat.zero_add, World.cell?_alloc_mark]
    simpa using hu
  intro v' w' h1 h2 _
  refine h v' w' ?_ (hbel'.grown h2 (by simp; omega) fun j hj => (World.ownsRow.lt hown' j hj).1) h2
  unfold OwnU
  rw [List.map_append, List.length_append]
  exact h1

/-- to which blocks Gotos lead -/
def blocksL (l : List M) : List Int := (l.filter fun m => m.kind == 3).map (·.blk)

set_option maxRecDepth 100000 in
/-- .. at their places -/
theorem filter_at {α : Type} (p : α → Bool) : ∀ (l : List α) (i : Nat) (h : i < l.length), p l[i] = true → (l.filter p)[((l.take i).filter p).length]? = some l[i]
  | [], i, h, _ => by simp at h
  | x :: l, 0, _, hp => by simp at hp; simp [hp]
  | x :: l, i + 1, h, hp => by
    have ih := filter_at p l i (by simpa using h) (by simpa using hp)
    rw [List.take_succ_cons]
    cases hx : p x
    · simpa [List.filter_cons, hx] using ih
    · simpa [List.filter_cons, hx] using ih
set_option maxRecDepth 100000 in
theorem blocks_at {l : List M} {i : Nat} (h : i < l.length) (hk : l[i].kind = 3) : (blocksL l)[(blocksL (l.take i)).length]? = some l[i].blk := by
  unfold blocksL
  rw [List.length_map, List.getElem?_map, filter_at (fun m => m.kind == 3) l i h (by simp [hk])]
  rfl
set_option maxRecDepth 100000 in
theorem blocks_step {l : List M} {i : Nat} (h : i < l.length) : (blocksL (l.take (i + 1))).length = (blocksL (l.take i)).length + if l[i].kind = 3 then 1 else 0 := by
  unfold blocksL
  rw [List.take_succ_eq_append_getElem h, List.filter_append, List.map_append, List.length_append]
  congr 1
  by_cases h3 : l[i].kind = 3
  · simp [h3]
  · simp [h3]
end Go.Proofs.YtegmpfmhlpdmhaaGreat.Key
