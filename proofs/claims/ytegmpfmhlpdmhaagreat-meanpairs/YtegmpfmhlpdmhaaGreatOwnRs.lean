/-
  Rows of refs of the call's own.
-/
import Derived.Test.YtegmpfmhlpdmhaaGreatBump
import Derived.Test.YtegmpfmhlpdmhaaGreatRefs
namespace Go.Proofs.YtegmpfmhlpdmhaaGreat.Key
open Go.RowKit
set_option linter.unusedVariables false
set_option linter.unusedSimpArgs false

/-- a row of refs of the call's own -/
def OwnR (w : World) (base : Nat) (v : Value) (l : List Rf) : Prop := w.ownsRow base 66 2 v l.length (l.flatMap Rf.cells)
set_option maxRecDepth 100000 in
theorem info66 : (Tryz.prog.info? 66).map (fun i => (i.zero, i.size, i.bytes)) = some (some (.agg #[.int .u32 0, .int .u32 0]), 2, 8) := by kernel_rfl
theorem two_new (W : World) (x1 x2 : Int) : ∀ j u, [Value.int .u32 x1, Value.int .u32 x2][j]? = some u → (W.alloc (.cells #[.int .u32 x1, .int .u32 x2] 66)).cell? ((⟨W.heap.size, 0, none⟩ : Addr).add j) = some u := by
  intro j u hu
  rw [add_plain, Nat.zero_add, World.cell?_alloc_mark]
  simpa using hu
theorem two_one (x1 x2 : Int) : ∀ u ∈ [Value.int .u32 x1, Value.int .u32 x2], u.oneCell' = true := by
  intro u hu
  simp only [List.mem_cons, List.not_mem_nil, or_false] at hu
  rcases hu with rfl | rfl <;> rfl
theorem OwnR.refs {w : World} {B : Nat} {v : Value} {l : List Rf} (h : OwnR w B v l) : ∃ a c, v = .slice a l.length c ∧ Refs w a l ∧ (a = none → l.length = 0 ∧ c = 0) := by
  obtain ⟨a, c, e, h1⟩ := row_cells Rf.cells 2 (fun _ => rfl) h
  refine ⟨a, c, e, ?_, fun ha => ?_⟩
  · rcases h1 with h1 | ⟨g, e, _, _, hc⟩
    · exact .inl h1
    · exact .inr ⟨g, 0, e, fun i hi => ⟨hc i hi 0 _ (by omega) rfl, hc i hi 1 _ (by omega) rfl⟩⟩
  · subst ha
    subst e
    rcases h.2 with ⟨e2, h0⟩ | ⟨g, cap, cur, e2, _⟩
    · simp only [Value.slice.injEq, true_and] at e2
      exact ⟨h0, e2.2⟩
    · simp only [Value.slice.injEq] at e2
      cases e2.1
theorem OwnR.later {w w' : World} {B : Nat} {v : Value} {l : List Rf} (h : OwnR w B v l) (hb : Below w.heap.size w w') : OwnR w' B v l := row_later h hb
theorem appR {w0 w : World} {ops : Array Oper} {rest : List Oper} {o : Oper} {a : Act} {Q : Exit → Act → World → Prop} (hgd : o.guard = none) (s x : Operand)
    (ho : o.op = .call { callee := .builtin .append, args := #[s, x], argTypes := #[61, 61] })
    (B : Nat) (v : Value) (l : List Rf) (hs : a.eval s = v) (hown : OwnR w B v l) (zb zn : Int) (k : Nat) (hx : a.eval x = .slice (some ⟨k, 0, none⟩) 1 1) (hk : k = w.heap.size) (hsz : l.length ≤ 100000) (hB : B ≤ w.heap.size) (hbel : Below B w0 w)
    (h : ∀ v' w', OwnR w' B v' (l ++ [⟨zb, zn⟩]) → Below B w0 w' → (w.alloc (.cells #[.int .u32 zb, .int .u32 zn] 66)).grownBy w' v.ownBlock → wpList Tryz.prog ops Q rest (a.put o.dst v') w') : wpList Tryz.prog ops Q (o :: rest) a (w.alloc (.cells #[.int .u32 zb, .int .u32 zn] 66)) := by
  subst hk
  obtain ⟨i0, hi, hz0, hz1, hz2⟩ := info_parts info66
  have hown' := World.ownsRow.alloc hown (.cells #[.int .u32 zb, .int .u32 zn] 66)
  have hbel' := hbel.alloc hB (.cells #[.int .u32 zb, .int .u32 zn] 66)
  refine wpList_append_own _ hgd s x 61 ho B 66 i0 _ 2 8 Tryz.underlying61 hi hz0 hz1 hz2 rfl (by decide) v _ _ hs hown' ⟨w.heap.size, 0, none⟩ 1 1 [.int .u32 zb, .int .u32 zn] hx rfl (two_new w zb zn) (two_one zb zn) (by unfold maxLen; omega) (by omega) (by simp; omega) ?_
  intro v' w' h1 h2 _
  refine h v' w' ?_ (hbel'.grown h2 (by simp; omega) fun j hj => (World.ownsRow.lt hown' j hj).1) h2
  unfold OwnR
  rw [List.length_append, List.flatMap_append]
  exact h1
theorem OwnR.made (w : World) : OwnR (w.alloc (.cells #[] 66)) w.heap.size (.slice (some ⟨w.heap.size, 0, none⟩) 0 0) [] :=
  World.ownsRow_made w #[] 0 (Nat.le_refl _) (Nat.zero_le _) (by simp)
theorem OwnR.slice {w : World} {B : Nat} {v : Value} {l : List Rf} (h : OwnR w B v l) : ∃ a n c, v = .slice a n c := row_slice h
theorem OwnR.alloc {w : World} {B : Nat} {v : Value} {l : List Rf} (h : OwnR w B v l) (o : Obj) : OwnR (w.alloc o) B v l := World.ownsRow.alloc h o
theorem OwnR.set {w : World} {B k i : Nat} {u v : Value} {l : List Rf} (h : OwnR w B v l) (hk : v.ownBlock ≠ some k) : OwnR (w.setCell ⟨k, i, none⟩ u) B v l :=
  World.ownsRow.kept (row := some k) h ⟨rfl, rfl, rfl, by simp, fun j _ hj => heap_setCell_other w ⟨k, i, none⟩ j u (fun e => hj (by simp [e]))⟩ (.inr hk)
end Go.Proofs.YtegmpfmhlpdmhaaGreat.Key
