/-
  Contract of Blocks: the blocks of all Gotos.
-/
import Derived.Test.YtegmpfmhlpdmhaaMs
namespace Go.Proofs.Ytegmpfmhlpdmhaa.Key
open Go.RowKit
open Go.Op (bytesLess)

set_option maxRecDepth 100000 in
theorem info23 : (Try.prog.info? 23).map (fun i => (i.zero, i.size, i.bytes)) = some (some (.int .u32 0), 1, 4) := by kernel_rfl
/-- a row of numbers of the call's own -/
def OwnU (w : World) (base : Nat) (v : Value) (zs : List Int) : Prop := w.ownsRow base 23 1 v zs.length (zs.map (Value.int .u32))
set_option maxRecDepth 100000 in
theorem OwnU.later {w w' : World} {base : Nat} {v : Value} {l : List Int} (h : OwnU w base v l) (hb : Below w.heap.size w w') : OwnU w' base v l :=
  World.ownsRow.kept (row := none) h ⟨hb.os, hb.tape, hb.output, hb.size, fun k hk _ => hb.block k hk⟩ (by cases hv : v.ownBlock <;> simp)
set_option maxRecDepth 100000 in
theorem OwnU.nil (w : World) (base : Nat) : OwnU w base (.slice none 0 0) [] := World.ownsRow_nil _ _ _ _
set_option maxRecDepth 100000 in
theorem OwnU.form {w : World} {base : Nat} {v : Value} {l : List Int} (h : OwnU w base v l) : ∃ a cap, v = .slice a l.length cap ∧ (∀ i z, l[i]? = some z → ∃ b off, a = some ⟨b, off, none⟩ ∧ w.cell? ⟨b, off + i, none⟩ = some (.int .u32 z)) := by
  have hc := fun g hg => World.ownsRow.cells h (g := g) hg
  rcases h.2 with ⟨rfl, h0⟩ | ⟨g, cap, cur, rfl, _, _, _, _, _, _⟩
  · have hy : l = [] := List.eq_nil_of_length_eq_zero h0
    subst hy
    exact ⟨none, 0, rfl, fun i z hz => by simp at hz⟩
  · refine ⟨_, cap, rfl, fun i z hz => ⟨g, 0, rfl, ?_⟩⟩
    have := hc g rfl i (.int .u32 z) (by simp [hz])
    rw [add_plain] at this
    exact this
set_option maxRecDepth 100000 in
/-- 'out = append(out, n)', out of the call's own -/
theorem appU {w0 w : World} {ops : Array Oper} {rest : List Oper} {o : Oper} {a : Act} {Q : Exit → Act → World → Prop} (hgd : o.guard = none) (s x : Operand)
    (ho : o.op = .call { callee := .builtin .append, args := #[s, x], argTypes := #[73, 73] })
    (B : Nat) (v : Value) (l : List Int) (hs : a.eval s = v) (hown : OwnU w B v l) (z : Int) (k : Nat) (hx : a.eval x = .slice (some ⟨k, 0, none⟩) 1 1) (hk : k = w.heap.size) (hsz : l.length ≤ 900000) (hB : B ≤ w.heap.size) (hbel : Below B w0 w)
    (h : ∀ v' w', OwnU w' B v' (l ++ [z]) → Below B w0 w' → (w.alloc (.cells #[.int .u32 z] 23)).grownBy w' v.ownBlock → wpList Try.prog ops Q rest (a.put o.dst v') w') : wpList Try.prog ops Q (o :: rest) a (w.alloc (.cells #[.int .u32 z] 23)) := by
  subst hk
  obtain ⟨i0, hi, hz0, hz1, hz2⟩ := info_parts info23
  have hown' := World.ownsRow.alloc hown (.cells #[.int .u32 z] 23)
  have hbel' := hbel.alloc hB (.cells #[.int .u32 z] 23)
  refine wpList_append_own _ hgd s x 73 ho B 23 i0 _ 1 4 Try.underlying73 hi hz0 hz1 hz2 rfl (by decide) v _ _ hs hown' ⟨w.heap.size, 0, none⟩ 1 1 [.int .u32 z] hx rfl ?_ (by intro u hu; rw [List.mem_singleton.1 hu]; rfl) (by unfold maxLen; omega) (by omega) (by simp; omega) ?_
  · intro j u hu
    rw [add_plain, Nat.zero_add, World.cell?_alloc_mark]
    simpa using hu
  intro v' w' h1 h2 _
  refine h v' w' ?_ (hbel'.grown h2 (by simp; omega) fun j hj => (World.ownsRow.lt hown' j hj).1) h2
  unfold OwnU
  rw [List.map_append, List.length_append]
  exact h1

set_option maxRecDepth 100000 in
set_option maxHeartbeats 1000000 in
theorem goto47 (m : M) (w : World) : Calls Try.prog 82 #[mv m] w fun x w' => x = .returned (.bool (m.kind == 3)) ∧ Below w.heap.size w w' := by
  have hb : Below w.heap.size w (w.alloc (.cells #[.int .u8 m.kind, .string m.key, .string m.val, .int .u32 m.blk, .int .u16 m.deep, .string m.add] 59)) := below_box _ _
  obtain ⟨kd, ky, vl, bk, dp, ad⟩ := m
  dsimp only at hb ⊢
  cases q : (kd == 3)
  all_goals
    go_enter Try.func82, Try.ntmps82
    go_wp2_with fail
    go_ret
    exact ⟨rfl, hb⟩
/-- to which blocks Gotos lead -/
def blocksL (l : List M) : List Int := (l.filter fun m => m.kind == 3).map (·.blk)

set_option maxRecDepth 100000 in
set_option maxHeartbeats 2000000 in
theorem blocks38 (a : Option Addr) (c : Nat) (l : List M) (w : World) (hl : l.length ≤ 1000) (hm : Msgs w a l) :
    Calls Try.prog 54 #[.slice a l.length c] w fun x w' => ∃ v, x = .returned v ∧ OwnU w' w.heap.size v (blocksL l) ∧ Below w.heap.size w w' := by
  have HL := hid (show blocksL l = (l.filter fun m => m.kind == 3).map (·.blk) from rfl)
  have HC := choose46 82 #[] (fun m => m.kind == 3) a c l w hl hm (enters_of Try.func82 (by kernel_rfl) rfl) (fun m _ w2 _ => goto47 m w2)
  have hfl : (l.filter fun m => m.kind == 3).length ≤ 1000 := Nat.le_trans (List.length_filter_le _ _) hl
  generalize blocksL l = L at *
  generalize (l.filter fun m => m.kind == 3) = f at *
  go_enter Try.func54, Try.ntmps54
  go_wp2_with fail
  refine HC.mono ?_
  clear HC
  rintro x w1 ⟨v, rfl, ho1, hb1⟩
  obtain ⟨fa, cap, rfl, hfm, _⟩ := ho1.form
  generalize hn : f.length = n at *
  have HN := hid hn
  clear hn ho1
  go_wp2_with fail
  go_loopw [3, 9] (fun v i wr => ∃ j : Nat, j ≤ n ∧ i = .int .i64 j ∧ OwnU wr w1.heap.size v ((f.take j).map (·.blk)) ∧ Below w1.heap.size w1 wr) (fun _ i _ => n - (intOf i).toNat)
  case atStart => exact ⟨0, Nat.zero_le _, rfl, by simpa using OwnU.nil w1 _, Below.refl _ _⟩
  case round =>
    obtain ⟨j, hj, rfl, hown, hb⟩ := hrel
    by_cases hlt : j < n
    · have hlt' : j < f.length := by rw [HN.out]; exact hlt
      obtain ⟨b, off, rfl, h6⟩ := (hfm.later hb).at hlt'
      have HT := hid (List.take_succ_eq_append_getElem hlt')
      obtain ⟨m, HM⟩ : ∃ m, Hid (f[j] = m) := ⟨_, hid rfl⟩
      rw [HM.out] at h6 HT
      have hx := MBox.new wr m
      obtain ⟨kd, ky, vl, bk, dp, ad⟩ := m
      obtain ⟨c0, c1, c2, c3, c4, c5⟩ := h6
      dsimp only at c0 c1 c2 c3 c4 c5 hx
      have hlen : ((f.take j).map (·.blk)).length ≤ 1000 := by rw [List.length_map, List.length_take]; omega
      have ho' : OwnU (wr.alloc (.cells #[.int .u8 kd, .string ky, .string vl, .int .u32 bk, .int .u16 dp, .string ad] 59)) w1.heap.size u3 ((f.take j).map (·.blk)) := World.ownsRow.alloc hown _
      have hb' := hb.alloc hb.size (.cells #[.int .u8 kd, .string ky, .string vl, .int .u32 bk, .int .u16 dp, .string ad] 59)
      have hs := hb'.size
      have e3 := hx.six.c3
      go_wp2_with (first | (at_builtin; refine appU (w0 := w1) rfl _ _ rfl w1.heap.size _ _ rfl ho' bk (wr.heap.size + 1) rfl (by simp) (by omega) (by omega) hb' ?_; intro v' w2 ho2 hb2 _; clear ho' hb' c0 c1 c2 c3 c4 c5 hx e3) | fail)
      go_roundw
      case rel => exact ⟨j + 1, by omega, by go_num, by rw [HT.out, List.map_append]; exact ho2, hb2⟩
      case measure => simp [intOf]; omega
    · obtain rfl : j = n := by omega
      go_wp2_with fail
      go_ret
      refine ⟨_, rfl, ?_, hb1.trans (hb.mono hb1.size)⟩
      rw [HL.out]
      rw [← HN.out, List.take_length] at hown
      refine ⟨hown.1, ?_⟩
      rcases hown.2 with h | ⟨g, cap, cur, h1, h2, h3⟩
      · exact .inl h
      · exact .inr ⟨g, cap, cur, h1, Nat.le_trans hb1.size h2, h3⟩
set_option maxRecDepth 100000 in
/-- .. at their places -/
theorem filter_at {α : Type} (p : α → Bool) : ∀ (l : List α) (i : Nat) (h : i < l.length), p l[i] = true → (l.filter p)[((l.take i).filter p).length]? = some l[i]
  | [], i, h, _ => by simp at h
  | x :: l, 0, _, hp => by simp at hp; simp [hp]
  | x :: l, i + 1, h, hp => by
    have ih := filter_at p l i (by simpa using h) (by simpa using hp)
    rw [List.take_succ_cons]
    cases hx : p x
    · simpa [List.filter_cons, hx] using ih
    · simpa [List.filter_cons, hx] using ih
set_option maxRecDepth 100000 in
theorem blocks_at {l : List M} {i : Nat} (h : i < l.length) (hk : l[i].kind = 3) : (blocksL l)[(blocksL (l.take i)).length]? = some l[i].blk := by
  unfold blocksL
  rw [List.length_map, List.getElem?_map, filter_at (fun m => m.kind == 3) l i h (by simp [hk])]
  rfl
set_option maxRecDepth 100000 in
theorem blocks_step {l : List M} {i : Nat} (h : i < l.length) : (blocksL (l.take (i + 1))).length = (blocksL (l.take i)).length + if l[i].kind = 3 then 1 else 0 := by
  unfold blocksL
  rw [List.take_succ_eq_append_getElem h, List.filter_append, List.map_append, List.length_append]
  congr 1
  by_cases h3 : l[i].kind = 3
  · simp [h3]
  · simp [h3]
end Go.Proofs.Ytegmpfmhlpdmhaa.Key
