/-
  Rows of messages of the call's own; contract of choose: the messages of which something holds, in order.
-/
import Derived.Test.YtknjemmhcjihfaaAbout
namespace Go.Proofs.Ytknjemmhcjihfaa.Key
open Go.RowKit
open Go.Op (bytesLess)

def cellsM (l : List M) : List Value := l.flatMap M.cells
theorem cellsM_length (l : List M) : (cellsM l).length = l.length * 6 := by
  induction l with
  | nil => rfl
  | cons m l ih =>
    rw [cellsM, List.flatMap_cons, List.length_append, show (l.flatMap M.cells).length = l.length * 6 from ih]
    simp [M.cells]
    omega
theorem cellsM_append (l l' : List M) : cellsM (l ++ l') = cellsM l ++ cellsM l' := by simp [cellsM]
theorem cellsM_one (m : M) : cellsM [m] = m.cells := by simp [cellsM]
theorem cellsM_at : ∀ (l : List M) (i : Nat) (h : i < l.length) (q : Nat), q < 6 → (cellsM l)[i * 6 + q]? = l[i].cells[q]?
  | [], i, h, _, _ => by simp at h
  | m :: l, 0, _, q, hq => by
    rw [cellsM, List.flatMap_cons, List.getElem?_append_left (by simp [M.cells]; omega)]
    simp
  | m :: l, i + 1, h, q, hq => by
    have h' : i < l.length := by simpa using h
    rw [cellsM, List.flatMap_cons, List.getElem?_append_right (by simp [M.cells]; omega), show (i + 1) * 6 + q - m.cells.length = i * 6 + q by simp [M.cells]; omega]
    exact cellsM_at l i h' q hq
theorem info59 : (Try.prog.info? 59).map (fun i => (i.zero, i.size, i.bytes)) = some (some (.agg #[.int .u8 0, .string ⟨#[]⟩, .string ⟨#[]⟩, .int .u32 0, .int .u16 0, .string ⟨#[]⟩]), 6, 64) := by kernel_rfl

/-- a row of messages of the call's own -/
def OwnM (w : World) (base : Nat) (v : Value) (l : List M) : Prop := w.ownsRow base 59 6 v l.length (cellsM l)
theorem OwnM.later {w w' : World} {base : Nat} {v : Value} {l : List M} (h : OwnM w base v l) (hb : Below w.heap.size w w') : OwnM w' base v l :=
  World.ownsRow.kept (row := none) h ⟨hb.os, hb.tape, hb.output, hb.size, fun k hk _ => hb.block k hk⟩ (by cases hv : v.ownBlock <;> simp)
theorem OwnM.nil (w : World) (base : Nat) : OwnM w base (.slice none 0 0) [] := World.ownsRow_nil _ _ _ _
theorem OwnM.form {w : World} {base : Nat} {v : Value} {l : List M} (h : OwnM w base v l) : ∃ a cap, v = .slice a l.length cap ∧ Msgs w a l ∧ (a = none → l = [] ∧ cap = 0) ∧ (∀ ad, a = some ad → base ≤ ad.block ∧ ad.block < w.heap.size ∧ ad.off = 0 ∧ ad.spot = none) ∧ l.length ≤ cap := by
  have hlt := World.ownsRow.lt h
  have hc := fun g hg => World.ownsRow.cells h (g := g) hg
  rcases h.2 with ⟨rfl, h0⟩ | ⟨g, cap, cur, rfl, _, _, hcap, _, _, _⟩
  · have hy : l = [] := List.eq_nil_of_length_eq_zero h0
    subst hy
    exact ⟨none, 0, rfl, .inl rfl, fun _ => ⟨rfl, rfl⟩, (fun _ h => by cases h), Nat.le_refl _⟩
  · refine ⟨_, cap, rfl, .inr ⟨g, 0, rfl, fun i hi => ?_⟩, (fun h => by cases h), (fun ad h => by cases h; have := hlt g rfl; exact ⟨this.1, this.2, rfl, rfl⟩), hcap⟩
    have e := fun q (hq : q < 6) u hu => hc g rfl (i * 6 + q) u ((cellsM_at l i hi q hq).trans hu)
    refine ⟨?_, ?_, ?_, ?_, ?_, ?_⟩
    · have := e 0 (by omega) _ rfl; rw [add_plain] at this; exact this
    · have := e 1 (by omega) _ rfl; rw [add_plain] at this; exact this
    · have := e 2 (by omega) _ rfl; rw [add_plain] at this; exact this
    · have := e 3 (by omega) _ rfl; rw [add_plain] at this; exact this
    · have := e 4 (by omega) _ rfl; rw [add_plain] at this; exact this
    · have := e 5 (by omega) _ rfl; rw [add_plain] at this; exact this
theorem one_cell (m : M) : ∀ u ∈ m.cells, u.oneCell' = true := by
  intro u hu
  simp only [M.cells, List.mem_cons, List.not_mem_nil, or_false] at hu
  rcases hu with rfl | rfl | rfl | rfl | rfl | rfl <;> rfl
theorem MBox.news {w : World} {k : Nat} {m : M} (h : MBox w k m) : ∀ j u, m.cells[j]? = some u → w.cell? ((⟨k, 0, none⟩ : Addr).add j) = some u := by
  intro j u hu
  rw [add_plain, Nat.zero_add, cell_of_row _ _ _ _ _ _ h]
  simpa [M.cells] using hu
/-- 'out = append(out, m)', out of the call's own -/
theorem appM {w0 w : World} {ops : Array Oper} {rest : List Oper} {o : Oper} {a : Act} {Q : Exit → Act → World → Prop} (hgd : o.guard = none) (s x : Operand)
    (ho : o.op = .call { callee := .builtin .append, args := #[s, x], argTypes := #[25, 25] })
    (B : Nat) (v : Value) (l : List M) (hs : a.eval s = v) (hown : OwnM w B v l) (m : M) (k : Nat) (hx : a.eval x = .slice (some ⟨k, 0, none⟩) 1 1) (hk : MBox w k m) (hsz : l.length ≤ 900000) (hB : B ≤ w.heap.size) (hbel : Below B w0 w)
    (h : ∀ v' w', OwnM w' B v' (l ++ [m]) → Below B w0 w' → w.grownBy w' v.ownBlock → wpList Try.prog ops Q rest (a.put o.dst v') w') : wpList Try.prog ops Q (o :: rest) a w := by
  obtain ⟨i0, hi, hz0, hz1, hz2⟩ := info_parts info59
  refine wpList_append_own _ hgd s x 25 ho B 59 i0 _ 6 64 Try.underlying25 hi hz0 hz1 hz2 rfl (by decide) v _ _ hs hown ⟨k, 0, none⟩ 1 1 m.cells hx rfl hk.news (one_cell m) (by unfold maxLen; omega) (by omega) hB ?_
  intro v' w' h1 h2 _
  refine h v' w' ?_ (hbel.grown h2 hB fun j hj => (World.ownsRow.lt hown j hj).1) h2
  unfold OwnM
  rw [cellsM_append, cellsM_one, List.length_append]
  exact h1

set_option maxHeartbeats 2000000 in
theorem choose46 (g : Nat) (lb : Array Value) (p : M → Bool) (a : Option Addr) (c : Nat) (l : List M) (w : World) (hl : l.length ≤ 1000) (hm : Msgs w a l) (eg : ∀ args w, (callFunc g args).run Try.prog w = .ok (.enter g args) w)
    (hp : ∀ m ∈ l, ∀ w', Below w.heap.size w w' → Calls Try.prog g (#[mv m] ++ lb) w' fun x w'' => x = .returned (.bool (p m)) ∧ Below w'.heap.size w' w'') :
    Calls Try.prog 46 #[.slice a l.length c, .func (.func g) #[] lb] w fun x w' => ∃ v, x = .returned v ∧ OwnM w' w.heap.size v (l.filter p) ∧ Below w.heap.size w w' := by
  generalize hn : l.length = n at *
  have HN := hid hn
  clear hn
  go_enter Try.func46, Try.ntmps46
  go_wp2_with fail
  go_loopw [5, 10] (fun v i wr => ∃ j : Nat, j ≤ n ∧ i = .int .i64 j ∧ OwnM wr w.heap.size v ((l.take j).filter p) ∧ Below w.heap.size w wr) (fun _ i _ => n - (intOf i).toNat)
  case atStart => exact ⟨0, Nat.zero_le _, rfl, by simpa using OwnM.nil w _, Below.refl _ _⟩
  case round =>
    obtain ⟨j, hj, rfl, hown, hb⟩ := hrel
    by_cases hlt : j < n
    · have hlt' : j < l.length := by rw [HN.out]; exact hlt
      obtain ⟨b, off, rfl, h6⟩ := (hm.later hb).at hlt'
      have hp' := hp l[j] (List.getElem_mem hlt')
      have HT := hid (List.take_succ_eq_append_getElem hlt')
      obtain ⟨m, HM⟩ : ∃ m, Hid (l[j] = m) := ⟨_, hid rfl⟩
      rw [HM.out] at h6 hp' HT
      have hx := MBox.new wr m
      obtain ⟨kd, ky, vl, bk, dp, ad⟩ := m
      obtain ⟨c0, c1, c2, c3, c4, c5⟩ := h6
      dsimp only at c0 c1 c2 c3 c4 c5
      go_wp2_with fail
      refine (hp' _ (hb.alloc hb.size _)).mono ?_
      clear hp hp' c0 c1 c2 c3 c4 c5
      rintro e w1 ⟨rfl, hb1⟩
      have hx1 := hx.later hb1
      have ho1 : OwnM w1 w.heap.size u5 ((l.take j).filter p) := OwnM.later (World.ownsRow.alloc hown _) hb1
      have hbw : Below w.heap.size w w1 := (hb.alloc hb.size _).trans (hb1.mono (by have := hb.size; simp; omega))
      have hlen : ((l.take j).filter p).length ≤ 1000 := by
        have := List.length_filter_le p (l.take j)
        rw [List.length_take] at this
        omega
      have hnew := MBox.new w1 ⟨kd, ky, vl, bk, dp, ad⟩
      obtain ⟨d0, d1, d2, d3, d4, d5⟩ := hx1.six
      dsimp only at d0 d1 d2 d3 d4 d5
      clear hb1 hb hx hx1 hown
      have hs := hbw.size
      cases hpm : p ⟨kd, ky, vl, bk, dp, ad⟩
      · go_wp2_with fail
        go_roundw
        case rel => exact ⟨j + 1, by omega, by go_num, by rw [HT.out, List.filter_append]; simpa [hpm] using ho1, hbw⟩
        case measure => simp [intOf]; omega
      · go_wp2_with (first | (at_builtin; refine appM (w0 := w) rfl _ _ rfl w.heap.size _ _ rfl (World.ownsRow.alloc ho1 _) ⟨kd, ky, vl, bk, dp, ad⟩ w1.heap.size rfl hnew (by omega) (by simp; omega) (hbw.alloc hs _) ?_; intro v' w2 ho2 hb2 _; clear ho1 hbw d0 d1 d2 d3 d4 d5 hnew) | fail)
        go_roundw
        case rel => exact ⟨j + 1, by omega, by go_num, by rw [HT.out, List.filter_append]; simpa [hpm] using ho2, hb2⟩
        case measure => simp [intOf]; omega
    · obtain rfl : j = n := by omega
      go_wp2_with fail
      go_ret
      exact ⟨_, rfl, by rw [← HN.out, List.take_length] at hown; exact hown, hb⟩
end Go.Proofs.Ytknjemmhcjihfaa.Key
