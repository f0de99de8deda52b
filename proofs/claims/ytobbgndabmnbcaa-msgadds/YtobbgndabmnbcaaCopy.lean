/-
  A row of messages that 'make' makes with room behind it, and what 'copy' leaves there.
-/
import Derived.Test.YtobbgndabmnbcaaSame
import Derived.Laws.CopyOwn
import Derived.Laws.MakeOwn
namespace Go.Proofs.Ytobbgndabmnbcaa.Key
open Go.RowKit Draw
open Go.Op (bytesLess)

/-- copy, whatever the elements' size -/
theorem run_copy_wide {P : Program} (w : World) (dT sT ty elem : TypeId) (size g o dLen dCap : Nat) (a : Addr) (sLen sCap : Nat) (cur : Array Value) (t : TypeId) (cs : List Value)
    (hu : P.underlying dT = some (.slice elem)) (hs : (P.info? elem).map (·.size) = some size)
    (hg : w.heap[g]? = some (.cells cur t (0, 0))) (hn : cs.length = Nat.min sLen dLen * size)
    (hsrc : ∀ j v, cs[j]? = some v → w.cell? (a.add j) = some v) (hfit : o + cs.length ≤ cur.size) (h1 : ∀ v ∈ cs, v.oneCell' = true) :
    (Builtin.copy_ #[dT, sT] ty #[.slice (some ⟨g, o, none⟩) dLen dCap, .slice (some a) sLen sCap]).run P w =
      .ok (goInt (Nat.min sLen dLen)) (w.setRow g (cur.toList.take o ++ cs ++ cur.toList.drop (o + cs.length)).toArray) := by
  have hl := run_loadCells_list (P := P) w a cs hsrc
  have hst := run_storeCells_at P g o t cs 0 cur w hg (by simpa using hfit) h1
  cases hq : P.info? elem with
  | none => simp [hq] at hs
  | some i =>
    have hi : i.size = size := by simpa [hq] using hs
    simp [Builtin.copy_, run_underlying hu, Builtin.lenOf, Builtin.firstCells, sizeOf, typeInfo, hq, hi, ← hn, hl, hst]
theorem run_copy_wide_none {P : Program} (w : World) (dT sT ty elem : TypeId) (size : Nat) (d a : Option Addr) (dLen dCap sLen sCap : Nat) (hu : P.underlying dT = some (.slice elem)) (hs : (P.info? elem).map (·.size) = some size) (hn : Nat.min sLen dLen = 0) :
    (Builtin.copy_ #[dT, sT] ty #[.slice d dLen dCap, .slice a sLen sCap]).run P w = .ok (goInt 0) w := by
  cases hq : P.info? elem with
  | none => simp [hq] at hs
  | some i =>
    have hl : ∀ (x : Addr), (loadCells x 0).run P w = .ok #[] w := fun x => by simpa using run_loadCells_list (P := P) w x [] (by simp)
    cases d <;> cases a <;> simp [Builtin.copy_, run_underlying hu, Builtin.lenOf, Builtin.firstCells, sizeOf, typeInfo, hq, hn, storeCells, hl]
theorem Msgs.news {w : World} {b off : Nat} {l : List M} (h : ∀ i (h : i < l.length), Six w b (off + i * 6) l[i]) : ∀ j v, (cellsM l)[j]? = some v → w.cell? ((⟨b, off, none⟩ : Addr).add j) = some v := by
  intro j v hv
  have hj : j < l.length * 6 := by rw [← cellsM_length]; exact (List.getElem?_eq_some_iff.1 hv).1
  have hi : j / 6 < l.length := by omega
  have hq : j % 6 < 6 := by omega
  have e : j = j / 6 * 6 + j % 6 := by omega
  rw [e, cellsM_at l (j / 6) hi (j % 6) hq] at hv
  rw [add_plain, e, ← Nat.add_assoc]
  obtain ⟨c0, c1, c2, c3, c4, c5⟩ := h (j / 6) hi
  generalize j % 6 = q at *
  match q, hq with
  | 0, _ => rw [← hv]; exact c0
  | 1, _ => rw [← hv]; exact c1
  | 2, _ => rw [← hv]; exact c2
  | 3, _ => rw [← hv]; exact c3
  | 4, _ => rw [← hv]; exact c4
  | 5, _ => rw [← hv]; exact c5
theorem cellsM_one_cell (l : List M) : ∀ v ∈ cellsM l, v.oneCell' = true := by
  intro v hv
  obtain ⟨m, _, hm⟩ := List.mem_flatMap.1 hv
  exact one_cell m v hm
/-- 'copy(own, l)' into a row of the call's own -/
theorem copyM {w0 w : World} {ops : Array Oper} {rest : List Oper} {o : Oper} {a : Act} {Q : Exit → Act → World → Prop} (hgd : o.guard = none) (d s : Operand)
    (ho : o.op = .call { callee := .builtin .copy, args := #[d, s], argTypes := #[22, 22] }) (g n c : Nat) (hd : a.eval d = .slice (some ⟨g, 0, none⟩) n c) (sp : Option Addr) (sc : Nat) (l : List M) (hln : l.length = n) (hs : a.eval s = .slice sp n sc)
    (hm : Msgs w sp l) (cur : List Value) (hg : w.heap[g]? = some (.cells cur.toArray 26 (0, 0))) (hfit : n * 6 ≤ cur.length) (B : Nat) (hb : Below B w0 w) (hBg : B ≤ g)
    (h : ∀ w', Hid (w'.heap[g]? = some (.cells (cellsM l ++ cur.drop (n * 6)).toArray 26 (0, 0))) → Below B w0 w' → wpList Try.prog ops Q rest (a.put o.dst (goInt n)) w') : wpList Try.prog ops Q (o :: rest) a w := by
  subst hln
  have hsz : (Try.prog.info? 26).map (·.size) = some 6 := by obtain ⟨i0, hi, _, hz, _⟩ := info_parts info26; rw [hi]; simp [hz]
  refine wpList_plain hgd fun K hK => ?_
  unfold Oper.wp
  rcases hm with rfl | ⟨b, off, rfl, hc⟩
  · have hrun := run_copy_wide_none (P := Try.prog) w 22 22 o.type 26 6 (some ⟨g, 0, none⟩) sp 0 c 0 sc Try.underlying22 hsz rfl
    simp only [List.length_nil] at hd hs
    simp [execOp, ho, resolve, invoke, builtin, hd, hs, hrun, Result.andThen]
    exact hK _ _ (h w (show _ = _ by simpa [cellsM] using hg) hb)
  · have hmin : Nat.min l.length l.length = l.length := Nat.min_self _
    have hrun := run_copy_wide (P := Try.prog) w 22 22 o.type 26 6 g 0 l.length c ⟨b, off, none⟩ l.length sc cur.toArray 26 (cellsM l) Try.underlying22 hsz hg (by rw [hmin]; exact cellsM_length l) (Msgs.news hc) (by rw [cellsM_length]; simpa using hfit) (cellsM_one_cell l)
    rw [hmin] at hrun
    simp [execOp, ho, resolve, invoke, builtin, hd, hs, hrun, Result.andThen]
    refine hK _ _ (h _ ?_ ?_)
    · have := setRow_heap w g cur.toArray (cellsM l ++ cur.drop (l.length * 6)).toArray 26 _ hg
      simpa [Hid, cellsM_length] using this
    · have := below_setRow hb hBg (cellsM l ++ cur.drop (l.length * 6)).toArray
      simpa [cellsM_length] using this
/-- what lies in such a row: the messages, and behind them what lay there -/
theorem copiedM {w : World} {g : Nat} {l : List M} {tl : List Value} (h : w.heap[g]? = some (.cells (cellsM l ++ tl).toArray 26 (0, 0))) :
    Msgs w (some ⟨g, 0, none⟩) l ∧ ∀ q v, tl[q]? = some v → w.cell? ⟨g, l.length * 6 + q, none⟩ = some v := by
  refine ⟨.inr ⟨g, 0, rfl, fun i hi => ?_⟩, fun q v hv => ?_⟩
  · have e : ∀ q, q < 6 → ∀ u, l[i].cells[q]? = some u → w.cell? ⟨g, 0 + i * 6 + q, none⟩ = some u := fun q hq u hu => by
      rw [cell_of_row w g _ _ 26 _ h, Nat.zero_add]
      simp only [List.getElem?_toArray]
      rw [List.getElem?_append_left (by rw [cellsM_length]; omega), cellsM_at l i hi q hq]
      exact hu
    exact ⟨e 0 (by omega) _ rfl, e 1 (by omega) _ rfl, e 2 (by omega) _ rfl, e 3 (by omega) _ rfl, e 4 (by omega) _ rfl, e 5 (by omega) _ rfl⟩
  · rw [cell_of_row w g _ _ 26 _ h]
    simp only [List.getElem?_toArray]
    rw [List.getElem?_append_right (by rw [cellsM_length]; omega), cellsM_length, Nat.add_sub_cancel_left]
    exact hv
/-- 'make([]Msg, n, n+5)' -/
theorem makeM (n : Nat) (hn : n ≤ 100000) : ∀ u : World, (Instr.makeSlice 22 (.int .i64 (n : Int)) (.int .i64 ((n : Int) + 5))).run Try.prog u =
      .ok (.slice (some ⟨u.heap.size, 0, none⟩) n (n + 5)) (u.alloc (.cells (madeCells (mv M.nil).cells ((n + 5) * 6)) 26)) := fun u => by
  obtain ⟨i0, hi, hz0, hz1, hz2⟩ := info_parts info26
  have h := run_make (P := Try.prog) u 22 26 i0 _ Try.underlying22 hi hz0 .i64 .i64 (n : Int) ((n : Int) + 5) (by omega) (by omega) (by rw [hz2]; omega) (by omega)
  have e : ((n : Int) + 5).toNat = n + 5 := by omega
  rw [e, Int.toNat_natCast, hz1] at h
  exact h
theorem made_at (n : Nat) (q : Nat) (hq : q < 6) : ((madeCells (mv M.nil).cells ((n + 5) * 6)).toList.drop (n * 6))[q]? = M.nil.cells[q]? := by
  rw [List.getElem?_drop]
  have hlt : n * 6 + q < (n + 5) * 6 := by omega
  have hm : (n * 6 + q) % 6 = q := by omega
  simp only [madeCells, Array.getElem?_toList]
  rw [Array.getElem?_map, Array.getElem?_range, if_pos hlt]
  have hs : (mv M.nil).cells.size = 6 := rfl
  rw [Option.map_some, hs, hm]
  match q, hq with
  | 0, _ => rfl
  | 1, _ => rfl
  | 2, _ => rfl
  | 3, _ => rfl
  | 4, _ => rfl
  | 5, _ => rfl
end Go.Proofs.Ytobbgndabmnbcaa.Key
