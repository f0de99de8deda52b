/-
  Contracts of the program's disk: 'Read'; a torn block.
-/
import Derived.Test.YtklfpoojpfomeaaPc
namespace Go.Proofs.Ytklfpoojpfomeaa.Key
open Go.RowKit Draw
set_option linter.unusedVariables false
set_option linter.unusedSimpArgs false
set_option maxRecDepth 100000 in
theorem lookS {w : World} {ops : Array Oper} {rest : List Oper} {o : Oper} {a : Act} {Q : Exit → Act → World → Prop} (hg : o.guard = none) (m x : Operand) (hop : o.op = Op.lookup 54 m x false)
    (b n : Nat) (f : Int → Option Value) (ov : Option Value) (hm : a.eval m = .map (some b)) (h : VMap w b n f) (z : Int) (hx : a.eval x = .int .i64 z) (hw : (Lit.int .i64 z).wf = true) (hf : f z = ov)
    (hK : wpList Try.prog ops Q rest (a.put o.dst (ov.getD (.slice none 0 0))) w) : wpList Try.prog ops Q (o :: rest) a w := by
  subst hf
  exact lookV hg m x hop b n f hm h z hx hw hK
theorem lookSok {w : World} {ops : Array Oper} {rest : List Oper} {o : Oper} {a : Act} {Q : Exit → Act → World → Prop} (hg : o.guard = none) (m x : Operand) (hop : o.op = Op.lookup 54 m x true)
    (b n : Nat) (f : Int → Option Value) (ov : Option Value) (hm : a.eval m = .map (some b)) (h : VMap w b n f) (z : Int) (hx : a.eval x = .int .i64 z) (hw : (Lit.int .i64 z).wf = true) (hf : f z = ov)
    (hK : wpList Try.prog ops Q rest (a.put o.dst (.tuple #[ov.getD (.slice none 0 0), .bool ov.isSome])) w) : wpList Try.prog ops Q (o :: rest) a w := by
  subst hf
  exact lookVok hg m x hop b n f hm h z hx hw hK
theorem wholeD_full (b : List UInt8) (h : b.length = 2048) : wholeD b = b := by
  unfold wholeD
  rw [List.take_append_of_le_length (by omega), List.take_of_length_le (by omega)]
/-- what a block's place reads as -/
def thereV (o : Option Pb) : Value := (o.map fun q => bval q.k).getD (.slice none 0 0)
def thereB (o : Option Pb) : List UInt8 := match o with | some q => q.b | none => wholeD []
theorem whole28q (o : Option Pb) (w : World) {Z : Nat} (h : ∀ q, o = some q → Blk w Z q) :
    Calls Try.prog 28 #[thereV o] w fun x w' => x = .returned (bval w.heap.size) ∧ w' = w.alloc (.cells (bytesC (thereB o)) 5) := by
  cases o with
  | none => exact whole28 [] none 0 w (by simp) (.inl rfl) (fun _ => ⟨rfl, rfl⟩)
  | some q =>
    have hq := h q rfl
    have := whole28 q.b (some ⟨q.k, 0, none⟩) 2048 w (by rw [hq.2.1]; omega) hq.bytes (fun e => by cases e)
    rw [hq.2.1, wholeD_full _ hq.2.1] at this
    exact this
theorem thereB_len (o : Option Pb) {w : World} {Z : Nat} (h : ∀ q, o = some q → Blk w Z q) : (thereB o).length = 2048 := by
  cases o with
  | none => exact wholeD_len []
  | some q => exact (h q rfl).2.1
/-- what reading it finds -/
def findP (g : Pg) (k : Int) : Option Pb := match g.last k with | some q => some q | none => g.kept k
theorem find_blk {w : World} {B Z p : Nat} {g : Pg} {mk ml : Nat} {wv : Value} {nk nl : Nat} (h : Raw w B Z p g mk ml wv nk nl) (k : Int) : ∀ q, findP g k = some q → Blk w Z q := by
  intro q hq
  unfold findP at hq
  split at hq
  · next x hx => cases hq; exact h.lb k _ hx
  · exact h.kb k _ hq
set_option maxHeartbeats 2000000 in
theorem read15 {w : World} {B Z p : Nat} {g : Pg} {mk ml : Nat} {wv : Value} {nk nl : Nat} (h : Raw w B Z p g mk ml wv nk nl) (k : Int) (hkw : (Lit.int .i64 k).wf = true) :
    Calls Try.prog 15 #[ptr p, .int .i64 k] w fun x w' => (if refP g k = 0 then ∃ K, x = .returned (.tuple #[bval K, .int .i64 0]) ∧ w'.heap[K]? = some (.cells (bytesC (thereB (findP g k))) 5 (0, 0)) ∧ w.heap.size ≤ K else x = .returned (.tuple #[.slice none 0 0, .int .i64 (refP g k)])) ∧ Below w.heap.size w w' := by
  have HREF := refuses27 h k
  have HH := hid h
  by_cases hr : refP g k = 0
  case neg =>
    simp only [if_neg hr]
    clear h
    generalize refP g k = r at *
    have hd : decide (r = 0) = false := decide_eq_false hr
    go_enter Try.func15, Try.ntmps15
    go_wp2_with fail
    refine HREF.mono ?_
    rintro e w1 ⟨rfl, hb2⟩
    go_wp2_with fail
    exact bodyPost_ret (v := .tuple #[.slice none 0 0, .int .i64 r]) (by simp [results, Try.results15, go_sem]) rfl ⟨rfl, hb2⟩
  case pos =>
    simp only [if_pos hr]
    rw [hr] at HREF
    have hfb := find_blk h k
    have HWH := hid (fun (u : World) (hu : Below w.heap.size w u) => whole28q (findP g k) u (fun q hq => (hfb q hq).later hu))
    obtain ⟨T, hT⟩ : ∃ T, thereB (findP g k) = T := ⟨_, rfl⟩
    rw [hT] at HWH ⊢
    clear h
    cases hl : g.last k with
    | some q =>
      have hV : thereV (findP g k) = bval q.k := by unfold findP; rw [hl]; rfl
      rw [hV] at HWH
      have hlv : (fun z => (g.last z).map fun q => bval q.k) k = some (bval q.k) := by show (g.last k).map _ = _; rw [hl]; rfl
      go_enter Try.func15, Try.ntmps15
      go_wp2_with fail
      refine HREF.mono ?_
      rintro e w1 ⟨rfl, hb2⟩
      have R1 := HH.out.later hb2
      obtain ⟨c0, c1, c2, c3, c4, c5, c6⟩ := R1.cells
      have HL := R1.lm
      have HW1 := HWH.out w1 hb2
      clear HREF HWH R1
      go_wp2_with (refine lookSok rfl _ _ rfl ml nl _ (some (bval q.k)) rfl HL k rfl hkw hlv ?_)
      refine HW1.mono ?_
      rintro e w2 ⟨rfl, hw2⟩
      have h21 := hb2.size
      have hb3 : Below w1.heap.size w1 w2 := by rw [hw2]; exact below_box _ _
      have hKb : w2.heap[w1.heap.size]? = some (.cells (bytesC T) 5 (0, 0)) := by rw [hw2]; exact Go.heap_alloc_new _ _
      generalize w1.heap.size = K at *
      have HF := hid (And.intro hKb (And.intro h21 (hb2.trans (hb3.mono h21))))
      clear hw2 HW1 hKb hb3 HL c0 c1 c2 c3 c4 c5 c6
      go_wp2_with fail
      exact bodyPost_ret (v := .tuple #[bval K, .int .i64 0]) (by simp [results, Try.results15, go_sem]) rfl ⟨⟨K, rfl, HF.out.1, HF.out.2.1⟩, HF.out.2.2⟩
    | none =>
      have hlv : (fun z => (g.last z).map fun q => bval q.k) k = none := by show (g.last k).map _ = _; rw [hl]; rfl
      have hV : thereV (findP g k) = ((g.kept k).map fun q => bval q.k).getD (.slice none 0 0) := by unfold findP; rw [hl]; rfl
      rw [hV] at HWH
      obtain ⟨ov, hov⟩ : ∃ ov, (g.kept k).map (fun q => bval q.k) = ov := ⟨_, rfl⟩
      rw [hov] at HWH
      have hkv : (fun z => (g.kept z).map fun q => bval q.k) k = ov := hov
      obtain ⟨sv, hsv⟩ : ∃ sv, ov.getD (.slice none 0 0) = sv := ⟨_, rfl⟩
      rw [hsv] at HWH
      go_enter Try.func15, Try.ntmps15
      go_wp2_with fail
      refine HREF.mono ?_
      rintro e w1 ⟨rfl, hb2⟩
      have R1 := HH.out.later hb2
      obtain ⟨c0, c1, c2, c3, c4, c5, c6⟩ := R1.cells
      have HL := R1.lm
      have HK := R1.km
      have HW1 := HWH.out w1 hb2
      clear HREF HWH R1
      go_wp2_with (first | refine lookSok rfl _ _ rfl ml nl _ none rfl HL k rfl hkw hlv ?_ | (refine lookS rfl _ _ rfl mk nk _ ov rfl HK k rfl hkw hkv ?_; rw [hsv]))
      refine HW1.mono ?_
      rintro e w2 ⟨rfl, hw2⟩
      have h21 := hb2.size
      have hb3 : Below w1.heap.size w1 w2 := by rw [hw2]; exact below_box _ _
      have hKb : w2.heap[w1.heap.size]? = some (.cells (bytesC T) 5 (0, 0)) := by rw [hw2]; exact Go.heap_alloc_new _ _
      generalize w1.heap.size = K at *
      have HF := hid (And.intro hKb (And.intro h21 (hb2.trans (hb3.mono h21))))
      clear hw2 HW1 hKb hb3 HL HK c0 c1 c2 c3 c4 c5 c6
      go_wp2_with fail
      exact bodyPost_ret (v := .tuple #[bval K, .int .i64 0]) (by simp [results, Try.results15, go_sem]) rfl ⟨⟨K, rfl, HF.out.1, HF.out.2.1⟩, HF.out.2.2⟩
theorem torn_cells (T b : List UInt8) (hT : T.length = 2048) (hb : b.length = 2048) (n : Nat) (hn : n ≤ 2048) :
    ((bytesC T).toList.take 0 ++ ((nums (str (b.take n))).map (Value.int .u8)) ++ (bytesC T).toList.drop (0 + n)).toArray = bytesC (b.take n ++ T.drop n) := by
  unfold bytesC
  rw [List.take_zero, List.nil_append, Nat.zero_add, ← List.map_drop, ← List.map_append]
  congr 2
  simp only [nums, str_data, List.map_append, List.map_drop]
set_option maxRecDepth 100000 in
set_option maxHeartbeats 1000000 in
theorem tear32 (w : World) {Z : Nat} (q : Pb) (hq : Blk w Z q) (o : Option Pb) (ho : ∀ q, o = some q → Blk w Z q) (n : Int) :
    Calls Try.prog 32 #[bval q.k, thereV o, .int .i64 n] w fun x w' => x = .returned (bval w.heap.size) ∧ w' = w.alloc (.cells (bytesC (q.b.take (byD n) ++ (thereB o).drop (byD n))) 5) := by
  obtain ⟨i, hi, hz0, hz1, hz2⟩ := info_parts info5
  have HWH := whole28q o w ho
  have hTl := thereB_len o ho
  generalize thereV o = vo at *
  generalize thereB o = T at *
  have hm0 : (0 : Int) ≤ min (max n 0) 2048 := by omega
  have hm2 : min (max n 0) 2048 ≤ ((2048 : Nat) : Int) := by omega
  obtain ⟨m, hm⟩ : ∃ m, byD n = m := ⟨_, rfl⟩
  have hm' : (min (max n 0) 2048).toNat = m := hm
  have hmle : m ≤ 2048 := by omega
  rw [hm]
  have hcp : ∀ ty, (Builtin.copy_ #[34, 34] ty #[.slice (some ⟨w.heap.size, 0, none⟩) 2048 2048, .slice (some ⟨q.k, 0, none⟩) m 2048]).run Try.prog (w.alloc (.cells (bytesC T) 5)) = .ok (goInt m) (w.alloc (.cells (bytesC (q.b.take m ++ T.drop m)) 5)) := fun ty => by
    have hlen : ((nums (str (q.b.take m))).map (Value.int .u8)).length = m := by rw [List.length_map, nums_length, str_size, List.length_take, hq.2.1]; omega
    have hsz : (bytesC T).size = 2048 := by unfold bytesC; simp [nums_length, str_size, hTl]
    have hsrc : ∀ j v, ((nums (str (q.b.take m))).map (Value.int .u8))[j]? = some v → (w.alloc (.cells (bytesC T) 5)).cell? (Addr.add ⟨q.k, 0, none⟩ j) = some v := by
      intro j v hv
      have hbl := hq.later (below_box w (.cells (bytesC T) 5))
      have hj : j < m := by
        have := (List.getElem?_eq_some_iff.1 hv).1
        omega
      rw [add_plain, Nat.zero_add, cell_of_row _ q.k j _ 5 _ hbl.1]
      unfold bytesC
      rw [List.getElem?_toArray, ← hv]
      simp only [nums, str_data, List.map_take, List.getElem?_map, List.getElem?_take_of_lt hj]
    have := run_copy_row (P := Try.prog) (w.alloc (.cells (bytesC T) 5)) 34 34 ty 5 w.heap.size 0 2048 2048 ⟨q.k, 0, none⟩ m 2048 (bytesC T) 5 ((nums (str (q.b.take m))).map (Value.int .u8)) Try.underlying34 (by rw [hi]; exact congrArg some hz1) (Go.heap_alloc_new _ _) (by rw [hlen]; exact (Nat.min_eq_left hmle).symm) hsrc (by rw [hlen, hsz]; omega) (by intro v hv; obtain ⟨x, _, rfl⟩ := List.mem_map.1 hv; rfl)
    rw [this, World.setRow_alloc_new, hlen, torn_cells T q.b hTl hq.2.1 m hmle]
  clear hq hTl
  generalize bytesC (q.b.take m ++ T.drop m) = R at *
  generalize bytesC T = C at *
  generalize q.k = kq at *
  go_enter Try.func32, Try.ntmps32
  go_wp2_with fail
  refine HWH.mono ?_
  rintro e w1 ⟨rfl, rfl⟩
  go_wp2_with (at_builtin; refine wpList_copy_runI _ rfl _ _ 34 34 rfl _ _ rfl rfl (hcp _) ?_)
  go_ret
  exact ⟨rfl, rfl⟩
end Go.Proofs.Ytklfpoojpfomeaa.Key
