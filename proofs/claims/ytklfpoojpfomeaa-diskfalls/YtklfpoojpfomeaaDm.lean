/-
  Rows of writes in memory; contracts of the document's 'last' and 'put'.
-/
import Derived.Test.YtklfpoojpfomeaaDk
import Derived.Test.YtklfpoojpfomeaaGn
import Derived.Deep.Cut
namespace Go.Proofs.Ytklfpoojpfomeaa.Key
open Go.RowKit Draw
set_option linter.unusedVariables false
set_option linter.unusedSimpArgs false

def Wr.cells (x : Wr) : List Value := [.int .i64 x.ix, .string (str x.b)]
/-- writes in memory, somewhere -/
def Wrs (w : World) (a : Option Addr) (l : List Wr) : Prop := l = [] ∨ ∃ b off, a = some ⟨b, off, none⟩ ∧ (∃ arr ly, w.heap[b]? = some (.cells arr 51 ly)) ∧ ∀ i (h : i < l.length), w.cell? ⟨b, off + i * 2, none⟩ = some (.int .i64 l[i].ix) ∧ w.cell? ⟨b, off + i * 2 + 1, none⟩ = some (.string (str l[i].b))
theorem Wrs.at {w : World} {a : Option Addr} {l : List Wr} (h : Wrs w a l) {i : Nat} (hi : i < l.length) : ∃ b off, a = some ⟨b, off, none⟩ ∧ w.cell? ⟨b, off + i * 2, none⟩ = some (.int .i64 l[i].ix) ∧ w.cell? ⟨b, off + i * 2 + 1, none⟩ = some (.string (str l[i].b)) := by
  rcases h with rfl | ⟨b, off, rfl, _, hc⟩
  · simp at hi
  · exact ⟨b, off, rfl, hc i hi⟩
theorem Wrs.later {w w' : World} {a : Option Addr} {l : List Wr} (h : Wrs w a l) (hb : Below w.heap.size w w') : Wrs w' a l := by
  rcases h with rfl | ⟨b, off, rfl, ⟨arr, ly, hbk⟩, hc⟩
  · exact .inl rfl
  · have hlt : b < w.heap.size := (Array.getElem?_eq_some_iff.1 hbk).1
    exact .inr ⟨b, off, rfl, ⟨arr, ly, (hb.block b hlt).trans hbk⟩, fun i hi => by
    exact ⟨(hb.cell (p := ⟨b, off + i * 2, none⟩) hlt).trans (hc i hi).1, (hb.cell (p := ⟨b, off + i * 2 + 1, none⟩) hlt).trans (hc i hi).2⟩⟩
/-- writes handed back, somewhere in memory -/
def WrsOut (w' : World) (x : Ending) (l : List Wr) : Prop := ∃ a c, x = .returned (.slice a l.length c) ∧ Wrs w' a l
theorem row_wrs {w : World} {B : Nat} {v : Value} {l : List Wr} (h : w.ownsRow B 51 2 v l.length (l.flatMap Wr.cells)) : ∃ a c, v = .slice a l.length c ∧ Wrs w a l := by
  obtain ⟨a, c, e, h1⟩ := row_cells Wr.cells 2 (fun _ => rfl) h
  refine ⟨a, c, e, ?_⟩
  rcases h1 with h1 | ⟨g, e, _, hgc, hc⟩
  · exact .inl h1
  · exact .inr ⟨g, 0, e, (by obtain ⟨cur, hcu⟩ := hgc; exact ⟨cur, _, hcu⟩), fun i hi => ⟨hc i hi 0 _ (by omega) rfl, hc i hi 1 _ (by omega) rfl⟩⟩
theorem WrsOut.row {w : World} {B : Nat} {v : Value} {l : List Wr} (h : w.ownsRow B 51 2 v l.length (l.flatMap Wr.cells)) : WrsOut w (.returned v) l := by
  obtain ⟨a, c, rfl, hp⟩ := row_wrs h
  exact ⟨a, c, rfl, hp⟩
theorem wrs_made (w : World) : (w.alloc (.cells #[] 51)).ownsRow w.heap.size 51 2 (.slice (some ⟨w.heap.size, 0, none⟩) 0 0) ([] : List Wr).length (([] : List Wr).flatMap Wr.cells) :=
  World.ownsRow_made w #[] 0 (Nat.le_refl _) (Nat.zero_le _) (by simp)
/-- a new block that holds one write, as what is appended -/
theorem one_write (w : World) (p : Wr) : ∀ adr, some (⟨w.heap.size, 0, none⟩ : Addr) = some adr → ∀ j u, ([p].flatMap Wr.cells)[j]? = some u → (w.alloc (.cells #[.int .i64 p.ix, .string (str p.b)] 51)).cell? (adr.add j) = some u := by
  rintro adr e
  simp only [Option.some.injEq] at e
  subst e
  intro j u hu
  rw [add_plain, Nat.zero_add]
  have hn : (w.alloc (.cells #[.int .i64 p.ix, .string (str p.b)] 51)).heap[w.heap.size]? = some (.cells #[.int .i64 p.ix, .string (str p.b)] 51 (0, 0)) := Go.heap_alloc_new _ _
  have hj : j < 2 := by have := (List.getElem?_eq_some_iff.1 hu).1; simpa [Wr.cells] using this
  match j, hj with
  | 0, _ => rw [← hu]; exact cell_of_row _ _ 0 _ _ _ hn
  | 1, _ => rw [← hu]; exact cell_of_row _ _ 1 _ _ _ hn
theorem info51 : (Try.prog.info? 51).map (fun i => (i.zero, i.size, i.bytes)) = some (some (.agg #[.int .i64 0, .string ⟨#[]⟩]), 2, 24) := by kernel_rfl
theorem oneW (x : Wr) : ∀ u ∈ x.cells, u.oneCell' = true := by
  intro u hu
  simp only [Wr.cells, List.mem_cons, List.not_mem_nil, or_false] at hu
  rcases hu with rfl | rfl <;> rfl
theorem last_at {l : List Wr} {j : Nat} {x : Wr} (h : l[j]? = some x) (k : Int) (s : List UInt8) : lastD (l.take (j + 1)) k s = if x.ix = k then x.b else lastD (l.take j) k s := by
  rw [List.take_add_one, h]
  exact lastD_snoc _ _ _ _

set_option maxRecDepth 100000 in
set_option maxHeartbeats 2000000 in
theorem last29 (a : Option Addr) (c : Nat) (l : List Wr) (k : Int) (s : List UInt8) (w : World) (hl : l.length ≤ maxLen) (h : Wrs w a l) :
    Calls Try.prog 29 #[.slice a l.length c, .int .i64 k, .string (str s)] w fun x w' => x = .returned (.string (str (lastD l k s))) ∧ Below w.heap.size w w' := by
  have HX := hid (fun (wr : World) (hb : Below w.heap.size w wr) => h.later hb)
  have HS := hid (fun j x (hx : l[j]? = some x) => last_at hx k s)
  have H0 := hid (show lastD (l.take 0) k s = s from rfl)
  have HE := hid (show lastD (l.take l.length) k s = lastD l k s by rw [List.take_length])
  clear h
  generalize lastD l k s = WE at *
  obtain ⟨FT, hFT⟩ : ∃ f : Nat → List UInt8, (fun j => lastD (l.take j) k s) = f := ⟨_, rfl⟩
  simp only [show ∀ j, lastD (l.take j) k s = FT j from fun j => congrFun hFT j] at HS H0 HE
  clear hFT
  unfold maxLen at hl
  generalize hn : l.length = n at *
  have HN := hid hn
  clear hn
  go_enter Try.func29, Try.ntmps29
  go_wp2_with fail
  go_loopw [2, 10] (fun v i wr => ∃ (j : Nat), j ≤ n ∧ i = .int .i64 j ∧ v = .string (str (FT j)) ∧ Below w.heap.size w wr) (fun _ i _ => n - (intOf i).toNat)
  case atStart => exact ⟨0, Nat.zero_le _, rfl, by rw [H0.out], Below.refl _ _⟩
  case round =>
    obtain ⟨j, hj, rfl, rfl, hb⟩ := hrel
    by_cases hlt : j < n
    · have hlt' : j < l.length := by rw [HN.out]; exact hlt
      obtain ⟨b, off, hA, c0, c1⟩ := (HX.out wr hb).at hlt'
      subst hA
      obtain ⟨x, hx⟩ : ∃ x, l[j]? = some x := ⟨_, List.getElem?_eq_getElem hlt'⟩
      have hxe : l[j] = x := by rw [List.getElem?_eq_getElem hlt'] at hx; exact Option.some.inj hx
      rw [hxe] at c0 c1
      have HSx := hid (HS.out j x hx)
      clear hx hxe
      obtain ⟨xk, xv⟩ := x
      dsimp only at *
      by_cases hq : xk = k
      · have HSy := hid (HSx.out.trans (if_pos hq))
        have hd : decide (xk = k) = true := decide_eq_true hq
        subst hq
        go_wp2_with fail
        go_roundw
        case rel => exact ⟨j + 1, by omega, by go_num, by rw [HSy.out], hb⟩
        case measure => simp [intOf]; omega
      · have HSy := hid (HSx.out.trans (if_neg hq))
        have hd : decide (xk = k) = false := decide_eq_false hq
        go_wp2_with fail
        go_roundw
        case rel => exact ⟨j + 1, by omega, by go_num, by rw [HSy.out], hb⟩
        case measure => simp [intOf]; omega
    · obtain rfl : j = n := by omega
      go_wp2_with fail
      go_ret
      exact ⟨by rw [← HE.out]; rfl, hb⟩
/-- a block that holds a write -/
def Ybx (w : World) (k : Nat) (x : Int) (b : List UInt8) : Prop := w.cell? ⟨k, 0, none⟩ = some (.int .i64 x) ∧ w.cell? ⟨k, 1, none⟩ = some (.string (str b))
theorem one_cells (w : World) (x : Int) (b : List UInt8) : Ybx (w.alloc (.cells #[.int .i64 x, .string (str b)] 51)) w.heap.size x b := by
  have hn : (w.alloc (.cells #[.int .i64 x, .string (str b)] 51)).heap[w.heap.size]? = some (.cells #[.int .i64 x, .string (str b)] 51 (0, 0)) := Go.heap_alloc_new _ _
  exact ⟨cell_of_row _ _ 0 _ _ _ hn, cell_of_row _ _ 1 _ _ _ hn⟩
theorem one_later {w w' : World} {k : Nat} {x : Int} {b : List UInt8} (h : Ybx w k x b) (hb : Below w.heap.size w w') : Ybx w' k x b := by
  have hlt : k < w.heap.size := World.block_lt_of_cell? w _ h.1
  exact ⟨(hb.cell (p := ⟨k, 0, none⟩) hlt).trans h.1, (hb.cell (p := ⟨k, 1, none⟩) hlt).trans h.2⟩
theorem filt_put {l : List Wr} {j : Nat} {x : Wr} (k : Int) (h : l[j]? = some x) : (l.take (j + 1)).filter (fun q => decide (q.ix ≠ k)) = if x.ix = k then (l.take j).filter (fun q => decide (q.ix ≠ k)) else (l.take j).filter (fun q => decide (q.ix ≠ k)) ++ [x] := by
  rw [filt_at h]
  by_cases hx : x.ix = k
  · rw [if_neg (by simp [hx]), if_pos hx]
  · rw [if_pos (by simp [hx]), if_neg hx]

theorem below_drew {B : Nat} {w w' : World} (h : Below B w w') (n : Nat) : Below B w (w'.drewN n) := ⟨h.os, h.tape, h.output, h.size, h.block⟩
set_option maxRecDepth 100000 in
set_option maxHeartbeats 2000000 in
theorem put33 (a : Option Addr) (c : Nat) (l : List Wr) (y : Wr) (w : World) (hl : l.length ≤ 90000) (h : Wrs w a l) :
    Calls Try.prog 33 #[.slice a l.length c, .agg #[.int .i64 y.ix, .string (str y.b)]] w fun x w' => WrsOut w' x (putD l y) ∧ Below w.heap.size w w' := by
  have HX := hid (fun (wr : World) (hb : Below w.heap.size w wr) => h.later hb)
  have HS := hid (fun j x (hx : l[j]? = some x) => filt_put y.ix hx)
  have HL := hid (fun j => filter_le (fun q : Wr => decide (q.ix ≠ y.ix)) l j)
  have H0 := hid (show (l.take 0).filter (fun q => decide (q.ix ≠ y.ix)) = [] from rfl)
  have HE := hid (show (l.take l.length).filter (fun q => decide (q.ix ≠ y.ix)) ++ [y] = putD l y by rw [List.take_length]; rfl)
  clear h
  generalize putD l y = WE at *
  obtain ⟨FT, hFT⟩ : ∃ f : Nat → List Wr, (fun j => (l.take j).filter (fun q => decide (q.ix ≠ y.ix))) = f := ⟨_, rfl⟩
  simp only [show ∀ j, (l.take j).filter (fun q => decide (q.ix ≠ y.ix)) = FT j from fun j => congrFun hFT j] at HS HL H0 HE
  clear hFT
  generalize hn : l.length = n at *
  have HN := hid hn
  clear hn
  obtain ⟨yk, yv⟩ := y
  dsimp only at *
  have b0 := below_box w (.cells #[.int .i64 yk, .string (str yv)] 51)
  have Y0 := one_cells w yk yv
  go_enter Try.func33, Try.ntmps33
  go_upto_region 1 with fail
  have s0 : (w.alloc (.cells #[.int .i64 yk, .string (str yv)] 51)).heap.size = w.heap.size + 1 := World.size_alloc _ _
  generalize w.alloc (.cells #[.int .i64 yk, .string (str yv)] 51) = w1 at *
  have b1 := below_box w1 (.cells #[] 51)
  have r0 := wrs_made w1
  rw [s0] at r0 b1
  go_upto_region 2 with fail
  generalize w1.alloc (.cells #[] 51) = w2 at *
  go_wp2_with fail
  go_loopw [5, 10] (fun v i wr => ∃ (j : Nat), j ≤ n ∧ i = .int .i64 j ∧ wr.ownsRow (w.heap.size + 1) 51 2 v (FT j).length ((FT j).flatMap Wr.cells) ∧ Below (w.heap.size + 1) w1 wr) (fun _ i _ => n - (intOf i).toNat)
  case atStart => exact ⟨0, Nat.zero_le _, rfl, by rw [H0.out]; exact r0, b1⟩
  case round =>
    obtain ⟨j, hj, rfl, ho, hb⟩ := hrel
    have hsz := hb.size
    obtain ⟨y0, y1⟩ := one_later Y0 (by rw [s0]; exact hb)
    by_cases hlt : j < n
    · have hlt' : j < l.length := by rw [HN.out]; exact hlt
      obtain ⟨b, off, hA, c0, c1⟩ := (HX.out wr (b0.trans (hb.mono (by omega)))).at hlt'
      subst hA
      obtain ⟨x, hx⟩ : ∃ x, l[j]? = some x := ⟨_, List.getElem?_eq_getElem hlt'⟩
      have hxe : l[j] = x := by rw [List.getElem?_eq_getElem hlt'] at hx; exact Option.some.inj hx
      rw [hxe] at c0 c1
      have HSx := hid (HS.out j x hx)
      have HLj := HL.out j
      clear hx hxe
      have hC := one_write wr x
      obtain ⟨xk, xv⟩ := x
      dsimp only at *
      by_cases hq : xk = yk
      · have HSy := hid (HSx.out.trans (if_pos hq))
        have hd : decide (xk = yk) = true := decide_eq_true hq
        subst hq
        go_wp2_with fail
        go_quiet (fail)
        go_wp2_with fail
        go_roundw
        case rel => exact ⟨j + 1, by omega, by go_num, by rw [HSy.out]; exact row_later ho (below_drew (Below.refl _ _) _), below_drew hb _⟩
        case measure => simp [intOf]; omega
      · have HSy := hid (HSx.out.trans (if_neg hq))
        have hd : decide (xk = yk) = false := decide_eq_false hq
        clear hC
        go_wp2_with fail
        go_quiet (fail)
        replace c0 : (wr.drewN nq).cell? ⟨b, off + j * 2, none⟩ = some (.int .i64 xk) := c0
        replace c1 : (wr.drewN nq).cell? ⟨b, off + j * 2 + 1, none⟩ = some (.string (str xv)) := c1
        have hbq := below_drew hb nq
        have hoq := row_later ho (below_drew (Below.refl _ _) nq)
        clear ho hb y0 y1 hsz
        generalize wr.drewN nq = wq at *
        have hsz := hbq.size
        have hC := one_write wq ⟨xk, xv⟩
        have bx := below_box wq (.cells #[.int .i64 xk, .string (str xv)] 51)
        have ho2 := row_later hoq bx
        have hb2 := hbq.trans (bx.mono (by omega))
        obtain ⟨oa, on, oc, rfl⟩ := row_slice hoq
        clear hoq
        dsimp only at hC
        go_wp2_with (first | (at_builtin; refine appGen Wr.cells 2 24 29 51 _ (by omega) (fun _ => rfl) Try.underlying29 info51 rfl (by omega) oneW (w0 := w1) rfl _ _ rfl (w.heap.size + 1) _ (FT j) rfl ho2 (some ⟨wq.heap.size, 0, none⟩) 1 1 [⟨xk, xv⟩] rfl (by simp) rfl hC (by omega) (by simp; omega) hb2 ?_; intro v' w9 h1 h2 _; clear ho2 hb2 bx hC) | fail)
        go_roundw
        case rel => exact ⟨j + 1, by omega, by go_num, by rw [HSy.out]; exact h1, h2⟩
        case measure => simp [intOf]; omega
    · obtain rfl : j = n := by omega
      have HLj := HL.out j
      have hC := one_write wr ⟨yk, yv⟩
      have bx := below_box wr (.cells #[.int .i64 yk, .string (str yv)] 51)
      have ho2 := row_later ho bx
      have hb2 := hb.trans (bx.mono (by omega))
      obtain ⟨oa, on, oc, rfl⟩ := row_slice ho
      clear ho
      go_wp2_with (first | (at_builtin; refine appGen Wr.cells 2 24 29 51 _ (by omega) (fun _ => rfl) Try.underlying29 info51 rfl (by omega) oneW (w0 := w1) rfl _ _ rfl (w.heap.size + 1) _ (FT j) rfl ho2 (some ⟨wr.heap.size, 0, none⟩) 1 1 [⟨yk, yv⟩] rfl (by simp) rfl hC (by omega) (by simp; omega) hb2 ?_; intro v' w9 h1 h2 _; clear ho2 hb2 bx hC y0 y1) | fail)
      go_ret
      exact ⟨by rw [← HE.out]; exact WrsOut.row h1, b0.trans (h2.mono (by omega))⟩
end Go.Proofs.Ytklfpoojpfomeaa.Key
