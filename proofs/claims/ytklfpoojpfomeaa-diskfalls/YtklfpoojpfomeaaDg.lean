/-
  The document's disk by value: boxes that hold one; 'Barrier'.
-/
import Derived.Test.YtklfpoojpfomeaaDe
import Derived.Test.YtklfpoojpfomeaaPf
namespace Go.Proofs.Ytklfpoojpfomeaa.Key
open Go.RowKit Draw
set_option linter.unusedVariables false
set_option linter.unusedSimpArgs false
/-- a block that holds a disk -/
def DB (w : World) (b : Nat) (n : Int) (k wv : Value) (dn : Bool) (fl fu : Int) : Prop := w.heap[b]? = some (.cells (dcs n k wv dn fl fu) 31 (0, 0))
theorem DB.lt {w : World} {b : Nat} {n : Int} {k wv : Value} {dn : Bool} {fl fu : Int} (h : DB w b n k wv dn fl fu) : b < w.heap.size := (Array.getElem?_eq_some_iff.1 h).1
theorem DB.later {w w' : World} {b : Nat} {n : Int} {k wv : Value} {dn : Bool} {fl fu : Int} (h : DB w b n k wv dn fl fu) (hb : Below w.heap.size w w') : DB w' b n k wv dn fl fu := (hb.block b h.lt).trans h
theorem DB.cells {w : World} {b : Nat} {n : Int} {k wv : Value} {dn : Bool} {fl fu : Int} (h : DB w b n k wv dn fl fu) : w.cell? ⟨b, 0, none⟩ = some (.int .i64 n) ∧ w.cell? ⟨b, 1, none⟩ = some k ∧ w.cell? ⟨b, 2, none⟩ = some wv ∧ w.cell? ⟨b, 3, none⟩ = some (.bool dn) ∧ w.cell? ⟨b, 4, none⟩ = some (.int .i64 fl) ∧ w.cell? ⟨b, 5, none⟩ = some (.int .i64 fu) :=
  ⟨cell_of_row w b 0 _ 31 _ h, cell_of_row w b 1 _ 31 _ h, cell_of_row w b 2 _ 31 _ h, cell_of_row w b 3 _ 31 _ h, cell_of_row w b 4 _ 31 _ h, cell_of_row w b 5 _ 31 _ h⟩
theorem DB.free {w : World} {b : Nat} {n : Int} {k wv : Value} {dn : Bool} {fl fu : Int} (h : DB w b n k wv dn fl fu) (i : Nat) : w.frozen? ⟨b, i, none⟩ = false := frozen_of_row w b i _ 31 h
theorem DB.set1 {w : World} {b : Nat} {n : Int} {k wv : Value} {dn : Bool} {fl fu : Int} (h : DB w b n k wv dn fl fu) (v : Value) : DB (w.setCell ⟨b, 1, none⟩ v) b n v wv dn fl fu := (heap_setCell_same w b 1 _ 31 v h).trans rfl
theorem DB.set2 {w : World} {b : Nat} {n : Int} {k wv : Value} {dn : Bool} {fl fu : Int} (h : DB w b n k wv dn fl fu) (v : Value) : DB (w.setCell ⟨b, 2, none⟩ v) b n k v dn fl fu := (heap_setCell_same w b 2 _ 31 v h).trans rfl
theorem DB.set3 {w : World} {b : Nat} {n : Int} {k wv : Value} {dn : Bool} {fl fu : Int} (h : DB w b n k wv dn fl fu) (v : Bool) : DB (w.setCell ⟨b, 3, none⟩ (.bool v)) b n k wv v fl fu := (heap_setCell_same w b 3 _ 31 _ h).trans rfl
theorem DB.set5 {w : World} {b : Nat} {n : Int} {k wv : Value} {dn : Bool} {fl fu : Int} (h : DB w b n k wv dn fl fu) (v : Int) : DB (w.setCell ⟨b, 5, none⟩ (.int .i64 v)) b n k wv dn fl v := (heap_setCell_same w b 5 _ 31 _ h).trans rfl
theorem DB.other {w : World} {b b' : Nat} {n : Int} {k wv : Value} {dn : Bool} {fl fu : Int} (h : DB w b n k wv dn fl fu) (hne : b ≠ b') (i : Nat) (v : Value) : DB (w.setCell ⟨b', i, none⟩ v) b n k wv dn fl fu := (heap_setCell_other w ⟨b', i, none⟩ b v hne).trans h
theorem Wrs.grown {w w' : World} {a : Option Addr} {l : List Wr} {row : Option Nat} (h : Wrs w a l) (hg : w.grownBy w' row) (hr : ∀ ad, a = some ad → row ≠ some ad.block) : Wrs w' a l := by
  rcases h with rfl | ⟨b, off, rfl, ⟨arr, ly, hbk⟩, hc⟩
  · exact .inl rfl
  · have hlt : b < w.heap.size := (Array.getElem?_eq_some_iff.1 hbk).1
    have hbl := hg.block b hlt (fun e => hr _ rfl e.symm)
    exact .inr ⟨b, off, rfl, ⟨arr, ly, hbl.trans hbk⟩, fun i hi => ⟨(World.cell?_of_block (a := ⟨b, off + i * 2, none⟩) hbl).trans (hc i hi).1, (World.cell?_of_block (a := ⟨b, off + i * 2 + 1, none⟩) hbl).trans (hc i hi).2⟩⟩
/-- writes' block is no other type's -/
theorem Wrs.keep {w w' : World} {a : Option Addr} {l : List Wr} (h : Wrs w a l) (hk : ∀ (b : Nat) (arr : Array Value) (ly : Nat × Nat), w.heap[b]? = some (Obj.cells arr 51 ly) → w'.heap[b]? = some (Obj.cells arr 51 ly)) : Wrs w' a l := by
  rcases h with rfl | ⟨b, off, rfl, ⟨arr, ly, hbk⟩, hc⟩
  · exact .inl rfl
  · have hbl := (hk b arr ly hbk).trans hbk.symm
    exact .inr ⟨b, off, rfl, ⟨arr, ly, hk b arr ly hbk⟩, fun i hi => ⟨(World.cell?_of_block (a := ⟨b, off + i * 2, none⟩) hbl).trans (hc i hi).1, (World.cell?_of_block (a := ⟨b, off + i * 2 + 1, none⟩) hbl).trans (hc i hi).2⟩⟩
theorem Wrs.soft {w w' : World} {B : Nat} {a : Option Addr} {l : List Wr} (h : Wrs w a l) (hs : Soft B w w') : Wrs w' a l := h.keep fun b arr ly hb => hs.old b arr 51 ly hb (by decide) (by decide)
theorem Wrs.set {w : World} {a : Option Addr} {l : List Wr} {b : Nat} {n : Int} {k wv : Value} {dn : Bool} {fl fu : Int} (h : Wrs w a l) (hb : DB w b n k wv dn fl fu) (i : Nat) (v : Value) : Wrs (w.setCell ⟨b, i, none⟩ v) a l :=
  h.keep fun b' arr ly hb' => (heap_setCell_other w ⟨b, i, none⟩ b' v (fun e => by
    have e : b' = b := e
    subst e
    unfold DB at hb
    rw [hb] at hb'
    simp only [Option.some.injEq, Obj.cells.injEq] at hb'
    exact absurd hb'.2.1 (by decide))).trans hb'
theorem below_at {B : Nat} {w w' : World} (h : Below B w w') (b : Nat) (hb : B ≤ b) (hs : B ≤ w'.heap.size) (i : Nat) (v : Value) : Below B w (w'.setCell ⟨b, i, none⟩ v) := h.grown (grown_set w' b i v) hs fun k hk => by cases hk; exact hb
/-- a disk that is read from its block, and one that is stored into one -/
theorem info31 : (Try.prog.info? 31).map (·.size) = some 6 := by kernel_rfl
theorem DB.load {w : World} {b : Nat} {n : Int} {k wv : Value} {dn : Bool} {fl fu : Int} (h : DB w b n k wv dn fl fu) : (loadVar 31 ⟨b, 0, none⟩).run Try.prog w = .ok (.agg (dcs n k wv dn fl fu)) w :=
  run_loadVar_row w b 31 31 _ (0, 0) _ h Try.underlying31 rfl info31
theorem DB.fill {w : World} {b : Nat} {n n' : Int} {k wv k' wv' : Value} {dn dn' : Bool} {fl fu fl' fu' : Int} (h : DB w b n k wv dn fl fu) :
    DB ((((((w.setCell ⟨b, 0, none⟩ (.int .i64 n')).setCell ⟨b, 1, none⟩ k').setCell ⟨b, 2, none⟩ wv').setCell ⟨b, 3, none⟩ (.bool dn')).setCell ⟨b, 4, none⟩ (.int .i64 fl')).setCell ⟨b, 5, none⟩ (.int .i64 fu')) b n' k' wv' dn' fl' fu' ∧
    w.grownBy ((((((w.setCell ⟨b, 0, none⟩ (.int .i64 n')).setCell ⟨b, 1, none⟩ k').setCell ⟨b, 2, none⟩ wv').setCell ⟨b, 3, none⟩ (.bool dn')).setCell ⟨b, 4, none⟩ (.int .i64 fl')).setCell ⟨b, 5, none⟩ (.int .i64 fu')) (some b) :=
  ⟨(heap_setCell_same _ b 5 _ 31 _ (heap_setCell_same _ b 4 _ 31 _ (heap_setCell_same _ b 3 _ 31 _ (heap_setCell_same _ b 2 _ 31 _ (heap_setCell_same _ b 1 _ 31 _ (heap_setCell_same w b 0 _ 31 _ h)))))).trans rfl,
   ((((((grown_set w b 0 _).trans (grown_set _ b 1 _)).trans (grown_set _ b 2 _)).trans (grown_set _ b 3 _)).trans (grown_set _ b 4 _)).trans (grown_set _ b 5 _))⟩
theorem Wrs.beside {w w' : World} {a : Option Addr} {l : List Wr} {b : Nat} {n : Int} {k wv : Value} {dn : Bool} {fl fu : Int} (h : Wrs w a l) (hb : DB w b n k wv dn fl fu) (hg : w.grownBy w' (some b)) : Wrs w' a l :=
  h.keep fun b' arr ly hb' => (hg.block b' (Array.getElem?_eq_some_iff.1 hb').1 (fun e => by
    have e : b' = b := Option.some.inj e
    subst e
    unfold DB at hb
    rw [hb] at hb'
    simp only [Option.some.injEq, Obj.cells.injEq] at hb'
    exact absurd hb'.2.1 (by decide))).trans hb'
theorem putD_len (l : List Wr) (x : Wr) : (putD l x).length ≤ l.length + 1 := by
  unfold putD
  rw [List.length_append, List.length_singleton]
  have := List.length_filter_le (fun y : Wr => decide (y.ix ≠ x.ix)) l
  omega
theorem puts_len (m l : List Wr) : (m.foldl putD l).length ≤ l.length + m.length := by
  induction m generalizing l with
  | nil => simp
  | cons x m ih =>
    have h1 := ih (putD l x)
    have h2 := putD_len l x
    rw [List.foldl_cons, List.length_cons]
    omega
theorem puts_at {l m : List Wr} {j : Nat} {x : Wr} (h : m[j]? = some x) : (m.take (j + 1)).foldl putD l = putD ((m.take j).foldl putD l) x := by
  rw [List.take_add_one, h]
  simp
theorem boxes (w : World) (n : Int) (k wv : Value) (dn : Bool) (fl fu : Int) :
    DB ((w.alloc (.cells #[.int .i64 n, k, wv, .bool dn, .int .i64 fl, .int .i64 fu] 31)).alloc (.cells #[.int .i64 0, .slice none 0 0, .slice none 0 0, .bool false, .int .i64 0, .int .i64 0] 31)) w.heap.size n k wv dn fl fu ∧
    DB ((w.alloc (.cells #[.int .i64 n, k, wv, .bool dn, .int .i64 fl, .int .i64 fu] 31)).alloc (.cells #[.int .i64 0, .slice none 0 0, .slice none 0 0, .bool false, .int .i64 0, .int .i64 0] 31)) (w.heap.size + 1) 0 (.slice none 0 0) (.slice none 0 0) false 0 0 ∧
    Below w.heap.size w ((w.alloc (.cells #[.int .i64 n, k, wv, .bool dn, .int .i64 fl, .int .i64 fu] 31)).alloc (.cells #[.int .i64 0, .slice none 0 0, .slice none 0 0, .bool false, .int .i64 0, .int .i64 0] 31)) := by
  have b0 := below_box w (.cells #[.int .i64 n, k, wv, .bool dn, .int .i64 fl, .int .i64 fu] 31)
  have T1 : DB (w.alloc (.cells #[.int .i64 n, k, wv, .bool dn, .int .i64 fl, .int .i64 fu] 31)) w.heap.size n k wv dn fl fu := Go.heap_alloc_new _ _
  have b1 := below_box (w.alloc (.cells #[.int .i64 n, k, wv, .bool dn, .int .i64 fl, .int .i64 fu] 31)) (.cells #[.int .i64 0, .slice none 0 0, .slice none 0 0, .bool false, .int .i64 0, .int .i64 0] 31)
  refine ⟨T1.later b1, ?_, b0.trans (b1.mono b0.size)⟩
  have T2 : DB ((w.alloc (.cells #[.int .i64 n, k, wv, .bool dn, .int .i64 fl, .int .i64 fu] 31)).alloc (.cells #[.int .i64 0, .slice none 0 0, .slice none 0 0, .bool false, .int .i64 0, .int .i64 0] 31)) (w.alloc (.cells #[.int .i64 n, k, wv, .bool dn, .int .i64 fl, .int .i64 fu] 31)).heap.size 0 (.slice none 0 0) (.slice none 0 0) false 0 0 := Go.heap_alloc_new _ _
  rw [World.size_alloc] at T2
  exact T2
set_option maxRecDepth 100000 in
set_option maxHeartbeats 4000000 in
theorem barrier24 (d : Dk) (ka wa : Option Addr) (kc wc : Nat) (w : World) (hl : d.kept.length + d.waits.length ≤ 90000) (h : DLies w d ka wa) :
    Calls Try.prog 24 #[dv d ka wa kc wc] w fun x w' => (∃ ka' kc' wa' wc', x = .returned (dv (barrierD d) ka' wa' kc' wc') ∧ DLies w' (barrierD d) ka' wa' ∧ (wa' = none → wc' = 0)) ∧ Below w.heap.size w w' := by
  obtain ⟨nn, kp, wt, dn, fl, fu⟩ := d
  dsimp only [dv] at *
  obtain ⟨hk0, hw0⟩ := h
  dsimp only at hk0 hw0
  have HRes := hid (show barrierD ⟨nn, kp, wt, dn, fl, fu⟩ = ⟨nn, (wt.take wt.length).foldl putD kp, [], dn, fl, fu⟩ by rw [List.take_length]; rfl)
  generalize barrierD ⟨nn, kp, wt, dn, fl, fu⟩ = DD at *
  have HS := hid (fun j x (hx : wt[j]? = some x) => puts_at (l := kp) hx)
  have HLn := hid (fun j => show ((wt.take j).foldl putD kp).length ≤ 90000 by
    have h1 := puts_len (wt.take j) kp
    have h2 : (wt.take j).length ≤ wt.length := by rw [List.length_take]; omega
    omega)
  have H0 := hid (show (wt.take 0).foldl putD kp = kp from rfl)
  obtain ⟨FT, hFT⟩ : ∃ FT : Nat → List Wr, ∀ j, (wt.take j).foldl putD kp = FT j := ⟨_, fun _ => rfl⟩
  simp only [hFT] at HRes HS HLn H0
  clear hFT
  have hwl : wt.length ≤ 90000 := by omega
  clear hl
  obtain ⟨n, hnn⟩ : ∃ n, wt.length = n := ⟨_, rfl⟩
  rw [hnn] at HRes hwl ⊢
  have HN := hid hnn
  clear hnn
  go_enter Try.func24, Try.ntmps24
  go_upto_region 1 with fail
  obtain ⟨T1, T2, bb⟩ := boxes w nn (.slice ka kp.length kc) (.slice wa n wc) dn fl fu
  have hk1 := hk0.later bb
  have hw1 := hw0.later bb
  clear hk0 hw0
  generalize (w.alloc (.cells #[.int .i64 nn, .slice ka kp.length kc, .slice wa n wc, .bool dn, .int .i64 fl, .int .i64 fu] 31)).alloc (.cells #[.int .i64 0, .slice none 0 0, .slice none 0 0, .bool false, .int .i64 0, .int .i64 0] 31) = w1 at *
  generalize hB1 : w.heap.size = b1 at *
  have hne : b1 + 1 ≠ b1 := by omega
  have hlb2 : b1 ≤ b1 + 1 := by omega
  generalize b1 + 1 = b2 at *
  have HB1 := hid hB1
  clear hB1
  obtain ⟨c0, c1, c2, c3, c4, c5⟩ := T1.cells
  have HT := hid (And.intro T1 (And.intro T2 (And.intro hk1 (And.intro hw1 bb))))
  clear T1 T2 hk1 hw1 bb
  go_wp2_with fail
  clear c0 c1 c2 c3 c4 c5
  go_loopw [7] (fun i wr => ∃ (j : Nat), j ≤ n ∧ i = .int .i64 j ∧ ∃ ka1 kc1, (DB wr b1 nn (.slice ka1 (FT j).length kc1) (.slice wa n wc) dn fl fu ∧ Wrs wr ka1 (FT j)) ∧ Wrs wr wa wt ∧ DB wr b2 0 (.slice none 0 0) (.slice none 0 0) false 0 0 ∧ Below b1 w wr) (fun i _ => n - (intOf i).toNat)
  case atStart =>
    obtain ⟨q1, q2, q3, q4, q5⟩ := HT.out
    exact ⟨0, Nat.zero_le _, rfl, ka, kc, by rw [H0.out]; exact ⟨q1, q3⟩, q4, q2, q5⟩
  case round =>
    obtain ⟨j, hj, rfl, ka1, kc1, ⟨hBX, hKK⟩, hWW, hRX, hb⟩ := hrel
    clear HT H0
    have hsz := hb.size
    rw [HB1.out] at hsz
    by_cases hlt : j < n
    · have hlt' : j < wt.length := by rw [HN.out]; exact hlt
      have HKK := hid hKK
      have hKl := HLn.out j
      obtain ⟨x, hx⟩ : ∃ x, wt[j]? = some x := ⟨_, List.getElem?_eq_getElem hlt'⟩
      have hxe : wt[j] = x := by rw [List.getElem?_eq_getElem hlt'] at hx; exact Option.some.inj hx
      have HKj := hid (HS.out j x hx)
      obtain ⟨b7, o7, hA, x0, x1⟩ := hWW.at hlt'
      subst hA
      rw [hxe] at x0 x1
      have hb7 := World.block_lt_of_cell? wr _ x0
      have HXC := hid (fun (u : World) (hu : Below wr.heap.size wr u) => And.intro ((hu.cell (p := ⟨b7, o7 + j * 2, none⟩) hb7).trans x0) ((hu.cell (p := ⟨b7, o7 + j * 2 + 1, none⟩) hb7).trans x1))
      clear hx hxe x0 x1 hlt' hKK
      obtain ⟨xi, xb⟩ := x
      dsimp only at *
      obtain ⟨K, hK⟩ : ∃ K, FT j = K := ⟨_, rfl⟩
      rw [hK] at hBX HKK hKl HKj
      clear hK
      have HPU := hid (fun (u : World) (hu : Below wr.heap.size wr u) => put33 ka1 kc1 K ⟨xi, xb⟩ u hKl (HKK.out.later hu))
      dsimp only at HPU
      obtain ⟨Kn, hKn⟩ : ∃ Kn, K.length = Kn := ⟨_, rfl⟩
      rw [hKn] at hBX hKl HPU
      clear hKn hKl
      have hlb : b1 ≤ b1 := Nat.le_refl _
      go_upto_region 4 with fail
      refine region_new [(some 10, [], true), (some 11, [(0, 10)], true), (some 12, [], true), (some 13, [(2, 12)], true), (some 14, [], true), (some 15, [(3, 13), (4, 14)], true), (some 16, [(5, 15)], true), (some 17, [(1, 11), (6, 16)], true), (some 18, [], true), (none, [(8, 18), (7, 17)], true)]
        (fun i Y u => match i with | 0 => Y = .pointer (some ⟨b1, 1, none⟩) | 1 => Y = .slice ka1 Kn kc1 | 2 => Y = .pointer (some ⟨b1, 2, none⟩) | 3 => Y = .slice (some ⟨b7, o7, none⟩) n wc | 4 => Y = .int .i64 j | 5 => Y = .pointer (some ⟨b7, o7 + j * 2, none⟩) | 6 => Y = .agg #[.int .i64 xi, .string (str xb)] | 7 => ∃ a c, Y = .slice a (putD K ⟨xi, xb⟩).length c ∧ Wrs u a (putD K ⟨xi, xb⟩) | 8 => Y = .pointer (some ⟨b1, 1, none⟩) | _ => True)
        (fun j v u u' hb hv => ?_) (by kernel_rfl) 9 (by kernel_rfl) [(some 10, [], true), (some 11, [(0, 10)], true), (some 12, [], true), (some 13, [(2, 12)], true), (some 14, [], true), (some 15, [(3, 13), (4, 14)], true), (some 16, [(5, 15)], true), (some 17, [(1, 11), (6, 16)], true), (some 18, [], true)] rfl _ rfl rfl rfl (by kernel_rfl) ⟨?_, ?_, ?_, ?_, ?_, ?_, ?_, ?_, ?_, trivial⟩ ?_
      · match j with
        | 0 => exact hv
        | 1 => exact hv
        | 2 => exact hv
        | 3 => exact hv
        | 4 => exact hv
        | 5 => exact hv
        | 6 => exact hv
        | 7 => obtain ⟨a, c, e1, e2⟩ := hv; exact ⟨a, c, e1, e2.later hb⟩
        | 8 => exact hv
        | _ + 9 => trivial
      · rintro u hu
        replace hu : Below wr.heap.size wr u := hu
        exact opYields_val (.pointer (some ⟨b1, 1, none⟩)) (by kernel_rfl) (by go_simp) ⟨Below.refl _ _, rfl⟩
      · rintro u hu _ rfl
        replace hu : Below wr.heap.size wr u := hu
        obtain ⟨c0, c1, c2, c3, c4, c5⟩ := (hBX.later hu).cells
        exact opYields_val (.slice ka1 Kn kc1) (by kernel_rfl) (by go_simp) ⟨Below.refl _ _, rfl⟩
      · rintro u hu
        replace hu : Below wr.heap.size wr u := hu
        exact opYields_val (.pointer (some ⟨b1, 2, none⟩)) (by kernel_rfl) (by go_simp) ⟨Below.refl _ _, rfl⟩
      · rintro u hu _ rfl
        replace hu : Below wr.heap.size wr u := hu
        obtain ⟨c0, c1, c2, c3, c4, c5⟩ := (hBX.later hu).cells
        exact opYields_val (.slice (some ⟨b7, o7, none⟩) n wc) (by kernel_rfl) (by go_simp) ⟨Below.refl _ _, rfl⟩
      · rintro u hu
        replace hu : Below wr.heap.size wr u := hu
        exact opYields_val (.int .i64 j) (by kernel_rfl) (by go_simp) ⟨Below.refl _ _, rfl⟩
      · rintro u hu _ rfl _ rfl
        replace hu : Below wr.heap.size wr u := hu
        exact opYields_val (.pointer (some ⟨b7, o7 + j * 2, none⟩)) (by kernel_rfl) (by go_simp) ⟨Below.refl _ _, rfl⟩
      · rintro u hu _ rfl
        replace hu : Below wr.heap.size wr u := hu
        obtain ⟨x0, x1⟩ := HXC.out u hu
        exact opYields_val (.agg #[.int .i64 xi, .string (str xb)]) (by kernel_rfl) (by go_simp) ⟨Below.refl _ _, rfl⟩
      · rintro u hu _ rfl _ rfl
        replace hu : Below wr.heap.size wr u := hu
        refine opYields_call 33 #[.slice ka1 Kn kc1, .agg #[.int .i64 xi, .string (str xb)]] (by kernel_rfl) (by go_simp) ((HPU.out u hu).mono ?_)
        rintro e u1 ⟨⟨a', c', rfl, hw'⟩, hb'⟩
        exact ⟨_, rfl, hb', a', c', rfl, hw'⟩
      · rintro u hu
        replace hu : Below wr.heap.size wr u := hu
        exact opYields_val (.pointer (some ⟨b1, 1, none⟩)) (by kernel_rfl) (by go_simp) ⟨Below.refl _ _, rfl⟩
      · intro u hu x0 e0 x1 e1 x2 e2 x3 e3 x4 e4 x5 e5 x6 e6 x7 e7 x8 e8
        change opYields Try.prog _ _ _ u _
        simp only [Act.put, List.setIfInBounds_toArray, List.set_cons_zero, List.set_cons_succ]
        obtain rfl : x0 = .pointer (some ⟨b1, 1, none⟩) := e0
        obtain rfl : x1 = .slice ka1 Kn kc1 := e1
        obtain rfl : x2 = .pointer (some ⟨b1, 2, none⟩) := e2
        obtain rfl : x3 = .slice (some ⟨b7, o7, none⟩) n wc := e3
        obtain rfl : x4 = .int .i64 j := e4
        obtain rfl : x5 = .pointer (some ⟨b7, o7 + j * 2, none⟩) := e5
        obtain rfl : x6 = .agg #[.int .i64 xi, .string (str xb)] := e6
        obtain ⟨a17, c17, rfl, h17⟩ : ∃ a c, x7 = .slice a (putD K ⟨xi, xb⟩).length c ∧ Wrs u a (putD K ⟨xi, xb⟩) := e7
        obtain rfl : x8 = .pointer (some ⟨b1, 1, none⟩) := e8
        replace hu : Below wr.heap.size wr u := hu
        have hB1 := hBX.later hu
        obtain ⟨c0, c1, c2, c3, c4, c5⟩ := hB1.cells
        have f1 := hB1.free 1
        have hB2 := hB1.set1 (.slice a17 (putD K ⟨xi, xb⟩).length c17)
        have h17' := h17.set hB1 1 (.slice a17 (putD K ⟨xi, xb⟩).length c17)
        have hW' := (hWW.later hu).set hB1 1 (.slice a17 (putD K ⟨xi, xb⟩).length c17)
        have hR' := (hRX.later hu).other hne 1 (.slice a17 (putD K ⟨xi, xb⟩).length c17)
        have hb' := below_at (hb.trans (hu.mono hsz)) b1 hlb (Nat.le_trans hsz hu.size) 1 (.slice a17 (putD K ⟨xi, xb⟩).length c17)
        have HF := hid (And.intro hB2 (And.intro h17' (And.intro hW' (And.intro hR' hb'))))
        clear hB2 h17' hW' hR' hb' hB1
        refine opYields_put (u' := u.setCell ⟨b1, 1, none⟩ (.slice a17 (putD K ⟨xi, xb⟩).length c17)) (by kernel_rfl) (by go_simp) ?_
        clear c0 c1 c2 c3 c4 c5 f1
        generalize u.setCell ⟨b1, 1, none⟩ (.slice a17 (putD K ⟨xi, xb⟩).length c17) = w8 at *
        clear hBX hRX hWW
        go_wp2_with fail
        obtain ⟨q1, q2, q3, q4, q5⟩ := HF.out
        go_roundw
        case rel => exact ⟨j + 1, by omega, by go_num, a17, c17, by rw [HKj.out]; exact ⟨q1, q2⟩, q3, q4, q5⟩
        case measure => simp [intOf]; omega
    · obtain rfl : j = n := by omega
      have hKl := HLn.out j
      generalize FT j = K at *
      have Bx := below_box wr (.cells #[] 51)
      have hB1 := hBX.later Bx
      have hB2 := hB1.set2 (.slice (some ⟨wr.heap.size, 0, none⟩) 0 0)
      have hR1 := (hRX.later Bx).other hne 2 (.slice (some ⟨wr.heap.size, 0, none⟩) 0 0)
      have hK1 := (hKK.later Bx).set hB1 2 (.slice (some ⟨wr.heap.size, 0, none⟩) 0 0)
      have hbb := below_at (hb.trans (Bx.mono hsz)) b1 (Nat.le_refl _) (by rw [World.size_alloc]; omega) 2 (.slice (some ⟨wr.heap.size, 0, none⟩) 0 0)
      obtain ⟨c0, c1, c2, c3, c4, c5⟩ := hB1.cells
      have f2 := hB1.free 2
      have HF := hid (And.intro hB2 (And.intro hR1 (And.intro hK1 hbb)))
      clear Bx hB1 hB2 hR1 hK1 hbb hWW hBX hRX hKK hb
      go_upto_region 7 with fail
      generalize (wr.alloc (.cells #[] 51)).setCell ⟨b1, 2, none⟩ (.slice (some ⟨wr.heap.size, 0, none⟩) 0 0) = w8 at *
      generalize wr.heap.size = k0 at *
      obtain ⟨q1, q2, q3, q4⟩ := HF.out
      clear c0 c1 c2 c3 c4 c5 f2 HF
      obtain ⟨c0, c1, c2, c3, c4, c5⟩ := q1.cells
      obtain ⟨z0, z1, z2, z3, z4, z5⟩ := q2.cells
      have f0 := q2.free 0
      have f1 := q2.free 1
      have f2 := q2.free 2
      have f3 := q2.free 3
      have f4 := q2.free 4
      have f5 := q2.free 5
      obtain ⟨q5, q6⟩ := q2.fill (n' := nn) (k' := .slice ka1 K.length kc1) (wv' := .slice (some ⟨k0, 0, none⟩) 0 0) (dn' := dn) (fl' := fl) (fu' := fu)
      have HK9 := hid (q3.beside q2 q6)
      have HC9 := hid q5.cells
      have hs4 := q4.size
      rw [HB1.out] at hs4
      have HB9 := hid (q4.grown q6 hs4 (fun k hk => by cases hk; exact hlb2))
      clear q1 q2 q3 q4 q5 q6 hs4
      generalize hKn : K.length = Kn at *
      have HKn := hid hKn
      clear hKn
      go_wp2_with fail
      refine bodyPost_ret (v := .agg #[.int .i64 nn, .slice ka1 Kn kc1, .slice (some ⟨k0, 0, none⟩) 0 0, .bool dn, .int .i64 fl, .int .i64 fu]) ?_ rfl ?_
      · obtain ⟨e0, e1, e2, e3, e4, e5⟩ := HC9.out
        simp [results, Try.results24, go_sem, e0, e1, e2, e3, e4, e5]
      · exact ⟨⟨ka1, kc1, some ⟨k0, 0, none⟩, 0, by rw [HRes.out, ← HKn.out]; rfl, by rw [HRes.out]; exact ⟨HK9.out, .inl rfl⟩, fun e => by cases e⟩, by rw [HB1.out]; exact HB9.out⟩
end Go.Proofs.Ytklfpoojpfomeaa.Key
