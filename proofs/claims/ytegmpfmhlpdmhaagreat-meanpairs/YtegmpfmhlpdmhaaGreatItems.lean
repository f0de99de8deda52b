/-
  Items, volumes, refs in memory; items that come in.
-/
import Derived.Test.YtegmpfmhlpdmhaaGreatGra
import Derived.Test.YtegmpfmhlpdmhaaGreatOwn9
import Derived.Test.YtegmpfmhlpdmhaaGreatKi
namespace Go.Proofs.YtegmpfmhlpdmhaaGreat.Key
open Go.RowKit Go.Joins Go.WideShapes
set_option linter.unusedVariables false
set_option linter.unusedSimpArgs false

def It.cells (x : It) : List Value := [.int .u32 x.blk, .bool x.nd.leaf, .slice x.pl.a1 x.nd.ps.length x.pl.c1, .slice x.pl.a2 x.nd.pv.length x.pl.c2, .slice x.pl.a3 x.nd.ks.length x.pl.c3, .slice x.pl.a4 x.nd.bf.length x.pl.c4]
/-- six cells that hold an item, and its lists -/
structure ItC (w : World) (b o : Nat) (x : It) : Prop where
  c0 : w.cell? ⟨b, o, none⟩ = some (.int .u32 x.blk)
  c1 : w.cell? ⟨b, o + 1, none⟩ = some (.bool x.nd.leaf)
  c2 : w.cell? ⟨b, o + 2, none⟩ = some (.slice x.pl.a1 x.nd.ps.length x.pl.c1)
  c3 : w.cell? ⟨b, o + 3, none⟩ = some (.slice x.pl.a2 x.nd.pv.length x.pl.c2)
  c4 : w.cell? ⟨b, o + 4, none⟩ = some (.slice x.pl.a3 x.nd.ks.length x.pl.c3)
  c5 : w.cell? ⟨b, o + 5, none⟩ = some (.slice x.pl.a4 x.nd.bf.length x.pl.c4)
theorem ItC.lt {w : World} {b o : Nat} {x : It} (h : ItC w b o x) : b < w.heap.size := World.block_lt_of_cell? w _ h.c0
theorem ItC.below {w w' : World} {b o B : Nat} {x : It} (h : ItC w b o x) (hb : Below B w w') (hB : b < B) : ItC w' b o x :=
  ⟨(hb.cell (p := ⟨b, o, none⟩) hB).trans h.c0, (hb.cell (p := ⟨b, o + 1, none⟩) hB).trans h.c1, (hb.cell (p := ⟨b, o + 2, none⟩) hB).trans h.c2, (hb.cell (p := ⟨b, o + 3, none⟩) hB).trans h.c3, (hb.cell (p := ⟨b, o + 4, none⟩) hB).trans h.c4, (hb.cell (p := ⟨b, o + 5, none⟩) hB).trans h.c5⟩
theorem ItC.later {w w' : World} {b o : Nat} {x : It} (h : ItC w b o x) (hb : Below w.heap.size w w') : ItC w' b o x := h.below hb h.lt
/-- a slice of items -/
def Items (w : World) (a : Option Addr) (l : List It) : Prop := l = [] ∨ ∃ b off, a = some ⟨b, off, none⟩ ∧ ∀ i (h : i < l.length), ItC w b (off + i * 6) l[i] ∧ Lies w l[i].nd l[i].pl
theorem Items.at {w : World} {a : Option Addr} {l : List It} (h : Items w a l) {i : Nat} (hi : i < l.length) : ∃ b off, a = some ⟨b, off, none⟩ ∧ ItC w b (off + i * 6) l[i] ∧ Lies w l[i].nd l[i].pl := by
  rcases h with rfl | ⟨b, off, rfl, hc⟩
  · simp at hi
  · exact ⟨b, off, rfl, hc i hi⟩
theorem Items.at2 {w : World} {a : Option Addr} {l : List It} (h : Items w a l) {i j : Nat} (hi : i < l.length) (hj : j < l.length) : ∃ b off, a = some ⟨b, off, none⟩ ∧ (ItC w b (off + i * 6) l[i] ∧ Lies w l[i].nd l[i].pl) ∧ (ItC w b (off + j * 6) l[j] ∧ Lies w l[j].nd l[j].pl) := by
  rcases h with rfl | ⟨b, off, rfl, hc⟩
  · simp at hi
  · exact ⟨b, off, rfl, hc i hi, hc j hj⟩
theorem Items.later {w w' : World} {a : Option Addr} {l : List It} (h : Items w a l) (hb : Below w.heap.size w w') : Items w' a l := by
  rcases h with rfl | ⟨b, off, rfl, hc⟩
  · exact .inl rfl
  · exact .inr ⟨b, off, rfl, fun i hi => ⟨(hc i hi).1.later hb, (hc i hi).2.later hb⟩⟩
theorem Items.nil {l : List It} (w : World) (h : Items w none l) : l = [] := by rcases h with h | ⟨b, off, e, _⟩; exact h; cases e
/-- a block that holds an item -/
def IBox (w : World) (k : Nat) (x : It) : Prop := w.heap[k]? = some (.cells #[.int .u32 x.blk, .bool x.nd.leaf, .slice x.pl.a1 x.nd.ps.length x.pl.c1, .slice x.pl.a2 x.nd.pv.length x.pl.c2, .slice x.pl.a3 x.nd.ks.length x.pl.c3, .slice x.pl.a4 x.nd.bf.length x.pl.c4] 48 (0, 0))
theorem IBox.new (w : World) (x : It) : IBox (w.alloc (.cells #[.int .u32 x.blk, .bool x.nd.leaf, .slice x.pl.a1 x.nd.ps.length x.pl.c1, .slice x.pl.a2 x.nd.pv.length x.pl.c2, .slice x.pl.a3 x.nd.ks.length x.pl.c3, .slice x.pl.a4 x.nd.bf.length x.pl.c4] 48)) w.heap.size x := Go.heap_alloc_new _ _
theorem IBox.lt {w : World} {k : Nat} {x : It} (h : IBox w k x) : k < w.heap.size := (Array.getElem?_eq_some_iff.1 h).1
theorem IBox.later {w w' : World} {k : Nat} {x : It} (h : IBox w k x) (hb : Below w.heap.size w w') : IBox w' k x := (hb.block k h.lt).trans h
theorem IBox.c {w : World} {k : Nat} {x : It} (h : IBox w k x) : ItC w k 0 x :=
  ⟨cell_of_row _ _ 0 _ _ _ h, cell_of_row _ _ 1 _ _ _ h, cell_of_row _ _ 2 _ _ _ h, cell_of_row _ _ 3 _ _ _ h, cell_of_row _ _ 4 _ _ _ h, cell_of_row _ _ 5 _ _ _ h⟩

/-- an item that came in -/
structure It.In (x : It) : Prop where
  blk : (Lit.int .u32 x.blk).wf = true
  nd : x.nd.In
  pl : x.pl.Ok
set_option maxRecDepth 100000 in
theorem cells48 : Tryz.prog.cellsOf 48 = 6 := by kernel_rfl
set_option maxRecDepth 100000 in
theorem cells23 : Tryz.prog.cellsOf 23 = 1 := by kernel_rfl
set_option maxRecDepth 100000 in
/-- a node's five cells that came in -/
theorem trod_node {H : Type} {enc : TypeId × Value → H} {W : World} {fuel : Nat} {cs : List Value} {x : DataW H × List MemPlace} (h : DataW.trod enc Tryz.prog W 0 (fun _ => true) true fuel 46 cs = some x) :
    ∃ (n : Nd) (p : Pl), cs = [.bool n.leaf, .slice p.a1 n.ps.length p.c1, .slice p.a2 n.pv.length p.c2, .slice p.a3 n.ks.length p.c3, .slice p.a4 n.bf.length p.c4] ∧ Lies W n p ∧ n.In ∧ p.Ok := by
  obtain ⟨xs, k, _, _, hl, hlen, hf⟩ := DataW.trod_struct Tryz.underlying46 h
  rw [cells46] at hl
  obtain ⟨v0, v1, v2, v3, v4, rfl⟩ := five_cells hl
  obtain ⟨c4, c22, c23, c24, c25⟩ := ones
  obtain ⟨y0, y1, y2, y3, y4, rfl⟩ := five_cells hlen
  have g0 := hf 0 _ rfl
  have g1 := hf 1 _ rfl
  have g2 := hf 2 _ rfl
  have g3 := hf 3 _ rfl
  have g4 := hf 4 _ rfl
  simp [c4, c22, c23, c24, c25] at g0 g1 g2 g3 g4
  obtain ⟨lf, e0, _⟩ := DataW.trod_bool Tryz.underlying4 g0
  simp at e0
  subst e0
  obtain ⟨a1, n1, c1, rfl⟩ := is_slice Tryz.underlying30 g1
  obtain ⟨a2, n2, c2, rfl⟩ := is_slice Tryz.underlying44 g2
  obtain ⟨a3, n3, c3, rfl⟩ := is_slice Tryz.underlying40 g3
  obtain ⟨a4, n4, c4, rfl⟩ := is_slice Tryz.underlying43 g4
  obtain ⟨q1, h1, rfl, i1, j1, z1, _⟩ := opened_pairs ⟨_, g1⟩
  obtain ⟨q2, h2, rfl, i2, j2, z2, _⟩ := opened_txts ⟨_, g2⟩
  obtain ⟨q3, h3, rfl, i3, j3, z3, k3⟩ := opened_edges ⟨_, g3⟩
  obtain ⟨q4, h4, rfl, i4, j4, z4, k4⟩ := opened_msgs ⟨_, g4⟩
  exact ⟨⟨lf, q1, q2, q3, q4⟩, ⟨a1, c1, a2, c2, a3, c3, a4, c4⟩, rfl, ⟨h1, h2, h3, h4⟩, ⟨by dsimp only; omega, by dsimp only; omega, by dsimp only; omega, by dsimp only; omega, k3, k4⟩, ⟨fun h => (z1 h).2, fun h => (z2 h).2, fun h => (z3 h).2, fun h => (z4 h).2⟩⟩
set_option maxRecDepth 100000 in
theorem trod_item {H : Type} {enc : TypeId × Value → H} {W : World} {fuel : Nat} {cs : List Value} {x : DataW H × List MemPlace} (h : DataW.trod enc Tryz.prog W 0 (fun _ => true) true fuel 48 cs = some x) :
    ∃ q : It, cs = q.cells ∧ Lies W q.nd q.pl ∧ q.In := by
  obtain ⟨xs, k, _, _, hl, hlen, hf⟩ := DataW.trod_struct Tryz.underlying48 h
  rw [cells48] at hl
  obtain ⟨v0, v1, v2, v3, v4, v5, rfl⟩ := six_cells hl
  obtain ⟨y0, y1, rfl⟩ := two_cells hlen
  have g0 := hf 0 _ rfl
  have g1 := hf 1 _ rfl
  simp [cells23, cells46] at g0 g1
  obtain ⟨n0, e0, _, w0⟩ := DataW.trod_int Tryz.underlying23 g0
  simp at e0
  subst e0
  obtain ⟨n, p, e1, h1, h2, h3⟩ := trod_node g1
  simp only [List.cons.injEq, and_true] at e1
  obtain ⟨rfl, rfl, rfl, rfl, rfl⟩ := e1
  exact ⟨⟨n0, n, p⟩, rfl, h1, ⟨w0, h2, h3⟩⟩
def It.nil : It := ⟨0, ⟨false, [], [], [], []⟩, ⟨none, 0, none, 0, none, 0, none, 0⟩⟩
set_option maxRecDepth 100000 in
/-- a slice of items that came in -/
theorem opened_items {H : Type} {enc : TypeId × Value → H} {W : World} {a : Option Addr} {n cap : Nat} {d : DataW H} {ps : List MemPlace} (h : DataW.Trod enc Tryz.prog W 0 (fun _ => true) true 22 (.slice a n cap) d ps) :
    ∃ l : List It, Items W a l ∧ l.length = n ∧ n ≤ cap ∧ cap ≤ maxLen ∧ (a = none → n = 0 ∧ cap = 0) ∧ ∀ m ∈ l, m.In := by
  obtain ⟨fuel, hf⟩ := h
  rcases Deep.open_slice Tryz.underlying22 hf with ⟨hcs, _⟩ | ⟨x, l, c, m, n', D, Pl, hcs, _, hl, hm, hmm, _, hx⟩
  · simp [Value.cells] at hcs
    obtain ⟨rfl, rfl, rfl⟩ := hcs
    exact ⟨[], .inl rfl, rfl, Nat.le_refl _, Nat.zero_le _, fun _ => ⟨rfl, rfl⟩, by simp⟩
  · simp [Value.cells] at hcs
    obtain ⟨rfl, rfl, rfl⟩ := hcs
    have hmc : m = cap := by simpa using hmm
    have each : ∀ i, i < n → ∃ q : It, (∀ j u, q.cells[j]? = some u → W.cell? (x.add (i * 6 + j)) = some u) ∧ Lies W q.nd q.pl ∧ q.In := by
      intro i hi
      obtain ⟨cs', h1, h2⟩ := hx i (by omega)
      rw [cells48] at h1
      obtain ⟨_, hlen, hcell⟩ := World.cells?_some h1
      obtain ⟨q, rfl, hq1, hq2⟩ := trod_item h2
      refine ⟨q, fun j u hu => ?_, hq1, hq2⟩
      have hj : j < 6 := by
        have := (List.getElem?_eq_some_iff.1 hu).1
        simpa [It.cells] using this
      have := hcell j (by omega)
      rw [Deep.add_add] at this
      rw [this]
      exact hu
    obtain ⟨q, hq⟩ := @Deep.choose_lt _ ⟨It.nil⟩ _ _ each
    have hlen : ((List.range n).map q).length = n := by simp
    refine ⟨(List.range n).map q, ?_, hlen, hl, hm, (fun h => by cases h), fun m' hm' => ?_⟩
    · by_cases h0 : n = 0
      · subst h0; exact .inl rfl
      · obtain ⟨b, off, spot⟩ := x
        have hspot : spot = none := by simpa [Addr.add] using World.cell?_spot ((hq 0 (by omega)).1 0 _ rfl)
        subst hspot
        refine .inr ⟨b, off, rfl, fun i hi => ?_⟩
        rw [hlen] at hi
        have h1 := (hq i hi).1
        have e : ((List.range n).map q)[i]'(by rw [hlen]; exact hi) = q i := by simp
        rw [e]
        have e' : ∀ j, (⟨b, off, none⟩ : Addr).add (i * 6 + j) = ⟨b, off + i * 6 + j, none⟩ := fun j => by rw [add_plain, Nat.add_assoc]
        refine ⟨⟨?_, ?_, ?_, ?_, ?_, ?_⟩, (hq i hi).2.1⟩
        · have := h1 0 _ rfl; rw [e'] at this; exact this
        · have := h1 1 _ rfl; rw [e'] at this; exact this
        · have := h1 2 _ rfl; rw [e'] at this; exact this
        · have := h1 3 _ rfl; rw [e'] at this; exact this
        · have := h1 4 _ rfl; rw [e'] at this; exact this
        · have := h1 5 _ rfl; rw [e'] at this; exact this
    · obtain ⟨i, hi, rfl⟩ := List.mem_map.1 hm'
      exact (hq i (List.mem_range.1 hi)).2.2

/-- more than is gone through? -/
def greatI (l : List It) : Bool := decide (30 < l.length) || l.any fun x => greatN x.nd
set_option maxRecDepth 100000 in
set_option maxHeartbeats 600000 in
theorem great9 (a : Option Addr) (c : Nat) (l : List It) (w : World) (hl : l.length ≤ maxLen) (h : Items w a l) (hin : ∀ x ∈ l, x.In) :
    Calls Tryz.prog 10 #[.slice a l.length c] w fun x w' => x = .returned (.bool (greatI l)) ∧ Below w.heap.size w w' := by
  have hg : greatI l = (decide (30 < l.length) || l.any fun x => greatN x.nd) := rfl
  generalize greatI l = G at *
  generalize hn : l.length = n at *
  have HN := hid hn
  clear hn
  cases k1 : decide (30 < n)
  case true =>
    rw [k1] at hg
    have k1' : decide ((30 : Int) < (n : Int)) = true := by rw [← k1]; exact decide_eq_decide.2 (by omega)
    have HR : Hid (true = G) := hid hg.symm
    clear hg k1
    go_enter Tryz.func10, Tryz.ntmps10
    go_wp2_with fail
    go_ret
    exact ⟨ret_bool HR.out, Below.refl _ _⟩
  case false =>
  have k1' : decide ((30 : Int) < (n : Int)) = false := by rw [← k1]; exact decide_eq_decide.2 (by omega)
  have HR : Hid (G = l.any fun x => greatN x.nd) := hid (by rw [hg, k1]; rfl)
  have hn30 : n ≤ 30 := by simpa using k1
  clear hg k1
  go_enter Tryz.func10, Tryz.ntmps10
  go_wp2_with fail
  go_loopw [9] (fun i wr => ∃ j : Nat, j ≤ n ∧ i = .int .i64 j ∧ Hid ((l.take j).any (fun x => greatN x.nd) = false) ∧ Below w.heap.size w wr) (fun i _ => n - (intOf i).toNat)
  case atStart => exact ⟨0, Nat.zero_le _, rfl, by simp [Hid], Below.refl _ _⟩
  case round =>
    obtain ⟨j, hj, rfl, hjn, hb⟩ := hrel
    by_cases hlt : j < n
    · have hlt' : j < l.length := by rw [HN.out]; exact hlt
      obtain ⟨b, off, rfl, h6, h7⟩ := (h.later hb).at hlt'
      have hi1 := (hin l[j] (List.getElem_mem hlt')).nd.long
      obtain ⟨x, HX⟩ : ∃ m, Hid (l[j] = m) := ⟨_, hid rfl⟩
      rw [HX.out] at h6 h7 hi1
      have HG := great7 x.nd x.pl wr hi1 h7
      obtain ⟨G1, HG1⟩ : ∃ g, Hid (greatN x.nd = g) := ⟨_, hid rfl⟩
      rw [HG1.out] at HG
      have hst := any_take_succ l (fun x => greatN x.nd) hlt'
      rw [HX.out] at hst
      replace hst := hid hst
      obtain ⟨bk, ⟨lf, ps, pv, ks, bf⟩, ⟨a1, c1, a2, c2, a3, c3, a4, c4⟩⟩ := x
      obtain ⟨d0, d1, d2, d3, d4, d5⟩ := h6
      dsimp only [nv] at d0 d1 d2 d3 d4 d5 HG HG1 hst
      clear h7 hi1
      generalize ps.length = n1 at *
      generalize pv.length = n2 at *
      generalize ks.length = n3 at *
      generalize bf.length = n4 at *
      cases G1
      · go_wp2_with fail
        refine HG.mono ?_
        rintro e w1 ⟨rfl, hb1⟩
        go_wp2_with fail
        go_roundw
        case rel => exact ⟨j + 1, by omega, by go_num, by unfold Hid at *; rw [hst, hjn, HG1]; rfl, hb.trans (hb1.mono hb.size)⟩
        case measure => simp [intOf]; omega
      · go_wp2_with fail
        refine HG.mono ?_
        rintro e w1 ⟨rfl, hb1⟩
        go_wp2_with fail
        go_ret
        exact ⟨ret_bool (by rw [HR.out]; exact (any_at l (fun x => greatN x.nd) hlt' (by rw [HX.out]; exact HG1.out)).symm), hb.trans (hb1.mono hb.size)⟩
    · obtain rfl : j = n := by omega
      go_wp2_with fail
      go_ret
      refine ⟨ret_bool ?_, hb⟩
      rw [HR.out, ← hjn.out, ← HN.out, List.take_length]
end Go.Proofs.YtegmpfmhlpdmhaaGreat.Key
