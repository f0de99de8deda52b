/-
  Contract of Great (of a node).
  Messages that come in: one by value, a slice of them.
  Pairs that come in: a slice of them.
  Nodes that come in.
  What is not too great is small.
-/
import Derived.Test.YtegmpfmhlpdmhaaGreatNode
import Derived.Test.YtegmpfmhlpdmhaaGreatMs
import Derived.ProofKit
import Derived.Deep.SlicePairs
import Derived.Lib.SmallJoins
import Derived.Test.YtegmpfmhlpdmhaaGreatPp
import Derived.Test.YtegmpfmhlpdmhaaGreatStep
namespace Go.Proofs.YtegmpfmhlpdmhaaGreat.Key
open Go.RowKit
open Go.Op (bytesLess)

def greatE (e : E) : Bool := decide (100 < e.strip.size) || decide (100 < e.add.size)
def greatT (s : ByteArray) : Bool := decide (100 < s.size)
def greatN (n : Nd) : Bool := decide (60 < n.pv.length) || (decide (60 < n.ks.length) || (greatPL n.ps || (greatL n.bf || (n.pv.any greatT || n.ks.any greatE))))
theorem n60 {n : Nat} {b : Bool} (h : decide (60 < n) = b) : decide ((60 : Int) < (n : Int)) = b := by rw [← h]; exact decide_eq_decide.2 (by omega)
/-- lengths as they come in -/
structure Long (n : Nd) : Prop where
  l1 : n.ps.length ≤ maxLen
  l2 : n.pv.length ≤ maxLen
  l3 : n.ks.length ≤ maxLen
  l4 : n.bf.length ≤ maxLen

set_option maxRecDepth 100000 in
set_option maxHeartbeats 2000000 in
theorem great7 (n : Nd) (p : Pl) (w : World) (hf : Long n) (h : Lies w n p) :
    Calls Tryz.prog 18 #[nv n p] w fun x w' => x = .returned (.bool (greatN n)) ∧ Below w.heap.size w w' := by
  have hb0 : Below w.heap.size w (w.alloc (.cells #[.bool n.leaf, .slice p.a1 n.ps.length p.c1, .slice p.a2 n.pv.length p.c2, .slice p.a3 n.ks.length p.c3, .slice p.a4 n.bf.length p.c4] 46)) := below_box w _
  have N0 := NBox.new w (.bool n.leaf) (.slice p.a1 n.ps.length p.c1) (.slice p.a2 n.pv.length p.c2) (.slice p.a3 n.ks.length p.c3) (.slice p.a4 n.bf.length p.c4)
  have h' := h.later hb0
  have HP := hid (great21 p.a1 p.c1 n.ps _ hf.l1 h'.h1)
  have HM := hid (great22 p.a4 p.c4 n.bf _ hf.l4 h'.h4)
  have hg : greatN n = (decide (60 < n.pv.length) || (decide (60 < n.ks.length) || (greatPL n.ps || (greatL n.bf || (n.pv.any greatT || n.ks.any greatE))))) := rfl
  obtain ⟨_, h2, h3, _⟩ := h'
  clear hf h
  generalize greatN n = G at *
  obtain ⟨lf, ps, pv, ks, bf⟩ := n
  obtain ⟨a1, c1, a2, c2, a3, c3, a4, c4⟩ := p
  dsimp only [nv] at *
  generalize greatPL ps = GP at *
  generalize greatL bf = GM at *
  generalize ps.length = n1 at *
  generalize hn2 : pv.length = n2 at *
  generalize hn3 : ks.length = n3 at *
  generalize bf.length = n4 at *
  have HN2 := hid hn2
  have HN3 := hid hn3
  clear hn2 hn3
  cases k1 : decide (60 < n2)
  case true =>
    rw [k1] at hg
    have k1' := n60 k1
    have HR : Hid (true = G) := hid hg.symm
    clear hg k1
    go_enter Tryz.func18, Tryz.ntmps18
    go_wp2_with fail
    go_ret
    exact ⟨ret_bool HR.out, hb0⟩
  case false =>
  have k1' := n60 k1
  cases k2 : decide (60 < n3)
  case true =>
    rw [k1, k2] at hg
    have k2' := n60 k2
    have HR : Hid (true = G) := hid hg.symm
    clear hg k1 k2
    go_enter Tryz.func18, Tryz.ntmps18
    go_wp2_with fail
    go_ret
    exact ⟨ret_bool HR.out, hb0⟩
  case false =>
  have k2' := n60 k2
  rw [k1, k2] at hg
  have hq2 : n2 ≤ 60 := by simpa using k1
  have hq3 : n3 ≤ 60 := by simpa using k2
  cases GP
  case true =>
    have HR : Hid (true = G) := hid hg.symm
    clear hg k1 k2
    go_enter Tryz.func18, Tryz.ntmps18
    go_wp2_with fail
    refine HP.out.mono ?_
    rintro x w1 ⟨rfl, rfl⟩
    go_wp2_with fail
    go_ret
    exact ⟨ret_bool HR.out, hb0⟩
  case false =>
  cases GM
  case true =>
    have HR : Hid (true = G) := hid hg.symm
    clear hg k1 k2
    go_enter Tryz.func18, Tryz.ntmps18
    go_wp2_with fail
    refine HP.out.mono ?_
    rintro x w1 ⟨rfl, rfl⟩
    go_wp2_with fail
    refine HM.out.mono ?_
    rintro x w1 ⟨rfl, rfl⟩
    go_wp2_with fail
    go_ret
    exact ⟨ret_bool HR.out, hb0⟩
  case false =>
  have HR : Hid (G = (pv.any greatT || ks.any greatE)) := hid hg
  clear hg k1 k2
  go_enter Tryz.func18, Tryz.ntmps18
  go_wp2_with fail
  refine HP.out.mono ?_
  rintro x w1 ⟨rfl, rfl⟩
  go_wp2_with fail
  refine HM.out.mono ?_
  rintro x w1 ⟨rfl, rfl⟩
  clear HP HM
  generalize (w.alloc (.cells #[.bool lf, .slice a1 n1 c1, .slice a2 n2 c2, .slice a3 n3 c3, .slice a4 n4 c4] 46)) = w0 at *
  obtain ⟨m0, m1, m2, m3, m4⟩ := N0.cells
  generalize hk0 : w.heap.size = k0 at *
  go_wp2_with fail
  go_loop [28] (fun i => ∃ j : Nat, j ≤ n2 ∧ i = .int .i64 j ∧ Hid ((pv.take j).any greatT = false)) (fun i => n2 - (intOf i).toNat)
  case atStart => exact ⟨0, Nat.zero_le _, rfl, by simp [Hid]⟩
  case round =>
    obtain ⟨j, hj, rfl, hjn⟩ := hrel
    by_cases hlt : j < n2
    · have hlt' : j < pv.length := by rw [HN2.out]; exact hlt
      obtain ⟨b, off, rfl, d0⟩ := h2.at hlt'
      obtain ⟨s, HS⟩ : ∃ m, Hid (pv[j] = m) := ⟨_, hid rfl⟩
      rw [HS.out] at d0
      cases q1 : decide (100 < s.size)
      · have q1' := gr_int q1
        have HG : Hid (greatT s = false) := hid q1
        clear q1
        go_wp2_with fail
        go_round
        case rel => exact ⟨j + 1, by omega, by go_num, by unfold Hid at *; rw [any_take_succ pv greatT hlt', hjn, HS, HG]; rfl⟩
        case measure => simp [intOf]; omega
      · have q1' := gr_int q1
        have HG : Hid (greatT s = true) := hid q1
        clear q1
        go_wp2_with fail
        go_ret
        exact ⟨ret_bool (by rw [HR.out, any_at pv greatT hlt' (by rw [HS.out]; exact HG.out)]; rfl), by first | exact hb0 | (rw [hk0]; exact hb0)⟩
    · obtain rfl : j = n2 := by omega
      have HR2 : Hid (G = ks.any greatE) := hid (by
        have h0 := hjn.out
        rw [← HN2.out, List.take_length] at h0
        rw [HR.out, h0]; rfl)
      clear HR
      go_wp2_with fail
      go_loop [42] (fun i => ∃ j : Nat, j ≤ n3 ∧ i = .int .i64 j ∧ Hid ((ks.take j).any greatE = false)) (fun i => n3 - (intOf i).toNat)
      case atStart => exact ⟨0, Nat.zero_le _, rfl, by simp [Hid]⟩
      case round =>
        obtain ⟨j, hj, rfl, hjn⟩ := hrel
        by_cases hlt : j < n3
        · have hlt' : j < ks.length := by rw [HN3.out]; exact hlt
          obtain ⟨b, off, rfl, h6⟩ := h3.at hlt'
          obtain ⟨e, HS⟩ : ∃ m, Hid (ks[j] = m) := ⟨_, hid rfl⟩
          rw [HS.out] at h6
          have hgE : greatE e = (decide (100 < e.strip.size) || decide (100 < e.add.size)) := rfl
          obtain ⟨bk, dp, st, ad⟩ := e
          obtain ⟨d0, d1, d2, d3⟩ := h6
          dsimp only at d0 d1 d2 d3 hgE
          cases q1 : decide (100 < st.size)
          · have q1' := gr_int q1
            cases q2 : decide (100 < ad.size)
            · have q2' := gr_int q2
              rw [q1, q2] at hgE
              have HG := hid hgE
              clear hgE q1 q2
              go_wp2_with fail
              go_round
              case rel => exact ⟨j + 1, by omega, by go_num, by unfold Hid at *; rw [any_take_succ ks greatE hlt', hjn, HS, HG]; rfl⟩
              case measure => simp [intOf]; omega
            · have q2' := gr_int q2
              rw [q1, q2] at hgE
              have HG := hid hgE
              clear hgE q1 q2
              go_wp2_with fail
              go_ret
              exact ⟨ret_bool (by rw [HR2.out]; exact (any_at ks greatE hlt' (by rw [HS.out]; exact HG.out)).symm), by first | exact hb0 | (rw [hk0]; exact hb0)⟩
          · have q1' := gr_int q1
            rw [q1] at hgE
            have HG := hid hgE
            clear hgE q1
            go_wp2_with fail
            go_ret
            exact ⟨ret_bool (by rw [HR2.out]; exact (any_at ks greatE hlt' (by rw [HS.out]; exact HG.out)).symm), by first | exact hb0 | (rw [hk0]; exact hb0)⟩
        · obtain rfl : j = n3 := by omega
          go_wp2_with fail
          go_ret
          refine ⟨ret_bool ?_, by first | exact hb0 | (rw [hk0]; exact hb0)⟩
          rw [HR2.out, ← hjn.out, ← HN3.out, List.take_length]
end Go.Proofs.YtegmpfmhlpdmhaaGreat.Key

namespace Go.Proofs.YtegmpfmhlpdmhaaGreat.Key
open Go.RowKit Go.Joins Go.WideShapes
open Go.Op (bytesLess)

/-- a message that came in -/
structure M.In (m : M) : Prop where
  kind : (Lit.int .u8 m.kind).wf = true
  key : m.key.size ≤ maxLen
  val : m.val.size ≤ maxLen
  blk : (Lit.int .u32 m.blk).wf = true
  deep : (Lit.int .u16 m.deep).wf = true
  add : m.add.size ≤ maxLen

set_option maxRecDepth 100000 in
theorem six_cells {α : Type} {l : List α} (h : l.length = 6) : ∃ a b c d e f, l = [a, b, c, d, e, f] := by
  match l, h with
  | [a, b, c, d, e, f], _ => exact ⟨a, b, c, d, e, f, rfl⟩
set_option maxRecDepth 100000 in
theorem cells42 : Tryz.prog.cellsOf 42 = 6 := by kernel_rfl
set_option maxRecDepth 100000 in
theorem one_each : Tryz.prog.cellsOf 5 = 1 ∧ Tryz.prog.cellsOf 9 = 1 ∧ Tryz.prog.cellsOf 23 = 1 ∧ Tryz.prog.cellsOf 35 = 1 := ⟨by kernel_rfl, by kernel_rfl, by kernel_rfl, by kernel_rfl⟩
set_option maxRecDepth 100000 in
theorem trod_msg {H : Type} {enc : TypeId × Value → H} {w : World} {base : Nat} {spare : Nat → Bool} {held : Bool} {fuel : Nat} {cs : List Value} {x : DataW H × List MemPlace} (h : DataW.trod enc Tryz.prog w base spare held fuel 42 cs = some x) :
    ∃ m : M, cs = m.cells ∧ m.In := by
  obtain ⟨xs, k, _, _, hl, hlen, hf⟩ := DataW.trod_struct Tryz.underlying42 h
  rw [cells42] at hl
  obtain ⟨v0, v1, v2, v3, v4, v5, rfl⟩ := six_cells hl
  obtain ⟨c5, c9, c23, c24⟩ := one_each
  obtain ⟨y0, y1, y2, y3, y4, y5, rfl⟩ := six_cells hlen
  have g0 := hf 0 _ rfl
  have g1 := hf 1 _ rfl
  have g2 := hf 2 _ rfl
  have g3 := hf 3 _ rfl
  have g4 := hf 4 _ rfl
  have g5 := hf 5 _ rfl
  simp [c5, c9, c23, c24] at g0 g1 g2 g3 g4 g5
  obtain ⟨n0, e0, _, w0⟩ := DataW.trod_int Tryz.underlying5 g0
  obtain ⟨n1, e1, _, w1⟩ := DataW.trod_string Tryz.underlying9 g1
  obtain ⟨n2, e2, _, w2⟩ := DataW.trod_string Tryz.underlying9 g2
  obtain ⟨n3, e3, _, w3⟩ := DataW.trod_int Tryz.underlying23 g3
  obtain ⟨n4, e4, _, w4⟩ := DataW.trod_int Tryz.underlying35 g4
  obtain ⟨n5, e5, _, w5⟩ := DataW.trod_string Tryz.underlying9 g5
  simp at e0 e1 e2 e3 e4 e5
  subst e0 e1 e2 e3 e4 e5
  exact ⟨⟨n0, n1, n2, n3, n4, n5⟩, rfl, ⟨w0, w1, w2, w3, w4, w5⟩⟩
set_option maxRecDepth 100000 in
/-- one by value -/
theorem opened_msg {H : Type} {enc : TypeId × Value → H} {W : World} {base b0 : Nat} {r : Reach} {spare : Nat → Bool} {held : Bool} {v : Value} {d : DataW H} {ps : List MemPlace} (hv : Value.okWide Tryz.prog W r b0 42 v) (h : DataW.Trod enc Tryz.prog W base spare held 42 v d ps) :
    ∃ m : M, v = mv m ∧ m.In := by
  obtain ⟨cs, rfl, hsz⟩ := okWide_struct Tryz.underlying42 hv
  obtain ⟨fuel, hf⟩ := h
  obtain ⟨m, hm, hi⟩ := trod_msg hf
  refine ⟨m, ?_, hi⟩
  obtain ⟨l⟩ := cs
  simp [Value.cells] at hm
  rw [hm]
  rfl
set_option maxRecDepth 100000 in
/-- a slice of them -/
theorem opened_msgs {H : Type} {enc : TypeId × Value → H} {W : World} {a : Option Addr} {n cap : Nat} {d : DataW H} {ps : List MemPlace} (h : DataW.Trod enc Tryz.prog W 0 (fun _ => true) true 43 (.slice a n cap) d ps) :
    ∃ l : List M, Msgs W a l ∧ l.length = n ∧ n ≤ cap ∧ cap ≤ maxLen ∧ (a = none → n = 0 ∧ cap = 0) ∧ ∀ m ∈ l, m.In := by
  obtain ⟨fuel, hf⟩ := h
  rcases Deep.open_slice Tryz.underlying43 hf with ⟨hcs, _⟩ | ⟨x, l, c, m, n', D, Pl, hcs, _, hl, hm, hmm, _, hx⟩
  · simp [Value.cells] at hcs
    obtain ⟨rfl, rfl, rfl⟩ := hcs
    exact ⟨[], .inl rfl, rfl, Nat.le_refl _, Nat.zero_le _, fun _ => ⟨rfl, rfl⟩, by simp⟩
  · simp [Value.cells] at hcs
    obtain ⟨rfl, rfl, rfl⟩ := hcs
    have hmc : m = cap := by simpa using hmm
    have each : ∀ i, i < n → ∃ q : M, (∀ j u, q.cells[j]? = some u → W.cell? (x.add (i * 6 + j)) = some u) ∧ q.In := by
      intro i hi
      obtain ⟨cs', h1, h2⟩ := hx i (by omega)
      rw [cells42] at h1
      obtain ⟨_, hlen, hcell⟩ := World.cells?_some h1
      obtain ⟨q, rfl, hq⟩ := trod_msg h2
      refine ⟨q, fun j u hu => ?_, hq⟩
      have hj : j < 6 := by
        have := (List.getElem?_eq_some_iff.1 hu).1
        simpa [M.cells] using this
      have := hcell j (by omega)
      rw [Deep.add_add] at this
      rw [this]
      exact hu
    obtain ⟨q, hq⟩ := @Deep.choose_lt _ ⟨M.nil⟩ _ _ each
    have hlen : ((List.range n).map q).length = n := by simp
    refine ⟨(List.range n).map q, ?_, hlen, hl, hm, (fun h => by cases h), fun m' hm' => ?_⟩
    · by_cases h0 : n = 0
      · subst h0; exact .inl rfl
      · obtain ⟨b, off, spot⟩ := x
        have hspot : spot = none := by simpa [Addr.add] using World.cell?_spot ((hq 0 (by omega)).1 0 _ rfl)
        subst hspot
        refine .inr ⟨b, off, rfl, fun i hi => ?_⟩
        rw [hlen] at hi
        have h1 := (hq i hi).1
        have e : ((List.range n).map q)[i]'(by rw [hlen]; exact hi) = q i := by simp
        rw [e]
        have e' : ∀ j, (⟨b, off, none⟩ : Addr).add (i * 6 + j) = ⟨b, off + i * 6 + j, none⟩ := fun j => by
          have h : ∀ z, (⟨b, off, none⟩ : Addr).add z = ⟨b, off + z, none⟩ := fun z => by unfold Addr.add; split <;> simp_all
          rw [h, Nat.add_assoc]
        refine ⟨?_, ?_, ?_, ?_, ?_, ?_⟩
        · have := h1 0 _ rfl; rw [e'] at this; exact this
        · have := h1 1 _ rfl; rw [e'] at this; exact this
        · have := h1 2 _ rfl; rw [e'] at this; exact this
        · have := h1 3 _ rfl; rw [e'] at this; exact this
        · have := h1 4 _ rfl; rw [e'] at this; exact this
        · have := h1 5 _ rfl; rw [e'] at this; exact this
    · obtain ⟨i, hi, rfl⟩ := List.mem_map.1 hm'
      exact (hq i (List.mem_range.1 hi)).2
end Go.Proofs.YtegmpfmhlpdmhaaGreat.Key

namespace Go.Proofs.YtegmpfmhlpdmhaaGreat.Key
open Go.RowKit Go.Joins Go.WideShapes

/-- a pair that came in -/
structure Pr.In (p : Pr) : Prop where
  key : p.key.size ≤ maxLen
  val : p.val.size ≤ maxLen

set_option maxRecDepth 100000 in
theorem two_cells {α : Type} {l : List α} (h : l.length = 2) : ∃ a b, l = [a, b] := by
  match l, h with
  | [a, b], _ => exact ⟨a, b, rfl⟩
set_option maxRecDepth 100000 in
theorem cells50 : Tryz.prog.cellsOf 50 = 2 := by kernel_rfl
set_option maxRecDepth 100000 in
theorem one9 : Tryz.prog.cellsOf 9 = 1 := by kernel_rfl
set_option maxRecDepth 100000 in
theorem trod_pair {H : Type} {enc : TypeId × Value → H} {w : World} {base : Nat} {spare : Nat → Bool} {held : Bool} {fuel : Nat} {cs : List Value} {x : DataW H × List MemPlace} (h : DataW.trod enc Tryz.prog w base spare held fuel 50 cs = some x) :
    ∃ p : Pr, cs = p.cells ∧ p.In := by
  obtain ⟨xs, k, _, _, hl, hlen, hf⟩ := DataW.trod_struct Tryz.underlying50 h
  rw [cells50] at hl
  obtain ⟨v0, v1, rfl⟩ := two_cells hl
  have c9 := one9
  obtain ⟨y0, y1, rfl⟩ := two_cells hlen
  have g0 := hf 0 _ rfl
  have g1 := hf 1 _ rfl
  simp [c9] at g0 g1
  obtain ⟨n0, e0, _, w0⟩ := DataW.trod_string Tryz.underlying9 g0
  obtain ⟨n1, e1, _, w1⟩ := DataW.trod_string Tryz.underlying9 g1
  simp at e0 e1
  subst e0 e1
  exact ⟨⟨n0, n1⟩, rfl, ⟨w0, w1⟩⟩
set_option maxRecDepth 100000 in
/-- a slice of them -/
theorem opened_pairs {H : Type} {enc : TypeId × Value → H} {W : World} {a : Option Addr} {n cap : Nat} {d : DataW H} {ps : List MemPlace} (h : DataW.Trod enc Tryz.prog W 0 (fun _ => true) true 30 (.slice a n cap) d ps) :
    ∃ l : List Pr, Prs W a l ∧ l.length = n ∧ n ≤ cap ∧ cap ≤ maxLen ∧ (a = none → n = 0 ∧ cap = 0) ∧ ∀ m ∈ l, m.In := by
  obtain ⟨fuel, hf⟩ := h
  rcases Deep.open_slice Tryz.underlying30 hf with ⟨hcs, _⟩ | ⟨x, l, c, m, n', D, Pl, hcs, _, hl, hm, hmm, _, hx⟩
  · simp [Value.cells] at hcs
    obtain ⟨rfl, rfl, rfl⟩ := hcs
    exact ⟨[], .inl rfl, rfl, Nat.le_refl _, Nat.zero_le _, fun _ => ⟨rfl, rfl⟩, by simp⟩
  · simp [Value.cells] at hcs
    obtain ⟨rfl, rfl, rfl⟩ := hcs
    have hmc : m = cap := by simpa using hmm
    have each : ∀ i, i < n → ∃ q : Pr, (∀ j u, q.cells[j]? = some u → W.cell? (x.add (i * 2 + j)) = some u) ∧ q.In := by
      intro i hi
      obtain ⟨cs', h1, h2⟩ := hx i (by omega)
      rw [cells50] at h1
      obtain ⟨_, hlen, hcell⟩ := World.cells?_some h1
      obtain ⟨q, rfl, hq⟩ := trod_pair h2
      refine ⟨q, fun j u hu => ?_, hq⟩
      have hj : j < 2 := by
        have := (List.getElem?_eq_some_iff.1 hu).1
        simpa [Pr.cells] using this
      have := hcell j (by omega)
      rw [Deep.add_add] at this
      rw [this]
      exact hu
    obtain ⟨q, hq⟩ := @Deep.choose_lt _ ⟨Pr.nil⟩ _ _ each
    have hlen : ((List.range n).map q).length = n := by simp
    refine ⟨(List.range n).map q, ?_, hlen, hl, hm, (fun h => by cases h), fun m' hm' => ?_⟩
    · by_cases h0 : n = 0
      · subst h0; exact .inl rfl
      · obtain ⟨b, off, spot⟩ := x
        have hspot : spot = none := by simpa [Addr.add] using World.cell?_spot ((hq 0 (by omega)).1 0 _ rfl)
        subst hspot
        refine .inr ⟨b, off, rfl, fun i hi => ?_⟩
        rw [hlen] at hi
        have h1 := (hq i hi).1
        have e : ((List.range n).map q)[i]'(by rw [hlen]; exact hi) = q i := by simp
        rw [e]
        have e' : ∀ j, (⟨b, off, none⟩ : Addr).add (i * 2 + j) = ⟨b, off + i * 2 + j, none⟩ := fun j => by
          have h : ∀ z, (⟨b, off, none⟩ : Addr).add z = ⟨b, off + z, none⟩ := fun z => by unfold Addr.add; split <;> simp_all
          rw [h, Nat.add_assoc]
        refine ⟨?_, ?_⟩
        · have := h1 0 _ rfl; rw [e'] at this; exact this
        · have := h1 1 _ rfl; rw [e'] at this; exact this
    · obtain ⟨i, hi, rfl⟩ := List.mem_map.1 hm'
      exact (hq i (List.mem_range.1 hi)).2
end Go.Proofs.YtegmpfmhlpdmhaaGreat.Key

namespace Go.Proofs.YtegmpfmhlpdmhaaGreat.Key
open Go.RowKit Go.Joins Go.WideShapes

/-- an edge that came in -/
structure E.In (e : E) : Prop where
  blk : (Lit.int .u32 e.blk).wf = true
  deep : (Lit.int .u16 e.deep).wf = true
  strip : e.strip.size ≤ maxLen
  add : e.add.size ≤ maxLen
set_option maxRecDepth 100000 in
theorem three_cells {α : Type} {l : List α} (h : l.length = 3) : ∃ a b c, l = [a, b, c] := by
  match l, h with
  | [a, b, c], _ => exact ⟨a, b, c, rfl⟩
set_option maxRecDepth 100000 in
theorem four_cells {α : Type} {l : List α} (h : l.length = 4) : ∃ a b c d, l = [a, b, c, d] := by
  match l, h with
  | [a, b, c, d], _ => exact ⟨a, b, c, d, rfl⟩
set_option maxRecDepth 100000 in
theorem five_cells {α : Type} {l : List α} (h : l.length = 5) : ∃ a b c d e, l = [a, b, c, d, e] := by
  match l, h with
  | [a, b, c, d, e], _ => exact ⟨a, b, c, d, e, rfl⟩
set_option maxRecDepth 100000 in
theorem cells39 : Tryz.prog.cellsOf 39 = 4 := by kernel_rfl
set_option maxRecDepth 100000 in
theorem cells37 : Tryz.prog.cellsOf 37 = 2 := by kernel_rfl
set_option maxRecDepth 100000 in
theorem cells46 : Tryz.prog.cellsOf 46 = 5 := by kernel_rfl
set_option maxRecDepth 100000 in
theorem ones : Tryz.prog.cellsOf 4 = 1 ∧ Tryz.prog.cellsOf 30 = 1 ∧ Tryz.prog.cellsOf 44 = 1 ∧ Tryz.prog.cellsOf 40 = 1 ∧ Tryz.prog.cellsOf 43 = 1 := ⟨by kernel_rfl, by kernel_rfl, by kernel_rfl, by kernel_rfl, by kernel_rfl⟩
set_option maxRecDepth 100000 in
theorem trod_lift {H : Type} {enc : TypeId × Value → H} {w : World} {base : Nat} {spare : Nat → Bool} {held : Bool} {fuel : Nat} {cs : List Value} {x : DataW H × List MemPlace} (h : DataW.trod enc Tryz.prog w base spare held fuel 37 cs = some x) :
    ∃ s a : ByteArray, cs = [.string s, .string a] ∧ s.size ≤ maxLen ∧ a.size ≤ maxLen := by
  obtain ⟨xs, k, _, _, hl, hlen, hf⟩ := DataW.trod_struct Tryz.underlying37 h
  rw [cells37] at hl
  obtain ⟨v0, v1, rfl⟩ := two_cells hl
  have c9 := one9
  obtain ⟨y0, y1, rfl⟩ := two_cells hlen
  have g0 := hf 0 _ rfl
  have g1 := hf 1 _ rfl
  simp [c9] at g0 g1
  obtain ⟨n0, e0, _, w0⟩ := DataW.trod_string Tryz.underlying9 g0
  obtain ⟨n1, e1, _, w1⟩ := DataW.trod_string Tryz.underlying9 g1
  simp at e0 e1
  subst e0 e1
  exact ⟨n0, n1, rfl, w0, w1⟩
set_option maxRecDepth 100000 in
theorem trod_edge {H : Type} {enc : TypeId × Value → H} {w : World} {base : Nat} {spare : Nat → Bool} {held : Bool} {fuel : Nat} {cs : List Value} {x : DataW H × List MemPlace} (h : DataW.trod enc Tryz.prog w base spare held fuel 39 cs = some x) :
    ∃ e : E, cs = e.cells ∧ e.In := by
  obtain ⟨xs, k, _, _, hl, hlen, hf⟩ := DataW.trod_struct Tryz.underlying39 h
  rw [cells39] at hl
  obtain ⟨v0, v1, v2, v3, rfl⟩ := four_cells hl
  obtain ⟨_, _, c32, c33⟩ := one_each
  obtain ⟨y0, y1, y2, rfl⟩ := three_cells hlen
  have g0 := hf 0 _ rfl
  have g1 := hf 1 _ rfl
  have g2 := hf 2 _ rfl
  simp [c32, c33, cells37] at g0 g1 g2
  obtain ⟨n0, e0, _, w0⟩ := DataW.trod_int Tryz.underlying23 g0
  obtain ⟨n1, e1, _, w1⟩ := DataW.trod_int Tryz.underlying35 g1
  obtain ⟨s, a, e2, w2, w3⟩ := trod_lift g2
  simp at e0 e1 e2
  obtain ⟨rfl, rfl⟩ := e2
  subst e0 e1
  exact ⟨⟨n0, n1, s, a⟩, rfl, ⟨w0, w1, w2, w3⟩⟩
set_option maxRecDepth 100000 in
/-- a slice of edges -/
theorem opened_edges {H : Type} {enc : TypeId × Value → H} {W : World} {a : Option Addr} {n cap : Nat} {d : DataW H} {ps : List MemPlace} (h : DataW.Trod enc Tryz.prog W 0 (fun _ => true) true 40 (.slice a n cap) d ps) :
    ∃ l : List E, Eds W a l ∧ l.length = n ∧ n ≤ cap ∧ cap ≤ maxLen ∧ (a = none → n = 0 ∧ cap = 0) ∧ ∀ m ∈ l, m.In := by
  obtain ⟨fuel, hf⟩ := h
  rcases Deep.open_slice Tryz.underlying40 hf with ⟨hcs, _⟩ | ⟨x, l, c, m, n', D, Pl, hcs, _, hl, hm, hmm, _, hx⟩
  · simp [Value.cells] at hcs
    obtain ⟨rfl, rfl, rfl⟩ := hcs
    exact ⟨[], .inl rfl, rfl, Nat.le_refl _, Nat.zero_le _, fun _ => ⟨rfl, rfl⟩, by simp⟩
  · simp [Value.cells] at hcs
    obtain ⟨rfl, rfl, rfl⟩ := hcs
    have hmc : m = cap := by simpa using hmm
    have each : ∀ i, i < n → ∃ q : E, (∀ j u, q.cells[j]? = some u → W.cell? (x.add (i * 4 + j)) = some u) ∧ q.In := by
      intro i hi
      obtain ⟨cs', h1, h2⟩ := hx i (by omega)
      rw [cells39] at h1
      obtain ⟨_, hlen, hcell⟩ := World.cells?_some h1
      obtain ⟨q, rfl, hq⟩ := trod_edge h2
      refine ⟨q, fun j u hu => ?_, hq⟩
      have hj : j < 4 := by
        have := (List.getElem?_eq_some_iff.1 hu).1
        simpa [E.cells] using this
      have := hcell j (by omega)
      rw [Deep.add_add] at this
      rw [this]
      exact hu
    obtain ⟨q, hq⟩ := @Deep.choose_lt _ ⟨E.nil⟩ _ _ each
    have hlen : ((List.range n).map q).length = n := by simp
    refine ⟨(List.range n).map q, ?_, hlen, hl, hm, (fun h => by cases h), fun m' hm' => ?_⟩
    · by_cases h0 : n = 0
      · subst h0; exact .inl rfl
      · obtain ⟨b, off, spot⟩ := x
        have hspot : spot = none := by simpa [Addr.add] using World.cell?_spot ((hq 0 (by omega)).1 0 _ rfl)
        subst hspot
        refine .inr ⟨b, off, rfl, fun i hi => ?_⟩
        rw [hlen] at hi
        have h1 := (hq i hi).1
        have e : ((List.range n).map q)[i]'(by rw [hlen]; exact hi) = q i := by simp
        rw [e]
        have e' : ∀ j, (⟨b, off, none⟩ : Addr).add (i * 4 + j) = ⟨b, off + i * 4 + j, none⟩ := fun j => by rw [add_plain, Nat.add_assoc]
        refine ⟨?_, ?_, ?_, ?_⟩
        · have := h1 0 _ rfl; rw [e'] at this; exact this
        · have := h1 1 _ rfl; rw [e'] at this; exact this
        · have := h1 2 _ rfl; rw [e'] at this; exact this
        · have := h1 3 _ rfl; rw [e'] at this; exact this
    · obtain ⟨i, hi, rfl⟩ := List.mem_map.1 hm'
      exact (hq i (List.mem_range.1 hi)).2
set_option maxRecDepth 100000 in
/-- a slice of texts -/
theorem opened_txts {H : Type} {enc : TypeId × Value → H} {W : World} {a : Option Addr} {n cap : Nat} {d : DataW H} {ps : List MemPlace} (h : DataW.Trod enc Tryz.prog W 0 (fun _ => true) true 44 (.slice a n cap) d ps) :
    ∃ l : List ByteArray, Txts W a l ∧ l.length = n ∧ n ≤ cap ∧ cap ≤ maxLen ∧ (a = none → n = 0 ∧ cap = 0) ∧ ∀ s ∈ l, s.size ≤ maxLen := by
  obtain ⟨fuel, hf⟩ := h
  rcases Deep.open_slice Tryz.underlying44 hf with ⟨hcs, _⟩ | ⟨x, l, c, m, n', D, Pl, hcs, _, hl, hm, hmm, _, hx⟩
  · simp [Value.cells] at hcs
    obtain ⟨rfl, rfl, rfl⟩ := hcs
    exact ⟨[], .inl rfl, rfl, Nat.le_refl _, Nat.zero_le _, fun _ => ⟨rfl, rfl⟩, by simp⟩
  · simp [Value.cells] at hcs
    obtain ⟨rfl, rfl, rfl⟩ := hcs
    have hmc : m = cap := by simpa using hmm
    have each : ∀ i, i < n → ∃ q : ByteArray, W.cell? (x.add i) = some (.string q) ∧ q.size ≤ maxLen := by
      intro i hi
      obtain ⟨cs', h1, h2⟩ := hx i (by omega)
      rw [one9] at h1
      obtain ⟨_, hlen, hcell⟩ := World.cells?_some h1
      obtain ⟨q, hq, _, hw⟩ := DataW.trod_string Tryz.underlying9 h2
      subst hq
      refine ⟨q, ?_, hw⟩
      have := hcell 0 (by omega)
      rw [Deep.add_add] at this
      simpa using this
    obtain ⟨q, hq⟩ := Deep.choose_lt each
    have hlen : ((List.range n).map q).length = n := by simp
    refine ⟨(List.range n).map q, ?_, hlen, hl, hm, (fun h => by cases h), fun m' hm' => ?_⟩
    · by_cases h0 : n = 0
      · subst h0; exact .inl rfl
      · obtain ⟨b, off, spot⟩ := x
        have hspot : spot = none := by simpa [Addr.add] using World.cell?_spot (hq 0 (by omega)).1
        subst hspot
        refine .inr ⟨b, off, rfl, fun i hi => ?_⟩
        rw [hlen] at hi
        have h1 := (hq i hi).1
        have e : ((List.range n).map q)[i]'(by rw [hlen]; exact hi) = q i := by simp
        rw [e]
        rw [add_plain] at h1
        exact h1
    · obtain ⟨i, hi, rfl⟩ := List.mem_map.1 hm'
      exact (hq i (List.mem_range.1 hi)).2
set_option maxRecDepth 100000 in
/-- what came in in a cell of a slice's type is a slice -/
theorem is_slice {H : Type} {enc : TypeId × Value → H} {W : World} {base : Nat} {spare : Nat → Bool} {held : Bool} {fuel : Nat} {t e : TypeId} (hu : Tryz.prog.underlying t = some (.slice e)) {v : Value} {x : DataW H × List MemPlace} (h : DataW.trod enc Tryz.prog W base spare held fuel t [v] = some x) : ∃ a n c, v = .slice a n c := by
  rcases Deep.open_slice hu h with ⟨hcs, _⟩ | ⟨y, l, c, m, n', D, Pl, hcs, _⟩
  · simp at hcs
    exact ⟨_, _, _, hcs⟩
  · simp at hcs
    exact ⟨_, _, _, hcs⟩
/-- a node that came in -/
structure Nd.In (n : Nd) : Prop where
  l1 : n.ps.length ≤ maxLen
  l2 : n.pv.length ≤ maxLen
  l3 : n.ks.length ≤ maxLen
  l4 : n.bf.length ≤ maxLen
  ks : ∀ e ∈ n.ks, e.In
  bf : ∀ m ∈ n.bf, m.In
/-- a nil list has no room -/
structure Pl.Ok (p : Pl) : Prop where
  z1 : p.a1 = none → p.c1 = 0
  z2 : p.a2 = none → p.c2 = 0
  z3 : p.a3 = none → p.c3 = 0
  z4 : p.a4 = none → p.c4 = 0
set_option maxRecDepth 100000 in
theorem opened_node {H : Type} {enc : TypeId × Value → H} {W : World} {b0 : Nat} {r : Reach} {v : Value} {d : DataW H} {ps : List MemPlace} (hv : Value.okWide Tryz.prog W r b0 46 v) (h : DataW.Trod enc Tryz.prog W 0 (fun _ => true) true 46 v d ps) :
    ∃ (n : Nd) (p : Pl), v = nv n p ∧ Lies W n p ∧ n.In ∧ p.Ok := by
  obtain ⟨cs, rfl, hsz⟩ := okWide_struct Tryz.underlying46 hv
  obtain ⟨fuel, hf⟩ := h
  obtain ⟨xs, k, _, _, hl, hlen, hf⟩ := DataW.trod_struct Tryz.underlying46 hf
  rw [cells46] at hl
  obtain ⟨l⟩ := cs
  simp only [Value.cells] at hl hf
  obtain ⟨v0, v1, v2, v3, v4, rfl⟩ := five_cells hl
  obtain ⟨c4, c22, c23, c24, c25⟩ := ones
  obtain ⟨y0, y1, y2, y3, y4, rfl⟩ := five_cells hlen
  have g0 := hf 0 _ rfl
  have g1 := hf 1 _ rfl
  have g2 := hf 2 _ rfl
  have g3 := hf 3 _ rfl
  have g4 := hf 4 _ rfl
  simp [c4, c22, c23, c24, c25] at g0 g1 g2 g3 g4
  obtain ⟨lf, e0, _⟩ := DataW.trod_bool Tryz.underlying4 g0
  simp at e0
  subst e0
  obtain ⟨a1, n1, c1, rfl⟩ := is_slice Tryz.underlying30 g1
  obtain ⟨a2, n2, c2, rfl⟩ := is_slice Tryz.underlying44 g2
  obtain ⟨a3, n3, c3, rfl⟩ := is_slice Tryz.underlying40 g3
  obtain ⟨a4, n4, c4, rfl⟩ := is_slice Tryz.underlying43 g4
  obtain ⟨q1, h1, rfl, i1, j1, z1, _⟩ := opened_pairs ⟨_, g1⟩
  obtain ⟨q2, h2, rfl, i2, j2, z2, _⟩ := opened_txts ⟨_, g2⟩
  obtain ⟨q3, h3, rfl, i3, j3, z3, k3⟩ := opened_edges ⟨_, g3⟩
  obtain ⟨q4, h4, rfl, i4, j4, z4, k4⟩ := opened_msgs ⟨_, g4⟩
  exact ⟨⟨lf, q1, q2, q3, q4⟩, ⟨a1, c1, a2, c2, a3, c3, a4, c4⟩, rfl, ⟨h1, h2, h3, h4⟩, ⟨by dsimp only; omega, by dsimp only; omega, by dsimp only; omega, by dsimp only; omega, k3, k4⟩, ⟨fun h => (z1 h).2, fun h => (z2 h).2, fun h => (z3 h).2, fun h => (z4 h).2⟩⟩
end Go.Proofs.YtegmpfmhlpdmhaaGreat.Key

namespace Go.Proofs.YtegmpfmhlpdmhaaGreat.Key
open Go.RowKit

set_option maxRecDepth 100000 in
theorem any_no {α : Type} {l : List α} {p : α → Bool} (h : l.any p = false) : ∀ x ∈ l, p x = false := by
  intro x hx
  cases hp : p x
  · rfl
  · rw [List.any_eq_true.2 ⟨x, hx, hp⟩] at h; cases h
set_option maxRecDepth 100000 in
theorem wf16 {z : Int} (h : (Lit.int .u16 z).wf = true) : 0 ≤ z ∧ z ≤ 65535 := by
  simp only [Lit.wf, Bool.and_eq_true, decide_eq_true_eq] at h
  have h2 : z ≤ IntKind.u16.max := h.2
  have h1 : IntKind.u16.min ≤ z := h.1
  have e1 : IntKind.u16.min = 0 := rfl
  have e2 : IntKind.u16.max = 65535 := by decide
  omega
set_option maxRecDepth 100000 in
theorem small_of {n : Nd} (h : greatN n = false) (hi : n.In) : Small n := by
  unfold greatN greatPL greatL at h
  simp only [Bool.or_eq_false_iff, decide_eq_false_iff_not] at h
  obtain ⟨h2, h3, ⟨h1, _⟩, ⟨h4, hM⟩, _, hE⟩ := h
  have hM := any_no hM
  have hE := any_no hE
  have hm : ∀ m ∈ n.bf, m.key.size ≤ 100 ∧ m.add.size ≤ 100 := fun m hm => by
    have := hM m hm
    unfold greatM at this
    simp only [Bool.or_eq_false_iff, decide_eq_false_iff_not] at this
    omega
  have he : ∀ e ∈ n.ks, e.add.size ≤ 100 := fun e h => by
    have := hE e h
    unfold greatE at this
    simp only [Bool.or_eq_false_iff, decide_eq_false_iff_not] at this
    omega
  exact ⟨⟨by omega, by omega, by omega, by omega⟩, fun m h => by have := (hm m h).1; omega, fun m h => by have := (hm m h).2; omega, fun e h => by have := he e h; omega, fun m h => wf16 (hi.bf m h).deep, fun e h => wf16 (hi.ks e h).deep⟩
set_option maxRecDepth 100000 in
theorem Nd.In.long {n : Nd} (h : n.In) : Long n := ⟨h.l1, h.l2, h.l3, h.l4⟩
end Go.Proofs.YtegmpfmhlpdmhaaGreat.Key
