/-
  Bytes, bools and steps that come in.
-/
import Derived.Test.YtklfpoojpfomeaaPh
import Derived.ProofKit
import Derived.Deep.SlicePairs
import Derived.Deep.Grids
import Derived.Lib.SmallJoins
import Derived.WalkKit
import Derived.OpenShut
import Derived.ShutString
import Derived.ChangeOld
import Derived.Below
import Derived.Carry
namespace Go.Proofs.Ytklfpoojpfomeaa.Key
open Go.RowKit Go.Joins Go.ChangeShapes Go.WideShapes Go.ChangeAt
set_option linter.unusedVariables false
set_option linter.unusedSimpArgs false
theorem five_cells {α : Type} {l : List α} (h : l.length = 5) : ∃ a b c d e, l = [a, b, c, d, e] := by
  match l, h with
  | [a, b, c, d, e], _ => exact ⟨a, b, c, d, e, rfl⟩
theorem is_slice {H : Type} {enc : TypeId × Value → H} {W : World} {base : Nat} {spare : Nat → Bool} {held : Bool} {fuel : Nat} {t e : TypeId} (hu : Try.prog.underlying t = some (.slice e)) {v : Value} {x : DataW H × List MemPlace} (h : DataW.trod enc Try.prog W base spare held fuel t [v] = some x) : ∃ a n c, v = .slice a n c := by
  rcases Deep.open_slice hu h with ⟨hcs, _⟩ | ⟨y, l, c, m, n', D, Pl, hcs, _⟩
  · simp at hcs
    exact ⟨_, _, _, hcs⟩
  · simp at hcs
    exact ⟨_, _, _, hcs⟩
theorem wf_u8 {n : Int} (h : (Lit.int .u8 n).wf = true) : ((UInt8.ofNat n.toNat).toNat : Int) = n := by
  simp [Lit.wf, IntKind.min, IntKind.max, IntKind.signed, IntKind.bits] at h
  simp
  omega
/-- bytes that came in -/
theorem opened_bytes {H : Type} {enc : TypeId × Value → H} {W : World} {base : Nat} {held : Bool} {a : Option Addr} {n c : Nat} {d : DataW H} {ps : List MemPlace} (h : DataW.Trod enc Try.prog W base (fun _ => true) held 34 (.slice a n c) d ps) :
    ∃ b : List UInt8, b.length = n ∧ Bytes W a (nums (str b)) ∧ (a = none → n = 0 ∧ c = 0) ∧ n ≤ c ∧ c ≤ maxLen := by
  obtain ⟨fuel, hf⟩ := h
  rcases open_ints Try.underlying34 Try.underlying5 (by kernel_rfl) hf with ⟨hcs, _⟩ | ⟨x, l, c', zs, hcs, _, hl, hm, hz, _, hcell, hwz⟩
  · simp [Value.cells] at hcs
    obtain ⟨rfl, rfl, rfl⟩ := hcs
    exact ⟨[], rfl, .inl rfl, (fun _ => ⟨rfl, rfl⟩), Nat.le_refl _, Nat.zero_le _⟩
  · simp [Value.cells] at hcs
    obtain ⟨rfl, rfl, rfl⟩ := hcs
    rw [if_pos rfl] at hz
    refine ⟨(zs.take n).map (fun z => UInt8.ofNat z.toNat), by rw [List.length_map, List.length_take]; omega, ?_, (fun e => by cases e), hl, hm⟩
    have hnum : nums (str ((zs.take n).map (fun z => UInt8.ofNat z.toNat))) = zs.take n := by
      rw [nums, str_data, List.map_map]
      conv => rhs; rw [← List.map_id (zs.take n)]
      refine List.map_congr_left fun z hz => ?_
      exact wf_u8 (hwz z (List.mem_of_mem_take hz))
    rw [hnum]
    by_cases h0 : n = 0
    · exact .inl (by simp [h0])
    · obtain ⟨b, off, spot⟩ := x
      have hc := hcell 0 (by omega)
      have hspot : spot = none := by simpa [Addr.add] using World.cell?_spot hc
      subst hspot
      refine .inr ⟨b, off, rfl, fun i hi => ?_⟩
      have hi' : i < n := by simp at hi; omega
      have := hcell i (by omega)
      rw [add_plain] at this
      rw [this]
      simp [List.getD, hi']
/-- bools that came in -/
theorem opened_bools {H : Type} {enc : TypeId × Value → H} {W : World} {base : Nat} {held : Bool} {a : Option Addr} {n c : Nat} {d : DataW H} {ps : List MemPlace} (h : DataW.Trod enc Try.prog W base (fun _ => true) held 35 (.slice a n c) d ps) :
    ∃ b : List Bool, b.length = n ∧ Bools W a b ∧ (a = none → n = 0 ∧ c = 0) ∧ n ≤ c ∧ c ≤ maxLen := by
  obtain ⟨fuel, hf⟩ := h
  rcases Deep.open_bools Try.underlying35 Try.underlying4 (by kernel_rfl) hf with ⟨hcs, _⟩ | ⟨x, l, c', B, hcs, _, hl, hm, _, hcell⟩
  · simp [Value.cells] at hcs
    obtain ⟨rfl, rfl, rfl⟩ := hcs
    exact ⟨[], rfl, .inl rfl, (fun _ => ⟨rfl, rfl⟩), Nat.le_refl _, Nat.zero_le _⟩
  · simp [Value.cells] at hcs
    obtain ⟨rfl, rfl, rfl⟩ := hcs
    refine ⟨(List.range n).map B, by simp, ?_, (fun e => by cases e), hl, hm⟩
    by_cases h0 : n = 0
    · exact .inl (by simp [h0])
    · obtain ⟨b, off, spot⟩ := x
      have hc := hcell 0 (by omega)
      have hspot : spot = none := by simpa [Addr.add] using World.cell?_spot hc
      subst hspot
      refine .inr ⟨b, off, rfl, fun i hi => ?_⟩
      have hi' : i < n := by simpa using hi
      have := hcell i (by omega)
      rw [add_plain] at this
      rw [this]
      simp
theorem Bools.later {w w' : World} {a : Option Addr} {l : List Bool} (h : Bools w a l) (hb : Below w.heap.size w w') : Bools w' a l := by
  rcases h with rfl | ⟨b, off, rfl, hc⟩
  · exact .inl rfl
  · exact .inr ⟨b, off, rfl, fun i hi => (hb.cell (p := ⟨b, off + i, none⟩) (World.block_lt_of_cell? w _ (hc i hi))).trans (hc i hi)⟩
/-- A step: its slices lie there. -/
structure St where
  kind : Int
  ix : Int
  ab : Option Addr
  cb : Nat
  b : List UInt8
  ak : Option Addr
  ck : Nat
  keep : List Bool
  torn : Int
def St.nil : St := ⟨0, 0, none, 0, [], none, 0, [], 0⟩
def St.cells (x : St) : List Value := [.int .i64 x.kind, .int .i64 x.ix, .slice x.ab x.b.length x.cb, .slice x.ak x.keep.length x.ck, .int .i64 x.torn]
/-- five cells that hold a step, and its slices -/
structure StC (w : World) (b o : Nat) (x : St) : Prop where
  c0 : w.cell? ⟨b, o, none⟩ = some (.int .i64 x.kind)
  c1 : w.cell? ⟨b, o + 1, none⟩ = some (.int .i64 x.ix)
  c2 : w.cell? ⟨b, o + 2, none⟩ = some (.slice x.ab x.b.length x.cb)
  c3 : w.cell? ⟨b, o + 3, none⟩ = some (.slice x.ak x.keep.length x.ck)
  c4 : w.cell? ⟨b, o + 4, none⟩ = some (.int .i64 x.torn)
  hb : Bytes w x.ab (nums (str x.b))
  hk : Bools w x.ak x.keep
theorem StC.lt {w : World} {b o : Nat} {x : St} (h : StC w b o x) : b < w.heap.size := World.block_lt_of_cell? w _ h.c0
theorem StC.later {w w' : World} {b o : Nat} {x : St} (h : StC w b o x) (hb : Below w.heap.size w w') : StC w' b o x :=
  ⟨(hb.cell (p := ⟨b, o, none⟩) h.lt).trans h.c0, (hb.cell (p := ⟨b, o + 1, none⟩) h.lt).trans h.c1, (hb.cell (p := ⟨b, o + 2, none⟩) h.lt).trans h.c2, (hb.cell (p := ⟨b, o + 3, none⟩) h.lt).trans h.c3, (hb.cell (p := ⟨b, o + 4, none⟩) h.lt).trans h.c4, h.hb.later hb, h.hk.later hb⟩
/-- a step that came in -/
structure St.In (x : St) : Prop where
  kind : (Lit.int .i64 x.kind).wf = true
  ix : (Lit.int .i64 x.ix).wf = true
  torn : (Lit.int .i64 x.torn).wf = true
  bl : x.b.length ≤ maxLen
  bn : x.ab = none → x.b.length = 0 ∧ x.cb = 0
  kl : x.keep.length ≤ maxLen
  kn : x.ak = none → x.keep.length = 0 ∧ x.ck = 0
def Steps (w : World) (a : Option Addr) (l : List St) : Prop := l = [] ∨ ∃ b off, a = some ⟨b, off, none⟩ ∧ ∀ i (h : i < l.length), StC w b (off + i * 5) l[i]
theorem Steps.at {w : World} {a : Option Addr} {l : List St} (h : Steps w a l) {i : Nat} (hi : i < l.length) : ∃ b off, a = some ⟨b, off, none⟩ ∧ StC w b (off + i * 5) l[i] := by
  rcases h with rfl | ⟨b, off, rfl, hc⟩
  · simp at hi
  · exact ⟨b, off, rfl, hc i hi⟩
theorem Steps.later {w w' : World} {a : Option Addr} {l : List St} (h : Steps w a l) (hb : Below w.heap.size w w') : Steps w' a l := by
  rcases h with rfl | ⟨b, off, rfl, hc⟩
  · exact .inl rfl
  · exact .inr ⟨b, off, rfl, fun i hi => (hc i hi).later hb⟩
theorem cells37 : Try.prog.cellsOf 37 = 5 := by kernel_rfl
theorem ones37 : Try.prog.cellsOf 3 = 1 ∧ Try.prog.cellsOf 34 = 1 ∧ Try.prog.cellsOf 35 = 1 := ⟨by kernel_rfl, by kernel_rfl, by kernel_rfl⟩
set_option maxRecDepth 100000 in
theorem trod_step {H : Type} {enc : TypeId × Value → H} {W : World} {fuel : Nat} {cs : List Value} {x : DataW H × List MemPlace} (h : DataW.trod enc Try.prog W 0 (fun _ => true) true fuel 37 cs = some x) :
    ∃ q : St, cs = q.cells ∧ Bytes W q.ab (nums (str q.b)) ∧ Bools W q.ak q.keep ∧ q.In := by
  obtain ⟨xs, k, _, _, hl, hlen, hf⟩ := DataW.trod_struct Try.underlying37 h
  rw [cells37] at hl
  obtain ⟨v0, v1, v2, v3, v4, rfl⟩ := five_cells hl
  obtain ⟨o3, o34, o35⟩ := ones37
  obtain ⟨y0, y1, y2, y3, y4, rfl⟩ := five_cells hlen
  have g0 := hf 0 _ rfl
  have g1 := hf 1 _ rfl
  have g2 := hf 2 _ rfl
  have g3 := hf 3 _ rfl
  have g4 := hf 4 _ rfl
  simp [o3, o34, o35] at g0 g1 g2 g3 g4
  obtain ⟨n0, e0, _, w0⟩ := DataW.trod_int Try.underlying3 g0
  obtain ⟨n1, e1, _, w1⟩ := DataW.trod_int Try.underlying3 g1
  obtain ⟨n4, e4, _, w4⟩ := DataW.trod_int Try.underlying3 g4
  simp at e0 e1 e4
  subst e0 e1 e4
  obtain ⟨a2, n2, c2, rfl⟩ := is_slice Try.underlying34 g2
  obtain ⟨a3, n3, c3, rfl⟩ := is_slice Try.underlying35 g3
  obtain ⟨b2, rfl, h2, i2, j2, k2⟩ := opened_bytes ⟨_, g2⟩
  obtain ⟨b3, rfl, h3, i3, j3, k3⟩ := opened_bools ⟨_, g3⟩
  exact ⟨⟨n0, n1, a2, c2, b2, a3, c3, b3, n4⟩, rfl, h2, h3, ⟨w0, w1, w4, by dsimp only; omega, i2, by dsimp only; omega, i3⟩⟩
set_option maxRecDepth 100000 in
/-- steps that came in -/
theorem opened_steps {H : Type} {enc : TypeId × Value → H} {W : World} {a : Option Addr} {n cap : Nat} {d : DataW H} {ps : List MemPlace} (h : DataW.Trod enc Try.prog W 0 (fun _ => true) true 22 (.slice a n cap) d ps) :
    ∃ l : List St, Steps W a l ∧ l.length = n ∧ n ≤ cap ∧ cap ≤ maxLen ∧ (a = none → n = 0 ∧ cap = 0) ∧ ∀ m ∈ l, m.In := by
  obtain ⟨fuel, hf⟩ := h
  rcases Deep.open_slice Try.underlying22 hf with ⟨hcs, _⟩ | ⟨x, l, c, m, n', D, Pl, hcs, _, hl, hm, hmm, _, hx⟩
  · simp [Value.cells] at hcs
    obtain ⟨rfl, rfl, rfl⟩ := hcs
    exact ⟨[], .inl rfl, rfl, Nat.le_refl _, Nat.zero_le _, fun _ => ⟨rfl, rfl⟩, by simp⟩
  · simp [Value.cells] at hcs
    obtain ⟨rfl, rfl, rfl⟩ := hcs
    have hmc : m = cap := by simpa using hmm
    have each : ∀ i, i < n → ∃ q : St, (∀ j u, q.cells[j]? = some u → W.cell? (x.add (i * 5 + j)) = some u) ∧ Bytes W q.ab (nums (str q.b)) ∧ Bools W q.ak q.keep ∧ q.In := by
      intro i hi
      obtain ⟨cs', h1, h2⟩ := hx i (by omega)
      rw [cells37] at h1
      obtain ⟨_, hlen, hcell⟩ := World.cells?_some h1
      obtain ⟨q, rfl, hq1, hq2, hq3⟩ := trod_step h2
      refine ⟨q, fun j u hu => ?_, hq1, hq2, hq3⟩
      have hj : j < 5 := by
        have := (List.getElem?_eq_some_iff.1 hu).1
        simpa [St.cells] using this
      have := hcell j (by omega)
      rw [Deep.add_add] at this
      rw [this]
      exact hu
    obtain ⟨q, hq⟩ := @Deep.choose_lt _ ⟨St.nil⟩ _ _ each
    have hlen : ((List.range n).map q).length = n := by simp
    refine ⟨(List.range n).map q, ?_, hlen, hl, hm, (fun h => by cases h), fun m' hm' => ?_⟩
    · by_cases h0 : n = 0
      · subst h0; exact .inl rfl
      · obtain ⟨b, off, spot⟩ := x
        have hspot : spot = none := by simpa [Addr.add] using World.cell?_spot ((hq 0 (by omega)).1 0 _ rfl)
        subst hspot
        refine .inr ⟨b, off, rfl, fun i hi => ?_⟩
        rw [hlen] at hi
        have h1 := (hq i hi).1
        have e : ((List.range n).map q)[i]'(by rw [hlen]; exact hi) = q i := by simp
        rw [e]
        have e' : ∀ j, (⟨b, off, none⟩ : Addr).add (i * 5 + j) = ⟨b, off + i * 5 + j, none⟩ := fun j => by rw [add_plain, Nat.add_assoc]
        refine ⟨?_, ?_, ?_, ?_, ?_, (hq i hi).2.1, (hq i hi).2.2.1⟩
        · have := h1 0 _ rfl; rw [e'] at this; exact this
        · have := h1 1 _ rfl; rw [e'] at this; exact this
        · have := h1 2 _ rfl; rw [e'] at this; exact this
        · have := h1 3 _ rfl; rw [e'] at this; exact this
        · have := h1 4 _ rfl; rw [e'] at this; exact this
    · obtain ⟨i, hi, rfl⟩ := List.mem_map.1 hm'
      exact (hq i (List.mem_range.1 hi)).2.2.2
end Go.Proofs.Ytklfpoojpfomeaa.Key
