/-
  Slices of blocks that come in; all blocks that are spoken of.
-/
import Derived.Test.YtfladpnphkoeiaaReach
import Derived.Test.YtfladpnphkoeiaaReachRef
import Derived.Test.YtfladpnphkoeiaaCountsWalk
namespace Go.Proofs.Ytfladpnphkoeiaa.Key
open Go.RowKit Go.Joins Go.WideShapes
set_option linter.unusedVariables false
set_option linter.unusedSimpArgs false

set_option maxRecDepth 100000 in
theorem trod_num {H : Type} {enc : TypeId × Value → H} {w : World} {base : Nat} {spare : Nat → Bool} {held : Bool} {fuel : Nat} {cs : List Value} {x : DataW H × List MemPlace} (h : DataW.trod enc Try.prog w base spare held fuel 23 cs = some x) :
    ∃ z : Int, cs = [.int .u32 z] ∧ (Lit.int .u32 z).wf = true := by
  obtain ⟨n0, e0, _, w0⟩ := DataW.trod_int Try.underlying23 h
  exact ⟨n0, e0, w0⟩
set_option maxRecDepth 100000 in
theorem opened_nums {H : Type} {enc : TypeId × Value → H} {W : World} {a : Option Addr} {n cap : Nat} {d : DataW H} {ps : List MemPlace} (h : DataW.Trod enc Try.prog W 0 (fun _ => true) true 41 (.slice a n cap) d ps) :
    ∃ l : List Int, Nums W a l ∧ l.length = n ∧ n ≤ cap ∧ cap ≤ maxLen ∧ (a = none → n = 0 ∧ cap = 0) ∧ ∀ m ∈ l, (Lit.int .u32 m).wf = true := by
  obtain ⟨fuel, hf⟩ := h
  rcases Deep.open_slice Try.underlying41 hf with ⟨hcs, _⟩ | ⟨x, l, c, m, n', D, Pl, hcs, _, hl, hm, hmm, _, hx⟩
  · simp [Value.cells] at hcs
    obtain ⟨rfl, rfl, rfl⟩ := hcs
    exact ⟨[], .inl rfl, rfl, Nat.le_refl _, Nat.zero_le _, fun _ => ⟨rfl, rfl⟩, by simp⟩
  · simp [Value.cells] at hcs
    obtain ⟨rfl, rfl, rfl⟩ := hcs
    have hmc : m = cap := by simpa using hmm
    have each : ∀ i, i < n → ∃ q : Int, W.cell? (x.add i) = some (.int .u32 q) ∧ (Lit.int .u32 q).wf = true := by
      intro i hi
      obtain ⟨cs', h1, h2⟩ := hx i (by omega)
      rw [cells23] at h1
      obtain ⟨_, hlen, hcell⟩ := World.cells?_some h1
      obtain ⟨q, rfl, hq⟩ := trod_num h2
      refine ⟨q, ?_, hq⟩
      have := hcell 0 (by omega)
      rw [Deep.add_add] at this
      simpa using this
    obtain ⟨q, hq⟩ := @Deep.choose_lt _ ⟨(0 : Int)⟩ _ _ each
    have hlen : ((List.range n).map q).length = n := by simp
    refine ⟨(List.range n).map q, ?_, hlen, hl, hm, (fun h => by cases h), fun m' hm' => ?_⟩
    · by_cases h0 : n = 0
      · subst h0; exact .inl rfl
      · obtain ⟨b, off, spot⟩ := x
        have hspot : spot = none := by simpa [Addr.add] using World.cell?_spot (hq 0 (by omega)).1
        subst hspot
        refine .inr ⟨b, off, rfl, fun i hi => ⟨?_⟩⟩
        rw [hlen] at hi
        have h1 := (hq i hi).1
        have e : ((List.range n).map q)[i]'(by rw [hlen]; exact hi) = q i := by simp
        rw [e]
        rw [add_plain] at h1
        exact h1
    · obtain ⟨i, hi, rfl⟩ := List.mem_map.1 hm'
      exact (hq i (List.mem_range.1 hi)).2
theorem univ_wf {l : List It} {roots : List Int} (hl : ∀ x ∈ l, x.In) (hr : ∀ r ∈ roots, (Lit.int .u32 r).wf = true) : ∀ b ∈ univ l roots, (Lit.int .u32 b).wf = true := by
  intro b hb
  unfold univ at hb
  rcases List.mem_append.1 hb with hb | hb
  · exact hr b hb
  · obtain ⟨x, hx, hb⟩ := List.mem_flatMap.1 hb
    unfold targetsL blocksL at hb
    rcases List.mem_append.1 hb with hb | hb
    · obtain ⟨e, he, rfl⟩ := List.mem_map.1 hb
      exact ((hl x hx).nd.ks e he).blk
    · obtain ⟨m, hm, rfl⟩ := List.mem_map.1 hb
      exact ((hl x hx).nd.bf m (List.mem_filter.1 hm).1).blk
theorem flat_le2 {l : List It} (h : ∀ x ∈ l, (targetsL x.nd).length ≤ 120) : (l.flatMap fun x => targetsL x.nd).length ≤ 120 * l.length := by
  induction l with
  | nil => simp
  | cons x l ih =>
    have h1 := h x (by simp)
    have h2 := ih fun y hy => h y (by simp [hy])
    rw [List.flatMap_cons, List.length_append, List.length_cons]
    omega
theorem univ_len {l : List It} (hg : greatI l = false) {roots : List Int} (hr : roots.length ≤ 120) : (univ l roots).length ≤ 10000 := by
  unfold greatI at hg
  simp only [Bool.or_eq_false_iff, decide_eq_false_iff_not] at hg
  have h1 := flat_le2 (l := l) fun x hx => targ_len (any_no hg.2 x hx)
  unfold univ
  rw [List.length_append]
  omega
theorem Full.len {l : List It} {roots ks : List Int} (h : Full l roots ks) : ks.length ≤ (univ l roots).length := rising_len ks _ h.rise fun x hx => ((h.mem x).1 hx).univ
end Go.Proofs.Ytfladpnphkoeiaa.Key
