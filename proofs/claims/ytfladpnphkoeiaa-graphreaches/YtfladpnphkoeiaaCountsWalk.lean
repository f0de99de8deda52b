/-
  The walk of the statement GraphCounts; volumes and refs that come in.
-/
import Derived.Test.YtfladpnphkoeiaaCountsRef
import Derived.Test.YtfladpnphkoeiaaDeepWalk
namespace Go.Proofs.Ytfladpnphkoeiaa.Key
open Go.RowKit Go.Joins Go.WideShapes
set_option linter.unusedVariables false
set_option linter.unusedSimpArgs false

/-- a ref that came in -/
structure Rf.In (x : Rf) : Prop where
  blk : (Lit.int .u32 x.blk).wf = true
  n : (Lit.int .u32 x.n).wf = true
/-- a volume that came in -/
structure Vo.In (x : Vo) : Prop where
  blk : (Lit.int .u32 x.blk).wf = true
def Rf.nil : Rf := ⟨0, 0⟩
def Vo.nil : Vo := ⟨⟨#[]⟩, 0, 0⟩
set_option maxRecDepth 100000 in
theorem cells58 : Try.prog.cellsOf 58 = 2 := by kernel_rfl
set_option maxRecDepth 100000 in
theorem cells56 : Try.prog.cellsOf 56 = 3 := by kernel_rfl
set_option maxRecDepth 100000 in
theorem cells48 : Try.prog.cellsOf 48 = 1 := by kernel_rfl
set_option maxRecDepth 100000 in
theorem trod_ref {H : Type} {enc : TypeId × Value → H} {w : World} {base : Nat} {spare : Nat → Bool} {held : Bool} {fuel : Nat} {cs : List Value} {x : DataW H × List MemPlace} (h : DataW.trod enc Try.prog w base spare held fuel 58 cs = some x) :
    ∃ p : Rf, cs = p.cells ∧ p.In := by
  obtain ⟨xs, k, _, _, hl, hlen, hf⟩ := DataW.trod_struct Try.underlying58 h
  rw [cells58] at hl
  obtain ⟨v0, v1, rfl⟩ := two_cells hl
  obtain ⟨y0, y1, rfl⟩ := two_cells hlen
  have g0 := hf 0 _ rfl
  have g1 := hf 1 _ rfl
  simp [cells23] at g0 g1
  obtain ⟨n0, e0, _, w0⟩ := DataW.trod_int Try.underlying23 g0
  obtain ⟨n1, e1, _, w1⟩ := DataW.trod_int Try.underlying23 g1
  simp at e0 e1
  subst e0 e1
  exact ⟨⟨n0, n1⟩, rfl, ⟨w0, w1⟩⟩
set_option maxRecDepth 100000 in
theorem trod_vol {H : Type} {enc : TypeId × Value → H} {w : World} {base : Nat} {spare : Nat → Bool} {held : Bool} {fuel : Nat} {cs : List Value} {x : DataW H × List MemPlace} (h : DataW.trod enc Try.prog w base spare held fuel 56 cs = some x) :
    ∃ p : Vo, cs = p.cells ∧ p.In := by
  obtain ⟨xs, k, _, _, hl, hlen, hf⟩ := DataW.trod_struct Try.underlying56 h
  rw [cells56] at hl
  obtain ⟨v0, v1, v2, rfl⟩ := three_cells hl
  obtain ⟨y0, y1, y2, rfl⟩ := three_cells hlen
  have g0 := hf 0 _ rfl
  have g1 := hf 1 _ rfl
  have g2 := hf 2 _ rfl
  simp [cells23, cells48, one9] at g0 g1 g2
  obtain ⟨n0, e0, _, w0⟩ := DataW.trod_string Try.underlying9 g0
  obtain ⟨n1, e1, _, w1⟩ := DataW.trod_int Try.underlying23 g1
  obtain ⟨n2, e2, _, w2⟩ := DataW.trod_int Try.underlying48 g2
  simp at e0 e1 e2
  subst e0 e1 e2
  exact ⟨⟨n0, n1, n2⟩, rfl, ⟨w1⟩⟩
set_option maxRecDepth 100000 in
theorem opened_refs {H : Type} {enc : TypeId × Value → H} {W : World} {a : Option Addr} {n cap : Nat} {d : DataW H} {ps : List MemPlace} (h : DataW.Trod enc Try.prog W 0 (fun _ => true) true 37 (.slice a n cap) d ps) :
    ∃ l : List Rf, Refs W a l ∧ l.length = n ∧ n ≤ cap ∧ cap ≤ maxLen ∧ (a = none → n = 0 ∧ cap = 0) ∧ ∀ m ∈ l, m.In := by
  obtain ⟨fuel, hf⟩ := h
  rcases Deep.open_slice Try.underlying37 hf with ⟨hcs, _⟩ | ⟨x, l, c, m, n', D, Pl, hcs, _, hl, hm, hmm, _, hx⟩
  · simp [Value.cells] at hcs
    obtain ⟨rfl, rfl, rfl⟩ := hcs
    exact ⟨[], .inl rfl, rfl, Nat.le_refl _, Nat.zero_le _, fun _ => ⟨rfl, rfl⟩, by simp⟩
  · simp [Value.cells] at hcs
    obtain ⟨rfl, rfl, rfl⟩ := hcs
    have hmc : m = cap := by simpa using hmm
    have each : ∀ i, i < n → ∃ q : Rf, (∀ j u, q.cells[j]? = some u → W.cell? (x.add (i * 2 + j)) = some u) ∧ q.In := by
      intro i hi
      obtain ⟨cs', h1, h2⟩ := hx i (by omega)
      rw [cells58] at h1
      obtain ⟨_, hlen, hcell⟩ := World.cells?_some h1
      obtain ⟨q, rfl, hq⟩ := trod_ref h2
      refine ⟨q, fun j u hu => ?_, hq⟩
      have hj : j < 2 := by
        have := (List.getElem?_eq_some_iff.1 hu).1
        simpa [Rf.cells] using this
      have := hcell j (by omega)
      rw [Deep.add_add] at this
      rw [this]
      exact hu
    obtain ⟨q, hq⟩ := @Deep.choose_lt _ ⟨Rf.nil⟩ _ _ each
    have hlen : ((List.range n).map q).length = n := by simp
    refine ⟨(List.range n).map q, ?_, hlen, hl, hm, (fun h => by cases h), fun m' hm' => ?_⟩
    · by_cases h0 : n = 0
      · subst h0; exact .inl rfl
      · obtain ⟨b, off, spot⟩ := x
        have hspot : spot = none := by simpa [Addr.add] using World.cell?_spot ((hq 0 (by omega)).1 0 _ rfl)
        subst hspot
        refine .inr ⟨b, off, rfl, fun i hi => ?_⟩
        rw [hlen] at hi
        have h1 := (hq i hi).1
        have e : ((List.range n).map q)[i]'(by rw [hlen]; exact hi) = q i := by simp
        rw [e]
        have e' : ∀ j, (⟨b, off, none⟩ : Addr).add (i * 2 + j) = ⟨b, off + i * 2 + j, none⟩ := fun j => by rw [add_plain, Nat.add_assoc]
        refine ⟨?_, ?_⟩
        · have := h1 0 _ rfl; rw [e'] at this; exact this
        · have := h1 1 _ rfl; rw [e'] at this; exact this
    · obtain ⟨i, hi, rfl⟩ := List.mem_map.1 hm'
      exact (hq i (List.mem_range.1 hi)).2
set_option maxRecDepth 100000 in
theorem opened_vols {H : Type} {enc : TypeId × Value → H} {W : World} {a : Option Addr} {n cap : Nat} {d : DataW H} {ps : List MemPlace} (h : DataW.Trod enc Try.prog W 0 (fun _ => true) true 36 (.slice a n cap) d ps) :
    ∃ l : List Vo, Vols W a l ∧ l.length = n ∧ n ≤ cap ∧ cap ≤ maxLen ∧ (a = none → n = 0 ∧ cap = 0) ∧ ∀ m ∈ l, m.In := by
  obtain ⟨fuel, hf⟩ := h
  rcases Deep.open_slice Try.underlying36 hf with ⟨hcs, _⟩ | ⟨x, l, c, m, n', D, Pl, hcs, _, hl, hm, hmm, _, hx⟩
  · simp [Value.cells] at hcs
    obtain ⟨rfl, rfl, rfl⟩ := hcs
    exact ⟨[], .inl rfl, rfl, Nat.le_refl _, Nat.zero_le _, fun _ => ⟨rfl, rfl⟩, by simp⟩
  · simp [Value.cells] at hcs
    obtain ⟨rfl, rfl, rfl⟩ := hcs
    have hmc : m = cap := by simpa using hmm
    have each : ∀ i, i < n → ∃ q : Vo, (∀ j u, q.cells[j]? = some u → W.cell? (x.add (i * 3 + j)) = some u) ∧ q.In := by
      intro i hi
      obtain ⟨cs', h1, h2⟩ := hx i (by omega)
      rw [cells56] at h1
      obtain ⟨_, hlen, hcell⟩ := World.cells?_some h1
      obtain ⟨q, rfl, hq⟩ := trod_vol h2
      refine ⟨q, fun j u hu => ?_, hq⟩
      have hj : j < 3 := by
        have := (List.getElem?_eq_some_iff.1 hu).1
        simpa [Vo.cells] using this
      have := hcell j (by omega)
      rw [Deep.add_add] at this
      rw [this]
      exact hu
    obtain ⟨q, hq⟩ := @Deep.choose_lt _ ⟨Vo.nil⟩ _ _ each
    have hlen : ((List.range n).map q).length = n := by simp
    refine ⟨(List.range n).map q, ?_, hlen, hl, hm, (fun h => by cases h), fun m' hm' => ?_⟩
    · by_cases h0 : n = 0
      · subst h0; exact .inl rfl
      · obtain ⟨b, off, spot⟩ := x
        have hspot : spot = none := by simpa [Addr.add] using World.cell?_spot ((hq 0 (by omega)).1 0 _ rfl)
        subst hspot
        refine .inr ⟨b, off, rfl, fun i hi => ?_⟩
        rw [hlen] at hi
        have h1 := (hq i hi).1
        have e : ((List.range n).map q)[i]'(by rw [hlen]; exact hi) = q i := by simp
        rw [e]
        have e' : ∀ j, (⟨b, off, none⟩ : Addr).add (i * 3 + j) = ⟨b, off + i * 3 + j, none⟩ := fun j => by rw [add_plain, Nat.add_assoc]
        refine ⟨?_, ?_, ?_⟩
        · have := h1 0 _ rfl; rw [e'] at this; exact this
        · have := h1 1 _ rfl; rw [e'] at this; exact this
        · have := h1 2 _ rfl; rw [e'] at this; exact this
    · obtain ⟨i, hi, rfl⟩ := List.mem_map.1 hm'
      exact (hq i (List.mem_range.1 hi)).2

theorem targ_len {n : Nd} (h : greatN n = false) : (targetsL n).length ≤ 120 := by
  unfold greatN greatPL greatL at h
  simp only [Bool.or_eq_false_iff, decide_eq_false_iff_not] at h
  obtain ⟨h2, h3, ⟨h1, _⟩, ⟨h4, hM⟩, _, hE⟩ := h
  have := blocks_len n.bf
  unfold targetsL
  simp
  omega
theorem flat_le {l : List It} (h : ∀ x ∈ l, (targetsL x.nd).length ≤ 120) : (l.flatMap targN).length ≤ 120 * l.length := by
  induction l with
  | nil => simp
  | cons x l ih =>
    have h1 := h x (by simp)
    have h2 := ih fun y hy => h y (by simp [hy])
    rw [List.flatMap_cons, List.length_append, List.length_cons]
    have e : (targN x).length = (targetsL x.nd).length := by simp [targN]
    omega
theorem names_len {l : List It} (hg : greatI l = false) (roots : List Vo) (pend : List Rf) (hr : roots.length ≤ 60) (hp : pend.length ≤ 60) : (namesL l roots pend).length ≤ 10000 := by
  unfold greatI at hg
  simp only [Bool.or_eq_false_iff, decide_eq_false_iff_not] at hg
  have h1 := flat_le (l := l) fun x hx => targ_len (any_no hg.2 x hx)
  unfold namesL rootsN pendN
  simp only [List.length_append, List.length_map]
  omega
theorem wf32' {z : Int} (h : (Lit.int .u32 z).wf = true) : 0 ≤ z ∧ z ≤ 4294967295 := wf32 h
set_option maxRecDepth 100000 in
set_option maxHeartbeats 800000 in
theorem graphCounts4 (a : Option Addr) (c : Nat) (l : List It) (ra : Option Addr) (rc : Nat) (roots : List Vo) (pa : Option Addr) (pc : Nat) (pend : List Rf) (w : World) (wl : Items w a l) (wn : l.length ≤ c) (wc : c ≤ maxLen) (wm : ∀ m ∈ l, m.In)
    (wl1 : Vols w ra roots) (wn1 : roots.length ≤ rc) (wc1 : rc ≤ maxLen) (wl2 : Refs w pa pend) (wn2 : pend.length ≤ pc) (wc2 : pc ≤ maxLen) (wm2 : ∀ m ∈ pend, m.In) :
    Calls Try.prog 4 #[.slice a l.length c, .slice ra roots.length rc, .slice pa pend.length pc] w fun x w' => x = .returned (.bool true) ∧ Below w.heap.size w w' := by
  have HG := great9 a c l w (by omega) wl wm
  cases hg : greatI l
  case true =>
    rw [hg] at HG
    generalize l.length = n at *
    go_enter Try.func4, Try.ntmps4
    go_wp2_with fail
    refine HG.mono ?_
    rintro e w1 ⟨rfl, hb1⟩
    go_wp2_with fail
    refine (awake8 w1).mono ?_
    rintro e w2 ⟨rfl, hb2⟩
    go_wp2_with fail
    go_ret
    exact ⟨rfl, hb1.trans (hb2.mono hb1.size)⟩
  case false =>
  rw [hg] at HG
  by_cases h1 : 60 < roots.length
  case pos =>
    have h1' : decide ((60 : Int) < (roots.length : Int)) = true := by simp; omega
    clear h1
    generalize l.length = n at *
    generalize roots.length = n1 at *
    go_enter Try.func4, Try.ntmps4
    go_wp2_with fail
    refine HG.mono ?_
    rintro e w1 ⟨rfl, hb1⟩
    go_wp2_with fail
    refine (awake8 w1).mono ?_
    rintro e w2 ⟨rfl, hb2⟩
    go_wp2_with fail
    go_ret
    exact ⟨rfl, hb1.trans (hb2.mono hb1.size)⟩
  case neg =>
  have h1' : decide ((60 : Int) < (roots.length : Int)) = false := by simp; omega
  by_cases h2 : 60 < pend.length
  case pos =>
    have h2' : decide ((60 : Int) < (pend.length : Int)) = true := by simp; omega
    clear h1 h2
    generalize l.length = n at *
    generalize roots.length = n1 at *
    generalize pend.length = n2 at *
    go_enter Try.func4, Try.ntmps4
    go_wp2_with fail
    refine HG.mono ?_
    rintro e w1 ⟨rfl, hb1⟩
    go_wp2_with fail
    refine (awake8 w1).mono ?_
    rintro e w2 ⟨rfl, hb2⟩
    go_wp2_with fail
    go_ret
    exact ⟨rfl, hb1.trans (hb2.mono hb1.size)⟩
  case neg =>
  have h2' : decide ((60 : Int) < (pend.length : Int)) = false := by simp; omega
  obtain ⟨hfine, h30⟩ := fine_of hg wm
  have hnl := names_len hg roots pend (by omega) (by omega)
  have hpn : ∀ x ∈ pend, 0 ≤ x.n ∧ x.n ≤ 4294967295 := fun x hx => wf32' (wm2 x hx).n
  have HC1 := hid (fun w1 (hb1 : Below w.heap.size w w1) => counts15 a ra pa c rc pc l roots pend w1 hfine (by omega) (by omega) hpn hnl (wl.later hb1) (wl1.later hb1) (wl2.later hb1))
  have HC2 := hid (fun w1 (hb1 : Below w.heap.size w w1) => counts16 a ra pa c rc pc l roots pend w1 hfine (by omega) (by omega) hpn hnl (wl.later hb1) (wl1.later hb1) (wl2.later hb1))
  have hcl : (countsL l roots pend).length ≤ 10000 := by
    have h3 := cnt_ok (namesL l roots pend) (by
      intro x hx
      unfold namesL rootsN pendN at hx
      rcases List.mem_append.1 hx with hx | hx
      · rcases List.mem_append.1 hx with hx | hx
        · obtain ⟨y, _, rfl⟩ := List.mem_map.1 hx; simp
        · obtain ⟨y, _, hx⟩ := List.mem_flatMap.1 hx
          unfold targN at hx
          obtain ⟨z, _, rfl⟩ := List.mem_map.1 hx; simp
      · obtain ⟨y, hy, rfl⟩ := List.mem_map.1 hx
        exact (hpn y hy).1)
    unfold countsL
    rw [refsOf_len _ h3.1]
    exact Nat.le_trans (cnt_len _) hnl
  generalize countsL l roots pend = CL at *
  clear hg wl wl1 wl2 hfine h30 h1 h2 hnl hpn wm wm2
  generalize l.length = n at *
  generalize roots.length = n1 at *
  generalize pend.length = n2 at *
  go_enter Try.func4, Try.ntmps4
  go_wp2_with fail
  refine HG.mono ?_
  rintro e w1 ⟨rfl, hb1⟩
  go_wp2_with fail
  refine (HC1.out w1 hb1).mono ?_
  rintro e w2 ⟨⟨v, rfl, hv⟩, hb2⟩
  obtain ⟨va, vc, rfl, hvr, _⟩ := hv.refs
  have hb12 := hb1.trans (hb2.mono hb1.size)
  go_wp2_with fail
  refine (HC2.out w2 hb12).mono ?_
  rintro e w3 ⟨⟨v', rfl, va', vc', rfl, hvr'⟩, hb3⟩
  have hb13 := hb12.trans (hb3.mono hb12.size)
  have HS := hid (same14 va va' vc vc' CL CL w3 (by unfold maxLen; omega) (by unfold maxLen; omega) (hvr.later hb3) hvr')
  clear HG HC1 HC2 hv hvr hvr' hb1 hb2 hb3
  generalize CL.length = m at *
  go_wp2_with fail
  refine HS.out.mono ?_
  rintro e w4 ⟨⟨t, rfl, htt⟩, hb4⟩
  obtain rfl : t = true := htt.2 (by first | rfl | trivial)
  have hb14 := hb13.trans (hb4.mono hb13.size)
  go_wp2_with fail
  refine (awake8 w4).mono ?_
  rintro e w5 ⟨rfl, hb5⟩
  have hb15 := hb14.trans (hb5.mono hb14.size)
  go_wp2_with fail
  go_ret
  exact ⟨rfl, hb15⟩
end Go.Proofs.Ytfladpnphkoeiaa.Key
