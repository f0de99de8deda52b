/-
  Slices of blocks that come in; all blocks that are spoken of.
  The walk of the statement GraphReaches.
-/
import Derived.Test.YtfladpnphkoeiaaRk
import Derived.Test.YtfladpnphkoeiaaRn
import Derived.Test.YtfladpnphkoeiaaCountsWalk
import Derived.BigQuiet
namespace Go.Proofs.Ytfladpnphkoeiaa.Key
open Go.RowKit Go.Joins Go.WideShapes
set_option linter.unusedVariables false
set_option linter.unusedSimpArgs false

set_option maxRecDepth 100000 in
theorem trod_num {H : Type} {enc : TypeId × Value → H} {w : World} {base : Nat} {spare : Nat → Bool} {held : Bool} {fuel : Nat} {cs : List Value} {x : DataW H × List MemPlace} (h : DataW.trod enc Try.prog w base spare held fuel 23 cs = some x) :
    ∃ z : Int, cs = [.int .u32 z] ∧ (Lit.int .u32 z).wf = true := by
  obtain ⟨n0, e0, _, w0⟩ := DataW.trod_int Try.underlying23 h
  exact ⟨n0, e0, w0⟩
set_option maxRecDepth 100000 in
theorem opened_nums {H : Type} {enc : TypeId × Value → H} {W : World} {a : Option Addr} {n cap : Nat} {d : DataW H} {ps : List MemPlace} (h : DataW.Trod enc Try.prog W 0 (fun _ => true) true 41 (.slice a n cap) d ps) :
    ∃ l : List Int, Nums W a l ∧ l.length = n ∧ n ≤ cap ∧ cap ≤ maxLen ∧ (a = none → n = 0 ∧ cap = 0) ∧ ∀ m ∈ l, (Lit.int .u32 m).wf = true := by
  obtain ⟨fuel, hf⟩ := h
  rcases Deep.open_slice Try.underlying41 hf with ⟨hcs, _⟩ | ⟨x, l, c, m, n', D, Pl, hcs, _, hl, hm, hmm, _, hx⟩
  · simp [Value.cells] at hcs
    obtain ⟨rfl, rfl, rfl⟩ := hcs
    exact ⟨[], .inl rfl, rfl, Nat.le_refl _, Nat.zero_le _, fun _ => ⟨rfl, rfl⟩, by simp⟩
  · simp [Value.cells] at hcs
    obtain ⟨rfl, rfl, rfl⟩ := hcs
    have hmc : m = cap := by simpa using hmm
    have each : ∀ i, i < n → ∃ q : Int, W.cell? (x.add i) = some (.int .u32 q) ∧ (Lit.int .u32 q).wf = true := by
      intro i hi
      obtain ⟨cs', h1, h2⟩ := hx i (by omega)
      rw [cells23] at h1
      obtain ⟨_, hlen, hcell⟩ := World.cells?_some h1
      obtain ⟨q, rfl, hq⟩ := trod_num h2
      refine ⟨q, ?_, hq⟩
      have := hcell 0 (by omega)
      rw [Deep.add_add] at this
      simpa using this
    obtain ⟨q, hq⟩ := @Deep.choose_lt _ ⟨(0 : Int)⟩ _ _ each
    have hlen : ((List.range n).map q).length = n := by simp
    refine ⟨(List.range n).map q, ?_, hlen, hl, hm, (fun h => by cases h), fun m' hm' => ?_⟩
    · by_cases h0 : n = 0
      · subst h0; exact .inl rfl
      · obtain ⟨b, off, spot⟩ := x
        have hspot : spot = none := by simpa [Addr.add] using World.cell?_spot (hq 0 (by omega)).1
        subst hspot
        refine .inr ⟨b, off, rfl, fun i hi => ⟨?_⟩⟩
        rw [hlen] at hi
        have h1 := (hq i hi).1
        have e : ((List.range n).map q)[i]'(by rw [hlen]; exact hi) = q i := by simp
        rw [e]
        rw [add_plain] at h1
        exact h1
    · obtain ⟨i, hi, rfl⟩ := List.mem_map.1 hm'
      exact (hq i (List.mem_range.1 hi)).2
theorem univ_wf {l : List It} {roots : List Int} (hl : ∀ x ∈ l, x.In) (hr : ∀ r ∈ roots, (Lit.int .u32 r).wf = true) : ∀ b ∈ univ l roots, (Lit.int .u32 b).wf = true := by
  intro b hb
  unfold univ at hb
  rcases List.mem_append.1 hb with hb | hb
  · exact hr b hb
  · obtain ⟨x, hx, hb⟩ := List.mem_flatMap.1 hb
    unfold targetsL blocksL at hb
    rcases List.mem_append.1 hb with hb | hb
    · obtain ⟨e, he, rfl⟩ := List.mem_map.1 hb
      exact ((hl x hx).nd.ks e he).blk
    · obtain ⟨m, hm, rfl⟩ := List.mem_map.1 hb
      exact ((hl x hx).nd.bf m (List.mem_filter.1 hm).1).blk
theorem flat_le2 {l : List It} (h : ∀ x ∈ l, (targetsL x.nd).length ≤ 120) : (l.flatMap fun x => targetsL x.nd).length ≤ 120 * l.length := by
  induction l with
  | nil => simp
  | cons x l ih =>
    have h1 := h x (by simp)
    have h2 := ih fun y hy => h y (by simp [hy])
    rw [List.flatMap_cons, List.length_append, List.length_cons]
    omega
theorem univ_len {l : List It} (hg : greatI l = false) {roots : List Int} (hr : roots.length ≤ 120) : (univ l roots).length ≤ 10000 := by
  unfold greatI at hg
  simp only [Bool.or_eq_false_iff, decide_eq_false_iff_not] at hg
  have h1 := flat_le2 (l := l) fun x hx => targ_len (any_no hg.2 x hx)
  unfold univ
  rw [List.length_append]
  omega
theorem Full.len {l : List It} {roots ks : List Int} (h : Full l roots ks) : ks.length ≤ (univ l roots).length := rising_len ks _ h.rise fun x hx => ((h.mem x).1 hx).univ
end Go.Proofs.Ytfladpnphkoeiaa.Key

namespace Go.Proofs.Ytfladpnphkoeiaa.Key
open Go.RowKit Go.Joins Go.WideShapes
set_option linter.unusedVariables false
set_option linter.unusedSimpArgs false

theorem found_step {zj x : Int} {l l' : List Int} {f : Bool} (h : l' = l ++ [x]) (hf : decide (zj ∈ l) = f) : decide (zj ∈ l') = (f || (x == zj)) := by
  subst h; subst hf
  by_cases h1 : zj ∈ l
  · simp [h1]
  · by_cases h2 : x = zj
    · simp [h2]
    · have h3 : ¬ zj = x := fun e => h2 e.symm
      simp [h1, h2, h3]

set_option maxRecDepth 100000 in
set_option maxHeartbeats 1000000 in
theorem graphReaches5 (a : Option Addr) (c : Nat) (l : List It) (ra : Option Addr) (rc : Nat) (ks : List Int) (pa : Option Addr) (pc : Nat) (js : List Int) (w : World) (wl : Items w a l) (wn : l.length ≤ c) (wc : c ≤ maxLen) (wm : ∀ m ∈ l, m.In)
    (wl1 : Nums w ra ks) (wn1 : ks.length ≤ rc) (wc1 : rc ≤ maxLen) (wz1 : ra = none → ks.length = 0 ∧ rc = 0) (wm1 : ∀ m ∈ ks, (Lit.int .u32 m).wf = true) (wl2 : Nums w pa js) (wn2 : js.length ≤ pc) (wc2 : pc ≤ maxLen) (wz2 : pa = none → js.length = 0 ∧ pc = 0) (wm2 : ∀ m ∈ js, (Lit.int .u32 m).wf = true) :
    Calls Try.prog 5 #[.slice a l.length c, .slice ra ks.length rc, .slice pa js.length pc] w fun x w' => x = .returned (.bool true) ∧ Below w.heap.size w w' := by
  have HG := great9 a c l w (by omega) wl wm
  cases hg : greatI l
  case true =>
    rw [hg] at HG
    clear wz1 wz2
    generalize l.length = n at *
    go_enter Try.func5, Try.ntmps5
    go_wp2_with fail
    refine HG.mono ?_
    rintro e w1 ⟨rfl, hb1⟩
    go_wp2_with fail
    refine (awake8 w1).mono ?_
    rintro e w2 ⟨rfl, hb2⟩
    go_wp2_with fail
    go_ret
    exact ⟨rfl, hb1.trans (hb2.mono hb1.size)⟩
  case false =>
  rw [hg] at HG
  by_cases h1 : 60 < ks.length
  case pos =>
    have h1' : decide ((60 : Int) < (ks.length : Int)) = true := by simp; omega
    clear h1 wz1 wz2
    generalize l.length = n at *
    generalize ks.length = n1 at *
    go_enter Try.func5, Try.ntmps5
    go_wp2_with fail
    refine HG.mono ?_
    rintro e w1 ⟨rfl, hb1⟩
    go_wp2_with fail
    refine (awake8 w1).mono ?_
    rintro e w2 ⟨rfl, hb2⟩
    go_wp2_with fail
    go_ret
    exact ⟨rfl, hb1.trans (hb2.mono hb1.size)⟩
  case neg =>
  have h1' : decide ((60 : Int) < (ks.length : Int)) = false := by simp; omega
  by_cases h2 : 60 < js.length
  case pos =>
    have h2' : decide ((60 : Int) < (js.length : Int)) = true := by simp; omega
    clear h1 h2 wz1 wz2
    generalize l.length = n at *
    generalize ks.length = n1 at *
    generalize js.length = n2 at *
    go_enter Try.func5, Try.ntmps5
    go_wp2_with fail
    refine HG.mono ?_
    rintro e w1 ⟨rfl, hb1⟩
    go_wp2_with fail
    refine (awake8 w1).mono ?_
    rintro e w2 ⟨rfl, hb2⟩
    go_wp2_with fail
    go_ret
    exact ⟨rfl, hb1.trans (hb2.mono hb1.size)⟩
  case neg =>
  have h2' : decide ((60 : Int) < (js.length : Int)) = false := by simp; omega
  obtain ⟨hfine, h30⟩ := fine_of hg wm
  have hab : (ks ++ js).length ≤ 120 := by rw [List.length_append]; omega
  have hua := univ_len hg (roots := ks) (by omega)
  have hub := univ_len hg (roots := js) (by omega)
  have huc := univ_len hg hab
  have hwc := univ_wf wm (roots := ks ++ js) (fun r hr => by rcases List.mem_append.1 hr with h | h; exact wm1 r h; exact wm2 r h)
  have HRA := hid (fun w1 (hb1 : Below w.heap.size w w1) => reach17 a ra c rc l ks w1 hfine (by omega) hua (univ_wf wm wm1) (wl.later hb1) (wl1.later hb1) wz1)
  have HRB := hid (fun w1 (hb1 : Below w.heap.size w w1) => reach17 a pa c pc l js w1 hfine (by omega) hub (univ_wf wm wm2) (wl.later hb1) (wl2.later hb1) wz2)
  have HRC := hid (fun q qc w1 (hb1 : Below w.heap.size w w1) hn hz => reach17 a q c qc l (ks ++ js) w1 hfine (by omega) huc hwc (wl.later hb1) hn hz)
  have HSA := hid (fun w1 (hb1 : Below w.heap.size w w1) => reach19 a ra c rc l ks w1 hfine (by omega) hua (wl.later hb1) (wl1.later hb1))
  have HSC := hid (fun q qc w1 (hb1 : Below w.heap.size w w1) hn => reach19 a q c qc l (ks ++ js) w1 hfine (by omega) huc (wl.later hb1) hn)
  have HUA := hid hua
  have HUB := hid hub
  have HUC := hid huc
  have W1 := hid wl1
  have W2 := hid wl2
  have Z1 := hid wz1
  have Z2 := hid wz2
  clear hg wl wl1 wl2 hfine h30 h1 h2 wm wm1 wm2 hua hub huc hwc wz1 wz2
  obtain ⟨n1, HN1⟩ : ∃ m, Hid (ks.length = m) := ⟨_, hid rfl⟩
  obtain ⟨n2, HN2⟩ : ∃ m, Hid (js.length = m) := ⟨_, hid rfl⟩
  obtain ⟨n3, HN3⟩ : ∃ m, Hid ((ks ++ js).length = m) := ⟨_, hid rfl⟩
  rw [HN1.out] at HRA HSA Z1 h1' wn1 ⊢
  rw [HN2.out] at HRB Z2 h2' wn2 ⊢
  rw [HN3.out] at HRC HSC hab
  generalize l.length = n at *
  have hn1 : n1 ≤ 60 := by simp at h1'; omega
  have hn2 : n2 ≤ 60 := by simp at h2'; omega
  go_enter Try.func5, Try.ntmps5
  go_wp2_with fail
  refine HG.mono ?_
  clear HG
  rintro e w1 ⟨rfl, hb1⟩
  have O0 := hid (OwnU.made w1)
  have hb0 := hid (below_box w1 (.cells #[] 23))
  have hs0 : w1.heap.size ≤ (w1.alloc (.cells #[] 23)).heap.size := by simp
  have NA := hid (fun u (hu : Below w1.heap.size w1 u) => (W1.out.later hb1).later hu)
  have NB := hid (fun u (hu : Below w1.heap.size w1 u) => (W2.out.later hb1).later hu)
  go_wp2_with (first
    | (at_builtin; refine appUs (w0 := w1) rfl _ _ rfl w1.heap.size _ [] rfl O0.out ra n1 rc ks rfl Z1.out HN1.out (NA.out _ hb0.out) (by simp; omega) hs0 hb0.out ?_; intro v3 w3 ho3 hb3; clear O0 hb0 hs0; have hs3 := hb3.size; have hl3 : ([] ++ ks).length + n2 ≤ 100000 := (by rw [List.nil_append, HN1.out]; omega))
    | (at_builtin; refine appUs (w0 := w1) rfl _ _ rfl w1.heap.size _ _ rfl ho3 pa n2 pc js rfl Z2.out HN2.out (NB.out _ hb3) hl3 hs3 hb3 ?_; intro v4 w4 ho4 hb4; clear ho3 hb3 hs3 hl3)
    | fail)
  rw [List.nil_append] at ho4
  obtain ⟨qa, qc, rfl, hq4, hz4⟩ := ho4.nums
  rw [HN3.out] at hz4 ⊢
  have hs1 := hb1.size
  have hbw4 : Below w.heap.size w w4 := hb1.trans (hb4.mono hs1)
  have NC := hid (fun u (hu : Below w4.heap.size w4 u) => hq4.later hu)
  have Z4 := hid hz4
  clear ho4 hq4 hz4 NA NB hb4 hb1 W1 W2
  generalize hk0 : w.heap.size = k0 at *
  have hs4 : k0 ≤ w4.heap.size := by rw [← hk0]; exact hbw4.size
  refine (HRA.out w4 hbw4).mono ?_
  rintro e w5 ⟨⟨X, hXF, xv, rfl, hX⟩, hb5⟩
  have hbw5 := hbw4.trans (hb5.mono hs4)
  have hs5 : w4.heap.size ≤ w5.heap.size := hb5.size
  go_wp2_with fail
  refine (HRB.out w5 hbw5).mono ?_
  rintro e w6 ⟨⟨Y, hYF, yv, rfl, hY⟩, hb6⟩
  have hs6 := hb6.size
  have hbw6 := hbw5.trans (hb6.mono (by omega))
  have hb46 := hb5.trans (hb6.mono hs5)
  go_wp2_with fail
  refine (HRC.out qa qc w6 hbw6 (NC.out w6 hb46) Z4.out).mono ?_
  rintro e w7 ⟨⟨Z, hZF, zv, rfl, hZ⟩, hb7⟩
  have hs7 := hb7.size
  have hbw7 := hbw6.trans (hb7.mono (by omega))
  have hb47 := hb46.trans (hb7.mono (by omega))
  have hX7 := (hX.numV.later hb6).later hb7
  have hY7 := hY.numV.later hb7
  have hZ7 := hZ.numV
  clear hX hY hZ hb5 hb6 hb7 HRA HRB HRC Z4 hb46 hbw4 hbw5 hbw6
  go_wp2_with fail
  refine (HSA.out w7 hbw7).mono ?_
  rintro e w8 ⟨⟨X', hXF', xv', rfl, hX8⟩, hb8⟩
  obtain rfl := hXF'.one hXF
  clear hXF'
  have hlx := Nat.le_trans hXF.len HUA.out
  have hly := Nat.le_trans hYF.len HUB.out
  have hlz := Nat.le_trans hZF.len HUC.out
  have hboth := hid (hXF.both hYF hZF)
  have HZF := hid hZF
  clear hXF hYF HUA HUB HUC hZF
  obtain ⟨xa, xc, rfl, hx7⟩ := hX7
  obtain ⟨ya, yc, rfl, hy7⟩ := hY7
  obtain ⟨za, zc, rfl, hz7⟩ := hZ7
  obtain ⟨xa', xc', rfl, hx8⟩ := hX8
  have hs8 := hb8.size
  have hbw8 := hbw7.trans (hb8.mono (by omega))
  have hb48 := hb47.trans (hb8.mono (by omega))
  have HSB := hid (blocks16 xa xa' xc xc' X' X' w8 (by unfold maxLen; omega) (by unfold maxLen; omega) (hx7.later hb8) hx8)
  have hx := hx7.later hb8
  have hy := hy7.later hb8
  have hz := hz7.later hb8
  clear hx7 hy7 hz7 hx8 hb8 hb47 hbw7 HSA
  obtain ⟨nx, HNX⟩ : ∃ m, Hid (X'.length = m) := ⟨_, hid rfl⟩
  obtain ⟨ny, HNY⟩ : ∃ m, Hid (Y.length = m) := ⟨_, hid rfl⟩
  obtain ⟨nz, HNZ⟩ : ∃ m, Hid (Z.length = m) := ⟨_, hid rfl⟩
  rw [HNX.out] at hlx HSB ⊢
  rw [HNY.out] at hly ⊢
  rw [HNZ.out] at hlz ⊢
  go_wp2_with fail
  refine HSB.out.mono ?_
  rintro e w9 ⟨⟨t, rfl, htt⟩, hb9⟩
  obtain rfl : t = true := htt.2 (by first | rfl | trivial)
  have hs9 := hb9.size
  have hbw9 := hbw8.trans (hb9.mono (by omega))
  have hb49 := hb48.trans (hb9.mono (by omega))
  have hx2 := hx.later hb9
  have hy2 := hy.later hb9
  have hz2 := hz.later hb9
  clear HSB htt hx hy hz hb9 hbw8 hb48
  go_wp2_with fail
  refine (HSC.out qa qc w9 hbw9 (NC.out w9 hb49)).mono ?_
  rintro e w10 ⟨⟨Z', hZF', zv', rfl, hZ10⟩, hb10⟩
  obtain rfl := hZF'.one HZF.out
  obtain ⟨za', zc', rfl, hz10⟩ := hZ10
  have hs10 := hb10.size
  have hbw10 := hbw9.trans (hb10.mono (by omega))
  have hx3 := hx2.later hb10
  have hy3 := hy2.later hb10
  have hz3 := hz2.later hb10
  have HSB := hid (blocks16 za za' zc zc' Z' Z' w10 (by unfold maxLen; rw [HNZ.out]; omega) (by unfold maxLen; rw [HNZ.out]; omega) hz3 hz10)
  rw [HNZ.out] at HSB ⊢
  clear hZF' HZF hx2 hy2 hz2 hz10 hb10 HSC NC hb49 hbw9
  go_wp2_with fail
  refine HSB.out.mono ?_
  rintro e w11 ⟨⟨t, rfl, htt⟩, hb11⟩
  obtain rfl : t = true := htt.2 (by first | rfl | trivial)
  have hs11 := hb11.size
  have hbw11 := hbw10.trans (hb11.mono (by omega))
  have hx := hid (hx3.later hb11)
  have hy := hid (hy3.later hb11)
  have hz := hid (hz3.later hb11)
  clear HSB htt hx3 hy3 hz3 hb11 hbw10
  have hs : k0 ≤ w11.heap.size := by omega
  clear hs1 hs4 hs5 hs6 hs7 hs8 hs9 hs10 hs11
  generalize hk1 : w11.heap.size = k1 at *
  go_wp2_with fail
  go_loopw [11] (fun i wr => ∃ j : Nat, j ≤ nz ∧ i = .int .i64 j ∧ Below k1 w11 wr) (fun i _ => nz - (intOf i).toNat)
  case atStart => exact ⟨0, Nat.zero_le _, rfl, Below.refl _ _⟩
  case round =>
    obtain ⟨j, hj, rfl, hb⟩ := hrel
    by_cases hlt : j < nz
    · have hlt' : j < Z'.length := by rw [HNZ.out]; exact hlt
      have HME := hid (hboth.out.1 _ (List.getElem_mem hlt'))
      have HZC := hid (fun u (hu : Below k1 w11 u) => (hz.out.later (by rw [hk1]; exact hu)).one hlt')
      obtain ⟨zj, HZJ⟩ : ∃ m, Hid (Z'[j] = m) := ⟨_, hid rfl⟩
      rw [HZJ.out] at HME HZC
      go_wp2_with fail
      go_loopw [12, 13] (fun f i wr => ∃ k : Nat, k ≤ nx ∧ i = .int .i64 k ∧ f = .bool (decide (zj ∈ X'.take k)) ∧ Below k1 w11 wr) (fun _ i _ => nx - (intOf i).toNat)
      case atStart => exact ⟨0, Nat.zero_le _, rfl, by simp, hb⟩
      case round =>
        clear hb
        obtain ⟨k, hk, rfl, rfl, hb⟩ := hrel
        by_cases hkt : k < nx
        · have hkt' : k < X'.length := by rw [HNX.out]; exact hkt
          have hst := hid (List.take_succ_eq_append_getElem hkt')
          obtain ⟨xb, xo, rfl, ⟨d0⟩⟩ := (hx.out.later (by rw [hk1]; exact hb)).one hkt'
          obtain ⟨zb, zo, rfl, ⟨d1⟩⟩ := HZC.out wr hb
          obtain ⟨x, HX⟩ : ∃ m, Hid (X'[k] = m) := ⟨_, hid rfl⟩
          rw [HX.out] at d0 hst
          obtain ⟨f, HF⟩ : ∃ m, Hid (decide (zj ∈ X'.take k) = m) := ⟨_, hid rfl⟩
          rw [HF.out]
          cases f
          · go_upto_region 16 with fail
            go_quiet (fail)
            go_wp2_with fail
            go_roundw
            case rel => exact ⟨k + 1, by omega, by go_num, by rw [found_step hst.out HF.out]; rfl, below_drew hb _⟩
            case measure => simp [intOf]; omega
          · go_upto_region 16 with fail
            go_quiet (fail)
            go_wp2_with fail
            go_roundw
            case rel => exact ⟨k + 1, by omega, by go_num, by rw [found_step hst.out HF.out]; rfl, below_drew hb _⟩
            case measure => simp [intOf]; omega
        · obtain rfl : k = nx := by omega
          have hall : decide (zj ∈ X'.take k) = decide (zj ∈ X') := by rw [List.take_of_length_le (by rw [HNX.out]; omega)]
          rw [hall]
          clear hall
          obtain ⟨g, HG⟩ : ∃ m, Hid (decide (zj ∈ X') = m) := ⟨_, hid rfl⟩
          rw [HG.out]
          go_wp2_with fail
          go_loopw [12, 14] (fun f i wr => ∃ t : Nat, t ≤ ny ∧ i = .int .i64 t ∧ f = .bool (g || decide (zj ∈ Y.take t)) ∧ Below k1 w11 wr) (fun _ i _ => ny - (intOf i).toNat)
          case atStart => exact ⟨0, Nat.zero_le _, rfl, by simp, hb⟩
          case round =>
            clear hb
            obtain ⟨t, ht, rfl, rfl, hb⟩ := hrel
            by_cases htt : t < ny
            · have htt' : t < Y.length := by rw [HNY.out]; exact htt
              have hst := hid (List.take_succ_eq_append_getElem htt')
              obtain ⟨yb, yo, rfl, ⟨d0⟩⟩ := (hy.out.later (by rw [hk1]; exact hb)).one htt'
              obtain ⟨zb, zo, rfl, ⟨d1⟩⟩ := HZC.out wr hb
              obtain ⟨x, HX⟩ : ∃ m, Hid (Y[t] = m) := ⟨_, hid rfl⟩
              rw [HX.out] at d0 hst
              obtain ⟨f, HF⟩ : ∃ m, Hid ((g || decide (zj ∈ Y.take t)) = m) := ⟨_, hid rfl⟩
              rw [HF.out]
              have HQ := hid (show (g || decide (zj ∈ Y.take (t + 1))) = (f || (x == zj)) by rw [found_step hst.out rfl, ← Bool.or_assoc, HF.out])
              cases f
              · go_upto_region 20 with fail
                go_quiet (fail)
                go_wp2_with fail
                go_roundw
                case rel => exact ⟨t + 1, by omega, by go_num, by rw [HQ.out]; rfl, below_drew hb _⟩
                case measure => simp [intOf]; omega
              · go_upto_region 20 with fail
                go_quiet (fail)
                go_wp2_with fail
                go_roundw
                case rel => exact ⟨t + 1, by omega, by go_num, by rw [HQ.out]; rfl, below_drew hb _⟩
                case measure => simp [intOf]; omega
            · obtain rfl : t = ny := by omega
              have hall : (g || decide (zj ∈ Y.take t)) = true := by
                rw [List.take_of_length_le (by rw [HNY.out]; omega)]
                rw [← HG.out]
                rcases HME.out with h | h <;> simp [h]
              rw [hall]
              clear hall
              go_wp2_with fail
              go_roundw
              case rel => exact ⟨j + 1, by omega, by go_num, hb⟩
              case measure => simp [intOf]; omega
    · obtain rfl : j = nz := by omega
      have hl1 : nx ≤ j := by have := hboth.out.2.1; rw [HNX.out, HNZ.out] at this; exact this
      have hl2 : ny ≤ j := by have := hboth.out.2.2; rw [HNY.out, HNZ.out] at this; exact this
      have hbe := hid (hbw11.trans (hb.mono hs))
      go_wp2_with fail
      refine (awake8 wr).mono ?_
      rintro e w12 ⟨rfl, hb12⟩
      have hb4 := hbe.out.trans (hb12.mono (by have := hb.size; omega))
      go_wp2_with fail
      go_ret
      exact ⟨rfl, by first | exact hb4 | (rw [hk0]; exact hb4)⟩
end Go.Proofs.Ytfladpnphkoeiaa.Key
