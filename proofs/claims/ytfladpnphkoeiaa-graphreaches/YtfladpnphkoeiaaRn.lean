/-
  Contracts of the document's has and put: a block among blocks, a block put into a rising row.
  Contract of the document's Reach.
-/
import Derived.Test.YtfladpnphkoeiaaRk
import Derived.Test.YtfladpnphkoeiaaMp
import Derived.Test.YtfladpnphkoeiaaFindRef
import Derived.Test.YtfladpnphkoeiaaTargets
import Derived.Deep.LoopGhost
namespace Go.Proofs.Ytfladpnphkoeiaa.Key
open Go.RowKit
set_option linter.unusedVariables false
set_option linter.unusedSimpArgs false

/-- a slice of numbers, wherever it lies -/
def NumV (w : World) (v : Value) (l : List Int) : Prop := ∃ a c, v = .slice a l.length c ∧ Nums w a l
theorem NumV.later {w w' : World} {v : Value} {l : List Int} (h : NumV w v l) (hb : Below w.heap.size w w') : NumV w' v l := by
  obtain ⟨a, c, e, hn⟩ := h
  exact ⟨a, c, e, hn.later hb⟩
theorem OwnU.numV {w : World} {B : Nat} {v : Value} {l : List Int} (h : OwnU w B v l) : NumV w v l := by
  obtain ⟨a, c, e, hn, _⟩ := h.nums
  exact ⟨a, c, e, hn⟩
set_option maxRecDepth 100000 in
set_option maxHeartbeats 600000 in
theorem has64 (v : Value) (l : List Int) (b : Int) (w : World) (hl : l.length ≤ 100000) (hv : NumV w v l) :
    Calls Try.prog 64 #[v, .int .u32 b] w fun e w' => e = .returned (.bool (decide (b ∈ l))) ∧ Below w.heap.size w w' := by
  obtain ⟨a, c, rfl, hn⟩ := hv
  have HNU := hid hn
  clear hn
  obtain ⟨m, HM⟩ : ∃ m, Hid (l.length = m) := ⟨_, hid rfl⟩
  obtain ⟨r, HR⟩ : ∃ r, Hid (decide (b ∈ l) = r) := ⟨_, hid rfl⟩
  rw [HM.out] at hl ⊢
  rw [HR.out]
  go_enter Try.func64, Try.ntmps64
  go_wp2_with fail
  go_loopw [8] (fun i wr => ∃ j : Nat, j ≤ m ∧ i = .int .i64 j ∧ b ∉ l.take j ∧ wr = w) (fun i _ => m - (intOf i).toNat)
  case atStart => exact ⟨0, Nat.zero_le _, rfl, by simp, rfl⟩
  case round =>
    obtain ⟨j, hj, rfl, hno, rfl⟩ := hrel
    have HNO := hid hno
    clear hno
    by_cases hlt : j < m
    · have hlt' : j < l.length := by rw [HM.out]; exact hlt
      obtain ⟨bb, off, rfl, ⟨d0⟩⟩ := HNU.out.one hlt'
      have HT := hid (List.take_succ_eq_append_getElem hlt')
      have HME := hid (List.getElem_mem hlt')
      obtain ⟨x, HX⟩ : ∃ m, Hid (l[j] = m) := ⟨_, hid rfl⟩
      rw [HX.out] at d0 HT HME
      by_cases he : x = b
      · subst he
        obtain rfl : r = true := by rw [← HR.out]; exact decide_eq_true HME.out
        go_wp2_with fail
        go_ret
        exact ⟨rfl, Below.refl _ _⟩
      · have he' : (x == b) = false := by simpa using he
        go_wp2_with fail
        go_roundw
        case rel => exact ⟨j + 1, by omega, by go_num, by rw [HT.out]; simp only [List.mem_append, List.mem_singleton, not_or]; exact ⟨HNO.out, fun e => he e.symm⟩, by trivial⟩
        case measure => simp [intOf]; omega
    · obtain rfl : j = m := by omega
      obtain rfl : r = false := by
        rw [← HR.out]
        have := HNO.out
        rw [← HM.out, List.take_length] at this
        exact decide_eq_false this
      go_wp2_with fail
      go_ret
      exact ⟨rfl, Below.refl _ _⟩
/-- what stands behind j rounds -/
def outB (ks : List Int) (b : Int) (p j : Nat) : List Int := if p < j then ks.take p ++ b :: (ks.take j).drop p else ks.take j
theorem outB_lo {ks : List Int} {b : Int} {p j : Nat} (h : j < p) (hj : j < ks.length) : outB ks b p (j + 1) = outB ks b p j ++ [ks[j]] := by
  unfold outB
  rw [if_neg (by omega), if_neg (by omega), List.take_succ_eq_append_getElem hj]
theorem drop_next {ks : List Int} {p j : Nat} (h : p ≤ j) (hj : j < ks.length) : (ks.take (j + 1)).drop p = (ks.take j).drop p ++ [ks[j]] := by
  rw [List.take_succ_eq_append_getElem hj, List.drop_append_of_le_length (by rw [List.length_take]; omega)]
theorem outB_at {ks : List Int} {b : Int} {p : Nat} (hj : p < ks.length) : outB ks b p (p + 1) = outB ks b p p ++ [b] ++ [ks[p]] := by
  unfold outB
  rw [if_pos (by omega), if_neg (by omega), drop_next (Nat.le_refl _) hj]
  simp
theorem outB_hi {ks : List Int} {b : Int} {p j : Nat} (h : p < j) (hj : j < ks.length) : outB ks b p (j + 1) = outB ks b p j ++ [ks[j]] := by
  unfold outB
  rw [if_pos (by omega), if_pos h, drop_next (by omega) hj]
  simp
theorem outB_end {ks : List Int} {b : Int} {p : Nat} (h : p < ks.length) : outB ks b p ks.length = insertAt ks p b := by
  unfold outB insertAt
  rw [if_pos h, List.take_length]
theorem outB_last {ks : List Int} {b : Int} {p : Nat} (h : p = ks.length) : outB ks b p ks.length ++ [b] = insertAt ks p b := by
  subst h
  unfold outB insertAt
  rw [if_neg (by omega)]
  simp
theorem outB_len (ks : List Int) (b : Int) (p j : Nat) : (outB ks b p j).length ≤ ks.length * 2 + 1 := by
  unfold outB
  split
  · simp only [List.length_append, List.length_cons, List.length_drop, List.length_take]; omega
  · rw [List.length_take]; omega
theorem pos_test {ks : List Int} {b : Int} (hr : Rising ks) (hn : b ∉ ks) {i : Nat} (hi : i < ks.length) : b < ks[i] ↔ pos ks b ≤ i := by
  have e : ks.getD i 0 = ks[i] := by simp [List.getD, List.getElem?_eq_getElem hi]
  constructor
  · intro h
    exact half_high (by rw [e]; omega)
  · intro h
    have := pos_high ks b i hr h hi
    rw [e] at this
    have hne : ks[i] ≠ b := fun e => hn (e ▸ List.getElem_mem hi)
    omega
set_option maxRecDepth 100000 in
set_option maxHeartbeats 1000000 in
theorem put44 (v : Value) (ks : List Int) (b : Int) (w : World) (hr : Rising ks) (hl : ks.length ≤ 100000) (hv : NumV w v ks) :
    Calls Try.prog 44 #[v, .int .u32 b] w fun e w' => (∃ v', e = .returned v' ∧ NumV w' v' (putK ks b)) ∧ Below w.heap.size w w' := by
  have HH := has64 v ks b w hl hv
  have hti := there_iff ks b hr
  have HV := hid hv
  obtain ⟨a, c, rfl, hn⟩ := hv
  have HNU := hid hn
  clear hn
  cases ht : there ks b
  · have hnb : b ∉ ks := fun h => by rw [hti.2 h] at ht; cases ht
    rw [decide_eq_false hnb] at HH
    have HK := hid (show putK ks b = insertAt ks (pos ks b) b by unfold putK; rw [if_neg (by rw [ht]; simp)])
    have HPT := hid (fun i hi => pos_test hr hnb (i := i) hi)
    have HPL := hid (pos_le ks b)
    have HOL := hid (fun j => outB_len ks b (pos ks b) j)
    clear hnb ht hti HV
    generalize pos ks b = p at *
    generalize putK ks b = PK at *
    obtain ⟨m, HM⟩ : ∃ m, Hid (ks.length = m) := ⟨_, hid rfl⟩
    rw [HM.out] at hl HH HPL HOL ⊢
    go_enter Try.func44, Try.ntmps44
    go_wp2_with fail
    refine HH.mono ?_
    clear HH
    rintro e w1 ⟨rfl, hb1⟩
    have O0 := OwnU.made w1
    have hb0 := below_box w1 (.cells #[] 23)
    go_wp2_with fail
    have hs1 := hb1.size
    generalize w1.alloc (.cells #[] 23) = w0 at *
    generalize hk1 : w1.heap.size = k1 at *
    generalize hk0 : w.heap.size = k0 at *
    go_loopw [5, 6, 15] (fun o d i wr => ∃ j : Nat, j ≤ m ∧ i = .int .i64 j ∧ OwnU wr k1 o (outB ks b p j) ∧ d = .bool (decide (p < j)) ∧ Below k1 w1 wr) (fun _ _ i _ => m - (intOf i).toNat)
    case atStart => exact ⟨0, Nat.zero_le _, rfl, by simpa [outB] using O0, by simp, hb0⟩
    case round =>
      clear O0 hb0
      obtain ⟨j, hj, rfl, hO, rfl, hb⟩ := hrel
      have hbs : k1 ≤ wr.heap.size := by rw [← hk1]; exact hb.size
      have hol := HOL.out j
      by_cases hlt : j < m
      · have hlt' : j < ks.length := by rw [HM.out]; exact hlt
        obtain ⟨bb, off, rfl, ⟨d0⟩⟩ := ((HNU.out.later (by rw [hk0]; exact hb1)).later (by rw [hk1]; exact hb)).one hlt'
        have hpt := HPT.out j hlt'
        rcases Nat.lt_trichotomy j p with h | h | h
        · have hst := hid (outB_lo (b := b) h hlt')
          obtain ⟨x, HX⟩ : ∃ m, Hid (ks[j] = m) := ⟨_, hid rfl⟩
          rw [HX.out] at d0 hst hpt
          generalize outB ks b p j = out at *
          have hd : decide (p < j) = false := by simp; omega
          have hx1 : ¬ b < x := fun e => by have := hpt.1 e; omega
          have hx2 : decide (b < x) = false := decide_eq_false hx1
          have hd2 : Hid (decide (p < j + 1) = false) := hid (by simp; omega)
          rw [hd]
          clear hpt hd HOL
          go_wp2_with (first | (at_builtin; refine appU (w0 := w1) rfl _ _ rfl k1 _ _ rfl hO x wr.heap.size rfl rfl (by omega) hbs hb ?_; intro v' w2 ho2 hb2 _; clear hO d0) | fail)
          go_roundw
          case rel => exact ⟨j + 1, by omega, by go_num, by rw [hst.out]; exact ho2, by rw [hd2.out], hb2⟩
          case measure => simp [intOf]; omega
        · subst h
          have hst := hid (outB_at (b := b) hlt')
          obtain ⟨x, HX⟩ : ∃ m, Hid (ks[j] = m) := ⟨_, hid rfl⟩
          have HAT := hid (fun w2 (hb2 : Below k1 w1 w2) => (show w2.cell? ⟨bb, off + j, none⟩ = some (.int .u32 x) by
            obtain ⟨bb', off', e, ⟨d1⟩⟩ := ((HNU.out.later (by rw [hk0]; exact hb1)).later (by rw [hk1]; exact hb2)).one hlt'
            cases e
            rw [HX.out] at d1
            exact d1))
          rw [HX.out] at d0 hst hpt
          generalize outB ks b j j = out at *
          have hd : decide (j < j) = false := by simp
          have hx1 : b < x := hpt.2 (Nat.le_refl _)
          have hx2 : decide (b < x) = true := decide_eq_true hx1
          have hd2 : Hid (decide (j < j + 1) = true) := hid (by simp)
          rw [hd]
          clear hpt hd HOL
          go_wp2_with (first
            | (at_builtin; refine appU (w0 := w1) rfl _ _ rfl k1 _ _ rfl hO b wr.heap.size rfl rfl (by omega) hbs hb ?_; intro v' w2 ho2 hb2 _; clear hO d0 hb; have d2 := HAT.out w2 hb2; have hs2 : k1 ≤ w2.heap.size := (by rw [← hk1]; exact hb2.size); have hl2 : (out ++ [b]).length ≤ 900000 := (by rw [List.length_append]; simp; omega))
            | (at_builtin; refine appU (w0 := w1) rfl _ _ rfl k1 _ _ rfl ho2 x w2.heap.size rfl rfl hl2 hs2 hb2 ?_; intro v3 w3 ho3 hb3 _; clear ho2 d2)
            | fail)
          go_roundw
          case rel => exact ⟨j + 1, by omega, by go_num, by rw [hst.out]; exact ho3, by rw [hd2.out], hb3⟩
          case measure => simp [intOf]; omega
        · have hst := hid (outB_hi (b := b) h hlt')
          obtain ⟨x, HX⟩ : ∃ m, Hid (ks[j] = m) := ⟨_, hid rfl⟩
          rw [HX.out] at d0 hst hpt
          generalize outB ks b p j = out at *
          have hd : decide (p < j) = true := decide_eq_true h
          have hd2 : Hid (decide (p < j + 1) = true) := hid (by simp; omega)
          rw [hd]
          clear hpt hd HOL
          go_wp2_with (first | (at_builtin; refine appU (w0 := w1) rfl _ _ rfl k1 _ _ rfl hO x wr.heap.size rfl rfl (by omega) hbs hb ?_; intro v' w2 ho2 hb2 _; clear hO d0) | fail)
          go_roundw
          case rel => exact ⟨j + 1, by omega, by go_num, by rw [hst.out]; exact ho2, by rw [hd2.out], hb2⟩
          case measure => simp [intOf]; omega
      · obtain rfl : j = m := by omega
        have hpl := HPL.out
        by_cases h : p < j
        · have hd : decide (p < j) = true := decide_eq_true h
          have hst := hid (outB_end (ks := ks) (b := b) (p := p) (by rw [HM.out]; exact h))
          rw [HM.out] at hst
          rw [hst.out] at hO
          rw [hd]
          clear hd
          go_wp2_with fail
          go_ret
          exact ⟨⟨_, rfl, by rw [HK.out]; exact hO.numV⟩, by rw [hk0]; exact hb1.trans (hb.mono (by omega))⟩
        · obtain rfl : p = j := by omega
          have hd : decide (p < p) = false := by simp
          have hst := hid (outB_last (ks := ks) (b := b) (p := p) HM.out.symm)
          rw [HM.out] at hst
          generalize outB ks b p p = out at *
          rw [hd]
          clear hd HOL
          go_wp2_with (first | (at_builtin; refine appU (w0 := w1) rfl _ _ rfl k1 _ _ rfl hO b wr.heap.size rfl rfl (by omega) hbs hb ?_; intro v' w2 ho2 hb2 _; clear hO) | fail)
          go_ret
          rw [hst.out] at ho2
          exact ⟨⟨_, rfl, by rw [HK.out]; exact ho2.numV⟩, by rw [hk0]; exact hb1.trans (hb2.mono (by omega))⟩
  · have hb := hti.1 ht
    rw [decide_eq_true hb] at HH
    have HK := hid (putK_old ht)
    clear hti ht hb
    generalize putK ks b = PK at *
    generalize hm : ks.length = m at *
    go_enter Try.func44, Try.ntmps44
    go_wp2_with fail
    refine HH.mono ?_
    rintro e w1 ⟨rfl, hb1⟩
    go_wp2_with fail
    go_ret
    exact ⟨⟨_, rfl, by rw [HK.out]; exact HV.out.later hb1⟩, hb1⟩
end Go.Proofs.Ytfladpnphkoeiaa.Key

namespace Go.Proofs.Ytfladpnphkoeiaa.Key
open Go.RowKit
set_option linter.unusedVariables false
set_option linter.unusedSimpArgs false

/-- a rising row of what is reached -/
structure GR (l : List It) (roots ks : List Int) : Prop where
  rise : Rising ks
  inK : ∀ b ∈ ks, Rch l roots b
theorem GR.put {l : List It} {roots ks : List Int} {b : Int} (h : GR l roots ks) (hb : Rch l roots b) : GR l roots (putK ks b) :=
  ⟨rise_put ks b h.rise, fun x hx => by
    rcases (mem_putK h.rise).1 hx with rfl | hx
    · exact hb
    · exact h.inK x hx⟩
theorem GR.len {l : List It} {roots ks : List Int} (h : GR l roots ks) : ks.length ≤ (univ l roots).length := rising_len ks _ h.rise fun x hx => (h.inK x hx).univ
theorem GoesR.gr {l : List It} {roots ks : List Int} (h : GoesR l roots ks) : GR l roots ks := ⟨h.rise, h.inK⟩
theorem put_g {l : List It} {roots ks : List Int} {b : Int} (h : GR l roots ks) (hU : (univ l roots).length ≤ 10000) (v : Value) (w : World) (hv : NumV w v ks) :
    Calls Try.prog 44 #[v, .int .u32 b] w fun e w' => (∃ v', e = .returned v' ∧ NumV w' v' (putK ks b)) ∧ Below w.heap.size w w' :=
  put44 v ks b w h.rise (by have := h.len; omega) hv
set_option maxRecDepth 100000 in
set_option maxHeartbeats 1000000 in
theorem reach19 (a ra : Option Addr) (c rc : Nat) (l : List It) (roots : List Int) (w : World) (hl : Fine l) (hr1 : roots.length ≤ 1000) (hU : (univ l roots).length ≤ 10000) (hi : Items w a l) (hr : Nums w ra roots) :
    Calls Try.prog 19 #[.slice a l.length c, .slice ra roots.length rc] w fun e w' => (∃ ks, Full l roots ks ∧ ∃ v, e = .returned v ∧ NumV w' v ks) ∧ Below w.heap.size w w' := by
  obtain ⟨hln, hin, hsm⟩ := hl
  have HFI := hid (fun b w1 (hb1 : Below w.heap.size w w1) => find10 a c l b w1 hln (hi.later hb1))
  have HSM := hid (fun b => (found_small hsm b).few)
  have HPG := hid (fun ks b (h : GR l roots ks) v w hv => put_g (b := b) h hU v w hv)
  have HU := hid hU
  have HR := hid hr
  clear hi hin hsm hr hU
  obtain ⟨m1, HM1⟩ : ∃ m, Hid (l.length = m) := ⟨_, hid rfl⟩
  obtain ⟨m2, HM2⟩ : ∃ m, Hid (roots.length = m) := ⟨_, hid rfl⟩
  rw [HM1.out] at hln HFI ⊢
  rw [HM2.out] at hr1 ⊢
  have hb0 := below_box w (.cells #[] 23)
  go_enter Try.func19, Try.ntmps19
  go_wp2_with fail
  generalize w.alloc (.cells #[] 23) = w0 at *
  generalize hk0 : w.heap.size = k0 at *
  go_loopw [5, 17] (fun o i wr => ∃ j : Nat, j ≤ m2 ∧ i = .int .i64 j ∧ NumV wr o (putAll [] (roots.take j)) ∧ GR l roots (putAll [] (roots.take j)) ∧ Below k0 w wr) (fun _ i _ => m2 - (intOf i).toNat)
  case atStart => exact ⟨0, Nat.zero_le _, rfl, ⟨_, _, rfl, .inl rfl⟩, ⟨List.Pairwise.nil, by simp [putAll]⟩, hb0⟩
  case round =>
    clear hb0
    obtain ⟨j, hj, rfl, hO, hg, hb⟩ := hrel
    have hbs : k0 ≤ wr.heap.size := by rw [← hk0]; exact hb.size
    by_cases hlt : j < m2
    · have hlt' : j < roots.length := by rw [HM2.out]; exact hlt
      obtain ⟨bb, off, rfl, ⟨d0⟩⟩ := (HR.out.later (by rw [hk0]; exact hb)).one hlt'
      have hst := hid (show putAll [] (roots.take (j + 1)) = putK (putAll [] (roots.take j)) roots[j] by rw [List.take_succ_eq_append_getElem hlt', putAll_snoc])
      have hrc : Rch l roots roots[j] := Rch.root (List.getElem_mem hlt')
      obtain ⟨x, HX⟩ : ∃ m, Hid (roots[j] = m) := ⟨_, hid rfl⟩
      rw [HX.out] at d0 hst hrc
      have HPT := HPG.out _ x hg u5 wr hO
      have hg2 := hid (hg.put hrc)
      generalize putAll [] (roots.take j) = ks at *
      go_wp2_with fail
      refine HPT.mono ?_
      rintro e w1 ⟨⟨v1, rfl, hv1⟩, hb1⟩
      go_wp2_with fail
      go_roundw
      case rel => exact ⟨j + 1, by omega, by go_num, by rw [hst.out]; exact hv1, by rw [hst.out]; exact hg2.out, hb.trans (hb1.mono hbs)⟩
      case measure => simp [intOf]; omega
    · obtain rfl : j = m2 := by omega
      rw [show roots.take j = roots by rw [← HM2.out, List.take_length]] at hO
      have hgo := GoesR.start l roots
      generalize putAll [] roots = ks0 at *
      clear hg hlt hj HR
      go_wp2_with fail
      go_loopg [5] ((univ l roots).length - ks0.length) (fun k v wr => ∃ ks, NumV wr v ks ∧ GoesR l roots ks ∧ (univ l roots).length - ks.length ≤ k ∧ Below k0 w wr)
      case atStart => exact ⟨ks0, hO, hgo, Nat.le_refl _, hb⟩
      case round =>
        clear hO hgo hb hbs
        obtain ⟨ks, ⟨oa, oc, rfl, hn⟩, hgo, hms, hb⟩ := hrel
        have hbs : k0 ≤ wr.heap.size := by rw [← hk0]; exact hb.size
        have hkl := Nat.le_trans hgo.len HU.out
        have HNW := hid (fun u (hbu : Below wr.heap.size wr u) => hn.later hbu)
        have HMS := hid hms
        have HGO := hid hgo
        have HBB := hid (fun u (hbu : Below wr.heap.size wr u) => hb.trans (hbu.mono hbs))
        obtain ⟨n, HN⟩ : ∃ m, Hid (ks.length = m) := ⟨_, hid rfl⟩
        rw [HN.out] at hkl ⊢
        clear hn hms hgo
        have hOs : NumV wr (.slice oa n oc) (putAll ks ((ks.take 0).flatMap (succB l))) := ⟨oa, oc, by simp [putAll, HN.out], by simpa [putAll] using HNW.out wr (Below.refl _ _)⟩
        have hgs : GR l roots (putAll ks ((ks.take 0).flatMap (succB l))) := by simpa [putAll] using HGO.out.gr
        generalize hkw : wr.heap.size = kw at *
        go_wp2_with fail
        go_loopw [5, 32] (fun o i wq => ∃ j : Nat, j ≤ n ∧ i = .int .i64 j ∧ NumV wq o (putAll ks ((ks.take j).flatMap (succB l))) ∧ GR l roots (putAll ks ((ks.take j).flatMap (succB l))) ∧ Below kw wr wq) (fun _ i _ => n - (intOf i).toNat)
        case atStart => exact ⟨0, Nat.zero_le _, rfl, hOs, hgs, Below.refl _ _⟩
        case round =>
          clear hOs hgs hb
          obtain ⟨j, hj, rfl, hO, hg, hb⟩ := hrel
          have hbs2 : kw ≤ wr.heap.size := by rw [← hkw]; exact hb.size
          by_cases hlt : j < n
          · have hlt' : j < ks.length := by rw [HN.out]; exact hlt
            obtain ⟨bb, off, rfl, ⟨d0⟩⟩ := (HNW.out wr hb).one hlt'
            have hrc := HGO.out.inK _ (List.getElem_mem hlt')
            have hst : (ks.take (j + 1)).flatMap (succB l) = (ks.take j).flatMap (succB l) ++ succB l ks[j] := by rw [List.take_succ_eq_append_getElem hlt', List.flatMap_append]; simp
            obtain ⟨x, HX⟩ : ∃ m, Hid (ks[j] = m) := ⟨_, hid rfl⟩
            rw [HX.out] at d0 hst hrc
            have HSU := hid (show succB l x = targetsL (foundN l x) from rfl)
            have hfew := HSM.out x
            have HFD := HFI.out x wr (HBB.out wr hb)
            replace hst := hid (show putAll ks ((ks.take (j + 1)).flatMap (succB l)) = putAll (putAll ks ((ks.take j).flatMap (succB l))) (succB l x) by rw [hst, putAll_app])
            generalize (findI l x).isSome = fo at *
            generalize putAll ks ((ks.take j).flatMap (succB l)) = K1 at *
            go_wp2_with fail
            refine HFD.mono ?_
            rintro e w1 ⟨⟨N, P, rfl, hNf, hL⟩, hb1⟩
            rw [← hNf] at hfew HSU
            have hbx := below_box w1 (.cells #[.bool N.leaf, .slice P.a1 N.ps.length P.c1, .slice P.a2 N.pv.length P.c2, .slice P.a3 N.ks.length P.c3, .slice P.a4 N.bf.length P.c4] 31)
            have HT := targets18 N P _ hfew (hL.later hbx)
            have htl := targets_len hfew
            rw [← HSU.out] at HT htl
            obtain ⟨m0, m1', m2', m3, m4⟩ := (NBox.new w1 (.bool N.leaf) (.slice P.a1 N.ps.length P.c1) (.slice P.a2 N.pv.length P.c2) (.slice P.a3 N.ks.length P.c3) (.slice P.a4 N.bf.length P.c4)).cells
            have hO1 := (hO.later hb1).later hbx
            have hb2 := hb.trans ((hb1.trans (hbx.mono hb1.size)).mono hbs2)
            clear HFD hbx hL hNf hfew HSU hO hb hb1 d0
            have HST := hid (fun t (ht : t ∈ succB l x) => hrc.step ht)
            clear hrc
            generalize succB l x = T at *
            go_wp2_with fail
            refine HT.mono ?_
            clear HT m0 m1' m2' m3 m4
            rintro e w2 ⟨tv, rfl, hv2, hb3⟩
            have hO2 := hO1.later hb3
            have hb4 := hb2.trans (hb3.mono (by rw [← hkw]; exact hb2.size))
            obtain ⟨ta, tc, rfl, hT⟩ := hv2.numV
            have hs4 : kw ≤ w2.heap.size := by rw [← hkw]; exact hb4.size
            have HTW := hid (fun u (hbu : Below w2.heap.size w2 u) => hT.later hbu)
            obtain ⟨tn, HTN⟩ : ∃ m, Hid (T.length = m) := ⟨_, hid rfl⟩
            rw [HTN.out] at htl ⊢
            clear hO1 hb2 hb3 hv2 hT
            generalize hk2 : w2.heap.size = k2 at *
            go_wp2_with fail
            go_loopw [5, 48] (fun o i wq => ∃ q : Nat, q ≤ tn ∧ i = .int .i64 q ∧ NumV wq o (putAll K1 (T.take q)) ∧ GR l roots (putAll K1 (T.take q)) ∧ Below k2 w2 wq) (fun _ i _ => tn - (intOf i).toNat)
            case atStart => exact ⟨0, Nat.zero_le _, rfl, by simpa [putAll] using hO2, by simpa [putAll] using hg, Below.refl _ _⟩
            case round =>
              clear hO2 hg
              obtain ⟨q, hq, rfl, hO, hg, hb⟩ := hrel
              have hbs3 : k2 ≤ wr.heap.size := by rw [← hk2]; exact hb.size
              by_cases hqt : q < tn
              · have hqt' : q < T.length := by rw [HTN.out]; exact hqt
                obtain ⟨tb, toff, rfl, ⟨d1⟩⟩ := (HTW.out wr hb).one hqt'
                have hst2 := hid (show putAll K1 (T.take (q + 1)) = putK (putAll K1 (T.take q)) T[q] by rw [List.take_succ_eq_append_getElem hqt', putAll_snoc])
                have hrt := HST.out _ (List.getElem_mem hqt')
                obtain ⟨t, HTT⟩ : ∃ m, Hid (T[q] = m) := ⟨_, hid rfl⟩
                rw [HTT.out] at d1 hst2 hrt
                have HPT := HPG.out _ t hg u5 wr hO
                have hg2 := hid (hg.put hrt)
                generalize putAll K1 (T.take q) = K2 at *
                go_wp2_with fail
                refine HPT.mono ?_
                rintro e w3 ⟨⟨v3, rfl, hv3⟩, hb5⟩
                go_wp2_with fail
                go_roundw
                case rel => exact ⟨q + 1, by omega, by go_num, by rw [hst2.out]; exact hv3, by rw [hst2.out]; exact hg2.out, hb.trans (hb5.mono hbs3)⟩
                case measure => simp [intOf]; omega
              · obtain rfl : q = tn := by omega
                rw [show T.take q = T by rw [← HTN.out, List.take_length]] at hO hg
                go_wp2_with fail
                go_roundw
                case rel => exact ⟨j + 1, by omega, by go_num, by rw [hst.out]; exact hO, by rw [hst.out]; exact hg, hb4.trans (hb.mono hs4)⟩
                case measure => simp [intOf]; omega
          · obtain rfl : j = n := by omega
            rw [show ks.take j = ks by rw [← HN.out, List.take_length]] at hO hg
            have hRN := hid (show putAll ks (ks.flatMap (succB l)) = roundR l ks from rfl)
            rw [hRN.out] at hO hg
            have hround := hid (HGO.out.round)
            have hfull := hid (fun h => HGO.out.full h)
            have hsame := hid (fun h => same_putAll (ks.flatMap (succB l)) ks h)
            have hRL := hid (round_len l ks)
            have hbw := hid (HBB.out _ hb)
            clear hRN HGO hg hb HBB HNW HFI HPG HSM
            obtain ⟨oa', oc', rfl, hn'⟩ := hO
            have HNN := hid hn'
            clear hn'
            obtain ⟨M, HM⟩ : ∃ m, Hid ((roundR l ks).length = m) := ⟨_, hid rfl⟩
            rw [HM.out]
            by_cases hMn : M = j
            · subst hMn
              have hF := hid (hfull.out (by rw [HM.out, HN.out]))
              have hE : Hid (roundR l ks = ks) := hid (hsame.out (show (roundR l ks).length = ks.length by rw [HM.out, HN.out]))
              go_wp2_with fail
              go_ret
              refine ⟨⟨ks, hF.out, .slice oa' M oc', rfl, oa', oc', by rw [HN.out], ?_⟩, ?_⟩
              · have := HNN.out
                rw [hE.out] at this
                exact this
              · rw [hk0]
                exact hbw.out
            · have hne : ((M : Int) == (j : Int)) = false := by simp; omega
              have hne2 : ¬ ((M : Int) = (j : Int)) := by omega
              go_wp2_with fail
              go_roundg ((univ l roots).length - (roundR l ks).length)
              case measure =>
                have h1 := HMS.out
                have h2 := hRL.out
                have h3 := hround.out.len
                rw [HM.out] at h2 h3 ⊢
                rw [HN.out] at h1 h2
                omega
              case rel => exact ⟨roundR l ks, ⟨oa', oc', by rw [HM.out], HNN.out⟩, hround.out, Nat.le_refl _, hbw.out⟩
end Go.Proofs.Ytfladpnphkoeiaa.Key
