/-
  Contracts of the document's has and put: a block among blocks, a block put into a rising row.
-/
import Derived.Test.YtfladpnphkoeiaaRch
import Derived.Test.YtfladpnphkoeiaaMp
namespace Go.Proofs.Ytfladpnphkoeiaa.Key
open Go.RowKit
set_option linter.unusedVariables false
set_option linter.unusedSimpArgs false

/-- a slice of numbers, wherever it lies -/
def NumV (w : World) (v : Value) (l : List Int) : Prop := ∃ a c, v = .slice a l.length c ∧ Nums w a l
theorem NumV.later {w w' : World} {v : Value} {l : List Int} (h : NumV w v l) (hb : Below w.heap.size w w') : NumV w' v l := by
  obtain ⟨a, c, e, hn⟩ := h
  exact ⟨a, c, e, hn.later hb⟩
theorem OwnU.numV {w : World} {B : Nat} {v : Value} {l : List Int} (h : OwnU w B v l) : NumV w v l := by
  obtain ⟨a, c, e, hn, _⟩ := h.nums
  exact ⟨a, c, e, hn⟩
set_option maxRecDepth 100000 in
set_option maxHeartbeats 600000 in
theorem has64 (v : Value) (l : List Int) (b : Int) (w : World) (hl : l.length ≤ 100000) (hv : NumV w v l) :
    Calls Try.prog 64 #[v, .int .u32 b] w fun e w' => e = .returned (.bool (decide (b ∈ l))) ∧ Below w.heap.size w w' := by
  obtain ⟨a, c, rfl, hn⟩ := hv
  have HNU := hid hn
  clear hn
  obtain ⟨m, HM⟩ : ∃ m, Hid (l.length = m) := ⟨_, hid rfl⟩
  obtain ⟨r, HR⟩ : ∃ r, Hid (decide (b ∈ l) = r) := ⟨_, hid rfl⟩
  rw [HM.out] at hl ⊢
  rw [HR.out]
  go_enter Try.func64, Try.ntmps64
  go_wp2_with fail
  go_loopw [8] (fun i wr => ∃ j : Nat, j ≤ m ∧ i = .int .i64 j ∧ b ∉ l.take j ∧ wr = w) (fun i _ => m - (intOf i).toNat)
  case atStart => exact ⟨0, Nat.zero_le _, rfl, by simp, rfl⟩
  case round =>
    obtain ⟨j, hj, rfl, hno, rfl⟩ := hrel
    have HNO := hid hno
    clear hno
    by_cases hlt : j < m
    · have hlt' : j < l.length := by rw [HM.out]; exact hlt
      obtain ⟨bb, off, rfl, ⟨d0⟩⟩ := HNU.out.one hlt'
      have HT := hid (List.take_succ_eq_append_getElem hlt')
      have HME := hid (List.getElem_mem hlt')
      obtain ⟨x, HX⟩ : ∃ m, Hid (l[j] = m) := ⟨_, hid rfl⟩
      rw [HX.out] at d0 HT HME
      by_cases he : x = b
      · subst he
        obtain rfl : r = true := by rw [← HR.out]; exact decide_eq_true HME.out
        go_wp2_with fail
        go_ret
        exact ⟨rfl, Below.refl _ _⟩
      · have he' : (x == b) = false := by simpa using he
        go_wp2_with fail
        go_roundw
        case rel => exact ⟨j + 1, by omega, by go_num, by rw [HT.out]; simp only [List.mem_append, List.mem_singleton, not_or]; exact ⟨HNO.out, fun e => he e.symm⟩, by trivial⟩
        case measure => simp [intOf]; omega
    · obtain rfl : j = m := by omega
      obtain rfl : r = false := by
        rw [← HR.out]
        have := HNO.out
        rw [← HM.out, List.take_length] at this
        exact decide_eq_false this
      go_wp2_with fail
      go_ret
      exact ⟨rfl, Below.refl _ _⟩
/-- what stands behind j rounds -/
def outB (ks : List Int) (b : Int) (p j : Nat) : List Int := if p < j then ks.take p ++ b :: (ks.take j).drop p else ks.take j
theorem outB_lo {ks : List Int} {b : Int} {p j : Nat} (h : j < p) (hj : j < ks.length) : outB ks b p (j + 1) = outB ks b p j ++ [ks[j]] := by
  unfold outB
  rw [if_neg (by omega), if_neg (by omega), List.take_succ_eq_append_getElem hj]
theorem drop_next {ks : List Int} {p j : Nat} (h : p ≤ j) (hj : j < ks.length) : (ks.take (j + 1)).drop p = (ks.take j).drop p ++ [ks[j]] := by
  rw [List.take_succ_eq_append_getElem hj, List.drop_append_of_le_length (by rw [List.length_take]; omega)]
theorem outB_at {ks : List Int} {b : Int} {p : Nat} (hj : p < ks.length) : outB ks b p (p + 1) = outB ks b p p ++ [b] ++ [ks[p]] := by
  unfold outB
  rw [if_pos (by omega), if_neg (by omega), drop_next (Nat.le_refl _) hj]
  simp
theorem outB_hi {ks : List Int} {b : Int} {p j : Nat} (h : p < j) (hj : j < ks.length) : outB ks b p (j + 1) = outB ks b p j ++ [ks[j]] := by
  unfold outB
  rw [if_pos (by omega), if_pos h, drop_next (by omega) hj]
  simp
theorem outB_end {ks : List Int} {b : Int} {p : Nat} (h : p < ks.length) : outB ks b p ks.length = insertAt ks p b := by
  unfold outB insertAt
  rw [if_pos h, List.take_length]
theorem outB_last {ks : List Int} {b : Int} {p : Nat} (h : p = ks.length) : outB ks b p ks.length ++ [b] = insertAt ks p b := by
  subst h
  unfold outB insertAt
  rw [if_neg (by omega)]
  simp
theorem outB_len (ks : List Int) (b : Int) (p j : Nat) : (outB ks b p j).length ≤ ks.length * 2 + 1 := by
  unfold outB
  split
  · simp only [List.length_append, List.length_cons, List.length_drop, List.length_take]; omega
  · rw [List.length_take]; omega
theorem pos_test {ks : List Int} {b : Int} (hr : Rising ks) (hn : b ∉ ks) {i : Nat} (hi : i < ks.length) : b < ks[i] ↔ pos ks b ≤ i := by
  have e : ks.getD i 0 = ks[i] := by simp [List.getD, List.getElem?_eq_getElem hi]
  constructor
  · intro h
    exact half_high (by rw [e]; omega)
  · intro h
    have := pos_high ks b i hr h hi
    rw [e] at this
    have hne : ks[i] ≠ b := fun e => hn (e ▸ List.getElem_mem hi)
    omega
set_option maxRecDepth 100000 in
set_option maxHeartbeats 1000000 in
theorem put44 (v : Value) (ks : List Int) (b : Int) (w : World) (hr : Rising ks) (hl : ks.length ≤ 100000) (hv : NumV w v ks) :
    Calls Try.prog 44 #[v, .int .u32 b] w fun e w' => (∃ v', e = .returned v' ∧ NumV w' v' (putK ks b)) ∧ Below w.heap.size w w' := by
  have HH := has64 v ks b w hl hv
  have hti := there_iff ks b hr
  have HV := hid hv
  obtain ⟨a, c, rfl, hn⟩ := hv
  have HNU := hid hn
  clear hn
  cases ht : there ks b
  · have hnb : b ∉ ks := fun h => by rw [hti.2 h] at ht; cases ht
    rw [decide_eq_false hnb] at HH
    have HK := hid (show putK ks b = insertAt ks (pos ks b) b by unfold putK; rw [if_neg (by rw [ht]; simp)])
    have HPT := hid (fun i hi => pos_test hr hnb (i := i) hi)
    have HPL := hid (pos_le ks b)
    have HOL := hid (fun j => outB_len ks b (pos ks b) j)
    clear hnb ht hti HV
    generalize pos ks b = p at *
    generalize putK ks b = PK at *
    obtain ⟨m, HM⟩ : ∃ m, Hid (ks.length = m) := ⟨_, hid rfl⟩
    rw [HM.out] at hl HH HPL HOL ⊢
    go_enter Try.func44, Try.ntmps44
    go_wp2_with fail
    refine HH.mono ?_
    clear HH
    rintro e w1 ⟨rfl, hb1⟩
    have O0 := OwnU.made w1
    have hb0 := below_box w1 (.cells #[] 23)
    go_wp2_with fail
    have hs1 := hb1.size
    generalize w1.alloc (.cells #[] 23) = w0 at *
    generalize hk1 : w1.heap.size = k1 at *
    generalize hk0 : w.heap.size = k0 at *
    go_loopw [5, 6, 15] (fun o d i wr => ∃ j : Nat, j ≤ m ∧ i = .int .i64 j ∧ OwnU wr k1 o (outB ks b p j) ∧ d = .bool (decide (p < j)) ∧ Below k1 w1 wr) (fun _ _ i _ => m - (intOf i).toNat)
    case atStart => exact ⟨0, Nat.zero_le _, rfl, by simpa [outB] using O0, by simp, hb0⟩
    case round =>
      clear O0 hb0
      obtain ⟨j, hj, rfl, hO, rfl, hb⟩ := hrel
      have hbs : k1 ≤ wr.heap.size := by rw [← hk1]; exact hb.size
      have hol := HOL.out j
      by_cases hlt : j < m
      · have hlt' : j < ks.length := by rw [HM.out]; exact hlt
        obtain ⟨bb, off, rfl, ⟨d0⟩⟩ := ((HNU.out.later (by rw [hk0]; exact hb1)).later (by rw [hk1]; exact hb)).one hlt'
        have hpt := HPT.out j hlt'
        rcases Nat.lt_trichotomy j p with h | h | h
        · have hst := hid (outB_lo (b := b) h hlt')
          obtain ⟨x, HX⟩ : ∃ m, Hid (ks[j] = m) := ⟨_, hid rfl⟩
          rw [HX.out] at d0 hst hpt
          generalize outB ks b p j = out at *
          have hd : decide (p < j) = false := by simp; omega
          have hx1 : ¬ b < x := fun e => by have := hpt.1 e; omega
          have hx2 : decide (b < x) = false := decide_eq_false hx1
          have hd2 : Hid (decide (p < j + 1) = false) := hid (by simp; omega)
          rw [hd]
          clear hpt hd HOL
          go_wp2_with (first | (at_builtin; refine appU (w0 := w1) rfl _ _ rfl k1 _ _ rfl hO x wr.heap.size rfl rfl (by omega) hbs hb ?_; intro v' w2 ho2 hb2 _; clear hO d0) | fail)
          go_roundw
          case rel => exact ⟨j + 1, by omega, by go_num, by rw [hst.out]; exact ho2, by rw [hd2.out], hb2⟩
          case measure => simp [intOf]; omega
        · subst h
          have hst := hid (outB_at (b := b) hlt')
          obtain ⟨x, HX⟩ : ∃ m, Hid (ks[j] = m) := ⟨_, hid rfl⟩
          have HAT := hid (fun w2 (hb2 : Below k1 w1 w2) => (show w2.cell? ⟨bb, off + j, none⟩ = some (.int .u32 x) by
            obtain ⟨bb', off', e, ⟨d1⟩⟩ := ((HNU.out.later (by rw [hk0]; exact hb1)).later (by rw [hk1]; exact hb2)).one hlt'
            cases e
            rw [HX.out] at d1
            exact d1))
          rw [HX.out] at d0 hst hpt
          generalize outB ks b j j = out at *
          have hd : decide (j < j) = false := by simp
          have hx1 : b < x := hpt.2 (Nat.le_refl _)
          have hx2 : decide (b < x) = true := decide_eq_true hx1
          have hd2 : Hid (decide (j < j + 1) = true) := hid (by simp)
          rw [hd]
          clear hpt hd HOL
          go_wp2_with (first
            | (at_builtin; refine appU (w0 := w1) rfl _ _ rfl k1 _ _ rfl hO b wr.heap.size rfl rfl (by omega) hbs hb ?_; intro v' w2 ho2 hb2 _; clear hO d0 hb; have d2 := HAT.out w2 hb2; have hs2 : k1 ≤ w2.heap.size := (by rw [← hk1]; exact hb2.size); have hl2 : (out ++ [b]).length ≤ 900000 := (by rw [List.length_append]; simp; omega))
            | (at_builtin; refine appU (w0 := w1) rfl _ _ rfl k1 _ _ rfl ho2 x w2.heap.size rfl rfl hl2 hs2 hb2 ?_; intro v3 w3 ho3 hb3 _; clear ho2 d2)
            | fail)
          go_roundw
          case rel => exact ⟨j + 1, by omega, by go_num, by rw [hst.out]; exact ho3, by rw [hd2.out], hb3⟩
          case measure => simp [intOf]; omega
        · have hst := hid (outB_hi (b := b) h hlt')
          obtain ⟨x, HX⟩ : ∃ m, Hid (ks[j] = m) := ⟨_, hid rfl⟩
          rw [HX.out] at d0 hst hpt
          generalize outB ks b p j = out at *
          have hd : decide (p < j) = true := decide_eq_true h
          have hd2 : Hid (decide (p < j + 1) = true) := hid (by simp; omega)
          rw [hd]
          clear hpt hd HOL
          go_wp2_with (first | (at_builtin; refine appU (w0 := w1) rfl _ _ rfl k1 _ _ rfl hO x wr.heap.size rfl rfl (by omega) hbs hb ?_; intro v' w2 ho2 hb2 _; clear hO d0) | fail)
          go_roundw
          case rel => exact ⟨j + 1, by omega, by go_num, by rw [hst.out]; exact ho2, by rw [hd2.out], hb2⟩
          case measure => simp [intOf]; omega
      · obtain rfl : j = m := by omega
        have hpl := HPL.out
        by_cases h : p < j
        · have hd : decide (p < j) = true := decide_eq_true h
          have hst := hid (outB_end (ks := ks) (b := b) (p := p) (by rw [HM.out]; exact h))
          rw [HM.out] at hst
          rw [hst.out] at hO
          rw [hd]
          clear hd
          go_wp2_with fail
          go_ret
          exact ⟨⟨_, rfl, by rw [HK.out]; exact hO.numV⟩, by rw [hk0]; exact hb1.trans (hb.mono (by omega))⟩
        · obtain rfl : p = j := by omega
          have hd : decide (p < p) = false := by simp
          have hst := hid (outB_last (ks := ks) (b := b) (p := p) HM.out.symm)
          rw [HM.out] at hst
          generalize outB ks b p p = out at *
          rw [hd]
          clear hd HOL
          go_wp2_with (first | (at_builtin; refine appU (w0 := w1) rfl _ _ rfl k1 _ _ rfl hO b wr.heap.size rfl rfl (by omega) hbs hb ?_; intro v' w2 ho2 hb2 _; clear hO) | fail)
          go_ret
          rw [hst.out] at ho2
          exact ⟨⟨_, rfl, by rw [HK.out]; exact ho2.numV⟩, by rw [hk0]; exact hb1.trans (hb2.mono (by omega))⟩
  · have hb := hti.1 ht
    rw [decide_eq_true hb] at HH
    have HK := hid (putK_old ht)
    clear hti ht hb
    generalize putK ks b = PK at *
    generalize hm : ks.length = m at *
    go_enter Try.func44, Try.ntmps44
    go_wp2_with fail
    refine HH.mono ?_
    rintro e w1 ⟨rfl, hb1⟩
    go_wp2_with fail
    go_ret
    exact ⟨⟨_, rfl, by rw [HK.out]; exact HV.out.later hb1⟩, hb1⟩
end Go.Proofs.Ytfladpnphkoeiaa.Key
