/-
  The walk of the statement MsgParts.
-/
import Derived.Test.YtobbgndabmnbcaaParts2
import Derived.Test.YtobbgndabmnbcaaAwake
import Derived.Test.YtobbgndabmnbcaaKeepsWalk
namespace Go.Proofs.Ytobbgndabmnbcaa.Key
open Go.RowKit Draw
open Go.Op (bytesLess)

theorem cellsP_at : ∀ (l : List Pr) (i : Nat) (h : i < l.length) (q : Nat), q < 2 → (cellsP l)[i * 2 + q]? = l[i].cells[q]?
  | [], i, h, _, _ => by simp at h
  | m :: l, 0, _, q, hq => by
    rw [cellsP, List.flatMap_cons, List.getElem?_append_left (by simp [Pr.cells]; omega)]
    simp
  | m :: l, i + 1, h, q, hq => by
    have h' : i < l.length := by simpa using h
    rw [cellsP, List.flatMap_cons, List.getElem?_append_right (by simp [Pr.cells]; omega), show (i + 1) * 2 + q - m.cells.length = i * 2 + q by simp [Pr.cells]; omega]
    exact cellsP_at l i h' q hq
theorem OwnP.form {w : World} {base : Nat} {v : Value} {l : List Pr} (h : OwnP w base v l) : ∃ a cap, v = .slice a l.length cap ∧ Prs w a l := by
  have hc := fun g hg => World.ownsRow.cells h (g := g) hg
  rcases h.2 with ⟨rfl, h0⟩ | ⟨g, cap, cur, rfl, _, _, hcap, _, _, _⟩
  · have hy : l = [] := List.eq_nil_of_length_eq_zero h0
    subst hy
    exact ⟨none, 0, rfl, .inl rfl⟩
  · refine ⟨_, cap, rfl, .inr ⟨g, 0, rfl, fun i hi => ?_⟩⟩
    have e := fun q (hq : q < 2) u hu => hc g rfl (i * 2 + q) u ((cellsP_at l i hi q hq).trans hu)
    refine ⟨?_, ?_⟩
    · have := e 0 (by omega) _ rfl; rw [add_plain] at this; exact this
    · have := e 1 (by omega) _ rfl; rw [add_plain] at this; exact this
theorem Msgs.take {w : World} {a : Option Addr} {l : List M} (h : Msgs w a l) (n : Nat) : Msgs w a (l.take n) := by
  rcases h with rfl | ⟨b, off, rfl, hc⟩
  · exact .inl (by simp)
  · refine .inr ⟨b, off, rfl, fun i hi => ?_⟩
    rw [List.getElem_take]
    exact hc i (by rw [List.length_take] at hi; omega)
theorem Msgs.drop {w : World} {b off : Nat} {l : List M} (h : Msgs w (some ⟨b, off, none⟩) l) (n : Nat) : Msgs w (some ⟨b, off + n * 6, none⟩) (l.drop n) := by
  rcases h with rfl | ⟨b', off', e, hc⟩
  · exact .inl (by simp)
  · cases e
    refine .inr ⟨b, off + n * 6, rfl, fun i hi => ?_⟩
    rw [List.getElem_drop]
    have := hc (n + i) (by rw [List.length_drop] at hi; omega)
    rw [show off + n * 6 + i * 6 = off + (n + i) * 6 by omega]
    exact this
theorem Msgs.drop' {w : World} {ad : Addr} {l : List M} (h : Msgs w (some ad) l) (n : Nat) : Msgs w (some (ad.add (n * 6))) (l.drop n) := by
  rcases h with rfl | ⟨b, off, e, hc⟩
  · exact .inl (by simp)
  · cases e
    rw [add_plain]
    exact Msgs.drop (.inr ⟨b, off, rfl, hc⟩) n
theorem after_len (ps : List Pr) (l : List M) : (applyL ps l).length ≤ ps.length + l.length := by
  unfold applyL afterS
  have h1 := foldP_len ps ([], [])
  have h2 := foldM_len l (ps.foldl doP ([], []))
  simp only [List.length_map, List.length_zip, List.length_nil] at *
  omega

theorem apply_says (pa a : Option Addr) (pc c : Nat) (pairs : List Pr) (l : List M) (w : World) (hA : anyOther l = false) (hR : riseB pairs = true) (hpl : pairs.length ≤ 1000) (hl : l.length ≤ 1000) (hp : Prs w pa pairs) (hm : Msgs w a l) :
    Calls Try.prog 26 #[.slice pa pairs.length pc, .slice a l.length c] w fun e w' => (∃ a' c', e = .returned (.tuple #[.slice a' (applyL pairs l).length c', .int .i64 0]) ∧ Prs w' a' (applyL pairs l)) ∧ Below w.heap.size w w' := by
  refine (apply26 pa a pc c pairs l w hpl hl hp hm).mono ?_
  rintro x w' ⟨⟨_, _, p3⟩, hb⟩
  obtain ⟨v, rfl, hv⟩ := p3 hA hR
  obtain ⟨a', c', rfl, h⟩ := OwnP.form hv
  exact ⟨⟨a', c', rfl, h⟩, hb⟩

set_option maxRecDepth 100000 in
set_option maxHeartbeats 600000 in
theorem parts6 (a0 a1 : Option Addr) (c0 c1 : Nat) (ps : List Pr) (l : List M) (n : Int) (w : World) (hpl : ps.length ≤ maxLen) (hl : l.length ≤ c1) (hc : c1 ≤ maxLen) (hp : Prs w a0 ps) (hm : Msgs w a1 l) (hz : a1 = none → l.length = 0 ∧ c1 = 0) :
    Calls Try.prog 6 #[.slice a0 ps.length c0, .slice a1 l.length c1, .int .i64 n] w fun e w' => e = .returned (.bool true) ∧ Below w.heap.size w w' := by
  have G1 := great25 a0 c0 ps w hpl hp
  have G2 := great7 a1 c1 l w (Nat.le_trans hl hc) hm
  unfold maxLen at hc
  cases g1 : greatPL ps
  case true =>
    rw [g1] at G1
    go_enter Try.func6, Try.ntmps6
    go_wp2_with fail
    refine G1.mono ?_
    rintro x w1 ⟨rfl, rfl⟩
    go_wp2_with fail
    refine (awake8 _).mono ?_
    rintro x w2 ⟨rfl, hb2⟩
    go_wp2_with fail
    go_ret
    exact ⟨rfl, hb2⟩
  case false =>
  rw [g1] at G1
  cases g2 : greatL l
  case true =>
    rw [g2] at G2
    go_enter Try.func6, Try.ntmps6
    go_wp2_with fail
    refine G1.mono ?_
    rintro x w1 ⟨rfl, rfl⟩
    go_wp2_with fail
    refine G2.mono ?_
    rintro x w1 ⟨rfl, rfl⟩
    go_wp2_with fail
    refine (awake8 _).mono ?_
    rintro x w2 ⟨rfl, hb2⟩
    go_wp2_with fail
    go_ret
    exact ⟨rfl, hb2⟩
  case false =>
  rw [g2] at G2
  by_cases h3 : n < 0 ∨ (l.length : Int) < n
  · have d1 : (decide (n < 0) = true) ∨ (decide (n < 0) = false ∧ decide ((l.length : Int) < n) = true) := by
      by_cases h : n < 0
      · exact .inl (by simp [h])
      · exact .inr ⟨by simp [h], by simp; omega⟩
    rcases d1 with d1 | ⟨d1, d2⟩
    · go_enter Try.func6, Try.ntmps6
      go_wp2_with fail
      refine G1.mono ?_
      rintro x w1 ⟨rfl, rfl⟩
      go_wp2_with fail
      refine G2.mono ?_
      rintro x w1 ⟨rfl, rfl⟩
      go_wp2_with fail
      refine (awake8 _).mono ?_
      rintro x w2 ⟨rfl, hb2⟩
      go_wp2_with fail
      go_ret
      exact ⟨rfl, hb2⟩
    · go_enter Try.func6, Try.ntmps6
      go_wp2_with fail
      refine G1.mono ?_
      rintro x w1 ⟨rfl, rfl⟩
      go_wp2_with fail
      refine G2.mono ?_
      rintro x w1 ⟨rfl, rfl⟩
      go_wp2_with fail
      refine (awake8 _).mono ?_
      rintro x w2 ⟨rfl, hb2⟩
      go_wp2_with fail
      go_ret
      exact ⟨rfl, hb2⟩
  obtain ⟨k, rfl⟩ : ∃ k : Nat, n = (k : Int) := ⟨n.toNat, by omega⟩
  have hk : k ≤ l.length := by omega
  have d1 : decide ((k : Int) < 0) = false := by simp
  have d2 : decide ((l.length : Int) < (k : Int)) = false := by simp; omega
  obtain ⟨hn, hms⟩ := not_great g2
  have hpn : ps.length ≤ 60 := by simp [greatPL] at g1; omega
  have A1 := apply26 a0 a1 c0 c1 ps l w (by omega) (by omega) hp hm
  cases hA : anyOther l
  case true =>
    go_enter Try.func6, Try.ntmps6
    go_wp2_with fail
    refine G1.mono ?_
    rintro x w1 ⟨rfl, rfl⟩
    go_wp2_with fail
    refine G2.mono ?_
    rintro x w1 ⟨rfl, rfl⟩
    go_wp2_with fail
    refine A1.mono ?_
    rintro x w1 ⟨⟨p1, p2, p3⟩, hb1⟩
    obtain rfl := p1 hA
    go_wp2_with fail
    refine (awake8 _).mono ?_
    rintro x w2 ⟨rfl, hb2⟩
    go_wp2_with fail
    go_ret
    exact ⟨rfl, hb1.trans (hb2.mono hb1.size)⟩
  case false =>
  cases hR : riseB ps
  case false =>
    go_enter Try.func6, Try.ntmps6
    go_wp2_with fail
    refine G1.mono ?_
    rintro x w1 ⟨rfl, rfl⟩
    go_wp2_with fail
    refine G2.mono ?_
    rintro x w1 ⟨rfl, rfl⟩
    go_wp2_with fail
    refine A1.mono ?_
    rintro x w1 ⟨⟨p1, p2, p3⟩, hb1⟩
    obtain rfl := p2 hA hR
    go_wp2_with fail
    refine (awake8 _).mono ?_
    rintro x w2 ⟨rfl, hb2⟩
    go_wp2_with fail
    go_ret
    exact ⟨rfl, hb1.trans (hb2.mono hb1.size)⟩
  case true =>
  have HRp := hid hR
  have HAt := hid (other_take hA k)
  have HAd := hid (other_drop hA k)
  have HAa := hid (other_added hA)
  have HA := hid hA
  have htl : (l.take k).length = k := by rw [List.length_take]; omega
  have hL := after_len ps l
  have hL2 := after_len ps (l.take k)
  have E2 := hid (apply_parts ps l k)
  have R2 := hid (rise_apply ps (l.take k))
  have E3 := hid (apply_added ps l hA)
  have hAl := added_len l
  clear A1
  have A1 := apply_says a0 a1 c0 c1 ps l w hA hR (by omega) (by omega) hp hm
  have T1 := hid (fun w' (h1 : Prs w' a0 ps) (h2 : Msgs w' a1 l) => apply_says a0 a1 c0 c1 ps (l.take k) w' HAt.out HRp.out (by omega) (by omega) h1 (h2.take k))
  have T3 := hid (fun a c w' (h1 : Prs w' a0 ps) (h2 : Msgs w' a (addedL l)) => apply_says a0 a c0 c ps (addedL l) w' HAa.out HRp.out (by omega) (by omega) h1 h2)
  have T2 := hid (fun a c a' c' w' (h1 : Prs w' a (applyL ps (l.take k))) (h2 : Msgs w' a' (l.drop k)) => apply_says a a' c c' (applyL ps (l.take k)) (l.drop k) w' HAd.out R2.out (by omega) (by rw [List.length_drop]; omega) h1 h2)
  have S1 := hid (fun a a' c c' w' (h1 : Prs w' a (applyL ps l)) (h2 : Prs w' a' (applyL ps l)) => same27 a a' c c' (applyL ps l) (applyL ps l) w' (by unfold maxLen; omega) (by unfold maxLen; omega) h1 h2)
  have AS := hid (fun j m (hj : l[j]? = some m) a c w' (h : Msgs w' a (addedL (l.take j))) => add18 a c (addedL (l.take j)) m w' (by have := added_len (l.take j); rw [List.length_take] at this; omega) h (fun m h => by have := hms m (List.mem_of_mem_take (added_mem h)); omega) (by have := hms m (List.mem_of_getElem? hj); omega))
  have AN := hid (fun j m (hj : l[j]? = some m) => show addL (addedL (l.take j)) m = addedL (l.take (j + 1)) by rw [← added_snoc, List.take_add_one, hj]; rfl)
  have AT := hid (show addedL (l.take l.length) = addedL l by rw [List.take_length])
  rw [htl] at T1 hL2
  rw [List.length_drop] at T2
  rw [E2.out] at T2
  rw [E3.out] at T3
  clear htl E2 E3 hA hR hms HRp HAt HAd HAa HA R2
  generalize applyL ps (l.take k) = L2 at *
  generalize applyL ps l = L at *
  go_enter Try.func6, Try.ntmps6
  go_wp2_with fail
  refine G1.mono ?_
  rintro x w1 ⟨rfl, rfl⟩
  go_wp2_with fail
  refine G2.mono ?_
  rintro x w1 ⟨rfl, rfl⟩
  go_wp2_with fail
  refine A1.mono ?_
  rintro x w1 ⟨⟨a7, c7, rfl, hp7⟩, hb1⟩
  clear G1 G2 A1 d1 d2 h3 g1 g2
  go_wp2_with fail
  refine (T1.out w1 (hp.later hb1) (hm.later hb1)).mono ?_
  rintro x w2 ⟨⟨a2, c2, rfl, hp2⟩, hb2⟩
  replace hp7 := hp7.later hb2
  have hb2' := hb1.trans (hb2.mono hb1.size)
  clear T1 hb1 hb2
  have hm2 := hm.later hb2'
  have hp0 := hp.later hb2'
  generalize hN : l.length = N at *
  have HN := hid hN
  clear hN
  have way : (a1 = none ∧ N = 0 ∧ c1 = 0 ∧ k = 0) ∨ (∃ ad, a1 = some ad ∧ c1 = k ∧ N = k) ∨ (∃ ad, a1 = some ad ∧ ¬ c1 = k) := by
    cases a1 with
    | none => have := hz rfl; exact .inl ⟨rfl, this.1, this.2, by omega⟩
    | some ad =>
      by_cases h : c1 = k
      · exact .inr (.inl ⟨ad, rfl, h, by omega⟩)
      · exact .inr (.inr ⟨ad, rfl, h⟩)
  have HAT := hid (show addedL (l.take N) = addedL l by have := AT.out; exact this)
  clear AT
  rcases way with ⟨ea, hN0, hc0, hk0⟩ | ⟨ad, ea, hc0, hN0⟩ | ⟨ad, ea, hck⟩
  · subst ea
    have hmd : Msgs w2 none (l.drop k) := .inl (by rw [List.drop_eq_nil_iff, HN.out]; omega)
    have hcd : c1 - k = 0 := by omega
    clear hc0 hN0 hk0 hz
    go_wp2_with fail
    refine (T2.out a2 c2 _ 0 w2 hp2 hmd).mono ?_
    clear hmd
    rintro x w3 ⟨⟨a3, c3, rfl, hp3⟩, hb3⟩
    replace hm2 := hm2.later hb3
    replace hp0 := hp0.later hb3
    replace hp7 := hp7.later hb3
    replace hb3 := hb2'.trans (hb3.mono hb2'.size)
    clear hb2' hp2 T2 hm hp
    go_wp2_with fail
    have hb4 : Below w3.heap.size w3 (w3.alloc (.cells #[] 26)) := below_box _ _
    replace hm2 := hm2.later hb4
    replace hp0 := hp0.later hb4
    replace hp7 := hp7.later hb4
    replace hp3 := hp3.later hb4
    replace hb3 := hb3.trans (hb4.mono hb3.size)
    clear hb4
    generalize w3.alloc (.cells #[] 26) = w4 at *
    generalize w3.heap.size = g3 at *
    go_loopw [13, 14] (fun v i wr => ∃ j : Nat, j ≤ N ∧ i = .int .i64 j ∧ (∃ a c, v = .slice a (addedL (l.take j)).length c ∧ Msgs wr a (addedL (l.take j))) ∧ Below w4.heap.size w4 wr) (fun _ i _ => N - (intOf i).toNat)
    case atStart => exact ⟨0, Nat.zero_le _, rfl, ⟨_, _, rfl, .inl rfl⟩, Below.refl _ _⟩
    case round =>
      obtain ⟨j, hj, rfl, ⟨va, vc, rfl, hv⟩, hb⟩ := hrel
      by_cases hlt : j < N
      · have hlt' : j < l.length := by rw [HN.out]; exact hlt
        obtain ⟨b, off, eb, _⟩ := (hm2.later hb).at hlt'
        cases eb
      · obtain rfl : j = N := by omega
        rw [HAT.out] at hv ⊢
        replace hp0 := hp0.later hb
        replace hp7 := hp7.later hb
        replace hp3 := hp3.later hb
        replace hb3 := hb3.trans (hb.mono hb3.size)
        go_wp2_with fail
        refine (T3.out va vc wr hp0 hv).mono ?_
        rintro x w6 ⟨⟨a6, c6, rfl, hp6⟩, hb6⟩
        replace hp7 := hp7.later hb6
        replace hp3 := hp3.later hb6
        replace hb3 := hb3.trans (hb6.mono hb3.size)
        go_wp2_with fail
        refine (S1.out a7 a3 c7 c3 w6 hp7 hp3).mono ?_
        rintro x w7 ⟨⟨b7, rfl, hs7⟩, hb7⟩
        obtain rfl : b7 = true := hs7.2 trivial
        replace hp7 := hp7.later hb7
        replace hp6 := hp6.later hb7
        replace hb3 := hb3.trans (hb7.mono hb3.size)
        go_wp2_with fail
        refine (S1.out a7 a6 c7 c6 w7 hp7 hp6).mono ?_
        rintro x w8 ⟨⟨b8, rfl, hs8⟩, hb8⟩
        obtain rfl : b8 = true := hs8.2 trivial
        replace hb3 := hb3.trans (hb8.mono hb3.size)
        go_wp2_with fail
        refine (awake8 _).mono ?_
        rintro x w9 ⟨rfl, hb9⟩
        go_wp2_with fail
        go_ret
        exact ⟨rfl, hb3.trans (hb9.mono hb3.size)⟩
  · subst ea
    have hmd : Msgs w2 (some ad) (l.drop k) := .inl (by rw [List.drop_eq_nil_iff, HN.out]; omega)
    have hcd : c1 - k = 0 := by omega
    clear hc0 hN0
    go_wp2_with fail
    refine (T2.out a2 c2 _ 0 w2 hp2 hmd).mono ?_
    clear hmd
    generalize some ad = a1 at *
    rintro x w3 ⟨⟨a3, c3, rfl, hp3⟩, hb3⟩
    replace hm2 := hm2.later hb3
    replace hp0 := hp0.later hb3
    replace hp7 := hp7.later hb3
    replace hb3 := hb2'.trans (hb3.mono hb2'.size)
    clear hb2' hp2 T2 hm hp hz
    go_wp2_with fail
    have hb4 : Below w3.heap.size w3 (w3.alloc (.cells #[] 26)) := below_box _ _
    replace hm2 := hm2.later hb4
    replace hp0 := hp0.later hb4
    replace hp7 := hp7.later hb4
    replace hp3 := hp3.later hb4
    replace hb3 := hb3.trans (hb4.mono hb3.size)
    clear hb4
    generalize w3.alloc (.cells #[] 26) = w4 at *
    generalize w3.heap.size = g3 at *
    go_loopw [13, 14] (fun v i wr => ∃ j : Nat, j ≤ N ∧ i = .int .i64 j ∧ (∃ a c, v = .slice a (addedL (l.take j)).length c ∧ Msgs wr a (addedL (l.take j))) ∧ Below w4.heap.size w4 wr) (fun _ i _ => N - (intOf i).toNat)
    case atStart => exact ⟨0, Nat.zero_le _, rfl, ⟨_, _, rfl, .inl rfl⟩, Below.refl _ _⟩
    case round =>
      obtain ⟨j, hj, rfl, ⟨va, vc, rfl, hv⟩, hb⟩ := hrel
      by_cases hlt : j < N
      · have hlt' : j < l.length := by rw [HN.out]; exact hlt
        obtain ⟨b, off, rfl, h6⟩ := (hm2.later hb).at hlt'
        have HA := AS.out j l[j] (List.getElem?_eq_getElem hlt') va vc wr hv
        have HB := hid (AN.out j l[j] (List.getElem?_eq_getElem hlt'))
        obtain ⟨x, HM⟩ : ∃ m, Hid (l[j] = m) := ⟨_, hid rfl⟩
        rw [HM.out] at h6 HA HB
        obtain ⟨xd, xy, xl, xb, xp, xa⟩ := x
        obtain ⟨c0', c1', c2', c3', c4', c5'⟩ := h6
        dsimp only at c0' c1' c2' c3' c4' c5' HA HB
        rw [HB.out] at HA
        go_wp2_with fail
        refine HA.mono ?_
        rintro x w5 ⟨v5, rfl, hv5, hb5⟩
        obtain ⟨a5, cc5, rfl, hm5, _⟩ := OwnM.form hv5
        go_wp2_with fail
        go_roundw
        case rel => exact ⟨j + 1, by omega, by go_num, ⟨_, _, rfl, hm5⟩, hb.trans (hb5.mono hb.size)⟩
        case measure => simp [intOf]; omega
      · obtain rfl : j = N := by omega
        rw [HAT.out] at hv ⊢
        replace hp0 := hp0.later hb
        replace hp7 := hp7.later hb
        replace hp3 := hp3.later hb
        replace hb3 := hb3.trans (hb.mono hb3.size)
        go_wp2_with fail
        refine (T3.out va vc wr hp0 hv).mono ?_
        rintro x w6 ⟨⟨a6, c6, rfl, hp6⟩, hb6⟩
        replace hp7 := hp7.later hb6
        replace hp3 := hp3.later hb6
        replace hb3 := hb3.trans (hb6.mono hb3.size)
        go_wp2_with fail
        refine (S1.out a7 a3 c7 c3 w6 hp7 hp3).mono ?_
        rintro x w7 ⟨⟨b7, rfl, hs7⟩, hb7⟩
        obtain rfl : b7 = true := hs7.2 trivial
        replace hp7 := hp7.later hb7
        replace hp6 := hp6.later hb7
        replace hb3 := hb3.trans (hb7.mono hb3.size)
        go_wp2_with fail
        refine (S1.out a7 a6 c7 c6 w7 hp7 hp6).mono ?_
        rintro x w8 ⟨⟨b8, rfl, hs8⟩, hb8⟩
        obtain rfl : b8 = true := hs8.2 trivial
        replace hb3 := hb3.trans (hb8.mono hb3.size)
        go_wp2_with fail
        refine (awake8 _).mono ?_
        rintro x w9 ⟨rfl, hb9⟩
        go_wp2_with fail
        go_ret
        exact ⟨rfl, hb3.trans (hb9.mono hb3.size)⟩
  · subst ea
    have hcd : ¬ c1 - k = 0 := by omega
    have hmd : Msgs w2 (some (ad.add (k * 6))) (l.drop k) := hm2.drop' k
    go_wp2_with fail
    refine (T2.out a2 c2 _ (c1 - k) w2 hp2 hmd).mono ?_
    clear hmd
    generalize some ad = a1 at *
    rintro x w3 ⟨⟨a3, c3, rfl, hp3⟩, hb3⟩
    replace hm2 := hm2.later hb3
    replace hp0 := hp0.later hb3
    replace hp7 := hp7.later hb3
    replace hb3 := hb2'.trans (hb3.mono hb2'.size)
    clear hb2' hp2 T2 hm hp hz
    go_wp2_with fail
    have hb4 : Below w3.heap.size w3 (w3.alloc (.cells #[] 26)) := below_box _ _
    replace hm2 := hm2.later hb4
    replace hp0 := hp0.later hb4
    replace hp7 := hp7.later hb4
    replace hp3 := hp3.later hb4
    replace hb3 := hb3.trans (hb4.mono hb3.size)
    clear hb4
    generalize w3.alloc (.cells #[] 26) = w4 at *
    generalize w3.heap.size = g3 at *
    go_loopw [13, 14] (fun v i wr => ∃ j : Nat, j ≤ N ∧ i = .int .i64 j ∧ (∃ a c, v = .slice a (addedL (l.take j)).length c ∧ Msgs wr a (addedL (l.take j))) ∧ Below w4.heap.size w4 wr) (fun _ i _ => N - (intOf i).toNat)
    case atStart => exact ⟨0, Nat.zero_le _, rfl, ⟨_, _, rfl, .inl rfl⟩, Below.refl _ _⟩
    case round =>
      obtain ⟨j, hj, rfl, ⟨va, vc, rfl, hv⟩, hb⟩ := hrel
      by_cases hlt : j < N
      · have hlt' : j < l.length := by rw [HN.out]; exact hlt
        obtain ⟨b, off, rfl, h6⟩ := (hm2.later hb).at hlt'
        have HA := AS.out j l[j] (List.getElem?_eq_getElem hlt') va vc wr hv
        have HB := hid (AN.out j l[j] (List.getElem?_eq_getElem hlt'))
        obtain ⟨x, HM⟩ : ∃ m, Hid (l[j] = m) := ⟨_, hid rfl⟩
        rw [HM.out] at h6 HA HB
        obtain ⟨xd, xy, xl, xb, xp, xa⟩ := x
        obtain ⟨c0', c1', c2', c3', c4', c5'⟩ := h6
        dsimp only at c0' c1' c2' c3' c4' c5' HA HB
        rw [HB.out] at HA
        go_wp2_with fail
        refine HA.mono ?_
        rintro x w5 ⟨v5, rfl, hv5, hb5⟩
        obtain ⟨a5, cc5, rfl, hm5, _⟩ := OwnM.form hv5
        go_wp2_with fail
        go_roundw
        case rel => exact ⟨j + 1, by omega, by go_num, ⟨_, _, rfl, hm5⟩, hb.trans (hb5.mono hb.size)⟩
        case measure => simp [intOf]; omega
      · obtain rfl : j = N := by omega
        rw [HAT.out] at hv ⊢
        replace hp0 := hp0.later hb
        replace hp7 := hp7.later hb
        replace hp3 := hp3.later hb
        replace hb3 := hb3.trans (hb.mono hb3.size)
        go_wp2_with fail
        refine (T3.out va vc wr hp0 hv).mono ?_
        rintro x w6 ⟨⟨a6, c6, rfl, hp6⟩, hb6⟩
        replace hp7 := hp7.later hb6
        replace hp3 := hp3.later hb6
        replace hb3 := hb3.trans (hb6.mono hb3.size)
        go_wp2_with fail
        refine (S1.out a7 a3 c7 c3 w6 hp7 hp3).mono ?_
        rintro x w7 ⟨⟨b7, rfl, hs7⟩, hb7⟩
        obtain rfl : b7 = true := hs7.2 trivial
        replace hp7 := hp7.later hb7
        replace hp6 := hp6.later hb7
        replace hb3 := hb3.trans (hb7.mono hb3.size)
        go_wp2_with fail
        refine (S1.out a7 a6 c7 c6 w7 hp7 hp6).mono ?_
        rintro x w8 ⟨⟨b8, rfl, hs8⟩, hb8⟩
        obtain rfl : b8 = true := hs8.2 trivial
        replace hb3 := hb3.trans (hb8.mono hb3.size)
        go_wp2_with fail
        refine (awake8 _).mono ?_
        rintro x w9 ⟨rfl, hb9⟩
        go_wp2_with fail
        go_ret
        exact ⟨rfl, hb3.trans (hb9.mono hb3.size)⟩
end Go.Proofs.Ytobbgndabmnbcaa.Key
