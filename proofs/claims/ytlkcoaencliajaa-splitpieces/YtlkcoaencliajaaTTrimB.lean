/-
  Contract of Trim, the document's.
-/
import Derived.Test.YtlkcoaencliajaaTTrimA
import Derived.Test.YtlkcoaencliajaaTMsgR
import Derived.Test.YtlkcoaencliajaaLOverSay
namespace Go.Proofs.Ytlkcoaencliajaa.Key
open Go.RowKit Draw
open Go.Op (bytesLess)
set_option linter.unusedVariables false
set_option linter.unusedSimpArgs false

/-- what is left of a node, leaf or not -/
def trimG (n : Nd) (r : Rng) (a : ByteArray) : Nd := ⟨n.leaf, psT n.ps r a, pvT n r a n.ks.length, ksT n r a n.ks.length, trimL n.bf r a⟩
theorem trimG_is {n : Nd} {r : Rng} {a : ByteArray} (h : mayI n = 0) : trimN n r a = trimG n r a := by
  obtain ⟨_, hb⟩ := may_iff.1 h
  unfold trimN trimG
  unfold fineB at hb
  cases hl : n.leaf
  · rw [hl, if_neg (by simp)] at hb
    obtain ⟨g1, _⟩ := fork_iff.1 hb
    rw [if_neg (by simp), g1]
    rfl
  · rw [hl, if_pos rfl] at hb
    obtain ⟨g1, g2, g3, _⟩ := leaf_iff.1 hb
    rw [if_pos rfl, g2, g3]
    rfl
theorem trimE_is {n : Nd} {r : Rng} {a : ByteArray} (h : mayI n = 0) (hf : fitsT r a = true) : trimE n r a = if okT n r a n.ks.length && trimB n.bf r a then 0 else 1 := by
  obtain ⟨_, hb⟩ := may_iff.1 h
  unfold trimE
  unfold fineB at hb
  rw [if_pos h, if_pos hf]
  cases hl : n.leaf
  · rw [if_neg (by simp)]
    cases okT n r a n.ks.length <;> cases trimB n.bf r a <;> rfl
  · rw [hl, if_pos rfl] at hb
    obtain ⟨g1, g2, g3, _⟩ := leaf_iff.1 hb
    rw [if_pos rfl, g2, g3]
    rfl
theorem may_sizes {n : Nd} (h : mayI n = 0) : (∀ x ∈ n.ks, x.strip.size ≤ 16 ∧ x.add.size ≤ 16) ∧ ∀ m ∈ n.bf, m.key.size ≤ 1000 ∧ m.add.size ≤ 16 := by
  obtain ⟨_, hb⟩ := may_iff.1 h
  unfold fineB at hb
  cases hl : n.leaf
  · rw [hl, if_neg (by simp)] at hb
    obtain ⟨_, _, _, g4, g5⟩ := fork_iff.1 hb
    refine ⟨fun x hx => ?_, fun m hm => ?_⟩
    · have := g4 x hx
      unfold okE at this
      simp only [Bool.and_eq_true, decide_eq_true_eq] at this
      omega
    · have := g5 m hm
      unfold mayB at this
      simp only [Bool.and_eq_true, decide_eq_true_eq] at this
      omega
  · rw [hl, if_pos rfl] at hb
    obtain ⟨_, g2, g3, _⟩ := leaf_iff.1 hb
    rw [g2, g3]
    exact ⟨fun x hx => (by cases hx), fun x hx => (by cases hx)⟩
/-- where a kid's range begins, as what is cut off it -/
theorem lo_long {n : Nd} {r : Rng} {a : ByteArray} (h : mayI n = 0) (hf : fitsT r a = true) {j : Nat} (hj : j < n.ks.length) (ht : tch n.pv r j = true) (h0 : 0 < (ksT n r a j).length) : a.size ≤ (loOf n.pv j).size ∧ ahead n.pv j = loOf n.pv j := by
  cases hl : n.leaf
  · obtain ⟨hlen, hup⟩ := may_fork h hl
    cases j with
    | zero => exact absurd h0 (by simp [ksT, picks])
    | succ i =>
      have hi : i < n.pv.length := by omega
      have e : loOf n.pv (i + 1) = n.pv[i] := by unfold loOf; rw [if_pos (by omega), ahead_at hi]
      rw [e, ahead_at hi]
      exact ⟨piv_long hup hf (List.getElem?_eq_getElem hi) ht h0, rfl⟩
  · obtain ⟨_, hb⟩ := may_iff.1 h
    unfold fineB at hb
    rw [hl, if_pos rfl] at hb
    obtain ⟨_, g2, _⟩ := leaf_iff.1 hb
    rw [g2] at hj
    cases hj
theorem strip_short {x : E} {a : ByteArray} (h : x.strip.size ≤ 16) : (joS (lshort x a)).size ≤ 16 := by
  cases hj : lshort x a with
  | none => exact Nat.zero_le _
  | some j =>
    have := (join_sizes hj).1
    have h0 : (ByteArray.size ⟨#[]⟩) = 0 := rfl
    rw [joS_some]
    omega
set_option maxRecDepth 100000 in
set_option maxHeartbeats 8000000 in
theorem trim11 (n : Nd) (p : Pl) (lo hi : ByteArray) (e : Bool) (a : ByteArray) (w : World) (hf : Few n) (h : Lies w n p) (hd : ∀ m ∈ n.bf, 0 ≤ m.deep) (hlo : lo.size ≤ 1000) (hhi : hi.size ≤ 1000) (ha : a.size ≤ 1000) :
    Calls Try.prog 37 #[nv n p, av lo hi e, .string a] w fun x w' => TrimSay w w' x n (rg lo hi e) a ∧ Below w.heap.size w w' := by
  have HM := hid (fun (wr : World) (hb : Below w.heap.size w wr) => may13 n p wr hf (h.later hb) hd)
  by_cases hm : mayI n = 0
  case neg =>
    have HE := hid (show trimE n (rg lo hi e) a = 3 from by unfold trimE; rw [if_neg hm])
    clear h hf hd
    generalize mayI n = MI at *
    obtain ⟨N0, R0, M0, P0, hb0, hs0⟩ := four_boxes w (.bool n.leaf) (.slice p.a1 n.ps.length p.c1) (.slice p.a2 n.pv.length p.c2) (.slice p.a3 n.ks.length p.c3) (.slice p.a4 n.bf.length p.c4) (.string lo) (.string hi) (.bool e) (.bool false) (.slice none 0 0) (.slice none 0 0) (.slice none 0 0) (.slice none 0 0) (.bool false) (.slice none 0 0) (.slice none 0 0) (.slice none 0 0) (.slice none 0 0)
    obtain ⟨lB, ps, ws, ks, bf⟩ := n
    obtain ⟨a1, c1, a2, c2, a3, c3, a4, c4⟩ := p
    dsimp only [nv] at *
    generalize hn1 : ps.length = n1 at *
    generalize hn2 : ws.length = n2 at *
    generalize hn3 : ks.length = n3 at *
    generalize bf.length = n4 at *
    have HN1 := hid hn1
    have HN2 := hid hn2
    have HN3 := hid hn3
    clear hn1 hn2 hn3
    go_enter Try.func37, Try.ntmps37
    go_upto_region 2 with fail
    generalize (((w.alloc (.cells #[.bool lB, .slice a1 n1 c1, .slice a2 n2 c2, .slice a3 n3 c3, .slice a4 n4 c4] 27)).alloc (.cells #[.string lo, .string hi, .bool e] 29)).alloc (.cells #[.bool false, .slice none 0 0, .slice none 0 0, .slice none 0 0, .slice none 0 0] 27)).alloc (.cells #[.bool false, .slice none 0 0, .slice none 0 0, .slice none 0 0, .slice none 0 0] 27) = w3 at *
    generalize hk0 : w.heap.size = k0 at *
    generalize hk1 : k0 + 1 = k1 at *
    generalize hk2 : k1 + 1 = k2 at *
    generalize hk3 : k2 + 1 = k3 at *
    have HQ0 := hid hk0
    have HQ := hid (And.intro hk1 (And.intro hk2 hk3))
    clear hk0 hk1 hk2 hk3
    have hkk := HQ.out
    obtain ⟨m0, m1, m2, m3, m4⟩ := N0.cells
    go_wp2_with fail
    refine (HM.out _ hb0).mono ?_
    rintro x w4 ⟨rfl, hb4⟩
    have hs4 := hb4.size
    have N4 := N0.later hb4
    have R4 := R0.later hb4
    have M4 := M0.later hb4
    have P4 := P0.later hb4
    replace hb4 := hb0.trans (hb4.mono (by omega))
    clear HM m0 m1 m2 m3 m4 N0 R0 M0 P0
    obtain ⟨z0, z1, z2, z3, z4⟩ := M4.cells
    obtain ⟨q0, q1, q2, q3, q4⟩ := P4.cells
    have f := M4.free
    have f0 := f 0
    have f1 := f 1
    have f2 := f 2
    have f3 := f 3
    have f4 := f 4
    clear f
    have hb9 := below_five hb4 (show k0 ≤ k2 by omega) (.bool false) (.slice none 0 0) (.slice none 0 0) (.slice none 0 0) (.slice none 0 0)
    go_wp2_with fail
    refine bodyPost_ret (v := .tuple #[.agg #[.bool false, .slice none 0 0, .slice none 0 0, .slice none 0 0, .slice none 0 0], .int .i64 3]) (by simp [results, Try.results37, go_sem, z0, z1, z2, z3, z4]) rfl ⟨?_, ?_⟩
    · exact say_none HE.out (by decide) rfl
    · rw [HQ0.out]; exact hb9
  case pos =>
  have HY := hid (fun wr => empty28 lo hi e wr)
  rw [hm] at HM
  cases hE : emptyR (rg lo hi e)
  case true =>
    have HE := hid (show trimE n (rg lo hi e) a = 1 from by unfold trimE fitsT; rw [if_pos hm, hE]; rfl)
    rw [hE] at HY
    clear h hf hd hm hE
    obtain ⟨N0, R0, M0, P0, hb0, hs0⟩ := four_boxes w (.bool n.leaf) (.slice p.a1 n.ps.length p.c1) (.slice p.a2 n.pv.length p.c2) (.slice p.a3 n.ks.length p.c3) (.slice p.a4 n.bf.length p.c4) (.string lo) (.string hi) (.bool e) (.bool false) (.slice none 0 0) (.slice none 0 0) (.slice none 0 0) (.slice none 0 0) (.bool false) (.slice none 0 0) (.slice none 0 0) (.slice none 0 0) (.slice none 0 0)
    obtain ⟨lB, ps, ws, ks, bf⟩ := n
    obtain ⟨a1, c1, a2, c2, a3, c3, a4, c4⟩ := p
    dsimp only [nv] at *
    generalize hn1 : ps.length = n1 at *
    generalize hn2 : ws.length = n2 at *
    generalize hn3 : ks.length = n3 at *
    generalize bf.length = n4 at *
    have HN1 := hid hn1
    have HN2 := hid hn2
    have HN3 := hid hn3
    clear hn1 hn2 hn3
    go_enter Try.func37, Try.ntmps37
    go_upto_region 2 with fail
    generalize (((w.alloc (.cells #[.bool lB, .slice a1 n1 c1, .slice a2 n2 c2, .slice a3 n3 c3, .slice a4 n4 c4] 27)).alloc (.cells #[.string lo, .string hi, .bool e] 29)).alloc (.cells #[.bool false, .slice none 0 0, .slice none 0 0, .slice none 0 0, .slice none 0 0] 27)).alloc (.cells #[.bool false, .slice none 0 0, .slice none 0 0, .slice none 0 0, .slice none 0 0] 27) = w3 at *
    generalize hk0 : w.heap.size = k0 at *
    generalize hk1 : k0 + 1 = k1 at *
    generalize hk2 : k1 + 1 = k2 at *
    generalize hk3 : k2 + 1 = k3 at *
    have HQ0 := hid hk0
    have HQ := hid (And.intro hk1 (And.intro hk2 hk3))
    clear hk0 hk1 hk2 hk3
    have hkk := HQ.out
    obtain ⟨m0, m1, m2, m3, m4⟩ := N0.cells
    go_wp2_with fail
    refine (HM.out _ hb0).mono ?_
    rintro x w4 ⟨rfl, hb4⟩
    have hs4 := hb4.size
    have N4 := N0.later hb4
    have R4 := R0.later hb4
    have M4 := M0.later hb4
    have P4 := P0.later hb4
    replace hb4 := hb0.trans (hb4.mono (by omega))
    clear HM m0 m1 m2 m3 m4 N0 R0 M0 P0
    go_upto_region 4 with fail
    refine wp_region_quiet (C := fun u => Below w4.heap.size w4 u) (by kernel_rfl) (by kernel_rfl) (Below.refl _ w4).drew ?_
    change wpQuiet _ _ _ _ (_ :: _) _
    repeat
      first
        | go_big_quiet_skip
        | go_big_quiet_want
          first
            | refine quiet_v ?_ ?_ ?_
              rotate_left
              · intro u hu
                obtain ⟨r0, r1, r2⟩ := (R4.later hu).cells
                go_simp
                with_reducible rfl
            | refine quiet_c (.bool true) 49 #[.agg #[.string lo, .string hi, .bool e]] ?_ (fun u hu => (HY.out u).mono fun x u' h => ⟨h.1, hu.trans (h.2.mono hu.size)⟩) ?_
              · intro u hu
                go_simp
                done
          go_simp
          go_big_quiet_on
    refine wpQuiet_nil (fun u hu => ?_)
    have M5 := M4.later hu
    have P5 := P4.later hu
    have N5 := N4.later hu
    have R5 := R4.later hu
    have hs5 := hu.size
    have hb5 := hb4.trans (hu.mono (by omega))
    clear M4 P4 N4 R4 hu hb4
    obtain ⟨z0, z1, z2, z3, z4⟩ := M5.cells
    obtain ⟨q0, q1, q2, q3, q4⟩ := P5.cells
    have f := M5.free
    have f0 := f 0
    have f1 := f 1
    have f2 := f 2
    have f3 := f 3
    have f4 := f 4
    clear f
    have hb9 := below_five hb5 (show k0 ≤ k2 by omega) (.bool false) (.slice none 0 0) (.slice none 0 0) (.slice none 0 0) (.slice none 0 0)
    go_wp2_with fail
    refine bodyPost_ret (v := .tuple #[.agg #[.bool false, .slice none 0 0, .slice none 0 0, .slice none 0 0, .slice none 0 0], .int .i64 1]) (by simp [results, Try.results37, go_sem, z0, z1, z2, z3, z4]) rfl ⟨?_, ?_⟩
    · exact say_none HE.out (by decide) rfl
    · rw [HQ0.out]; exact hb9
  case false =>
  rw [hE] at HY
  have HO := hid (fun wr => of27 a wr (by omega))
  have HI := hid (fun wr => inside31 lo hi a (sucS a.data.toList) e (sucO a.data.toList) wr)
  have hIU : insideR (rg lo hi e) (rg a (sucS a.data.toList) (sucO a.data.toList)) = has (under (rg lo hi e)) a.data.toList := inside_under (a := a.data.toList) hE
  rw [hIU] at HI
  clear hIU
  generalize sucS a.data.toList = O1 at *
  generalize sucO a.data.toList = O2 at *
  generalize hbE : false = bE at HY
  have HbE := hid hbE
  clear hbE
  cases hH : has (under (rg lo hi e)) a.data.toList
  case false =>
    have HE := hid (show trimE n (rg lo hi e) a = 1 from by unfold trimE fitsT; rw [if_pos hm, hE, hH]; rfl)
    rw [hH] at HI
    obtain rfl := HbE.out
    clear h hf hd hm hE hH
    obtain ⟨N0, R0, M0, P0, hb0, hs0⟩ := four_boxes w (.bool n.leaf) (.slice p.a1 n.ps.length p.c1) (.slice p.a2 n.pv.length p.c2) (.slice p.a3 n.ks.length p.c3) (.slice p.a4 n.bf.length p.c4) (.string lo) (.string hi) (.bool e) (.bool false) (.slice none 0 0) (.slice none 0 0) (.slice none 0 0) (.slice none 0 0) (.bool false) (.slice none 0 0) (.slice none 0 0) (.slice none 0 0) (.slice none 0 0)
    obtain ⟨lB, ps, ws, ks, bf⟩ := n
    obtain ⟨a1, c1, a2, c2, a3, c3, a4, c4⟩ := p
    dsimp only [nv] at *
    generalize hn1 : ps.length = n1 at *
    generalize hn2 : ws.length = n2 at *
    generalize hn3 : ks.length = n3 at *
    generalize bf.length = n4 at *
    have HN1 := hid hn1
    have HN2 := hid hn2
    have HN3 := hid hn3
    clear hn1 hn2 hn3
    go_enter Try.func37, Try.ntmps37
    go_upto_region 2 with fail
    generalize (((w.alloc (.cells #[.bool lB, .slice a1 n1 c1, .slice a2 n2 c2, .slice a3 n3 c3, .slice a4 n4 c4] 27)).alloc (.cells #[.string lo, .string hi, .bool e] 29)).alloc (.cells #[.bool false, .slice none 0 0, .slice none 0 0, .slice none 0 0, .slice none 0 0] 27)).alloc (.cells #[.bool false, .slice none 0 0, .slice none 0 0, .slice none 0 0, .slice none 0 0] 27) = w3 at *
    generalize hk0 : w.heap.size = k0 at *
    generalize hk1 : k0 + 1 = k1 at *
    generalize hk2 : k1 + 1 = k2 at *
    generalize hk3 : k2 + 1 = k3 at *
    have HQ0 := hid hk0
    have HQ := hid (And.intro hk1 (And.intro hk2 hk3))
    clear hk0 hk1 hk2 hk3
    have hkk := HQ.out
    obtain ⟨m0, m1, m2, m3, m4⟩ := N0.cells
    go_wp2_with fail
    refine (HM.out _ hb0).mono ?_
    rintro x w4 ⟨rfl, hb4⟩
    have hs4 := hb4.size
    have N4 := N0.later hb4
    have R4 := R0.later hb4
    have M4 := M0.later hb4
    have P4 := P0.later hb4
    replace hb4 := hb0.trans (hb4.mono (by omega))
    clear HM m0 m1 m2 m3 m4 N0 R0 M0 P0
    go_upto_region 4 with fail
    refine wp_region_quiet (C := fun u => Below w4.heap.size w4 u) (by kernel_rfl) (by kernel_rfl) (Below.refl _ w4).drew ?_
    change wpQuiet _ _ _ _ (_ :: _) _
    repeat
      first
        | go_big_quiet_skip
        | go_big_quiet_want
          first
            | refine quiet_v ?_ ?_ ?_
              rotate_left
              · intro u hu
                obtain ⟨r0, r1, r2⟩ := (R4.later hu).cells
                go_simp
                with_reducible rfl
            | refine quiet_c (.bool false) 49 #[.agg #[.string lo, .string hi, .bool e]] ?_ (fun u hu => (HY.out u).mono fun x u' h => ⟨h.1, hu.trans (h.2.mono hu.size)⟩) ?_
              · intro u hu
                go_simp
                done
            | refine quiet_c (.agg #[.string a, .string O1, .bool O2]) 62 #[.string a] ?_ (fun u hu => (HO.out u).mono fun x u' h => ⟨h.1, hu.trans (h.2.mono hu.size)⟩) ?_
              · intro u hu
                go_simp
                done
            | refine quiet_c (.bool false) 61 #[.agg #[.string lo, .string hi, .bool e], .agg #[.string a, .string O1, .bool O2]] ?_ (fun u hu => (HI.out u).mono fun x u' h => ⟨h.1, hu.trans (h.2.mono hu.size)⟩) ?_
              · intro u hu
                go_simp
                done
          go_simp
          go_big_quiet_on
    refine wpQuiet_nil (fun u hu => ?_)
    have M5 := M4.later hu
    have P5 := P4.later hu
    have N5 := N4.later hu
    have R5 := R4.later hu
    have hs5 := hu.size
    have hb5 := hb4.trans (hu.mono (by omega))
    clear M4 P4 N4 R4 hu hb4
    obtain ⟨z0, z1, z2, z3, z4⟩ := M5.cells
    obtain ⟨q0, q1, q2, q3, q4⟩ := P5.cells
    have f := M5.free
    have f0 := f 0
    have f1 := f 1
    have f2 := f 2
    have f3 := f 3
    have f4 := f 4
    clear f
    have hb9 := below_five hb5 (show k0 ≤ k2 by omega) (.bool false) (.slice none 0 0) (.slice none 0 0) (.slice none 0 0) (.slice none 0 0)
    go_wp2_with fail
    refine bodyPost_ret (v := .tuple #[.agg #[.bool false, .slice none 0 0, .slice none 0 0, .slice none 0 0, .slice none 0 0], .int .i64 1]) (by simp [results, Try.results37, go_sem, z0, z1, z2, z3, z4]) rfl ⟨?_, ?_⟩
    · exact say_none HE.out (by decide) rfl
    · rw [HQ0.out]; exact hb9
  case true =>
  rw [hH] at HI
  obtain rfl := HbE.out
  have hft : fitsT (rg lo hi e) a = true := by unfold fitsT; rw [hE, hH]; rfl
  clear hE hH
  obtain ⟨hz1, hz2⟩ := may_sizes hm
  have HE := hid (trimE_is hm hft)
  have HG := hid ((trimG_is (r := rg lo hi e) (a := a) hm).trans (show trimG n (rg lo hi e) a = ⟨n.leaf, psT n.ps (rg lo hi e) a, pvT n (rg lo hi e) a n.ks.length, ksT n (rg lo hi e) a n.ks.length, trimL n.bf (rg lo hi e) a⟩ from rfl))
  have HLo := hid (fun j hj ht h0 => lo_long (j := j) hm hft hj ht h0)
  have HIn := hid (fun k => in20 lo hi k e)
  have HCut := hid (fun (x : Pr) (hx : inP (rg lo hi e) x = true) => has_size (k := x.key) (s := a) (fits_all hft (show inR (rg lo hi e) x.key.data.toList = true from hx)))
  have HPx := hid (fun j x (hx : n.ps[j]? = some x) => psT_at (r := rg lo hi e) (a := a) hx)
  have HPl1 := hid (fun j => psT_le (n.ps.take j) (rg lo hi e) a)
  have HP1 := hid (show psT (n.ps.take n.ps.length) (rg lo hi e) a = psT n.ps (rg lo hi e) a by rw [List.take_length])
  have HP0' := hid (show psT (n.ps.take 0) (rg lo hi e) a = [] from rfl)
  have HLw := hid (fun (wr : World) (hb : Below w.heap.size w wr) => h.later hb)
  have HR := hid (fun (j : Nat) (hj : j < n.ks.length) (wr : World) (hb : Below w.heap.size w wr) => range61 n p j wr hf.l2 hf.l3 hj (h.later hb))
  have HTr := hid (fun (wr : World) (hb : Below w.heap.size w wr) => trim34 p.a4 p.c4 n.bf lo hi e a wr hf.l4 (h.h4.later hb) hz2 ha)
  have HSh := hid (fun (x : E) (hx : x ∈ n.ks) (wr : World) => join19 ⟨#[]⟩ a x.strip x.add wr (by decide) (by omega) (by have := (hz1 x hx).1; omega) (by have := (hz1 x hx).2; omega))
  have HSz := hid (fun (x : E) (hx : x ∈ n.ks) => strip_short (a := a) (hz1 x hx).1)
  have HKs := hid (fun j x (hx : n.ks[j]? = some x) => ksT_at (r := rg lo hi e) (a := a) hx)
  have HOk := hid (fun j x (hx : n.ks[j]? = some x) => okT_at (r := rg lo hi e) (a := a) hx)
  have HPv := hid (fun j (ht : tch n.pv (rg lo hi e) j = true) => pvT_case (a := a) ht)
  have HPn := hid (fun j (ht : tch n.pv (rg lo hi e) j = false) => pvT_not (a := a) ht)
  have HKl := hid (fun j => ksT_le n (rg lo hi e) a j)
  have HPl := hid (fun j => pvT_le n (rg lo hi e) a j)
  have HK0 := hid (show ksT n (rg lo hi e) a 0 = [] from rfl)
  have HP0 := hid (show pvT n (rg lo hi e) a 0 = [] from rfl)
  have HO0 := hid (show okT n (rg lo hi e) a 0 = true from rfl)
  have HTc := hid (fun j => (show tch n.pv (rg lo hi e) j = !emptyR (cutR (rg (loOf n.pv j) (hiOf n.pv j) (endOf n.pv j)) (rg lo hi e)) from rfl))
  have HOn := hid (fun i (hil : i < n.ks.length) (h : okT n (rg lo hi e) a (i + 1) = false) => (show okT n (rg lo hi e) a n.ks.length = false from by
    cases hq : okT n (rg lo hi e) a n.ks.length
    · rfl
    · rw [show okT n (rg lo hi e) a (i + 1) = true from upTo_mono hq (by omega)] at h; cases h))
  have hl1 := hf.l1
  have hl2 := hf.l2
  have hl3 := hf.l3
  have hl4 := hf.l4
  clear hf h hd hm hft hz1 hz2
  obtain ⟨KT, hKT⟩ : ∃ f : Nat → List E, (fun j => ksT n (rg lo hi e) a j) = f := ⟨_, rfl⟩
  obtain ⟨PT, hPT⟩ : ∃ f : Nat → List ByteArray, (fun j => pvT n (rg lo hi e) a j) = f := ⟨_, rfl⟩
  obtain ⟨OT, hOT⟩ : ∃ f : Nat → Bool, (fun j => okT n (rg lo hi e) a j) = f := ⟨_, rfl⟩
  obtain ⟨TC, hTC⟩ : ∃ f : Nat → Bool, (fun j => tch n.pv (rg lo hi e) j) = f := ⟨_, rfl⟩
  simp only [show ∀ j, ksT n (rg lo hi e) a j = KT j from fun j => congrFun hKT j, show ∀ j, pvT n (rg lo hi e) a j = PT j from fun j => congrFun hPT j, show ∀ j, okT n (rg lo hi e) a j = OT j from fun j => congrFun hOT j, show ∀ j, tch n.pv (rg lo hi e) j = TC j from fun j => congrFun hTC j] at HKs HOk HPv HPn HKl HPl HK0 HP0 HO0 HTc HOn HLo HE HG
  clear hKT hPT hOT hTC
  generalize trimL n.bf (rg lo hi e) a = TL at *
  generalize trimB n.bf (rg lo hi e) a = TB at *
  generalize psT n.ps (rg lo hi e) a = PS at *
  obtain ⟨N0, R0, M0, P0, hb0, hs0⟩ := four_boxes w (.bool n.leaf) (.slice p.a1 n.ps.length p.c1) (.slice p.a2 n.pv.length p.c2) (.slice p.a3 n.ks.length p.c3) (.slice p.a4 n.bf.length p.c4) (.string lo) (.string hi) (.bool e) (.bool false) (.slice none 0 0) (.slice none 0 0) (.slice none 0 0) (.slice none 0 0) (.bool false) (.slice none 0 0) (.slice none 0 0) (.slice none 0 0) (.slice none 0 0)
  obtain ⟨lB, ps, ws, ks, bf⟩ := n
  obtain ⟨a1, c1, a2, c2, a3, c3, a4, c4⟩ := p
  dsimp only [nv] at *
  generalize hn1 : ps.length = n1 at *
  generalize hn2 : ws.length = n2 at *
  generalize hn3 : ks.length = n3 at *
  generalize bf.length = n4 at *
  have HN1 := hid hn1
  have HN2 := hid hn2
  have HN3 := hid hn3
  clear hn1 hn2 hn3
  go_enter Try.func37, Try.ntmps37
  go_upto_region 2 with fail
  generalize (((w.alloc (.cells #[.bool lB, .slice a1 n1 c1, .slice a2 n2 c2, .slice a3 n3 c3, .slice a4 n4 c4] 27)).alloc (.cells #[.string lo, .string hi, .bool e] 29)).alloc (.cells #[.bool false, .slice none 0 0, .slice none 0 0, .slice none 0 0, .slice none 0 0] 27)).alloc (.cells #[.bool false, .slice none 0 0, .slice none 0 0, .slice none 0 0, .slice none 0 0] 27) = w3 at *
  generalize hk0 : w.heap.size = k0 at *
  generalize hk1 : k0 + 1 = k1 at *
  generalize hk2 : k1 + 1 = k2 at *
  generalize hk3 : k2 + 1 = k3 at *
  have HQ0 := hid hk0
  have HQ := hid (And.intro hk1 (And.intro hk2 hk3))
  clear hk0 hk1 hk2 hk3
  have hkk := HQ.out
  obtain ⟨m0, m1, m2, m3, m4⟩ := N0.cells
  go_wp2_with fail
  refine (HM.out _ hb0).mono ?_
  rintro x w4 ⟨rfl, hb4⟩
  have hs4 := hb4.size
  have N4 := N0.later hb4
  have R4 := R0.later hb4
  have M4 := M0.later hb4
  have P4 := P0.later hb4
  replace hb4 := hb0.trans (hb4.mono (by omega))
  clear HM m0 m1 m2 m3 m4 N0 R0 M0 P0
  go_upto_region 4 with fail
  refine wp_region_quiet (C := fun u => Below w4.heap.size w4 u) (by kernel_rfl) (by kernel_rfl) (Below.refl _ w4).drew ?_
  change wpQuiet _ _ _ _ (_ :: _) _
  repeat
    first
      | go_big_quiet_skip
      | go_big_quiet_want
        first
          | refine quiet_v ?_ ?_ ?_
            rotate_left
            · intro u hu
              obtain ⟨r0, r1, r2⟩ := (R4.later hu).cells
              go_simp
              with_reducible rfl
          | refine quiet_c (.bool false) 49 #[.agg #[.string lo, .string hi, .bool e]] ?_ (fun u hu => (HY.out u).mono fun x u' h => ⟨h.1, hu.trans (h.2.mono hu.size)⟩) ?_
            · intro u hu
              go_simp
              done
          | refine quiet_c (.agg #[.string a, .string O1, .bool O2]) 62 #[.string a] ?_ (fun u hu => (HO.out u).mono fun x u' h => ⟨h.1, hu.trans (h.2.mono hu.size)⟩) ?_
            · intro u hu
              go_simp
              done
          | refine quiet_c (.bool true) 61 #[.agg #[.string lo, .string hi, .bool e], .agg #[.string a, .string O1, .bool O2]] ?_ (fun u hu => (HI.out u).mono fun x u' h => ⟨h.1, hu.trans (h.2.mono hu.size)⟩) ?_
            · intro u hu
              go_simp
              done
        go_simp
        go_big_quiet_on
  refine wpQuiet_nil (fun u hu => ?_)
  have M5 := M4.later hu
  have P5 := P4.later hu
  have N5 := N4.later hu
  have R5 := R4.later hu
  have hs5 := hu.size
  have hb5 := hb4.trans (hu.mono (by omega))
  clear M4 P4 N4 R4 hu hb4
  obtain ⟨m0, m1, m2, m3, m4⟩ := N5.cells
  have Q0 := NBox.new u (.bool lB) (.slice none 0 0) (.slice none 0 0) (.slice none 0 0) (.slice none 0 0)
  have N6 := N5.alloc (.cells #[.bool lB, .slice none 0 0, .slice none 0 0, .slice none 0 0, .slice none 0 0] 27)
  have R6 := R5.alloc (.cells #[.bool lB, .slice none 0 0, .slice none 0 0, .slice none 0 0, .slice none 0 0] 27)
  have M6 := M5.alloc (.cells #[.bool lB, .slice none 0 0, .slice none 0 0, .slice none 0 0, .slice none 0 0] 27)
  have P6 := P5.alloc (.cells #[.bool lB, .slice none 0 0, .slice none 0 0, .slice none 0 0, .slice none 0 0] 27)
  have hb6 := hb5.alloc (show k0 ≤ u.heap.size by omega) (.cells #[.bool lB, .slice none 0 0, .slice none 0 0, .slice none 0 0, .slice none 0 0] 27)
  go_upto_region 7 with fail
  clear m0 m1 m2 m3 m4 N5 R5 M5 P5 hb5
  generalize hk4 : u.heap.size = k4 at *
  have HK4 := hid hk4
  clear hk4
  have hk34 : k3 < k4 := by omega
  clear hs5 hs4 HK4
  generalize u.alloc (.cells #[.bool lB, .slice none 0 0, .slice none 0 0, .slice none 0 0, .slice none 0 0] 27) = w6 at *
  obtain ⟨m0, m1, m2, m3, m4⟩ := N6.cells
  go_wp2_with fail
  clear m0 m1 m2 m3 m4
  go_loopw [40] (fun i wr => ∃ (j : Nat) (v : Value), j ≤ n1 ∧ i = .int .i64 j ∧ NBox wr k4 (.bool lB) v (.slice none 0 0) (.slice none 0 0) (.slice none 0 0) ∧ wr.ownsRow (k4 + 1) 64 2 v (psT (ps.take j) (rg lo hi e) a).length ((psT (ps.take j) (rg lo hi e) a).flatMap Pr.cells) ∧ Below k4 w6 wr) (fun i _ => n1 - (intOf i).toNat)
  case atStart => exact ⟨0, _, Nat.zero_le _, rfl, Q0, by rw [HP0'.out]; exact row_nil _ _ _ _, Below.refl _ _⟩
  case round =>
    obtain ⟨j, v, hj, rfl, P1, ho, hb⟩ := hrel
    have hPlt := P1.lt
    by_cases hlt : j < n1
    · have hlt' : j < ps.length := by rw [HN1.out]; exact hlt
      have hbw := hb6.trans (hb.mono (by omega))
      obtain ⟨b, off, hA, c0, c1'⟩ := (HLw.out wr hbw).h1.at hlt'
      dsimp only at hA
      subst hA
      obtain ⟨x, hx⟩ : ∃ x, ps[j]? = some x := ⟨_, List.getElem?_eq_getElem hlt'⟩
      have hxe : ps[j] = x := by rw [List.getElem?_eq_getElem hlt'] at hx; exact Option.some.inj hx
      rw [hxe] at c0 c1'
      have HSx := hid (HPx.out j x hx)
      have HXF := hid (HCut.out x)
      clear hx hxe
      have HLj := HPl1.out j
      rw [List.length_take, Nat.min_eq_left (Nat.le_of_lt hlt')] at HLj
      obtain ⟨l, hl'⟩ : ∃ l, psT (ps.take j) (rg lo hi e) a = l := ⟨_, rfl⟩
      rw [hl'] at HLj ho HSx
      clear hl'
      have B1 := PBox.new wr x
      have P2 := P1.alloc (.cells #[.string x.key, .string x.val] 64)
      have ho2 := World.ownsRow.alloc ho (.cells #[.string x.key, .string x.val] 64)
      have hb2 := hb.alloc (show k4 ≤ wr.heap.size by omega) (.cells #[.string x.key, .string x.val] 64)
      have HXin := HIn.out x.key
      have N7 := N6.below hb (by omega)
      obtain ⟨m0, m1, m2, m3, m4⟩ := N7.cells
      obtain ⟨xk, xv⟩ := x
      dsimp only at *
      go_upto_region 11 with fail
      clear c0 c1' m0 m1 m2 m3 m4 N7
      generalize hkp : wr.heap.size = kp at *
      clear hkp
      generalize wr.alloc (.cells #[.string xk, .string xv] 64) = w5 at *
      have R2 : Box w5 k1 (.string lo) (.string hi) (.bool e) := (hb2.block k1 (by omega)).trans R6
      obtain ⟨r0, r1, r2⟩ := R2.cells
      obtain ⟨d0, d1⟩ := B1.two
      dsimp only at d0 d1
      go_wp2_with fail
      refine (HXin _).mono ?_
      clear HXin r0 r1 r2 d0 d1 R2
      rintro x w7 ⟨rfl, hb7⟩
      have B6 := B1.later hb7
      have P7 := P2.later hb7
      have ho6 := row_later ho2 hb7
      have hk6 := B1.lt
      have hs6 := hb7.size
      replace hb7 := hb2.trans (hb7.mono (by omega))
      have HB := hid (show inP (rg lo hi e) ⟨xk, xv⟩ = inR (rg lo hi e) xk.data.toList from rfl)
      clear hb B1 P1 P2 ho ho2 hb2
      generalize inR (rg lo hi e) xk.data.toList = t at *
      cases t
      · go_wp2_with fail
        go_roundw
        case rel => exact ⟨j + 1, v, by omega, by go_num, P7, by rw [HSx.out, HB.out, if_neg (by simp)]; exact ho6, hb7⟩
        case measure => simp [intOf]; omega
      · have hle := HXF.out HB.out
        have hle' : (a.size : Int) ≤ (xk.size : Int) := by have h : a.size ≤ xk.size := hle; omega
        clear hle
        go_upto_region 12 with fail
        refine wp_region_until [(some 52, [], false), (some 53, [(0, 52)], false), (some 54, [], false), (some 55, [(2, 54)], false), (some 56, [], false), (some 57, [(4, 56)], false), (some 58, [(3, 55), (5, 57)], false), (some 59, [], false), (some 60, [(7, 59)], false), (some 61, [(6, 58), (8, 60)], false), (some 62, [(9, 61)], false), (some 63, [(1, 53), (10, 62)], true), (some 64, [], true), (none, [(12, 64), (11, 63)], false)]
          (fun i u => if i ≤ 11 then Below w7.heap.size w7 u else w7.grownBy u v.ownBlock) (fun i u u' => if i = 11 then u.grownBy u' v.ownBlock else Below u.heap.size u u')
          (fun i Y u => match i with | 0 => Y = .pointer (some ⟨k4, 1, none⟩) | 1 => Y = v ∧ u.ownsRow (k4 + 1) 64 2 v l.length (l.flatMap Pr.cells) | 2 => Y = .pointer (some ⟨kp, 0, none⟩) | 3 => Y = .string (Pr.mk xk xv).key | 4 => Y = .string a | 5 => Y = .int .i64 a.size | 6 => Y = .string (cutT a (Pr.mk xk xv).key) | 7 => Y = .pointer (some ⟨kp, 1, none⟩) | 8 => Y = .string (Pr.mk xk xv).val | 9 => Y = pv (cutP a (Pr.mk xk xv)) | 10 => ∃ g, Y = .slice (some ⟨g, 0, none⟩) 1 1 ∧ PBox u g (cutP a (Pr.mk xk xv)) | 11 => u.ownsRow (k4 + 1) 64 2 Y (l ++ [cutP a (Pr.mk xk xv)]).length ((l ++ [cutP a (Pr.mk xk xv)]).flatMap Pr.cells) | 12 => Y = .pointer (some ⟨k4, 1, none⟩) | _ => True)
          (by kernel_rfl) (by kernel_rfl) (fun j => ?_) (fun i j u u' hl hi hj hr => ?_) (fun i j v u u' hn h h' hv => ?_) [(some 52, [], false), (some 53, [(0, 52)], false), (some 54, [], false), (some 55, [(2, 54)], false), (some 56, [], false), (some 57, [(4, 56)], false), (some 58, [(3, 55), (5, 57)], false), (some 59, [], false), (some 60, [(7, 59)], false), (some 61, [(6, 58), (8, 60)], false), (some 62, [(9, 61)], false), (some 63, [(1, 53), (10, 62)], true), (some 64, [], true)] 13 rfl _ rfl rfl (by kernel_rfl) (by kernel_rfl) ⟨?_, ?_, ?_, ?_, ?_, ?_, ?_, ?_, ?_, ?_, ?_, ?_, ?_, trivial⟩ ?_
        · split
          · exact (Below.refl _ _).drew
          · exact below_grown _ (Below.refl _ _).drew
        · by_cases hia : i = 11
          · subst hia
            have hj2 : ¬ j ≤ 11 := by
              intro hle
              match j, hle, hl with
              | 0, _, hl => exact absurd hl (by decide)
              | 1, _, hl => exact absurd hl (by decide)
              | 2, _, hl => exact absurd hl (by decide)
              | 3, _, hl => exact absurd hl (by decide)
              | 4, _, hl => exact absurd hl (by decide)
              | 5, _, hl => exact absurd hl (by decide)
              | 6, _, hl => exact absurd hl (by decide)
              | 7, _, hl => exact absurd hl (by decide)
              | 8, _, hl => exact absurd hl (by decide)
              | 9, _, hl => exact absurd hl (by decide)
              | 10, _, hl => exact absurd hl (by decide)
              | 11, _, hl => exact absurd hl (by decide)
              | n + 12, hle, _ => omega
            rw [if_pos (Nat.le_refl _)] at hi
            rw [if_neg hj2] at hj ⊢
            rw [if_pos rfl] at hr
            exact grown_trans hj hr
          · rw [if_neg hia] at hr
            split at hj
            · rename_i hle; rw [if_pos hle]; exact hj.trans (hr.mono hj.size)
            · rename_i hle; rw [if_neg hle]; exact grown_trans hj (below_grown _ hr)
        · by_cases hia : i = 11
          · subst hia
            match j with
            | 0 => exact absurd hn (by decide)
            | 1 => exact absurd hn (by decide)
            | 2 => exact absurd hn (by decide)
            | 3 => exact absurd hn (by decide)
            | 4 => exact absurd hn (by decide)
            | 5 => exact absurd hn (by decide)
            | 6 => exact absurd hn (by decide)
            | 7 => exact absurd hn (by decide)
            | 8 => exact absurd hn (by decide)
            | 9 => exact absurd hn (by decide)
            | 10 => exact absurd hn (by decide)
            | 11 => exact absurd hn (by decide)
            | 12 => exact hv
            | _ + 13 => trivial
          · rw [if_neg hia] at h'
            match j with
            | 0 => exact hv
            | 1 => exact ⟨hv.1, row_later hv.2 h'⟩
            | 2 => exact hv
            | 3 => exact hv
            | 4 => exact hv
            | 5 => exact hv
            | 6 => exact hv
            | 7 => exact hv
            | 8 => exact hv
            | 9 => exact hv
            | 10 => obtain ⟨g, e1, e2⟩ := hv; exact ⟨g, e1, e2.later h'⟩
            | 11 => exact row_later hv h'
            | 12 => exact hv
            | _ + 13 => trivial
        · rintro u hu
          exact opYields_val _ (by kernel_rfl) (by go_simp) ⟨Below.refl _ _, rfl⟩
        · rintro u hu _ rfl
          replace hu : Below w7.heap.size w7 u := hu
          obtain ⟨m0, m1, m2, m3, m4⟩ := (P7.later hu).cells
          exact opYields_val v (by kernel_rfl) (by go_simp) ⟨Below.refl _ _, rfl, row_later ho6 hu⟩
        · rintro u hu
          exact opYields_val _ (by kernel_rfl) (by go_simp) ⟨Below.refl _ _, rfl⟩
        · rintro u hu _ rfl
          replace hu : Below w7.heap.size w7 u := hu
          obtain ⟨m0, m1⟩ := (B6.later hu).two
          exact opYields_val (.string (Pr.mk xk xv).key) (by kernel_rfl) (by go_simp) ⟨Below.refl _ _, rfl⟩
        · rintro u hu
          exact opYields_val _ (by kernel_rfl) (by go_simp) ⟨Below.refl _ _, rfl⟩
        · rintro u hu _ rfl
          exact opYields_val (.int .i64 a.size) (by kernel_rfl) (by go_simp) ⟨Below.refl _ _, rfl⟩
        · rintro u hu _ rfl _ rfl
          exact opYields_val (.string (cutT a (Pr.mk xk xv).key)) (by kernel_rfl) (by unfold cutT; go_simp) ⟨Below.refl _ _, rfl⟩
        · rintro u hu
          exact opYields_val _ (by kernel_rfl) (by go_simp) ⟨Below.refl _ _, rfl⟩
        · rintro u hu _ rfl
          replace hu : Below w7.heap.size w7 u := hu
          obtain ⟨m0, m1⟩ := (B6.later hu).two
          exact opYields_val (.string (Pr.mk xk xv).val) (by kernel_rfl) (by go_simp) ⟨Below.refl _ _, rfl⟩
        · rintro u hu _ rfl _ rfl
          exact opYields_val (pv (cutP a (Pr.mk xk xv))) (by kernel_rfl) (by unfold cutP; go_simp) ⟨Below.refl _ _, rfl⟩
        · rintro u hu _ rfl
          exact opYields_val (.slice (some ⟨u.heap.size, 0, none⟩) 1 1) (u' := u.alloc (.cells #[.string (cutP a (Pr.mk xk xv)).key, .string (cutP a (Pr.mk xk xv)).val] 64)) (by kernel_rfl) (by go_simp) ⟨below_box _ _, _, rfl, PBox.new u _⟩
        · rintro u hu _ ⟨rfl, h1⟩ _ ⟨g, rfl, hg⟩
          replace hu : Below w7.heap.size w7 u := hu
          exact yOne Pr.cells 2 32 22 64 _ (by omega) (fun _ => rfl) Try.underlying22 info64 rfl (by omega) oneP (by kernel_rfl) (.tmp 53) (.tmp 62) rfl (k4 + 1) _ l rfl h1 (cutP a (Pr.mk xk xv)) g rfl hg.each (by omega) (by have := hu.size; omega) fun v' w' h2 h3 => ⟨h3, h2⟩
        · rintro u hu
          exact opYields_val _ (by kernel_rfl) (by go_simp) ⟨Below.refl _ _, rfl⟩
        · intro u hu x0 x1 x2 x3 x4 x5 x6 x7 x8 x9 x10 x11 e11 x12 e12
          replace hu : w7.grownBy u v.ownBlock := hu
          replace e12 : x12 = .pointer (some ⟨k4, 1, none⟩) := e12
          replace e11 : u.ownsRow (k4 + 1) 64 2 x11 (l ++ [cutP a (Pr.mk xk xv)]).length ((l ++ [cutP a (Pr.mk xk xv)]).flatMap Pr.cells) := e11
          subst e12
          obtain ⟨b1, d1, q1, rfl⟩ := row_slice e11
          have P8 := P7.kept hu (row_ge ho6 (Nat.lt_succ_self k4))
          have f1 := P8.free 1
          obtain ⟨y0, y1, y2, y3, y4⟩ := P8.cells
          refine Puts.mk (u.setCell ⟨k4, 1, none⟩ (.slice b1 d1 q1)) (by kernel_rfl) (by go_simp) ?_
          have P9 := P8.put1 (.slice b1 d1 q1)
          have ho8 := row_set (i := 1) (u := .slice b1 d1 q1) e11 (Nat.lt_succ_self k4)
          have hb8 : Below k4 w6 (u.setCell ⟨k4, 1, none⟩ (.slice b1 d1 q1)) := (hb7.grown hu (by have := P7.lt; omega) fun k hk => by have := (World.ownsRow.lt ho6 k hk).1; omega).setCell (p := ⟨k4, 1, none⟩) (Nat.le_refl _) _
          simp only [Act.put, List.setIfInBounds_toArray, List.set_cons_zero, List.set_cons_succ]
          clear f1 P8 e11 hu y0 y1 y2 y3 y4
          generalize u.setCell ⟨k4, 1, none⟩ (.slice b1 d1 q1) = u8 at *
          go_wp2_with fail
          go_roundw
          case rel => exact ⟨j + 1, _, by omega, by go_num, P9, by rw [HSx.out, HB.out, if_pos rfl]; exact ho8, hb8⟩
          case measure => simp [intOf]; omega
    · obtain rfl : j = n1 := by omega
      have hTT := HP1.out
      rw [hTT] at ho
      have hb6b := hb6.trans (hb.mono (by omega))
      have N8 := N6.below hb (by omega)
      have R8 : Box wr k1 (.string lo) (.string hi) (.bool e) := (hb.block k1 (by omega)).trans R6
      have M8 := M6.below hb (by omega)
      have Z8 := P6.below hb (by omega)
      clear HP1 HPx HPl1 HIn HCut HP0' hb N6 R6 M6 P6 hb6 Q0
      obtain ⟨v1a, v1d, v1c, rfl⟩ := row_slice ho
      obtain ⟨m0, m1, m2, m3, m4⟩ := N8.cells
      generalize hwb : wr = wb at *
      have HWB := hid hwb
      clear hwb
      go_wp2_with fail
      clear m0 m1 m2 m3 m4
      go_loopw [69] (fun i wr => ∃ (j : Nat) (y2 y3 : Value), j ≤ n3 ∧ i = .int .i64 j ∧ NBox wr k4 (.bool lB) (.slice v1a v1d v1c) y2 y3 (.slice none 0 0) ∧ wr.ownsRow (k4 + 1) 64 2 (.slice v1a v1d v1c) PS.length (PS.flatMap Pr.cells) ∧ wr.ownsRow (k4 + 1) 9 1 y2 (PT j).length ((PT j).flatMap tcell) ∧ wr.ownsRow (k4 + 1) 72 4 y3 (KT j).length ((KT j).flatMap E.cells) ∧ Hid (OT j = true) ∧ Below k4 wb wr) (fun i _ => n3 - (intOf i).toNat)
      case atStart => exact ⟨0, _, _, Nat.zero_le _, rfl, P1, ho, by rw [HP0.out]; exact row_nil _ _ _ _, by rw [HK0.out]; exact row_nil _ _ _ _, HO0, Below.refl _ _⟩
      case round =>
        clear P1 ho hPlt
        obtain ⟨j, y2, y3, hj, rfl, P1, ho1, ho2, ho3, hok, hb⟩ := hrel
        have hPlt := P1.lt
        by_cases hlt : j < n3
        · have hlt' : j < ks.length := by rw [HN3.out]; exact hlt
          have hbw := hb6b.trans (hb.mono (by omega))
          obtain ⟨b, off, hA, c0, c1', c2', c3'⟩ := (HLw.out wr hbw).h3.at hlt'
          dsimp only at hA
          subst hA
          obtain ⟨x, hx⟩ : ∃ x, ks[j]? = some x := ⟨_, List.getElem?_eq_getElem hlt'⟩
          have hxe : ks[j] = x := by rw [List.getElem?_eq_getElem hlt'] at hx; exact Option.some.inj hx
          rw [hxe] at c0 c1' c2' c3'
          have hxm : x ∈ ks := by rw [← hxe]; exact List.getElem_mem hlt'
          have HKj := hid (HKs.out j x hx)
          have HOj := hid (HOk.out j x hx)
          have HSj := hid (HSh.out x hxm)
          have HSzj := HSz.out x hxm
          have HRj := hid (fun wr hb => HR.out j hlt wr hb)
          have HLoj := hid (fun ht h0 => HLo.out j hlt ht h0)
          have HCj := hid (cut26 (loOf ws j) (hiOf ws j) (endOf ws j) lo hi e)
          have HEj := hid (empty28 (str (cutR (rg (loOf ws j) (hiOf ws j) (endOf ws j)) (rg lo hi e)).lo) (str (cutR (rg (loOf ws j) (hiOf ws j) (endOf ws j)) (rg lo hi e)).hi) (cutR (rg (loOf ws j) (hiOf ws j) (endOf ws j)) (rg lo hi e)).e)
          rw [show rg (str (cutR (rg (loOf ws j) (hiOf ws j) (endOf ws j)) (rg lo hi e)).lo) (str (cutR (rg (loOf ws j) (hiOf ws j) (endOf ws j)) (rg lo hi e)).hi) (cutR (rg (loOf ws j) (hiOf ws j) (endOf ws j)) (rg lo hi e)).e = cutR (rg (loOf ws j) (hiOf ws j) (endOf ws j)) (rg lo hi e) from rfl] at HEj
          have HTj := hid (HTc.out j)
          unfold rv at HCj
          generalize emptyR (cutR (rg (loOf ws j) (hiOf ws j) (endOf ws j)) (rg lo hi e)) = bE at *
          generalize str (cutR (rg (loOf ws j) (hiOf ws j) (endOf ws j)) (rg lo hi e)).lo = C0 at *
          generalize str (cutR (rg (loOf ws j) (hiOf ws j) (endOf ws j)) (rg lo hi e)).hi = C1 at *
          generalize (cutR (rg (loOf ws j) (hiOf ws j) (endOf ws j)) (rg lo hi e)).e = C2 at *
          generalize loOf ws j = L0 at *
          generalize hiOf ws j = L1 at *
          generalize endOf ws j = L2 at *
          clear hx hxe hxm
          have HKlj := HKl.out j
          have HPlj := HPl.out j
          have B1 := EBox.new wr x
          have P2 := P1.alloc (.cells #[.int .u32 x.blk, .int .u16 x.deep, .string x.strip, .string x.add] 72)
          have hp1 := World.ownsRow.alloc ho1 (.cells #[.int .u32 x.blk, .int .u16 x.deep, .string x.strip, .string x.add] 72)
          have hp2 := World.ownsRow.alloc ho2 (.cells #[.int .u32 x.blk, .int .u16 x.deep, .string x.strip, .string x.add] 72)
          have hp3 := World.ownsRow.alloc ho3 (.cells #[.int .u32 x.blk, .int .u16 x.deep, .string x.strip, .string x.add] 72)
          have hlt2 : ∀ k, y2.ownBlock = some k → k < wr.heap.size := fun k hk => (World.ownsRow.lt ho2 k hk).2
          have hlt3 : ∀ k, y3.ownBlock = some k → k < wr.heap.size := fun k hk => (World.ownsRow.lt ho3 k hk).2
          have hb2 := hb.alloc (show k4 ≤ wr.heap.size by omega) (.cells #[.int .u32 x.blk, .int .u16 x.deep, .string x.strip, .string x.add] 72)
          have HEx := hid (show shK x a = ⟨x.blk, x.deep, joS (lshort x a), joA (lshort x a)⟩ from rfl)
          have HOx := hid (show okK x a = ((lshort x a).isSome && decide ((joA (lshort x a)).size ≤ 16)) from rfl)
          rw [show joinO (lf ⟨#[]⟩ a) (lf x.strip x.add) = lshort x a from rfl] at HSj
          generalize joS (lshort x a) = S at *
          generalize joA (lshort x a) = A at *
          generalize (lshort x a).isSome = o at *
          generalize shK x a = X' at *
          generalize okK x a = oK at *
          have N9 := N8.below hb (by omega)
          obtain ⟨m0, m1, m2, m3, m4⟩ := N9.cells
          obtain ⟨xb, xd, xs, xa⟩ := x
          dsimp only at *
          go_upto_region 18 with fail
          clear c0 c1' c2' c3' m0 m1 m2 m3 m4 N9
          generalize hkp : wr.heap.size = kp at *
          clear hkp
          generalize wr.alloc (.cells #[.int .u32 xb, .int .u16 xd, .string xs, .string xa] 72) = w5 at *
          have N9 := N8.below hb2 (by omega)
          have hs5 := hb2.size
          have hkp5 := B1.lt
          clear hbw hb P1 ho1 ho2 ho3
          obtain ⟨m0, m1, m2, m3, m4⟩ := N9.cells
          go_wp2_with fail
          refine (HRj.out _ (hb6b.trans (hb2.mono (by omega)))).mono ?_
          rintro x w7 ⟨rfl, hb7⟩
          clear m0 m1 m2 m3 m4 N9 HRj
          have X4 := Box.new w7 (.string L0) (.string L1) (.bool L2)
          have B4 := (B1.later hb7).alloc (.cells #[.string L0, .string L1, .bool L2] 29)
          have P4 := (P2.later hb7).alloc (.cells #[.string L0, .string L1, .bool L2] 29)
          have hq1 := World.ownsRow.alloc (row_later hp1 hb7) (.cells #[.string L0, .string L1, .bool L2] 29)
          have hq2 := World.ownsRow.alloc (row_later hp2 hb7) (.cells #[.string L0, .string L1, .bool L2] 29)
          have hq3 := World.ownsRow.alloc (row_later hp3 hb7) (.cells #[.string L0, .string L1, .bool L2] 29)
          have hs7 := hb7.size
          have hkx : kp < w7.heap.size := by omega
          have hb4 := (hb2.trans (hb7.mono (by omega))).alloc (show k4 ≤ w7.heap.size by omega) (.cells #[.string L0, .string L1, .bool L2] 29)
          clear B1 P2 hp1 hp2 hp3 hb2 hb7
          go_upto_region 19 with fail
          generalize hkX : w7.heap.size = kX at *
          clear hkX
          generalize w7.alloc (.cells #[.string L0, .string L1, .bool L2] 29) = w8 at *
          have R9 : Box w8 k1 (.string lo) (.string hi) (.bool e) := (hb4.block k1 (by omega)).trans R8
          obtain ⟨r0, r1, r2⟩ := R9.cells
          obtain ⟨d0, d1, d2⟩ := X4.cells
          have hkX4 := X4.lt
          go_wp2_with fail
          refine (HCj.out _).mono ?_
          rintro x w9 ⟨rfl, hb9⟩
          have hs9 := hb9.size
          clear r0 r1 r2 d0 d1 d2 R9
          go_wp2_with fail
          refine (HEj.out _).mono ?_
          rintro x w10 ⟨rfl, hb10⟩
          have hs10 := hb10.size
          have hbu := hb9.trans (hb10.mono hs9)
          have X5 := X4.later hbu
          have B5 := B4.later hbu
          have P5 := P4.later hbu
          replace hq1 := row_later hq1 hbu
          replace hq2 := row_later hq2 hbu
          replace hq3 := row_later hq3 hbu
          have hb5 := hb4.trans (hbu.mono (by omega))
          clear X4 B4 P4 hb4 hb9 hb10 hbu HCj HEj
          cases bE
          case true =>
            have HPx := hid (HPn.out j HTj.out)
            go_wp2_with fail
            go_roundw
            case rel => exact ⟨j + 1, y2, y3, by omega, by go_num, P5, hq1, by rw [HPx.out]; exact hq2, by rw [HKj.out, HTj.out, if_neg (by simp)]; exact hq3, by unfold Hid; rw [HOj.out, hok.out, HTj.out]; rfl, hb5⟩
            case measure => simp [intOf]; omega
          case false =>
          obtain ⟨c0, c1', c2', c3'⟩ := B5.four
          simp only [Nat.zero_add] at c1' c2' c3'
          dsimp only at c0 c1' c2' c3'
          go_wp2_with fail
          refine (HSj.out _).mono ?_
          rintro x w11 ⟨rfl, hb11⟩
          clear c0 c1' c2' c3'
          have L6 := Pair.new w11 (.string S) (.string A)
          have X6 := (X5.later hb11).alloc (.cells #[.string S, .string A] 70)
          have B6 := (B5.later hb11).alloc (.cells #[.string S, .string A] 70)
          have P6 := (P5.later hb11).alloc (.cells #[.string S, .string A] 70)
          replace hq1 := World.ownsRow.alloc (row_later hq1 hb11) (.cells #[.string S, .string A] 70)
          replace hq2 := World.ownsRow.alloc (row_later hq2 hb11) (.cells #[.string S, .string A] 70)
          replace hq3 := World.ownsRow.alloc (row_later hq3 hb11) (.cells #[.string S, .string A] 70)
          have hs11 := hb11.size
          have hkl : kX < w11.heap.size := by omega
          have hb6 := (hb5.trans (hb11.mono (by omega))).alloc (show k4 ≤ w11.heap.size by omega) (.cells #[.string S, .string A] 70)
          clear X5 B5 P5 hb5 hb11 HSj
          go_upto_region 21 with fail
          generalize hkL : w11.heap.size = kL at *
          clear hkL
          generalize w11.alloc (.cells #[.string S, .string A] 70) = w12 at *
          have hs12 := hb6.size
          have hkL6 := L6.lt
          obtain ⟨l0, l1⟩ := L6.cells
          have hSz : ¬ (16 : Int) < (S.size : Int) := by omega
          cases o
          case false =>
            have HOn' := hid (HOn.out j hlt (by rw [HOj.out, hok.out, HTj.out, HOx.out]; rfl))
            have M9 := M8.below hb6 (by omega)
            have Z9 := Z8.below hb6 (by omega)
            obtain ⟨z0, z1, z2, z3, z4⟩ := M9.cells
            obtain ⟨g0, g1, g2, g3, g4⟩ := Z9.cells
            have f := M9.free
            have f0 := f 0
            have f1 := f 1
            have f2 := f 2
            have f3 := f 3
            have f4 := f 4
            clear f
            have hb9 := below_five (hb6b.trans (hb6.mono (by omega))) (show k0 ≤ k2 by omega) (.bool false) (.slice none 0 0) (.slice none 0 0) (.slice none 0 0) (.slice none 0 0)
            go_wp2_with fail
            refine bodyPost_ret (v := .tuple #[.agg #[.bool false, .slice none 0 0, .slice none 0 0, .slice none 0 0, .slice none 0 0], .int .i64 1]) (by simp [results, Try.results37, go_sem, z0, z1, z2, z3, z4]) rfl ⟨?_, ?_⟩
            · exact say_none (by rw [HE.out, HOn'.out]; rfl) (by decide) rfl
            · rw [HQ0.out]; exact hb9
          case true =>
          by_cases h16 : A.size ≤ 16
          case neg =>
            have HOn' := hid (HOn.out j hlt (by rw [HOj.out, hok.out, HTj.out, HOx.out, decide_eq_false h16]; rfl))
            have h16' : (16 : Int) < (A.size : Int) := by omega
            clear h16
            have M9 := M8.below hb6 (by omega)
            have Z9 := Z8.below hb6 (by omega)
            obtain ⟨z0, z1, z2, z3, z4⟩ := M9.cells
            obtain ⟨g0, g1, g2, g3, g4⟩ := Z9.cells
            have f := M9.free
            have f0 := f 0
            have f1 := f 1
            have f2 := f 2
            have f3 := f 3
            have f4 := f 4
            clear f
            have hb9 := below_five (hb6b.trans (hb6.mono (by omega))) (show k0 ≤ k2 by omega) (.bool false) (.slice none 0 0) (.slice none 0 0) (.slice none 0 0) (.slice none 0 0)
            go_wp2_with fail
            refine bodyPost_ret (v := .tuple #[.agg #[.bool false, .slice none 0 0, .slice none 0 0, .slice none 0 0, .slice none 0 0], .int .i64 1]) (by simp [results, Try.results37, go_sem, z0, z1, z2, z3, z4]) rfl ⟨?_, ?_⟩
            · exact say_none (by rw [HE.out, HOn'.out]; rfl) (by decide) rfl
            · rw [HQ0.out]; exact hb9
          case pos =>
          have HO1 := hid (show OT (j + 1) = true from by rw [HOj.out, hok.out, HTj.out, HOx.out, decide_eq_true h16]; rfl)
          have h16' : ¬ (16 : Int) < (A.size : Int) := by omega
          have HPx := hid (HPv.out j HTj.out)
          have HKx := hid (show KT (j + 1) = KT j ++ [X'] from by rw [HKj.out, HTj.out]; rfl)
          clear h16 HOj hok HOx HSzj
          obtain ⟨b3, d3, q3, rfl⟩ := row_slice hq3
          have hd3 : d3 = (KT j).length := row_len hq3
          subst hd3
          obtain ⟨p0, p1, p2, p3, p4⟩ := P6.cells
          by_cases h0 : 0 < (KT j).length
          case neg =>
            have HPy := hid (show PT (j + 1) = PT j from by rw [HPx.out, if_neg h0])
            have hd : decide ((0 : Int) < ((KT j).length : Int)) = false := by rw [decide_eq_false_iff_not]; omega
            have hd' : decide (0 < (KT j).length) = false := by rw [decide_eq_false_iff_not]; omega
            clear h0
            go_upto_region 25 with fail
            clear hd hd'
            obtain ⟨e0, e1, e2, e3⟩ := B6.four
            simp only [Nat.zero_add] at e1 e2 e3
            dsimp only at e0 e1 e2 e3
            have f2 := B6.free 2
            have f3 := B6.free 3
            obtain ⟨l0, l1⟩ := L6.cells
            have B5 := B6.lift S A
            have P5 := (P6.far (k' := kp) (i := 2) (u := .string S) (by omega)).far (k' := kp) (i := 3) (u := .string A) (by omega)
            have r3 := row_far (i := 3) (u := .string A) (row_far (i := 2) (u := .string S) hq3 (fun e => by have := hlt3 kp e.symm; omega)) (fun e => by have := hlt3 kp e.symm; omega)
            have r2 := row_type (i := 3) (u := .string A) (row_type (i := 2) (u := .string S) hq2 B6 (by decide)) (Go.Joins.block_setCell B6 (.string S)) (by decide)
            have r1 := row_type (i := 3) (u := .string A) (row_type (i := 2) (u := .string S) hq1 B6 (by decide)) (Go.Joins.block_setCell B6 (.string S)) (by decide)
            have hb5 := (hb6.setCell (p := ⟨kp, 2, none⟩) (show k4 ≤ kp by omega) (.string S)).setCell (p := ⟨kp, 3, none⟩) (show k4 ≤ kp by omega) (.string A)
            go_upto_region 26 with fail
            clear e0 e1 e2 e3 f2 f3 l0 l1 P6 B6 L6 hq1 hq2 hq3 hb6
            generalize ((w12.setCell ⟨kp, 2, none⟩ (.string S)).setCell ⟨kp, 3, none⟩ (.string A)) = w20 at *
            obtain ⟨p0, p1, p2, p3, p4⟩ := P5.cells
            obtain ⟨e0, e1, e2, e3⟩ := B5.four
            simp only [Nat.zero_add] at e1 e2 e3
            dsimp only at e0 e1 e2 e3
            have hC := (EBox.new w20 ⟨xb, xd, S, A⟩).each
            have r3' := World.ownsRow.alloc r3 (.cells #[.int .u32 xb, .int .u16 xd, .string S, .string A] 72)
            have r2' := World.ownsRow.alloc r2 (.cells #[.int .u32 xb, .int .u16 xd, .string S, .string A] 72)
            have r1' := World.ownsRow.alloc r1 (.cells #[.int .u32 xb, .int .u16 xd, .string S, .string A] 72)
            have P6' := P5.alloc (.cells #[.int .u32 xb, .int .u16 xd, .string S, .string A] 72)
            have hb6' := hb5.alloc (show k4 ≤ w20.heap.size by have := P5.lt; omega) (.cells #[.int .u32 xb, .int .u16 xd, .string S, .string A] 72)
            have hlt10 := P5.lt
            clear r1 r2 r3 hb5
            go_wp2_with (first | (at_builtin; refine appOne E.cells 4 40 24 72 _ (by omega) (fun _ => rfl) Try.underlying24 info72 rfl (by omega) oneE rfl _ _ rfl (k4 + 1) _ (KT j) rfl r3' ⟨xb, xd, S, A⟩ w20.heap.size rfl hC (by omega) (by simp; omega) ?_; intro v' w21 h1 h2; obtain ⟨g5, n5, q5, rfl⟩ := row_slice h1; have P7 := P6'.kept h2 (row_ge r3' (Nat.lt_succ_self k4)); have s2 := row_kept r2' r3' (by decide) h2; have s1 := row_kept r1' r3' (by decide) h2; have hb7 := hb6'.grown h2 (by simp; omega) (fun k hk => by have := (World.ownsRow.lt r3' k hk).1; omega); clear p0 p1 p2 p3 p4 e0 e1 e2 e3 P6' P5 B5 r1' r2' r3' hb6' h2 hC; obtain ⟨p0, p1, p2, p3, p4⟩ := P7.cells; have f3 := P7.free 3) | fail)
            go_roundw
            case rel => exact ⟨j + 1, _, _, by omega, by go_num, P7.put3 _, row_set s1 (Nat.lt_succ_self k4), by rw [HPy.out]; exact row_set s2 (Nat.lt_succ_self k4), by rw [HKx.out, HEx.out]; exact row_set h1 (Nat.lt_succ_self k4), HO1, hb7.setCell (p := ⟨k4, 3, none⟩) (Nat.le_refl _) _⟩
            case measure => simp [intOf]; omega
          case pos =>
            obtain ⟨hal, hah⟩ := HLoj.out HTj.out h0
            have HPy := hid (show PT (j + 1) = PT j ++ [cutT a L0] from by rw [HPx.out, if_pos h0, hah])
            have hd : decide ((0 : Int) < ((KT j).length : Int)) = true := by rw [decide_eq_true_eq]; omega
            have hd' : decide (0 < (KT j).length) = true := by rw [decide_eq_true_eq]; exact h0
            have hal' : (a.size : Int) ≤ (L0.size : Int) := by omega
            have hPl8 := P6.lt
            clear h0 hah hal
            obtain ⟨n', c', q', hy2⟩ := row_slice hq2
            clear hy2
            go_upto_region 24 with fail
            clear hd hd' p0 p1 p2 p3 p4 l0 l1
            refine wp_region_until [(some 111, [], false), (some 112, [(0, 111)], false), (some 113, [], false), (some 114, [(2, 113)], false), (some 115, [], false), (some 116, [(4, 115)], false), (some 117, [(3, 114), (5, 116)], false), (some 118, [(6, 117)], false), (some 119, [(1, 112), (7, 118)], true), (some 120, [], true), (none, [(9, 120), (8, 119)], false)]
              (fun i u => if i ≤ 8 then Below w12.heap.size w12 u else w12.grownBy u y2.ownBlock) (fun i u u' => if i = 8 then u.grownBy u' y2.ownBlock else Below u.heap.size u u')
              (fun i Y u => match i with | 0 => Y = .pointer (some ⟨k4, 2, none⟩) | 1 => Y = y2 ∧ u.ownsRow (k4 + 1) 9 1 y2 (PT j).length ((PT j).flatMap tcell) | 2 => Y = .pointer (some ⟨kX, 0, none⟩) | 3 => Y = .string L0 | 4 => Y = .string a | 5 => Y = .int .i64 a.size | 6 => Y = .string (cutT a L0) | 7 => ∃ g, Y = .slice (some ⟨g, 0, none⟩) 1 1 ∧ OneCell u g (cutT a L0) | 8 => u.ownsRow (k4 + 1) 9 1 Y ((PT j) ++ [cutT a L0]).length (((PT j) ++ [cutT a L0]).flatMap tcell) | 9 => Y = .pointer (some ⟨k4, 2, none⟩) | _ => True)
              (by kernel_rfl) (by kernel_rfl) (fun j => ?_) (fun i j u u' hl hi hj hr => ?_) (fun i j v u u' hn h h' hv => ?_) [(some 111, [], false), (some 112, [(0, 111)], false), (some 113, [], false), (some 114, [(2, 113)], false), (some 115, [], false), (some 116, [(4, 115)], false), (some 117, [(3, 114), (5, 116)], false), (some 118, [(6, 117)], false), (some 119, [(1, 112), (7, 118)], true), (some 120, [], true)] 10 rfl _ rfl rfl (by kernel_rfl) (by kernel_rfl) ⟨?_, ?_, ?_, ?_, ?_, ?_, ?_, ?_, ?_, ?_, trivial⟩ ?_
            · split
              · exact (Below.refl _ _).drew
              · exact below_grown _ (Below.refl _ _).drew
            · by_cases hia : i = 8
              · subst hia
                have hj2 : ¬ j ≤ 8 := by
                  intro hle
                  match j, hle, hl with
                  | 0, _, hl => exact absurd hl (by decide)
                  | 1, _, hl => exact absurd hl (by decide)
                  | 2, _, hl => exact absurd hl (by decide)
                  | 3, _, hl => exact absurd hl (by decide)
                  | 4, _, hl => exact absurd hl (by decide)
                  | 5, _, hl => exact absurd hl (by decide)
                  | 6, _, hl => exact absurd hl (by decide)
                  | 7, _, hl => exact absurd hl (by decide)
                  | 8, _, hl => exact absurd hl (by decide)
                  | n + 9, hle, _ => omega
                rw [if_pos (Nat.le_refl _)] at hi
                rw [if_neg hj2] at hj ⊢
                rw [if_pos rfl] at hr
                exact grown_trans hj hr
              · rw [if_neg hia] at hr
                split at hj
                · rename_i hle; rw [if_pos hle]; exact hj.trans (hr.mono hj.size)
                · rename_i hle; rw [if_neg hle]; exact grown_trans hj (below_grown _ hr)
            · by_cases hia : i = 8
              · subst hia
                match j with
                | 0 => exact absurd hn (by decide)
                | 1 => exact absurd hn (by decide)
                | 2 => exact absurd hn (by decide)
                | 3 => exact absurd hn (by decide)
                | 4 => exact absurd hn (by decide)
                | 5 => exact absurd hn (by decide)
                | 6 => exact absurd hn (by decide)
                | 7 => exact absurd hn (by decide)
                | 8 => exact absurd hn (by decide)
                | 9 => exact hv
                | _ + 10 => trivial
              · rw [if_neg hia] at h'
                match j with
                | 0 => exact hv
                | 1 => exact ⟨hv.1, row_later hv.2 h'⟩
                | 2 => exact hv
                | 3 => exact hv
                | 4 => exact hv
                | 5 => exact hv
                | 6 => exact hv
                | 7 => obtain ⟨g, e1, e2⟩ := hv; exact ⟨g, e1, e2.later h'⟩
                | 8 => exact row_later hv h'
                | 9 => exact hv
                | _ + 10 => trivial
            · rintro u hu
              exact opYields_val _ (by kernel_rfl) (by go_simp) ⟨Below.refl _ _, rfl⟩
            · rintro u hu _ rfl
              replace hu : Below w12.heap.size w12 u := hu
              obtain ⟨m0, m1, m2, m3, m4⟩ := (P6.later hu).cells
              exact opYields_val y2 (by kernel_rfl) (by go_simp) ⟨Below.refl _ _, rfl, row_later hq2 hu⟩
            · rintro u hu
              exact opYields_val _ (by kernel_rfl) (by go_simp) ⟨Below.refl _ _, rfl⟩
            · rintro u hu _ rfl
              replace hu : Below w12.heap.size w12 u := hu
              obtain ⟨d0, d1, d2⟩ := (X6.later hu).cells
              exact opYields_val (.string L0) (by kernel_rfl) (by go_simp) ⟨Below.refl _ _, rfl⟩
            · rintro u hu
              exact opYields_val _ (by kernel_rfl) (by go_simp) ⟨Below.refl _ _, rfl⟩
            · rintro u hu _ rfl
              exact opYields_val (.int .i64 a.size) (by kernel_rfl) (by go_simp) ⟨Below.refl _ _, rfl⟩
            · rintro u hu _ rfl _ rfl
              exact opYields_val (.string (cutT a L0)) (by kernel_rfl) (by unfold cutT; go_simp) ⟨Below.refl _ _, rfl⟩
            · rintro u hu _ rfl
              exact opYields_val (.slice (some ⟨u.heap.size, 0, none⟩) 1 1) (u' := u.alloc (.cells #[.string (cutT a L0)] 9)) (by kernel_rfl) (by go_simp) ⟨below_box _ _, _, rfl, OneCell.new u _⟩
            · rintro u hu _ ⟨rfl, h1⟩ _ ⟨g, rfl, hg⟩
              replace hu : Below w12.heap.size w12 u := hu
              exact yOne tcell 1 16 23 9 _ (by omega) (fun _ => rfl) Try.underlying23 info9 rfl (by omega) oneT (by kernel_rfl) (.tmp 112) (.tmp 118) rfl (k4 + 1) _ (PT j) rfl h1 (cutT a L0) g rfl hg.each (by omega) (by have := hu.size; omega) fun v' w' h2 h3 => ⟨h3, h2⟩
            · rintro u hu
              exact opYields_val _ (by kernel_rfl) (by go_simp) ⟨Below.refl _ _, rfl⟩
            · intro u hu x0 x1 x2 x3 x4 x5 x6 x7 x8 e8 x9 e9
              replace hu : w12.grownBy u y2.ownBlock := hu
              replace e9 : x9 = .pointer (some ⟨k4, 2, none⟩) := e9
              replace e8 : u.ownsRow (k4 + 1) 9 1 x8 (PT j ++ [cutT a L0]).length ((PT j ++ [cutT a L0]).flatMap tcell) := e8
              subst e9
              obtain ⟨b1, d1, q1, rfl⟩ := row_slice e8
              have P7 := P6.kept hu (row_ge hq2 (Nat.lt_succ_self k4))
              have f2 := P7.free 2
              obtain ⟨y0, y1, y2'', y3, y4⟩ := P7.cells
              refine Puts.mk (u.setCell ⟨k4, 2, none⟩ (.slice b1 d1 q1)) (by kernel_rfl) (by go_simp) ?_
              have P8 := P7.put2 (.slice b1 d1 q1)
              have B8 := (B6.kept hu (fun e => by have := hlt2 kp e.symm; omega)).far (k' := k4) (i := 2) (u := .slice b1 d1 q1) (by omega)
              have L8 := (L6.kept hu (fun e => by have := hlt2 kL e.symm; omega)).far (k' := k4) (i := 2) (u := .slice b1 d1 q1) (by omega)
              have q2 := row_set (i := 2) (u := .slice b1 d1 q1) e8 (Nat.lt_succ_self k4)
              have q3 := row_set (i := 2) (u := .slice b1 d1 q1) (row_kept hq3 hq2 (by decide) hu) (Nat.lt_succ_self k4)
              have q1' := row_set (i := 2) (u := .slice b1 d1 q1) (row_kept hq1 hq2 (by decide) hu) (Nat.lt_succ_self k4)
              have hb8 : Below k4 wb (u.setCell ⟨k4, 2, none⟩ (.slice b1 d1 q1)) := (hb6.grown hu (by omega) fun k hk => by have := (World.ownsRow.lt hq2 k hk).1; omega).setCell (p := ⟨k4, 2, none⟩) (Nat.le_refl _) _
              simp only [Act.put, List.setIfInBounds_toArray, List.set_cons_zero, List.set_cons_succ]
              clear f2 P7 e8 hu y0 y1 y2'' y3 y4 P6 B6 L6 hq1 hq2 hq3 hb6 X6
              generalize u.setCell ⟨k4, 2, none⟩ (.slice b1 d1 q1) = u8 at *
              go_upto_region 25 with fail
              obtain ⟨e0, e1, e2, e3⟩ := B8.four
              simp only [Nat.zero_add] at e1 e2 e3
              dsimp only at e0 e1 e2 e3
              have f2 := B8.free 2
              have f3 := B8.free 3
              obtain ⟨l0, l1⟩ := L8.cells
              have B5 := B8.lift S A
              have P5 := (P8.far (k' := kp) (i := 2) (u := .string S) (by omega)).far (k' := kp) (i := 3) (u := .string A) (by omega)
              have r3 := row_far (i := 3) (u := .string A) (row_far (i := 2) (u := .string S) q3 (fun e => by have := hlt3 kp e.symm; omega)) (fun e => by have := hlt3 kp e.symm; omega)
              have r2 := row_type (i := 3) (u := .string A) (row_type (i := 2) (u := .string S) q2 B8 (by decide)) (Go.Joins.block_setCell B8 (.string S)) (by decide)
              have r1 := row_type (i := 3) (u := .string A) (row_type (i := 2) (u := .string S) q1' B8 (by decide)) (Go.Joins.block_setCell B8 (.string S)) (by decide)
              have hb5 := (hb8.setCell (p := ⟨kp, 2, none⟩) (show k4 ≤ kp by omega) (.string S)).setCell (p := ⟨kp, 3, none⟩) (show k4 ≤ kp by omega) (.string A)
              go_upto_region 26 with fail
              clear e0 e1 e2 e3 f2 f3 l0 l1 P8 B8 L8 q1' q2 q3 hb8
              generalize ((u8.setCell ⟨kp, 2, none⟩ (.string S)).setCell ⟨kp, 3, none⟩ (.string A)) = w20 at *
              obtain ⟨p0, p1, p2, p3, p4⟩ := P5.cells
              obtain ⟨e0, e1, e2, e3⟩ := B5.four
              simp only [Nat.zero_add] at e1 e2 e3
              dsimp only at e0 e1 e2 e3
              have hC := (EBox.new w20 ⟨xb, xd, S, A⟩).each
              have r3' := World.ownsRow.alloc r3 (.cells #[.int .u32 xb, .int .u16 xd, .string S, .string A] 72)
              have r2' := World.ownsRow.alloc r2 (.cells #[.int .u32 xb, .int .u16 xd, .string S, .string A] 72)
              have r1' := World.ownsRow.alloc r1 (.cells #[.int .u32 xb, .int .u16 xd, .string S, .string A] 72)
              have P6' := P5.alloc (.cells #[.int .u32 xb, .int .u16 xd, .string S, .string A] 72)
              have hb6' := hb5.alloc (show k4 ≤ w20.heap.size by have := P5.lt; omega) (.cells #[.int .u32 xb, .int .u16 xd, .string S, .string A] 72)
              have hlt10 := P5.lt
              clear r1 r2 r3 hb5
              go_wp2_with (first | (at_builtin; refine appOne E.cells 4 40 24 72 _ (by omega) (fun _ => rfl) Try.underlying24 info72 rfl (by omega) oneE rfl _ _ rfl (k4 + 1) _ (KT j) rfl r3' ⟨xb, xd, S, A⟩ w20.heap.size rfl hC (by omega) (by simp; omega) ?_; intro v' w21 h1 h2; obtain ⟨g5, n5, q5, rfl⟩ := row_slice h1; have P7 := P6'.kept h2 (row_ge r3' (Nat.lt_succ_self k4)); have s2 := row_kept r2' r3' (by decide) h2; have s1 := row_kept r1' r3' (by decide) h2; have hb7 := hb6'.grown h2 (by simp; omega) (fun k hk => by have := (World.ownsRow.lt r3' k hk).1; omega); clear p0 p1 p2 p3 p4 e0 e1 e2 e3 P6' P5 B5 r1' r2' r3' hb6' h2 hC; obtain ⟨p0, p1, p2, p3, p4⟩ := P7.cells; have f3 := P7.free 3) | fail)
              go_roundw
              case rel => exact ⟨j + 1, _, _, by omega, by go_num, P7.put3 _, row_set s1 (Nat.lt_succ_self k4), by rw [HPy.out]; exact row_set s2 (Nat.lt_succ_self k4), by rw [HKx.out, HEx.out]; exact row_set h1 (Nat.lt_succ_self k4), HO1, hb7.setCell (p := ⟨k4, 3, none⟩) (Nat.le_refl _) _⟩
              case measure => simp [intOf]; omega
        · obtain rfl : j = n3 := by omega
          have hbw := hb6b.trans (hb.mono (by omega))
          have N2 := N8.below hb (by omega)
          have R2 : Box wr k1 (.string lo) (.string hi) (.bool e) := (hb.block k1 (by omega)).trans R8
          obtain ⟨m0, m1, m2, m3, m4⟩ := N2.cells
          obtain ⟨r0, r1, r2⟩ := R2.cells
          go_wp2_with fail
          refine (HTr.out wr hbw).mono ?_
          rintro x w7 ⟨⟨hx1, hx2⟩, hb7⟩
          have P2 := P1.later hb7
          have q1 := row_later ho1 hb7
          have q2 := row_later ho2 hb7
          have q3 := row_later ho3 hb7
          have hs7 := hb7.size
          have hb8 := hb.trans (hb7.mono (by omega))
          clear m0 m1 m2 m3 m4 r0 r1 r2 N2 R2 ho1 ho2 ho3 hb
          have M2 := M8.below hb8 (by omega)
          have Z2 := Z8.below hb8 (by omega)
          obtain ⟨z0, z1, z2, z3, z4⟩ := M2.cells
          have f := M2.free
          have f0 := f 0
          have f1 := f 1
          have f2 := f 2
          have f3 := f 3
          have f4 := f 4
          clear f
          cases TB
          · obtain ⟨g, rfl⟩ := hx2 rfl
            clear hx1 hx2
            obtain ⟨g0, g1, g2, g3, g4⟩ := Z2.cells
            have hb5 := below_five (hb6b.trans (hb8.mono (by omega))) (show k0 ≤ k2 by omega) (.bool false) (.slice none 0 0) (.slice none 0 0) (.slice none 0 0) (.slice none 0 0)
            go_wp2_with fail
            refine bodyPost_ret (v := .tuple #[.agg #[.bool false, .slice none 0 0, .slice none 0 0, .slice none 0 0, .slice none 0 0], .int .i64 1]) (by simp [results, Try.results37, go_sem, z0, z1, z2, z3, z4]) rfl ⟨?_, ?_⟩
            · exact say_none (by rw [HE.out, Bool.and_false]; rfl) (by decide) rfl
            · rw [HQ0.out]; exact hb5
          · obtain ⟨v, rfl, q4⟩ := hx1 rfl
            clear hx1 hx2 Z2
            replace q4 : w7.ownsRow wr.heap.size 90 6 v TL.length (TL.flatMap M.cells) := q4
            obtain ⟨b4, d4, t4, rfl⟩ := row_slice q4
            obtain ⟨b2, d2, t2, rfl⟩ := row_slice q2
            obtain ⟨b3, d3, t3, rfl⟩ := row_slice q3
            have g4 := P2.free 4
            obtain ⟨p0, p1, p2, p3, p4⟩ := P2.cells
            have P3 := P2.put4 (.slice b4 d4 t4)
            have q1 := row_set (i := 4) (u := .slice b4 d4 t4) q1 (Nat.lt_succ_self k4)
            have q2 := row_set (i := 4) (u := .slice b4 d4 t4) q2 (Nat.lt_succ_self k4)
            have q3 := row_set (i := 4) (u := .slice b4 d4 t4) q3 (Nat.lt_succ_self k4)
            have q4 := row_set (i := 4) (u := .slice b4 d4 t4) q4 (show k4 < wr.heap.size by omega)
            have hb9 := hb8.setCell (p := ⟨k4, 4, none⟩) (Nat.le_refl _) (.slice b4 d4 t4)
            clear z0 z1 z2 z3 z4 f0 f1 f2 f3 f4
            go_upto_region 32 with fail
            clear p0 p1 p2 p3 p4 g4 hb8 P2 M2
            generalize w7.setCell ⟨k4, 4, none⟩ (.slice b4 d4 t4) = w9 at *
            have M2 := M8.below hb9 (by omega)
            obtain ⟨z0, z1, z2, z3, z4⟩ := M2.cells
            have f := M2.free
            have f0 := f 0
            have f1 := f 1
            have f2 := f 2
            have f3 := f 3
            have f4 := f 4
            clear f
            obtain ⟨p0, p1, p2, p3, p4⟩ := P3.cells
            have hb5 := below_five (hb6b.trans (hb9.mono (by omega))) (show k0 ≤ k2 by omega) (.bool lB) (.slice v1a v1d v1c) (.slice b2 d2 t2) (.slice b3 d3 t3) (.slice b4 d4 t4)
            have q1 := row_mono (row_five q1 (show k2 < k4 + 1 by omega) (y0 := .bool lB) (y1 := .slice v1a v1d v1c) (y2 := .slice b2 d2 t2) (y3 := .slice b3 d3 t3) (y4 := .slice b4 d4 t4)) (show k0 ≤ k4 + 1 by omega)
            have q2 := row_mono (row_five q2 (show k2 < k4 + 1 by omega) (y0 := .bool lB) (y1 := .slice v1a v1d v1c) (y2 := .slice b2 d2 t2) (y3 := .slice b3 d3 t3) (y4 := .slice b4 d4 t4)) (show k0 ≤ k4 + 1 by omega)
            have q3 := row_mono (row_five q3 (show k2 < k4 + 1 by omega) (y0 := .bool lB) (y1 := .slice v1a v1d v1c) (y2 := .slice b2 d2 t2) (y3 := .slice b3 d3 t3) (y4 := .slice b4 d4 t4)) (show k0 ≤ k4 + 1 by omega)
            have q4 := row_mono (row_five q4 (show k2 < wr.heap.size by omega) (y0 := .bool lB) (y1 := .slice v1a v1d v1c) (y2 := .slice b2 d2 t2) (y3 := .slice b3 d3 t3) (y4 := .slice b4 d4 t4)) (show k0 ≤ wr.heap.size by omega)
            go_wp2_with fail
            refine bodyPost_ret (v := .tuple #[.agg #[.bool lB, .slice v1a v1d v1c, .slice b2 d2 t2, .slice b3 d3 t3, .slice b4 d4 t4], .int .i64 0]) (by simp [results, Try.results37, go_sem, z0, z1, z2, z3, z4]) rfl ⟨?_, ?_⟩
            · exact say_some (B := k0) (by rw [HE.out, hok.out]; rfl) HG.out rfl ⟨q1, q2, q3, q4⟩ (by rw [HQ0.out]; exact Nat.le_refl _)
            · rw [HQ0.out]; exact hb5
end Go.Proofs.Ytlkcoaencliajaa.Key
