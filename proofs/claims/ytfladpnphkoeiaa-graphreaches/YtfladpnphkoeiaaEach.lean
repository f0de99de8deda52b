/-
  Contract of eachName, at Counts' closure.
-/
import Derived.Test.YtfladpnphkoeiaaNames
namespace Go.Proofs.Ytfladpnphkoeiaa.Key
open Go.RowKit
set_option linter.unusedVariables false
set_option linter.unusedSimpArgs false

/-- a map that counts, behind a captured variable; a row beside it -/
def CW (w0 : World) (B k cb : Nat) (s : St) (r : Option Nat) (wr : World) : Prop :=
  (∃ kv vv, UMap wr B k kv vv s.1 s.2 ∧ ∀ g, (r = some g ∨ g = cb) → kv.ownBlock ≠ some g ∧ vv.ownBlock ≠ some g) ∧ wr.heap[cb]? = some (.cells #[.pointer (some ⟨k, 0, none⟩)] 72 (0, 0)) ∧ cb ≠ k ∧ Below B w0 wr
theorem CW.below {w0 : World} {B k cb : Nat} {s : St} {r : Option Nat} {wr : World} (h : CW w0 B k cb s r wr) : Below B w0 wr := h.2.2.2
theorem CW.big {w0 : World} {B k cb : Nat} {s : St} {r : Option Nat} {wr : World} (h : CW w0 B k cb s r wr) : B ≤ wr.heap.size := by
  obtain ⟨⟨kv, vv, hm, _⟩, _⟩ := h
  have := hm.lt
  have := hm.above
  omega
theorem CW.later {w0 : World} {B k cb : Nat} {s : St} {r : Option Nat} {wr w' : World} (h : CW w0 B k cb s r wr) (hb : Below wr.heap.size wr w') : CW w0 B k cb s r w' := by
  have hB := h.big
  obtain ⟨⟨kv, vv, hm, hf⟩, hc, hk, hbl⟩ := h
  exact ⟨⟨kv, vv, hm.later hb, hf⟩, (hb.block cb (Array.getElem?_eq_some_iff.1 hc).1).trans hc, hk, hbl.trans (hb.mono hB)⟩
theorem CW.alloc {w0 : World} {B k cb : Nat} {s : St} {r : Option Nat} {wr : World} (h : CW w0 B k cb s r wr) (o : Obj) : CW w0 B k cb s r (wr.alloc o) := h.later (below_box wr o)
/-- a row that is new -/
theorem CW.fresh {w0 : World} {B k cb : Nat} {s : St} {wr w' : World} (h : CW w0 B k cb s none wr) (hb : Below wr.heap.size wr w') {r : Option Nat} (hr : ∀ g, r = some g → wr.heap.size ≤ g) : CW w0 B k cb s r w' := by
  obtain ⟨⟨kv, vv, hm, hf⟩, hc, hk, hbl⟩ := h.later hb
  obtain ⟨⟨kv0, vv0, hm0, hf0⟩, hc0, _, _⟩ := h
  refine ⟨⟨kv0, vv0, hm0.later hb, fun g hg => ?_⟩, hc, hk, hbl⟩
  rcases hg with hg | rfl
  · have := hr g hg
    refine ⟨fun e => ?_, fun e => ?_⟩
    · have := (World.ownsRow.lt hm0.keys g e).2; omega
    · have := (World.ownsRow.lt hm0.vals g e).2; omega
  · exact hf0 _ (.inr rfl)
theorem CW.lose {w0 : World} {B k cb : Nat} {s : St} {r : Option Nat} {wr : World} (h : CW w0 B k cb s r wr) : CW w0 B k cb s none wr := by
  obtain ⟨⟨kv, vv, hm, hf⟩, h2⟩ := h
  exact ⟨⟨kv, vv, hm, fun g hg => hf g (hg.elim (fun e => by cases e) .inr)⟩, h2⟩
theorem name_cw {w0 : World} {B k cb : Nat} {s : St} {r : Option Nat} {wr : World} (h : CW w0 B k cb s r wr) (hr : ∀ g, r = some g → g < wr.heap.size ∧ g ≠ k) (hl : s.1.length ≤ 10000) (hv : Vok s) (b t : Int) (ht : 0 ≤ t ∧ t ≤ 4294967295) :
    Calls Try.prog 34 #[.int .u32 b, .int .u32 t, .pointer (some ⟨cb, 0, none⟩)] wr fun e w' => (∃ v, e = .returned v) ∧ CW w0 B k cb (addC s b t) r w' ∧ ∀ g, r = some g → w'.heap[g]? = wr.heap[g]? := by
  obtain ⟨⟨kv, vv, hm, hf⟩, hc, hk, hbl⟩ := h
  refine (name34 cb B k kv vv s b t w0 wr hc hk (hf cb (.inr rfl)) hm hl hv ht hbl).mono ?_
  rintro e w' ⟨h1, ⟨kv', vv', hm', hfr⟩, hb'⟩
  have hcl : cb < wr.heap.size := (Array.getElem?_eq_some_iff.1 hc).1
  have hcf := hfr cb hcl hk (hf cb (.inr rfl)).1 (hf cb (.inr rfl)).2
  refine ⟨h1, ⟨⟨kv', vv', hm', fun g hg => ?_⟩, hcf.1.trans hc, hk, hb'⟩, fun g hg => (hfr g (hr g hg).1 (hr g hg).2 (hf g (.inl hg)).1 (hf g (.inl hg)).2).1⟩
  rcases hg with hg | rfl
  · exact (hfr g (hr g hg).1 (hr g hg).2 (hf g (.inl hg)).1 (hf g (.inl hg)).2).2
  · exact hcf.2

def rootsN (roots : List Vo) : List (Int × Int) := roots.map fun v => (v.blk, 1)
def targN (x : It) : List (Int × Int) := (targetsL x.nd).map fun b => (b, 1)
def pendN (pend : List Rf) : List (Int × Int) := pend.map fun x => (x.blk, x.n)
def namesL (l : List It) (roots : List Vo) (pend : List Rf) : List (Int × Int) := rootsN roots ++ l.flatMap targN ++ pendN pend
theorem cnt_take {p q : List (Int × Int)} {j : Nat} (h : j < q.length) : cnt (p ++ q.take (j + 1)) = addC (cnt (p ++ q.take j)) q[j].1 q[j].2 := by
  rw [List.take_succ_eq_append_getElem h, ← List.append_assoc, cnt_snoc]
theorem cnt_small (N : Nat) {p q : List (Int × Int)} (hp : ∃ r, p ++ r = q) (hq : q.length ≤ N) (h0 : ∀ x ∈ q, 0 ≤ x.2) : (cnt p).1.length ≤ N ∧ Vok (cnt p) := by
  obtain ⟨r, rfl⟩ := hp
  have := cnt_len p
  simp at hq
  exact ⟨by omega, cnt_ok p fun x hx => h0 x (by simp [hx])⟩
set_option maxRecDepth 100000 in
set_option maxHeartbeats 800000 in
theorem each33 (a ra pa : Option Addr) (c rc pc : Nat) (l : List It) (roots : List Vo) (pend : List Rf) (k cb : Nat) (w0 w : World) (hl : Fine l) (hr1 : roots.length ≤ 1000) (hp1 : pend.length ≤ 1000) (hpn : ∀ x ∈ pend, 0 ≤ x.n ∧ x.n ≤ 4294967295)
    (hN : (namesL l roots pend).length ≤ 10000) (hi : Items w0 a l) (hr : Vols w0 ra roots) (hp : Refs w0 pa pend) (h : CW w0 w0.heap.size k cb ([], []) none w) :
    Calls Try.prog 33 #[.slice a l.length c, .slice ra roots.length rc, .slice pa pend.length pc, .func (.func 34) #[] #[.pointer (some ⟨cb, 0, none⟩)]] w fun e w' => (∃ v, e = .returned v) ∧ CW w0 w0.heap.size k cb (cnt (namesL l roots pend)) none w' := by
  obtain ⟨hln, hin, hsm⟩ := hl
  have hpos : ∀ x ∈ namesL l roots pend, 0 ≤ x.2 := by
    intro x hx
    unfold namesL rootsN pendN at hx
    rcases List.mem_append.1 hx with hx | hx
    · rcases List.mem_append.1 hx with hx | hx
      · obtain ⟨y, _, rfl⟩ := List.mem_map.1 hx; simp
      · obtain ⟨y, _, hx⟩ := List.mem_flatMap.1 hx
        unfold targN at hx
        obtain ⟨z, _, rfl⟩ := List.mem_map.1 hx; simp
    · obtain ⟨y, hy, rfl⟩ := List.mem_map.1 hx
      exact (hpn y hy).1
  have HN := hid hN
  have HP := hid hpos
  have HI := hid hi
  have HR := hid hr
  have HPD := hid hp
  have HCW := hid h
  have HLN := hid (show roots.length = (rootsN roots).length by simp [rootsN])
  have HAT := hid (fun j (h : j < roots.length) => (show (rootsN roots)[j]'(by rw [← HLN.out]; exact h) = (roots[j].blk, 1) by simp [rootsN]))
  clear hN hpos hi hr hp h
  generalize hB : w0.heap.size = B at *
  obtain ⟨m1, HM1⟩ : ∃ m, Hid (roots.length = m) := ⟨_, hid rfl⟩
  obtain ⟨m2, HM2⟩ : ∃ m, Hid (l.length = m) := ⟨_, hid rfl⟩
  obtain ⟨m3, HM3⟩ : ∃ m, Hid (pend.length = m) := ⟨_, hid rfl⟩
  rw [HM1.out, HM2.out, HM3.out]
  rw [HM1.out] at hr1
  rw [HM2.out] at hln
  rw [HM3.out] at hp1
  go_enter Try.func33, Try.ntmps33
  go_wp2_with fail
  go_loopw [18] (fun i wr => ∃ j : Nat, j ≤ m1 ∧ i = .int .i64 j ∧ CW w0 B k cb (cnt ([] ++ (rootsN roots).take j)) none wr) (fun i _ => m1 - (intOf i).toNat)
  case atStart => exact ⟨0, Nat.zero_le _, rfl, by simpa [cnt] using HCW.out⟩
  case round =>
    obtain ⟨j, hj, rfl, hC⟩ := hrel
    by_cases hlt : j < m1
    · have hlt' : j < roots.length := by rw [HM1.out]; exact hlt
      have hst := cnt_take (p := []) (q := rootsN roots) (j := j) (by rw [← HLN.out]; exact hlt')
      rw [HAT.out j hlt'] at hst
      obtain ⟨hs1, hs2⟩ := cnt_small 10000 (p := [] ++ (rootsN roots).take j) (q := namesL l roots pend) ⟨(rootsN roots).drop j ++ (l.flatMap targN ++ pendN pend), by unfold namesL; rw [List.nil_append, ← List.append_assoc, List.take_append_drop, List.append_assoc]⟩ HN.out HP.out
      obtain ⟨b, off, rfl, h3⟩ := (HR.out.later (by rw [hB]; exact hC.below)).one hlt'
      obtain ⟨x, HX⟩ : ∃ m, Hid (roots[j] = m) := ⟨_, hid rfl⟩
      rw [HX.out] at h3 hst
      obtain ⟨nm, bk, dp⟩ := x
      obtain ⟨d0, d1, d2⟩ := h3
      dsimp only at d0 d1 d2 hst
      replace hst := hid hst
      generalize cnt ([] ++ (rootsN roots).take j) = s at *
      have HC := name_cw (hC.alloc (.cells #[.string nm, .int .u32 bk, .int .u16 dp] 56)) (fun g e => by cases e) hs1 hs2 bk 1 (by omega)
      have hx1 : (wr.alloc (.cells #[.string nm, .int .u32 bk, .int .u16 dp] 56)).cell? ⟨wr.heap.size, 1, none⟩ = some (.int .u32 bk) := cell_of_row _ _ 1 _ _ _ (Go.heap_alloc_new wr _)
      clear hC
      go_wp2_with fail
      refine HC.mono ?_
      rintro e w1 ⟨⟨v, rfl⟩, hC1, _⟩
      go_wp2_with fail
      go_roundw
      case rel => exact ⟨j + 1, by omega, by go_num, by rw [hst.out]; exact hC1⟩
      case measure => simp [intOf]; omega
    · obtain rfl : j = m1 := by omega
      rw [show [] ++ (rootsN roots).take j = rootsN roots by rw [List.nil_append, ← HM1.out, HLN.out, List.take_length]] at hC
      clear HLN HAT HR HM1 hlt hj
      go_wp2_with fail
      go_loopw [29] (fun i wr => ∃ q : Nat, q ≤ m2 ∧ i = .int .i64 q ∧ CW w0 B k cb (cnt (rootsN roots ++ (l.take q).flatMap targN)) none wr) (fun i _ => m2 - (intOf i).toNat)
      case atStart => exact ⟨0, Nat.zero_le _, rfl, by simpa using hC⟩
      case round =>
        clear hC
        obtain ⟨q, hq, rfl, hC⟩ := hrel
        by_cases hlt : q < m2
        · have hlt' : q < l.length := by rw [HM2.out]; exact hlt
          obtain ⟨b, off, rfl, h6, h7⟩ := (HI.out.later (by rw [hB]; exact hC.below)).at hlt'
          have hxs := hsm _ (List.getElem_mem hlt')
          have hnx : (l.take (q + 1)).flatMap targN = (l.take q).flatMap targN ++ targN l[q] := by rw [List.take_succ_eq_append_getElem hlt', List.flatMap_append]; simp
          have hpr : ∃ r, (rootsN roots ++ (l.take q).flatMap targN) ++ targN l[q] ++ r = namesL l roots pend := ⟨(l.drop (q + 1)).flatMap targN ++ pendN pend, by
            unfold namesL
            rw [List.append_assoc (rootsN roots), ← hnx, List.append_assoc, ← List.append_assoc ((l.take (q + 1)).flatMap targN), ← List.flatMap_append, List.take_append_drop, List.append_assoc]⟩
          obtain ⟨x, HX⟩ : ∃ m, Hid (l[q] = m) := ⟨_, hid rfl⟩
          rw [HX.out] at h6 h7 hxs hnx hpr
          replace hnx := hid (show cnt (rootsN roots ++ (l.take (q + 1)).flatMap targN) = cnt ((rootsN roots ++ (l.take q).flatMap targN) ++ targN x) by rw [hnx, List.append_assoc])
          generalize hP : rootsN roots ++ (l.take q).flatMap targN = P at *
          have HPR := hid hpr
          have hbx := below_box wr (.cells #[.int .u32 x.blk, .bool x.nd.leaf, .slice x.pl.a1 x.nd.ps.length x.pl.c1, .slice x.pl.a2 x.nd.pv.length x.pl.c2, .slice x.pl.a3 x.nd.ks.length x.pl.c3, .slice x.pl.a4 x.nd.bf.length x.pl.c4] 47)
          have HT := targets17 x.nd x.pl _ hxs.few (h7.later hbx)
          have X5 := I6.new wr (.int .u32 x.blk) (.bool x.nd.leaf) (.slice x.pl.a1 x.nd.ps.length x.pl.c1) (.slice x.pl.a2 x.nd.pv.length x.pl.c2) (.slice x.pl.a3 x.nd.ks.length x.pl.c3) (.slice x.pl.a4 x.nd.bf.length x.pl.c4)
          have hC5 := hC.later hbx
          have HTL := hid (show (targN x) = (targetsL x.nd).map fun b => (b, 1) from rfl)
          have htl : (targetsL x.nd).length ≤ 2000 := by
            have h1 := hxs.few.l3
            have h2 := hxs.few.l4
            have h3 := blocks_len x.nd.bf
            unfold targetsL
            simp
            omega
          generalize targetsL x.nd = T at *
          generalize targN x = TN at *
          obtain ⟨bk, ⟨lf, ps, pv, ks, bf⟩, ⟨a1, c1, a2, c2, a3, c3, a4, c4⟩⟩ := x
          obtain ⟨d0, d1, d2, d3, d4, d5⟩ := h6
          dsimp only [nv] at *
          clear h7 hxs hC hbx hP hpr
          generalize ps.length = n1 at *
          generalize pv.length = n2 at *
          generalize ks.length = n3 at *
          generalize bf.length = n4 at *
          obtain ⟨x0, x1, x2, x3, x4, x5⟩ := X5.c
          clear X5
          go_wp2_with fail
          refine HT.mono ?_
          rintro e w1 ⟨v, rfl, hv, hb1⟩
          have hvb : ∀ g, v.ownBlock = some g → (wr.alloc (.cells #[.int .u32 bk, .bool lf, .slice a1 n1 c1, .slice a2 n2 c2, .slice a3 n3 c3, .slice a4 n4 c4] 47)).heap.size ≤ g := fun g e => (World.ownsRow.lt hv g e).1
          have hC6 := hC5.fresh hb1 hvb
          have hgk : ∀ g, v.ownBlock = some g → g ≠ k := fun g e => by
            have h1 := hvb g e
            obtain ⟨⟨kv, vv, hm, _⟩, _⟩ := hC5
            have := hm.lt
            omega
          generalize (wr.alloc (.cells #[.int .u32 bk, .bool lf, .slice a1 n1 c1, .slice a2 n2 c2, .slice a3 n3 c3, .slice a4 n4 c4] 47)).heap.size = BB at *
          have hvf : ∃ va vc, v = .slice va T.length vc := by
            rcases hv.row with ⟨rfl, rfl⟩ | ⟨g, cap, cur, rfl, _⟩
            · exact ⟨_, _, rfl⟩
            · exact ⟨_, _, rfl⟩
          obtain ⟨va, vc, rfl⟩ := hvf
          obtain ⟨m4, HM4⟩ : ∃ m, Hid (T.length = m) := ⟨_, hid rfl⟩
          rw [HM4.out] at htl hv hC6 hgk hvb ⊢
          clear HT hC5 x0 x1 x2 x3 x4 x5 d0 d1 d2 d3 d4 d5
          go_wp2_with fail
          go_loopw [37] (fun i wr => ∃ t : Nat, t ≤ m4 ∧ i = .int .i64 t ∧ CW w0 B k cb (cnt (P ++ TN.take t)) (Value.slice va m4 vc).ownBlock wr ∧ OwnU wr BB (.slice va m4 vc) T) (fun i _ => m4 - (intOf i).toNat)
          case atStart => exact ⟨0, Nat.zero_le _, rfl, by simpa using hC6, hv⟩
          case round =>
            clear hC6 hv
            obtain ⟨t, ht, rfl, hC, hv⟩ := hrel
            by_cases hlt3 : t < m4
            · have hlt3' : t < TN.length := by rw [HTL.out, List.length_map, HM4.out]; exact hlt3
              have hst := cnt_take (p := P) (q := TN) (j := t) hlt3'
              have hat : TN[t] = (T.getD t 0, 1) := by
                have e : T.getD t 0 = T[t]'(by rw [HM4.out]; exact hlt3) := by simp [List.getD, List.getElem?_eq_getElem (show t < T.length by rw [HM4.out]; exact hlt3)]
                rw [e]
                simp only [HTL.out, List.getElem_map]
              rw [hat] at hst
              obtain ⟨hs1, hs2⟩ := cnt_small 10000 (p := P ++ TN.take t) (q := namesL l roots pend) (by
                obtain ⟨r, hr⟩ := HPR.out
                exact ⟨TN.drop t ++ r, by rw [← hr, ← List.append_assoc, List.append_assoc P, List.take_append_drop]⟩) HN.out HP.out
              obtain ⟨g, c', e, hcc⟩ := hv.at HM4.out hlt3
              simp only [Value.slice.injEq, true_and] at e
              obtain ⟨rfl, rfl⟩ := e
              dsimp only at hst
              replace hst := hid hst
              clear hat
              generalize T.getD t 0 = y at *
              generalize cnt (P ++ TN.take t) = s at *
              have HC := name_cw hC (fun g' e => ⟨(World.ownsRow.lt hv g' e).2, hgk g' e⟩) hs1 hs2 y 1 (by omega)
              clear hC
              go_wp2_with fail
              refine HC.mono ?_
              rintro e w2 ⟨⟨v, rfl⟩, hC1, hk1⟩
              have hv2 : OwnU w2 BB (.slice (some ⟨g, 0, none⟩) m4 vc) T := by
                refine ⟨hv.1, ?_⟩
                rcases hv.2 with h0 | ⟨g2, cap2, cur2, e2, hb2, hg2, r2⟩
                · exact .inl h0
                · have e3 := e2
                  simp only [Value.slice.injEq, Option.some.injEq, Addr.mk.injEq, and_true] at e3
                  exact .inr ⟨g2, cap2, cur2, e2, hb2, (by obtain ⟨rfl, _⟩ := e3; exact (hk1 _ rfl).trans hg2), r2⟩
              go_wp2_with fail
              go_roundw
              case rel => exact ⟨t + 1, by omega, by go_num, by rw [hst.out]; exact hC1, hv2⟩
              case measure => simp [intOf]; omega
            · obtain rfl : t = m4 := by omega
              have hfin : TN.take t = TN := by
                have : TN.length = t := by rw [HTL.out, List.length_map, HM4.out]
                rw [← this, List.take_length]
              rw [hfin] at hC
              go_wp2_with fail
              go_roundw
              case rel => exact ⟨q + 1, by omega, by go_num, by rw [hnx.out]; exact hC.lose⟩
              case measure => simp [intOf]; omega
        · obtain rfl : q = m2 := by omega
          rw [show l.take q = l by rw [← HM2.out, List.take_length]] at hC
          have HLP := hid (show pend.length = (pendN pend).length by simp [pendN])
          have HAT := hid (fun j (h : j < pend.length) => (show (pendN pend)[j]'(by rw [← HLP.out]; exact h) = (pend[j].blk, pend[j].n) by simp [pendN]))
          clear hlt hq
          go_wp2_with fail
          go_loopw [48] (fun i wr => ∃ t : Nat, t ≤ m3 ∧ i = .int .i64 t ∧ CW w0 B k cb (cnt (rootsN roots ++ l.flatMap targN ++ (pendN pend).take t)) none wr) (fun i _ => m3 - (intOf i).toNat)
          case atStart => exact ⟨0, Nat.zero_le _, rfl, by simpa using hC⟩
          case round =>
            clear hC
            obtain ⟨t, ht, rfl, hC⟩ := hrel
            by_cases hlt : t < m3
            · have hlt' : t < pend.length := by rw [HM3.out]; exact hlt
              have hst := cnt_take (p := rootsN roots ++ l.flatMap targN) (q := pendN pend) (j := t) (by rw [← HLP.out]; exact hlt')
              rw [HAT.out t hlt'] at hst
              obtain ⟨hs1, hs2⟩ := cnt_small 10000 (p := rootsN roots ++ l.flatMap targN ++ (pendN pend).take t) (q := namesL l roots pend) ⟨(pendN pend).drop t, by unfold namesL; rw [List.append_assoc, List.take_append_drop]⟩ HN.out HP.out
              obtain ⟨b, off, rfl, h3⟩ := (HPD.out.later (by rw [hB]; exact hC.below)).one hlt'
              have hxn := hpn _ (List.getElem_mem hlt')
              obtain ⟨x, HX⟩ : ∃ m, Hid (pend[t] = m) := ⟨_, hid rfl⟩
              rw [HX.out] at h3 hst hxn
              obtain ⟨bk, nn⟩ := x
              obtain ⟨d0, d1⟩ := h3
              dsimp only at d0 d1 hst hxn
              replace hst := hid hst
              generalize cnt (rootsN roots ++ l.flatMap targN ++ (pendN pend).take t) = s at *
              have HC := name_cw (hC.alloc (.cells #[.int .u32 bk, .int .u32 nn] 58)) (fun g e => by cases e) hs1 hs2 bk nn hxn
              have hx0 : (wr.alloc (.cells #[.int .u32 bk, .int .u32 nn] 58)).cell? ⟨wr.heap.size, 0, none⟩ = some (.int .u32 bk) := cell_of_row _ _ 0 _ _ _ (Go.heap_alloc_new wr _)
              have hx1 : (wr.alloc (.cells #[.int .u32 bk, .int .u32 nn] 58)).cell? ⟨wr.heap.size, 1, none⟩ = some (.int .u32 nn) := cell_of_row _ _ 1 _ _ _ (Go.heap_alloc_new wr _)
              clear hC
              go_wp2_with fail
              refine HC.mono ?_
              rintro e w1 ⟨⟨v, rfl⟩, hC1, _⟩
              go_wp2_with fail
              go_roundw
              case rel => exact ⟨t + 1, by omega, by go_num, by rw [hst.out]; exact hC1⟩
              case measure => simp [intOf]; omega
            · obtain rfl : t = m3 := by omega
              rw [show (pendN pend).take t = pendN pend by rw [← HM3.out, HLP.out, List.take_length]] at hC
              go_wp2_with fail
              go_end0
              exact ⟨⟨_, rfl⟩, hC⟩
end Go.Proofs.Ytfladpnphkoeiaa.Key
