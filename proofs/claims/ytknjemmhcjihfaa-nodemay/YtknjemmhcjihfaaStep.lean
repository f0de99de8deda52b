/-
  Contract of Step, the program's.
-/
import Derived.Test.YtknjemmhcjihfaaMayN
import Derived.Test.YtknjemmhcjihfaaBy
import Derived.Test.YtknjemmhcjihfaaKid
import Derived.Test.YtknjemmhcjihfaaLast
import Derived.Lib.SmallJoins
namespace Go.Proofs.Ytknjemmhcjihfaa.Key
open Go.RowKit Draw
open Go.Op (bytesLess)

theorem WBox.put {w : World} {k : Nat} {v0 v1 v2 v3 v4 : Value} (h : WBox w k v0 v1 v2 v3 v4) (y0 y1 y2 y3 y4 : Value) :
    WBox (((((w.setCell ⟨k, 0, none⟩ y0).setCell ⟨k, 1, none⟩ y1).setCell ⟨k, 2, none⟩ y2).setCell ⟨k, 3, none⟩ y3).setCell ⟨k, 4, none⟩ y4) k y0 y1 y2 y3 y4 :=
  Go.Joins.block_setCell (Go.Joins.block_setCell (Go.Joins.block_setCell (Go.Joins.block_setCell (Go.Joins.block_setCell h y0) y1) y2) y3) y4
theorem NBox.beside {w : World} {k k' : Nat} {v0 v1 v2 v3 v4 : Value} (h : NBox w k v0 v1 v2 v3 v4) (hne : k < k') (y0 y1 y2 y3 y4 : Value) :
    NBox (((((w.setCell ⟨k', 0, none⟩ y0).setCell ⟨k', 1, none⟩ y1).setCell ⟨k', 2, none⟩ y2).setCell ⟨k', 3, none⟩ y3).setCell ⟨k', 4, none⟩ y4) k v0 v1 v2 v3 v4 := by
  unfold NBox
  rw [Below.heap_setCell _ _ _ _ (Nat.ne_of_lt hne), Below.heap_setCell _ _ _ _ (Nat.ne_of_lt hne), Below.heap_setCell _ _ _ _ (Nat.ne_of_lt hne), Below.heap_setCell _ _ _ _ (Nat.ne_of_lt hne), Below.heap_setCell _ _ _ _ (Nat.ne_of_lt hne)]
  exact h
/-- sizes that a call goes through -/
structure Small (n : Nd) : Prop where
  few : Few n
  kb : ∀ m ∈ n.bf, m.key.size ≤ 1000
  ab : ∀ m ∈ n.bf, m.add.size ≤ 1000
  ae : ∀ e ∈ n.ks, e.add.size ≤ 1000
  db : ∀ m ∈ n.bf, 0 ≤ m.deep ∧ m.deep ≤ 65535
  de : ∀ e ∈ n.ks, 0 ≤ e.deep ∧ e.deep ≤ 65535
/-- where a key leads -/
def stepW (n : Nd) (k : List UInt8) : Wy :=
  if mayI n = 0 then
    if n.leaf then pairW n.ps k
    else if 0 ≤ lastI n.bf k then byM (n.bf.getD (lastI n.bf k).toNat M.nil) k
    else byE (n.ks.getD (kidC n.pv k) E.nil) k
  else noWay
theorem may_zero {n : Nd} (h : mayI n = 0) : fineB n = true := by
  unfold mayI at h
  cases hm : manyB n
  · rw [hm] at h
    cases hf : fineB n
    · rw [hf] at h; cases h
    · rfl
  · rw [hm] at h; cases h
theorem may_fork {n : Nd} (h : mayI n = 0) (hl : n.leaf = false) : n.pv.length + 1 = n.ks.length ∧ upTo (pivAt n.pv) n.pv.length = true := by
  have := may_zero h
  unfold fineB forkB at this
  rw [hl] at this
  simp only [Bool.false_eq_true, if_false, Bool.and_eq_true, beq_iff_eq] at this
  exact ⟨this.2.1, this.2.2.1⟩
theorem lastP_lt (l : List M) (k : List UInt8) : ∀ n, lastP l k n < (n : Int) ∧ -1 ≤ lastP l k n
  | 0 => by simp [lastP]
  | n + 1 => by
    have := lastP_lt l k n
    rw [lastP]
    split
    · omega
    · omega
theorem lastI_cases (l : List M) (k : List UInt8) : (∃ i : Nat, lastI l k = i ∧ i < l.length) ∨ lastI l k = -1 := by
  have h := lastP_lt l k l.length
  unfold lastI
  by_cases h0 : lastP l k l.length < 0
  · right; omega
  · left; exact ⟨(lastP l k l.length).toNat, by omega, by omega⟩
theorem last40' (a : Option Addr) (c : Nat) (l : List M) (k : ByteArray) (w : World) (hl : l.length ≤ maxLen) (hk : ∀ m ∈ l, m.key.size ≤ 1000) (hm : Msgs w a l) :
    Calls Try.prog 40 #[.slice a l.length c, .string k] w fun x w' => x = .returned (.int .i64 (lastI l k.data.toList)) ∧ Below w.heap.size w w' := by
  obtain ⟨lk, rfl⟩ := msOf_of l hk
  have := last40 a c lk k w (by rw [← msOf_length]; exact hl) hm
  rw [msOf_length]
  exact this

set_option maxHeartbeats 2000000 in
theorem step19 (n : Nd) (p : Pl) (k : ByteArray) (w : World) (hf : Small n) (hk : k.size ≤ 1000) (h : Lies w n p) :
    Calls Try.prog 19 #[nv n p, .string k] w fun x w' => x = .returned (wv (stepW n k.data.toList)) ∧ Below w.heap.size w w' := by
  have hb0 : Below w.heap.size w ((w.alloc (.cells #[.bool n.leaf, .slice p.a1 n.ps.length p.c1, .slice p.a2 n.pv.length p.c2, .slice p.a3 n.ks.length p.c3, .slice p.a4 n.bf.length p.c4] 27)).alloc (.cells #[.int .u8 0, .string ⟨#[]⟩, .int .u32 0, .int .u16 0, .string ⟨#[]⟩] 46)) := (below_box w _).alloc (by simp) _
  have N0 := (NBox.new w (.bool n.leaf) (.slice p.a1 n.ps.length p.c1) (.slice p.a2 n.pv.length p.c2) (.slice p.a3 n.ks.length p.c3) (.slice p.a4 n.bf.length p.c4)).alloc (.cells #[.int .u8 0, .string ⟨#[]⟩, .int .u32 0, .int .u16 0, .string ⟨#[]⟩] 46)
  have W0 := WBox.new (w.alloc (.cells #[.bool n.leaf, .slice p.a1 n.ps.length p.c1, .slice p.a2 n.pv.length p.c2, .slice p.a3 n.ks.length p.c3, .slice p.a4 n.bf.length p.c4] 27)) (.int .u8 0) (.string ⟨#[]⟩) (.int .u32 0) (.int .u16 0) (.string ⟨#[]⟩)
  simp only [World.size_alloc] at W0
  have HM := hid (may12 n p _ hf.few (h.later hb0))
  obtain ⟨few, kb, ab, ae, _, _⟩ := hf
  have hf1 := few.l1
  have hf2 := few.l2
  have hf3 := few.l3
  have hf4 := few.l4
  have HP := hid (fun w' (h : Prs w' p.a1 n.ps) => pairs39 p.a1 p.c1 n.ps k w' few.l1 h)
  have HL := hid (fun w' (h : Msgs w' p.a4 n.bf) => last40' p.a4 p.c4 n.bf k w' (by unfold maxLen; omega) kb h)
  have HK := hid (fun w' (h : Lies w' n p) => kid23 n p k w' few.l2 few.l3 h)
  have hS : stepW n k.data.toList = if mayI n = 0 then if n.leaf then pairW n.ps k.data.toList else if 0 ≤ lastI n.bf k.data.toList then byM (n.bf.getD (lastI n.bf k.data.toList).toNat M.nil) k.data.toList else byE (n.ks.getD (kidC n.pv k.data.toList) E.nil) k.data.toList else noWay := rfl
  have hMF := fun h hl => @may_fork n h hl
  have HLC := hid (lastI_cases n.bf k.data.toList)
  have hh := hid h
  by_cases hr : mayI n = 0
  case neg =>
    rw [if_neg hr] at hS
    rw [hS]
    clear hS hMF HLC HP HL HK hh h few kb ab ae
    generalize mayI n = R at *
    obtain ⟨lf, ps, pv, ks, bf⟩ := n
    obtain ⟨a1, c1, a2, c2, a3, c3, a4, c4⟩ := p
    dsimp only [nv] at *
    generalize ps.length = n1 at *
    generalize pv.length = n2 at *
    generalize ks.length = n3 at *
    generalize bf.length = n4 at *
    go_enter Try.func19, Try.ntmps19
    go_wp2_with fail
    refine HM.out.mono ?_
    clear HM
    rintro x w1 ⟨rfl, hb1⟩
    have hb2 := hb0.trans (hb1.mono hb0.size)
    have W1 := W0.later hb1
    obtain ⟨v0, v1, v2, v3, v4⟩ := W1.cells
    have f := W1.free
    have f0 := f 0
    have f1 := f 1
    have f2 := f 2
    have f3 := f 3
    have f4 := f 4
    have hr' : (R == 0) = false := by simpa using hr
    clear f W0 W1 hb0 hb1 N0
    go_wp2_with fail
    exact bodyPost_ret (v := .agg #[.int .u8 0, .string ⟨#[]⟩, .int .u32 0, .int .u16 0, .string ⟨#[]⟩]) (by simp [results, Try.results19, go_sem, v0, v1, v2, v3, v4]) rfl ⟨rfl, below_five hb2 (by omega) _ _ _ _ _⟩
  case pos =>
  rw [if_pos hr] at hS
  rw [hr] at HM
  have hMF := hMF hr
  clear hr
  cases hlf : n.leaf
  case true =>
    rw [hlf, if_pos rfl] at hS
    rw [hS]
    clear hS hMF HLC HL HK h few kb ab ae
    generalize pairW n.ps k.data.toList = y at *
    obtain ⟨lf, ps, pv, ks, bf⟩ := n
    obtain ⟨a1, c1, a2, c2, a3, c3, a4, c4⟩ := p
    dsimp only [nv] at *
    subst hlf
    have h1 := hid hh.out.h1
    dsimp only at h1
    clear hh
    generalize ps.length = n1 at *
    generalize pv.length = n2 at *
    generalize ks.length = n3 at *
    generalize bf.length = n4 at *
    go_enter Try.func19, Try.ntmps19
    go_wp2_with fail
    refine HM.out.mono ?_
    clear HM
    rintro x w1 ⟨rfl, hb1⟩
    have hb2 := hb0.trans (hb1.mono hb0.size)
    have W1 := W0.later hb1
    obtain ⟨m0, m1, m2, m3, m4⟩ := (N0.later hb1).cells
    clear W0 hb0 hb1 N0
    go_wp2_with fail
    refine (HP.out w1 (h1.out.later hb2)).mono ?_
    clear HP m0 m1 m2 m3 m4
    rintro x w2 ⟨rfl, hb3⟩
    have W2 := W1.later hb3
    have hb4 := hb2.trans (hb3.mono hb2.size)
    obtain ⟨v0, v1, v2, v3, v4⟩ := W2.cells
    have f := W2.free
    have f0 := f 0
    have f1 := f 1
    have f2 := f 2
    have f3 := f 3
    have f4 := f 4
    clear f W1 W2 hb3 hb2
    obtain ⟨yk, yv, yb, yd, yy⟩ := y
    dsimp only
    go_wp2_with fail
    exact bodyPost_ret (v := .agg #[.int .u8 yk, .string yv, .int .u32 yb, .int .u16 yd, .string yy]) (by simp [results, Try.results19, go_sem, v0, v1, v2, v3, v4]) rfl ⟨rfl, below_five hb4 (by omega) _ _ _ _ _⟩
  case false =>
  rw [hlf, if_neg (by simp)] at hS
  obtain ⟨hlen, hup⟩ := hMF hlf
  rcases HLC.out with ⟨i, hi, hil⟩ | hi
  case inl =>
    rw [hi, if_pos (by omega), Int.toNat_natCast, getD_at hil] at hS
    rw [hi] at HL
    rw [hS]
    clear hS hMF HLC HP HK h few kb ae hup
    have HB := hid (fun w' => msg41 n.bf[i] k w' (by have := ab n.bf[i] (List.getElem_mem hil); omega) (by omega))
    generalize byM n.bf[i] k.data.toList = y at *
    clear ab hi
    obtain ⟨b, off, ha4, h6⟩ := hh.out.h4.at hil
    obtain ⟨m, HS⟩ : ∃ m, Hid (n.bf[i] = m) := ⟨_, hid rfl⟩
    rw [HS.out] at h6 HB
    clear HS
    have h4 := hid hh.out.h4
    clear hh
    obtain ⟨lf, ps, pv, ks, bf⟩ := n
    obtain ⟨a1, c1, a2, c2, a3, c3, a4, c4⟩ := p
    dsimp only [nv] at *
    subst hlf ha4
    obtain ⟨kd, ky, vl, bk, dp, ad⟩ := m
    try dsimp only at HB
    generalize ps.length = n1 at *
    generalize pv.length = n2 at *
    generalize ks.length = n3 at *
    generalize bf.length = n4 at *
    go_enter Try.func19, Try.ntmps19
    go_wp2_with fail
    refine HM.out.mono ?_
    clear HM
    rintro x w1 ⟨rfl, hb1⟩
    have hb2 := hb0.trans (hb1.mono hb0.size)
    have W1 := W0.later hb1
    have N1 := N0.later hb1
    obtain ⟨m0, m1, m2, m3, m4⟩ := N1.cells
    clear W0 hb0 hb1 N0
    go_wp2_with fail
    refine (HL.out w1 (h4.out.later hb2)).mono ?_
    clear HL m0 m1 m2 m3 m4
    rintro x w2 ⟨rfl, hb3⟩
    have W2 := W1.later hb3
    have N2 := N1.later hb3
    have hb4 := hb2.trans (hb3.mono hb2.size)
    obtain ⟨d0, d1, d2, d3, d4, d5⟩ := h6.later hb4
    obtain ⟨m0, m1, m2, m3, m4⟩ := N2.cells
    have hi0 : (0 : Int) ≤ (i : Int) := by omega
    dsimp only at d0 d1 d2 d3 d4 d5
    clear W1 N1 hb3 hb2
    go_wp2_with fail
    refine (HB.out w2).mono ?_
    clear HB m0 m1 m2 m3 m4 d0 d1 d2 d3 d4 d5
    rintro x w3 ⟨rfl, hb5⟩
    have W3 := W2.later hb5
    have hb6 := hb4.trans (hb5.mono hb4.size)
    obtain ⟨v0, v1, v2, v3, v4⟩ := W3.cells
    have f := W3.free
    have f0 := f 0
    have f1 := f 1
    have f2 := f 2
    have f3 := f 3
    have f4 := f 4
    clear f W2 W3 hb4 hb5
    obtain ⟨yk, yv, yb, yd, yy⟩ := y
    dsimp only
    go_wp2_with fail
    exact bodyPost_ret (v := .agg #[.int .u8 yk, .string yv, .int .u32 yb, .int .u16 yd, .string yy]) (by simp [results, Try.results19, go_sem, v0, v1, v2, v3, v4]) rfl ⟨rfl, below_five hb6 (by omega) _ _ _ _ _⟩
  case inr =>
    rw [hi, if_neg (by omega)] at hS
    rw [hi] at HL
    rw [hS]
    obtain ⟨hk1, _, hk3⟩ := kid_same (k := k.data.toList) hup hlen
    rw [getD_at hk3]
    rw [hk1] at HK
    clear hS hMF HLC HP h few kb ab hup hk1 hlen
    have HB := hid (fun w' => edge42 (n.ks[kidC n.pv k.data.toList]) k w' (by have := ae _ (List.getElem_mem hk3); omega) (by omega))
    generalize byE (n.ks[kidC n.pv k.data.toList]) k.data.toList = y at *
    clear ae hi
    obtain ⟨b, off, ha3, h6⟩ := hh.out.h3.at hk3
    obtain ⟨e, HS⟩ : ∃ m, Hid (n.ks[kidC n.pv k.data.toList] = m) := ⟨_, hid rfl⟩
    rw [HS.out] at h6 HB
    clear HS
    generalize kidC n.pv k.data.toList = q at *
    have h4 := hid hh.out.h4
    have HK' := hid (fun w' (hb : Below w.heap.size w w') => HK.out w' (hh.out.later hb))
    clear hh HK
    obtain ⟨lf, ps, pv, ks, bf⟩ := n
    obtain ⟨a1, c1, a2, c2, a3, c3, a4, c4⟩ := p
    dsimp only [nv] at *
    subst hlf ha3
    obtain ⟨bk, dp, st, ad⟩ := e
    try dsimp only at HB
    generalize ps.length = n1 at *
    generalize pv.length = n2 at *
    generalize ks.length = n3 at *
    generalize bf.length = n4 at *
    go_enter Try.func19, Try.ntmps19
    go_wp2_with fail
    refine HM.out.mono ?_
    clear HM
    rintro x w1 ⟨rfl, hb1⟩
    have hb2 := hb0.trans (hb1.mono hb0.size)
    have W1 := W0.later hb1
    have N1 := N0.later hb1
    obtain ⟨m0, m1, m2, m3, m4⟩ := N1.cells
    clear W0 hb0 hb1 N0
    go_wp2_with fail
    refine (HL.out w1 (h4.out.later hb2)).mono ?_
    clear HL m0 m1 m2 m3 m4
    rintro x w2 ⟨rfl, hb3⟩
    have W2 := W1.later hb3
    have N2 := N1.later hb3
    have hb4 := hb2.trans (hb3.mono hb2.size)
    clear W1 N1 hb3 hb2 h4
    go_wp2_with fail
    obtain ⟨yk, yv, yb, yd, yy⟩ := y
    try dsimp only at HB
    generalize hk0 : w.heap.size = k0 at *
    refine wp_region_each [(some 29, [], false), (some 30, [(0, 29)], false), (some 31, [], false), (some 32, [], false), (some 33, [(2, 31), (3, 32)], false), (some 34, [(1, 30), (4, 33)], false), (some 35, [(5, 34)], false), (some 36, [], false), (some 37, [(6, 35), (7, 36)], false), (none, [(8, 37)], true)]
      (fun u => Below k0 w u ∧ NBox u k0 (.bool false) (.slice a1 n1 c1) (.slice a2 n2 c2) (.slice (some ⟨b, off, none⟩) n3 c3) (.slice a4 n4 c4) ∧ ∃ v0 v1 v2 v3 v4, WBox u (k0 + 1) v0 v1 v2 v3 v4)
      (fun i u u' => if i = 9 then (Below k0 w u' ∧ NBox u' k0 (.bool false) (.slice a1 n1 c1) (.slice a2 n2 c2) (.slice (some ⟨b, off, none⟩) n3 c3) (.slice a4 n4 c4) ∧ ∃ v0 v1 v2 v3 v4, WBox u' (k0 + 1) v0 v1 v2 v3 v4) else Below u.heap.size u u')
      (fun i v u => match i with | 0 => v = .pointer (some ⟨k0, 3, none⟩) | 1 => v = .slice (some ⟨b, off, none⟩) n3 c3 | 2 => v = .agg #[.bool false, .slice a1 n1 c1, .slice a2 n2 c2, .slice (some ⟨b, off, none⟩) n3 c3, .slice a4 n4 c4] | 3 => v = .string k | 4 => v = .int .i64 q | 5 => v = .pointer (some ⟨b, off + q * 4, none⟩) | 6 => v = ev ⟨bk, dp, st, ad⟩ | 7 => v = .string k | 8 => v = wv ⟨yk, yv, yb, yd, yy⟩ | 9 => WBox u (k0 + 1) (.int .u8 yk) (.string yv) (.int .u32 yb) (.int .u16 yd) (.string yy) | _ => True)
      (by kernel_rfl) (by kernel_rfl) ⟨hb4.drew, N2, _, _, _, _, _, W2⟩ (fun i u u' h h' => ?_) (fun i j v u u' hn h h' hv => ?_) ⟨?_, ?_, ?_, ?_, ?_, ?_, ?_, ?_, ?_, ?_, trivial⟩ ?_
    · split at h'
      · exact h'
      · obtain ⟨g1, g2, v0, v1, v2, v3, v4, g3⟩ := h
        exact ⟨g1.trans (h'.mono (by rw [← hk0]; exact g1.size)), g2.later h', v0, v1, v2, v3, v4, g3.later h'⟩
    · match j with
      | 0 => exact hv
      | 1 => exact hv
      | 2 => exact hv
      | 3 => exact hv
      | 4 => exact hv
      | 5 => exact hv
      | 6 => exact hv
      | 7 => exact hv
      | 8 => exact hv
      | 9 =>
        by_cases hi9 : i = 9
        · subst hi9; exact absurd hn (by decide)
        · rw [if_neg hi9] at h'
          exact WBox.later hv h'
      | _ + 10 => trivial
    · rintro u ⟨g1, g2, _⟩
      exact opYields_val _ (by kernel_rfl) (by go_simp) ⟨Below.refl _ _, rfl⟩
    · rintro u ⟨g1, g2, _⟩ _ rfl
      obtain ⟨m0, m1, m2, m3, m4⟩ := g2.cells
      exact opYields_val (.slice (some ⟨b, off, none⟩) n3 c3) (by kernel_rfl) (by go_simp) ⟨Below.refl _ _, rfl⟩
    · rintro u ⟨g1, g2, _⟩
      obtain ⟨m0, m1, m2, m3, m4⟩ := g2.cells
      exact opYields_val (.agg #[.bool false, .slice a1 n1 c1, .slice a2 n2 c2, .slice (some ⟨b, off, none⟩) n3 c3, .slice a4 n4 c4]) (by kernel_rfl) (by go_simp) ⟨Below.refl _ _, rfl⟩
    · rintro u ⟨g1, g2, _⟩
      exact opYields_val _ (by kernel_rfl) (by go_simp) ⟨Below.refl _ _, rfl⟩
    · rintro u ⟨g1, g2, _⟩ _ rfl _ rfl
      exact opYields_call 23 #[.agg #[.bool false, .slice a1 n1 c1, .slice a2 n2 c2, .slice (some ⟨b, off, none⟩) n3 c3, .slice a4 n4 c4], .string k] (by kernel_rfl) (by go_simp) ((HK'.out u g1).mono fun x u' ⟨h1, h2⟩ => ⟨_, h1, h2, rfl⟩)
    · rintro u ⟨g1, g2, _⟩ _ rfl _ rfl
      exact opYields_val (.pointer (some ⟨b, off + q * 4, none⟩)) (by kernel_rfl) (by go_simp) ⟨Below.refl _ _, rfl⟩
    · rintro u ⟨g1, g2, _⟩ _ rfl
      obtain ⟨d0, d1, d2, d3⟩ := h6.below g1 (by rw [← hk0]; exact h6.lt)
      exact opYields_val (ev ⟨bk, dp, st, ad⟩) (by kernel_rfl) (by go_simp) ⟨Below.refl _ _, rfl⟩
    · rintro u ⟨g1, g2, _⟩
      exact opYields_val _ (by kernel_rfl) (by go_simp) ⟨Below.refl _ _, rfl⟩
    · rintro u ⟨g1, g2, _⟩ _ rfl _ rfl
      exact opYields_call 42 #[ev ⟨bk, dp, st, ad⟩, .string k] (by kernel_rfl) (by go_simp) ((HB.out u).mono fun x u' ⟨h1, h2⟩ => ⟨_, h1, h2, rfl⟩)
    · rintro u ⟨g1, g2, v0, v1, v2, v3, v4, g3⟩ _ rfl
      obtain ⟨z0, z1, z2, z3, z4⟩ := g3.cells
      have f := g3.free
      have f0 := f 0
      have f1 := f 1
      have f2 := f 2
      have f3 := f 3
      have f4 := f 4
      clear f
      refine opYields_put (u' := ((((u.setCell ⟨k0 + 1, 0, none⟩ (.int .u8 yk)).setCell ⟨k0 + 1, 1, none⟩ (.string yv)).setCell ⟨k0 + 1, 2, none⟩ (.int .u32 yb)).setCell ⟨k0 + 1, 3, none⟩ (.int .u16 yd)).setCell ⟨k0 + 1, 4, none⟩ (.string yy)) (by kernel_rfl) (by go_simp) ⟨?_, g3.put _ _ _ _ _⟩
      exact ⟨below_five g1 (by omega) _ _ _ _ _, g2.beside (by omega) _ _ _ _ _, _, _, _, _, _, g3.put _ _ _ _ _⟩
    · rintro u ⟨g1, g2, _⟩ _ _ _ _ _ _ _ _ _ v hv
      simp only [givingAll, Act.put, List.setIfInBounds_toArray, List.set_cons_zero, List.set_cons_succ]
      obtain ⟨v0, v1, v2, v3, v4⟩ := WBox.cells hv
      go_wp2_with fail
      exact bodyPost_ret (v := .agg #[.int .u8 yk, .string yv, .int .u32 yb, .int .u16 yd, .string yy]) (by simp [results, Try.results19, go_sem, v0, v1, v2, v3, v4]) rfl ⟨rfl, by first | exact g1 | (rw [hk0]; exact g1)⟩
end Go.Proofs.Ytknjemmhcjihfaa.Key
