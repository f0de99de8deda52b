/-
  Contract of trimFork.
-/
import Derived.Test.YtlkcoaencliajaaQu3
import Derived.Test.YtlkcoaencliajaaUUnder
import Derived.Test.YtlkcoaencliajaaLead
import Derived.BigQuiet
namespace Go.Proofs.Ytlkcoaencliajaa.Key
open Go.RowKit Draw
open Go.Op (bytesLess)
set_option linter.unusedVariables false
set_option linter.unusedSimpArgs false

theorem ksT_at {n : Nd} {r : Rng} {a : ByteArray} {j : Nat} {x : E} (h : n.ks[j]? = some x) : ksT n r a (j + 1) = if tch n.pv r j then ksT n r a j ++ [shK x a] else ksT n r a j := by
  obtain ⟨hj, rfl⟩ := List.getElem?_eq_some_iff.1 h
  exact ksT_succ hj
theorem okT_at {n : Nd} {r : Rng} {a : ByteArray} {j : Nat} {x : E} (h : n.ks[j]? = some x) : okT n r a (j + 1) = (okT n r a j && (!tch n.pv r j || okK x a)) := by
  obtain ⟨hj, rfl⟩ := List.getElem?_eq_some_iff.1 h
  exact okT_succ hj
theorem ksT_le (n : Nd) (r : Rng) (a : ByteArray) (j : Nat) : (ksT n r a j).length ≤ j := by
  unfold ksT
  rw [List.length_map]
  exact picks_le _ _ _
theorem pvT_le (n : Nd) (r : Rng) (a : ByteArray) (j : Nat) : (pvT n r a j).length ≤ j := by
  unfold pvT
  rw [List.length_map, List.length_drop]
  have := picks_le n.pv r j
  omega
/-- how the pivots that are left go on -/
theorem pvT_case {n : Nd} {r : Rng} {a : ByteArray} {j : Nat} (ht : tch n.pv r j = true) : pvT n r a (j + 1) = if 0 < (ksT n r a j).length then pvT n r a j ++ [cutT a (ahead n.pv j)] else pvT n r a j := by
  by_cases h : ksT n r a j = []
  · rw [if_neg (by rw [h]; simp), (pvT_first ht h).1, (pvT_first ht h).2]
  · rw [if_pos (List.length_pos_iff.2 h), pvT_succ ht h]
/-- what trimFork answers -/
def ForkPost (w w' : World) (x : Ending) (n : Nd) (r : Rng) (a : ByteArray) (b : Bool) : Prop :=
  (b = true → ∃ x2 x3 x4, x = .returned (.tuple #[.agg #[.bool false, .slice none 0 0, x2, x3, x4], .int .i64 0]) ∧ Owns w' (w.heap.size + 1) (trimF n r a) (.slice none 0 0) x2 x3 x4) ∧ (b = false → x = .returned (.tuple #[.agg #[.bool false, .slice none 0 0, .slice none 0 0, .slice none 0 0, .slice none 0 0], .int .i64 1]))
def forkT (n : Nd) (r : Rng) (a : ByteArray) : Bool := okT n r a n.ks.length && trimB n.bf r a

set_option maxRecDepth 100000 in
set_option maxHeartbeats 4000000 in
theorem fork30 (n : Nd) (p : Pl) (lo hi : ByteArray) (e : Bool) (a : ByteArray) (w : World) (hf : Few n) (h : Lies w n p) (ha : a.size ≤ 1000) (hk : ∀ x ∈ n.ks, x.strip.size ≤ 1000 ∧ x.add.size ≤ 1000) (hm : ∀ m ∈ n.bf, m.key.size ≤ 1000 ∧ m.add.size ≤ 1000)
    (hlen : n.pv.length + 1 = n.ks.length) (hp : ∀ i s, n.pv[i]? = some s → tch n.pv (rg lo hi e) (i + 1) = true → 0 < (ksT n (rg lo hi e) a (i + 1)).length → a.size ≤ s.size) :
    Calls Try.prog 60 #[nv n p, av lo hi e, .string a] w fun x w' => ForkPost w w' x n (rg lo hi e) a (forkT n (rg lo hi e) a) ∧ Below w.heap.size w w' := by
  have HLw := hid (fun (wr : World) (hb : Below w.heap.size w wr) => h.later hb)
  have HR := hid (fun (j : Nat) (hj : j < n.ks.length) (wr : World) (hb : Below w.heap.size w wr) => range50 n p j wr hf.l2 hlen hj (h.later hb))
  have HTr := hid (fun (wr : World) (hb : Below w.heap.size w wr) => trim23 p.a4 p.c4 n.bf lo hi e a wr hf.l4 (h.h4.later hb) hm ha)
  clear h
  have HSh := hid (fun (x : E) (hx : x ∈ n.ks) (wr : World) => shift19 x.strip x.add a wr (by have := (hk x hx).1; omega) (by have := (hk x hx).2; omega) (by omega))
  have HKs := hid (fun j x (hx : n.ks[j]? = some x) => ksT_at (r := rg lo hi e) (a := a) hx)
  have HOk := hid (fun j x (hx : n.ks[j]? = some x) => okT_at (r := rg lo hi e) (a := a) hx)
  have HPv := hid (fun j (ht : tch n.pv (rg lo hi e) j = true) => pvT_case (a := a) ht)
  have HPn := hid (fun j (ht : tch n.pv (rg lo hi e) j = false) => pvT_not (a := a) ht)
  have HPs := hid hp
  have HKl := hid (fun j => ksT_le n (rg lo hi e) a j)
  have HPl := hid (fun j => pvT_le n (rg lo hi e) a j)
  have HK0 := hid (show ksT n (rg lo hi e) a 0 = [] from rfl)
  have HP0 := hid (show pvT n (rg lo hi e) a 0 = [] from rfl)
  have HO0 := hid (show okT n (rg lo hi e) a 0 = true from rfl)
  have HTc := hid (fun j => (show tch n.pv (rg lo hi e) j = !emptyR (cutR (rg (loOf n.pv j) (hiOf n.pv j) (endOf n.pv j)) (rg lo hi e)) from rfl))
  have HF := hid (show forkT n (rg lo hi e) a = (okT n (rg lo hi e) a n.ks.length && trimB n.bf (rg lo hi e) a) from rfl)
  have HFn := hid (show trimF n (rg lo hi e) a = ⟨false, [], pvT n (rg lo hi e) a n.ks.length, ksT n (rg lo hi e) a n.ks.length, trimL n.bf (rg lo hi e) a⟩ from rfl)
  have HOn := hid (fun i (hil : i < n.ks.length) (h : okT n (rg lo hi e) a (i + 1) = false) => (show okT n (rg lo hi e) a n.ks.length = false from by
    cases hq : okT n (rg lo hi e) a n.ks.length
    · rfl
    · rw [show okT n (rg lo hi e) a (i + 1) = true from upTo_mono hq (by omega)] at h; cases h))
  have hl2 := hf.l2
  have hl3 := hf.l3
  have hl4 := hf.l4
  clear hf hk hm hp
  generalize forkT n (rg lo hi e) a = FT at *
  obtain ⟨KT, hKT⟩ : ∃ f : Nat → List E, (fun j => ksT n (rg lo hi e) a j) = f := ⟨_, rfl⟩
  obtain ⟨PT, hPT⟩ : ∃ f : Nat → List ByteArray, (fun j => pvT n (rg lo hi e) a j) = f := ⟨_, rfl⟩
  obtain ⟨OT, hOT⟩ : ∃ f : Nat → Bool, (fun j => okT n (rg lo hi e) a j) = f := ⟨_, rfl⟩
  obtain ⟨TC, hTC⟩ : ∃ f : Nat → Bool, (fun j => tch n.pv (rg lo hi e) j) = f := ⟨_, rfl⟩
  simp only [show ∀ j, ksT n (rg lo hi e) a j = KT j from fun j => congrFun hKT j, show ∀ j, pvT n (rg lo hi e) a j = PT j from fun j => congrFun hPT j, show ∀ j, okT n (rg lo hi e) a j = OT j from fun j => congrFun hOT j, show ∀ j, tch n.pv (rg lo hi e) j = TC j from fun j => congrFun hTC j] at HKs HOk HPv HPn HPs HKl HPl HK0 HP0 HO0 HTc HF HFn HOn
  clear hKT hPT hOT hTC
  generalize hTL : trimL n.bf (rg lo hi e) a = TL at *
  generalize hTB : trimB n.bf (rg lo hi e) a = TB at *
  clear hTL hTB
  obtain ⟨lB, ps, ws, ks, bf⟩ := n
  obtain ⟨a1, c1, a2, c2, a3, c3, a4, c4⟩ := p
  dsimp only [nv] at *
  generalize ps.length = n1 at *
  generalize hn2 : ws.length = n2 at *
  generalize hn3 : ks.length = n3 at *
  generalize bf.length = n4 at *
  have HN2 := hid hn2
  have HN3 := hid hn3
  clear hn2 hn3
  obtain ⟨N0, R0, M0, P0, hb0, hs0⟩ := four_boxes w (.bool lB) (.slice a1 n1 c1) (.slice a2 n2 c2) (.slice a3 n3 c3) (.slice a4 n4 c4) (.string lo) (.string hi) (.bool e) (.bool false) (.slice none 0 0) (.slice none 0 0) (.slice none 0 0) (.slice none 0 0) (.bool false) (.slice none 0 0) (.slice none 0 0) (.slice none 0 0) (.slice none 0 0)
  go_enter Try.func60, Try.ntmps60
  go_upto_region 2 with fail
  generalize (((w.alloc (.cells #[.bool lB, .slice a1 n1 c1, .slice a2 n2 c2, .slice a3 n3 c3, .slice a4 n4 c4] 27)).alloc (.cells #[.string lo, .string hi, .bool e] 29)).alloc (.cells #[.bool false, .slice none 0 0, .slice none 0 0, .slice none 0 0, .slice none 0 0] 27)).alloc (.cells #[.bool false, .slice none 0 0, .slice none 0 0, .slice none 0 0, .slice none 0 0] 27) = w4 at *
  generalize hk0 : w.heap.size = k0 at *
  generalize hk1 : k0 + 1 = k1 at *
  generalize hk2 : k1 + 1 = k2 at *
  generalize hk3 : k2 + 1 = k3 at *
  have HQ0 := hid hk0
  have HQ := hid (And.intro hk1 (And.intro hk2 hk3))
  clear hk0 hk1 hk2 hk3
  obtain ⟨m0, m1, m2, m3, m4⟩ := N0.cells
  go_upto_region 2 with fail
  go_wp2_with fail
  clear m0 m1 m2 m3 m4
  go_loopw [18] (fun i wr => ∃ (j : Nat) (y2 y3 : Value), j ≤ n3 ∧ i = .int .i64 j ∧ NBox wr k3 (.bool false) (.slice none 0 0) y2 y3 (.slice none 0 0) ∧ wr.ownsRow (k3 + 1) 9 1 y2 (PT j).length ((PT j).flatMap tcell) ∧ wr.ownsRow (k3 + 1) 72 4 y3 (KT j).length ((KT j).flatMap E.cells) ∧ Hid (OT j = true) ∧ Below k3 w4 wr) (fun i _ => n3 - (intOf i).toNat)
  case atStart => exact ⟨0, _, _, Nat.zero_le _, rfl, P0, by rw [HP0.out]; exact row_nil _ _ _ _, by rw [HK0.out]; exact row_nil _ _ _ _, HO0, Below.refl _ _⟩
  case round =>
    obtain ⟨j, y2, y3, hj, rfl, P1, ho2, ho3, hok, hb⟩ := hrel
    have hkk := HQ.out
    have hPlt := P1.lt
    by_cases hlt : j < n3
    · have hlt' : j < ks.length := by rw [HN3.out]; exact hlt
      have hbw := hb0.trans (hb.mono (by omega))
      obtain ⟨b, off, hA, c0, c1', c2', c3'⟩ := (HLw.out wr hbw).h3.at hlt'
      dsimp only at hA
      subst hA
      obtain ⟨x, hx⟩ : ∃ x, ks[j]? = some x := ⟨_, List.getElem?_eq_getElem hlt'⟩
      have hxe : ks[j] = x := by rw [List.getElem?_eq_getElem hlt'] at hx; exact Option.some.inj hx
      rw [hxe] at c0 c1' c2' c3'
      have HKj := hid (HKs.out j x hx)
      have HOj := hid (HOk.out j x hx)
      have HSj := hid (HSh.out x (by rw [← hxe]; exact List.getElem_mem hlt'))
      have HRj := hid (fun wr hb => HR.out j hlt wr hb)
      have HCj := hid (cut23 (loOf ws j) (hiOf ws j) (endOf ws j) lo hi e)
      have HEj := hid (empty25 (str (cutR (rg (loOf ws j) (hiOf ws j) (endOf ws j)) (rg lo hi e)).lo) (str (cutR (rg (loOf ws j) (hiOf ws j) (endOf ws j)) (rg lo hi e)).hi) (cutR (rg (loOf ws j) (hiOf ws j) (endOf ws j)) (rg lo hi e)).e)
      rw [show rg (str (cutR (rg (loOf ws j) (hiOf ws j) (endOf ws j)) (rg lo hi e)).lo) (str (cutR (rg (loOf ws j) (hiOf ws j) (endOf ws j)) (rg lo hi e)).hi) (cutR (rg (loOf ws j) (hiOf ws j) (endOf ws j)) (rg lo hi e)).e = cutR (rg (loOf ws j) (hiOf ws j) (endOf ws j)) (rg lo hi e) from rfl] at HEj
      have HTj := hid (HTc.out j)
      unfold rv at HCj
      generalize emptyR (cutR (rg (loOf ws j) (hiOf ws j) (endOf ws j)) (rg lo hi e)) = bE at *
      generalize str (cutR (rg (loOf ws j) (hiOf ws j) (endOf ws j)) (rg lo hi e)).lo = C0 at *
      generalize str (cutR (rg (loOf ws j) (hiOf ws j) (endOf ws j)) (rg lo hi e)).hi = C1 at *
      generalize (cutR (rg (loOf ws j) (hiOf ws j) (endOf ws j)) (rg lo hi e)).e = C2 at *
      generalize loOf ws j = L0 at *
      generalize hiOf ws j = L1 at *
      generalize endOf ws j = L2 at *
      clear hx hxe
      have HKlj := HKl.out j
      have HPlj := HPl.out j
      have B1 := EBox.new wr x
      have P2 := P1.alloc (.cells #[.int .u32 x.blk, .int .u16 x.deep, .string x.strip, .string x.add] 72)
      have hp2 := World.ownsRow.alloc ho2 (.cells #[.int .u32 x.blk, .int .u16 x.deep, .string x.strip, .string x.add] 72)
      have hp3 := World.ownsRow.alloc ho3 (.cells #[.int .u32 x.blk, .int .u16 x.deep, .string x.strip, .string x.add] 72)
      have hlt2 : ∀ k, y2.ownBlock = some k → k < wr.heap.size := fun k hk => (World.ownsRow.lt ho2 k hk).2
      have hlt3 : ∀ k, y3.ownBlock = some k → k < wr.heap.size := fun k hk => (World.ownsRow.lt ho3 k hk).2
      have hb2 := hb.alloc (show k3 ≤ wr.heap.size by omega) (.cells #[.int .u32 x.blk, .int .u16 x.deep, .string x.strip, .string x.add] 72)
      have HEx := hid (show shK x a = ⟨x.blk, x.deep, joS (lshort x a), joA (lshort x a)⟩ from rfl)
      have HOx := hid (show okK x a = ((lshort x a).isSome && decide ((joA (lshort x a)).size ≤ 16)) from rfl)
      rw [show joinO (lf ⟨#[]⟩ a) (lf x.strip x.add) = lshort x a from rfl] at HSj
      generalize joS (lshort x a) = S at *
      generalize joA (lshort x a) = A at *
      generalize (lshort x a).isSome = o at *
      generalize shK x a = X' at *
      generalize okK x a = oK at *
      obtain ⟨xb, xd, xs, xa⟩ := x
      dsimp only at *
      go_upto_region 5 with fail
      clear c0 c1' c2' c3'
      generalize hkp : wr.heap.size = kp at *
      have HKP := hid hkp
      clear hkp
      generalize wr.alloc (.cells #[.int .u32 xb, .int .u16 xd, .string xs, .string xa] 72) = w5 at *
      have R2 : Box w5 k1 (.string lo) (.string hi) (.bool e) := (hb2.block k1 (by omega)).trans R0
      have N2 := N0.below hb2 (by omega)
      have hs5 := hb2.size
      have hkp5 := B1.lt
      clear hbw hb P1 ho2 ho3
      refine wp_region_quiet (C := fun u => Below w5.heap.size w5 u) (by kernel_rfl) (by kernel_rfl) (Below.refl _ w5).drew ?_
      change wpQuiet _ _ _ _ (_ :: _) _
      repeat
        first
          | go_big_quiet_skip
          | go_big_quiet_want
            first
              | refine quiet_v ?_ ?_ ?_
                rotate_left
                · intro u hu
                  obtain ⟨m0, m1, m2, m3, m4⟩ := (N2.later hu).cells
                  obtain ⟨r0, r1, r2⟩ := (R2.later hu).cells
                  go_simp
                  with_reducible rfl
              | refine quiet_c (.agg #[.string L0, .string L1, .bool L2]) 75 #[.agg #[.bool lB, .slice a1 n1 c1, .slice a2 n2 c2, .slice (some ⟨b, off, none⟩) n3 c3, .slice a4 n4 c4], .int .i64 j] ?_ (fun u hu => (HRj.out u (hb0.trans ((hb2.trans (hu.mono (by omega))).mono (by omega)))).mono fun x u' h => ⟨h.1, hu.trans (h.2.mono hu.size)⟩) ?_
                · intro u hu
                  go_simp
                  done
              | refine quiet_c (.agg #[.string C0, .string C1, .bool C2]) 74 #[.agg #[.string L0, .string L1, .bool L2], .agg #[.string lo, .string hi, .bool e]] ?_ (fun u hu => (HCj.out u).mono fun x u' h => ⟨h.1, hu.trans (h.2.mono hu.size)⟩) ?_
                · intro u hu
                  go_simp
                  done
              | refine quiet_c (.bool bE) 43 #[.agg #[.string C0, .string C1, .bool C2]] ?_ (fun u hu => (HEj.out u).mono fun x u' h => ⟨h.1, hu.trans (h.2.mono hu.size)⟩) ?_
                · intro u hu
                  go_simp
                  done
            go_simp
            go_big_quiet_on
      refine wpQuiet_nil (fun u hu => ?_)
      have B3 := B1.later hu
      have P3 := P2.later hu
      have hq2 := row_later hp2 hu
      have hq3 := row_later hp3 hu
      have hs6 := hu.size
      have hb3 := hb2.trans (hu.mono (by omega))
      clear B1 P2 hp2 hp3 hb2 hu N2 R2 HRj HCj HEj
      cases bE
      case true =>
        have HPx := hid (HPn.out j HTj.out)
        go_wp2_with fail
        go_roundw
        case rel => exact ⟨j + 1, y2, y3, by omega, by go_num, P3, by rw [HPx.out]; exact hq2, by rw [HKj.out, HTj.out, if_neg (by simp)]; exact hq3, by unfold Hid; rw [HOj.out, hok.out, HTj.out]; rfl, hb3⟩
        case measure => simp [intOf]; omega
      case false =>
      obtain ⟨c0, c1', c2', c3'⟩ := B3.four
      simp only [Nat.zero_add] at c1' c2' c3'
      dsimp only at c0 c1' c2' c3'
      go_wp2_with fail
      refine (HSj.out _).mono ?_
      rintro x w7 ⟨rfl, hb7⟩
      clear c0 c1' c2' c3'
      have L4 := Pair.new w7 (.string S) (.string A)
      have B4 := (B3.later hb7).alloc (.cells #[.string S, .string A] 70)
      have P4 := (P3.later hb7).alloc (.cells #[.string S, .string A] 70)
      have hq2 := World.ownsRow.alloc (row_later hq2 hb7) (.cells #[.string S, .string A] 70)
      have hq3 := World.ownsRow.alloc (row_later hq3 hb7) (.cells #[.string S, .string A] 70)
      have hs7 := hb7.size
      have hkl : kp < w7.heap.size := by omega
      have hb4 := (hb3.trans (hb7.mono (by omega))).alloc (show k3 ≤ w7.heap.size by omega) (.cells #[.string S, .string A] 70)
      clear B3 P3 hb7 hb3 HSj
      go_upto_region 7 with fail
      generalize hkL : w7.heap.size = kL at *
      clear hkL
      generalize w7.alloc (.cells #[.string S, .string A] 70) = w8 at *
      have hs8 := hb4.size
      have hkL8 := L4.lt
      obtain ⟨l0, l1⟩ := L4.cells
      cases o
      case false =>
        have HOn' := hid (HOn.out j hlt (by rw [HOj.out, hok.out, HTj.out, HOx.out]; rfl))
        have M4 := M0.below hb4 (by omega)
        obtain ⟨z0, z1, z2, z3, z4⟩ := M4.cells
        have f := M4.free
        have f0 := f 0
        have f1 := f 1
        have f2 := f 2
        have f3 := f 3
        have f4 := f 4
        clear f
        have hb5 := below_five (hb0.trans (hb4.mono (by omega))) (show k0 ≤ k2 by omega) (.bool false) (.slice none 0 0) (.slice none 0 0) (.slice none 0 0) (.slice none 0 0)
        go_wp2_with fail
        refine bodyPost_ret (v := .tuple #[.agg #[.bool false, .slice none 0 0, .slice none 0 0, .slice none 0 0, .slice none 0 0], .int .i64 1]) (by simp [results, Try.results60, go_sem, z0, z1, z2, z3, z4]) rfl ⟨⟨fun h => ?_, fun _ => rfl⟩, ?_⟩
        · rw [HF.out, HOn'.out] at h; cases h
        · rw [HQ0.out]; exact hb5
      case true =>
      by_cases h16 : A.size ≤ 16
      case neg =>
        have HOn' := hid (HOn.out j hlt (by rw [HOj.out, hok.out, HTj.out, HOx.out, decide_eq_false h16]; rfl))
        have h16' : (16 : Int) < (A.size : Int) := by omega
        clear h16
        have M4 := M0.below hb4 (by omega)
        obtain ⟨z0, z1, z2, z3, z4⟩ := M4.cells
        have f := M4.free
        have f0 := f 0
        have f1 := f 1
        have f2 := f 2
        have f3 := f 3
        have f4 := f 4
        clear f
        have hb5 := below_five (hb0.trans (hb4.mono (by omega))) (show k0 ≤ k2 by omega) (.bool false) (.slice none 0 0) (.slice none 0 0) (.slice none 0 0) (.slice none 0 0)
        go_wp2_with fail
        refine bodyPost_ret (v := .tuple #[.agg #[.bool false, .slice none 0 0, .slice none 0 0, .slice none 0 0, .slice none 0 0], .int .i64 1]) (by simp [results, Try.results60, go_sem, z0, z1, z2, z3, z4]) rfl ⟨⟨fun h => ?_, fun _ => rfl⟩, ?_⟩
        · rw [HF.out, HOn'.out] at h; cases h
        · rw [HQ0.out]; exact hb5
      case pos =>
      have HO1 := hid (show OT (j + 1) = true from by rw [HOj.out, hok.out, HTj.out, HOx.out, decide_eq_true h16]; rfl)
      have h16' : ¬ (16 : Int) < (A.size : Int) := by omega
      have HPx := hid (HPv.out j HTj.out)
      have HKx := hid (show KT (j + 1) = KT j ++ [X'] from by rw [HKj.out, HTj.out]; rfl)
      clear h16 HOj hok HOx
      obtain ⟨b3, d3, q3, rfl⟩ := row_slice hq3
      have hd3 : d3 = (KT j).length := row_len hq3
      subst hd3
      obtain ⟨p0, p1, p2, p3, p4⟩ := P4.cells
      by_cases h0 : 0 < (KT j).length
      case neg =>
        have HPy := hid (show PT (j + 1) = PT j from by rw [HPx.out, if_neg h0])
        have hd : decide ((0 : Int) < ((KT j).length : Int)) = false := by rw [decide_eq_false_iff_not]; omega
        have hd' : decide (0 < (KT j).length) = false := by rw [decide_eq_false_iff_not]; omega
        clear h0
        go_upto_region 11 with fail
        clear hd hd'
        obtain ⟨e0, e1, e2, e3⟩ := B4.four
        simp only [Nat.zero_add] at e1 e2 e3
        dsimp only at e0 e1 e2 e3
        have f2 := B4.free 2
        have f3 := B4.free 3
        obtain ⟨l0, l1⟩ := L4.cells
        have B5 := B4.lift S A
        have P5 := (P4.far (k' := kp) (i := 2) (u := .string S) (by omega)).far (k' := kp) (i := 3) (u := .string A) (by omega)
        have r3 := row_far (i := 3) (u := .string A) (row_far (i := 2) (u := .string S) hq3 (fun e => by have := hlt3 kp e.symm; omega)) (fun e => by have := hlt3 kp e.symm; omega)
        have r2 := row_type (i := 3) (u := .string A) (row_type (i := 2) (u := .string S) hq2 B4 (by decide)) (Go.Joins.block_setCell B4 (.string S)) (by decide)
        have hb5 := (hb4.setCell (p := ⟨kp, 2, none⟩) (show k3 ≤ kp by omega) (.string S)).setCell (p := ⟨kp, 3, none⟩) (show k3 ≤ kp by omega) (.string A)
        go_upto_region 12 with fail
        clear e0 e1 e2 e3 f2 f3 l0 l1 P4 B4 L4 hq2 hq3 hb4
        generalize ((w8.setCell ⟨kp, 2, none⟩ (.string S)).setCell ⟨kp, 3, none⟩ (.string A)) = w10 at *
        obtain ⟨p0, p1, p2, p3, p4⟩ := P5.cells
        obtain ⟨e0, e1, e2, e3⟩ := B5.four
        simp only [Nat.zero_add] at e1 e2 e3
        dsimp only at e0 e1 e2 e3
        have hC := (EBox.new w10 ⟨xb, xd, S, A⟩).each
        have r3' := World.ownsRow.alloc r3 (.cells #[.int .u32 xb, .int .u16 xd, .string S, .string A] 72)
        have r2' := World.ownsRow.alloc r2 (.cells #[.int .u32 xb, .int .u16 xd, .string S, .string A] 72)
        have P6 := P5.alloc (.cells #[.int .u32 xb, .int .u16 xd, .string S, .string A] 72)
        have hb6 := hb5.alloc (show k3 ≤ w10.heap.size by have := P5.lt; omega) (.cells #[.int .u32 xb, .int .u16 xd, .string S, .string A] 72)
        have hlt10 := P5.lt
        clear r2 r3 hb5
        go_wp2_with (first | (at_builtin; refine appOne E.cells 4 40 24 72 _ (by omega) (fun _ => rfl) Try.underlying24 info72 rfl (by omega) oneE rfl _ _ rfl (k3 + 1) _ (KT j) rfl r3' ⟨xb, xd, S, A⟩ w10.heap.size rfl hC (by omega) (by simp; omega) ?_; intro v' w11 h1 h2; obtain ⟨g5, n5, q5, rfl⟩ := row_slice h1; have P7 := P6.kept h2 (row_ge r3' (Nat.lt_succ_self k3)); have s2 := row_kept r2' r3' (by decide) h2; have hb7 := hb6.grown h2 (by simp; omega) (fun k hk => by have := (World.ownsRow.lt r3' k hk).1; omega); clear p0 p1 p2 p3 p4 e0 e1 e2 e3 P6 P5 B5 r2' r3' hb6 h2 hC; obtain ⟨p0, p1, p2, p3, p4⟩ := P7.cells; have f3 := P7.free 3) | fail)
        go_roundw
        case rel => exact ⟨j + 1, _, _, by omega, by go_num, P7.put3 _, by rw [HPy.out]; exact row_set s2 (Nat.lt_succ_self k3), by rw [HKx.out, HEx.out]; exact row_set h1 (Nat.lt_succ_self k3), HO1, hb7.setCell (p := ⟨k3, 3, none⟩) (Nat.le_refl _) _⟩
        case measure => simp [intOf]; omega
      case pos =>
        have HPy := hid (show PT (j + 1) = PT j ++ [cutT a (ahead ws j)] from by rw [HPx.out, if_pos h0])
        have hd : decide ((0 : Int) < ((KT j).length : Int)) = true := by rw [decide_eq_true_eq]; omega
        have H0 := hid h0
        clear h0
        obtain ⟨m, hjm⟩ : ∃ m, j = m + 1 := ⟨j - 1, by
          rcases Nat.eq_zero_or_pos j with h | h
          · subst h; have h0 := H0.out; rw [HK0.out] at h0; simp at h0
          · omega⟩
        have hm2 : m < ws.length := by have := HN2.out; omega
        obtain ⟨s, hs⟩ : ∃ s, ws[m]? = some s := ⟨_, List.getElem?_eq_getElem hm2⟩
        have hse : ws[m] = s := by rw [List.getElem?_eq_getElem hm2] at hs; exact Option.some.inj hs
        have has : a.size ≤ s.size := HPs.out m s hs (by rw [← hjm]; exact HTj.out) (by rw [← hjm]; exact H0.out)
        have hah : ahead ws j = s := by rw [hjm, ahead_at hm2, hse]
        rw [hah] at HPy
        obtain ⟨b2, off2, hA2, t0⟩ := (HLw.out w8 (hb0.trans (hb4.mono (by omega)))).h2.at hm2
        dsimp only at hA2
        subst hA2
        have HTx := hid (fun u (hb : Below k0 w u) => (show u.cell? ⟨b2, off2 + m, none⟩ = some (.string s) from by
          obtain ⟨b', off', e, hc⟩ := (HLw.out u hb).h2.at hm2
          simp only [Option.some.injEq, Addr.mk.injEq, and_true] at e
          obtain ⟨rfl, rfl⟩ := e
          rw [hse] at hc
          exact hc))
        have hm2' : (m : Int) < (n2 : Int) := by have := HN2.out; omega
        have has' : (a.size : Int) ≤ (s.size : Int) := by omega
        have HJM := hid hjm
        have hPl8 := P4.lt
        clear t0 hah hse hs hjm has
        obtain ⟨n', c', q', hy2⟩ := row_slice hq2
        clear hy2
        go_upto_region 10 with fail
        clear hd p0 p1 p2 p3 p4 l0 l1
        refine wp_region_until [(some 49, [], false), (some 50, [(0, 49)], false), (some 51, [], false), (some 52, [(2, 51)], false), (some 53, [], false), (some 54, [(4, 53)], false), (some 55, [(3, 52), (5, 54)], false), (some 56, [(6, 55)], false), (some 57, [], false), (some 58, [(8, 57)], false), (some 59, [(7, 56), (9, 58)], false), (some 60, [(10, 59)], false), (some 61, [(1, 50), (11, 60)], true), (some 62, [], true), (none, [(13, 62), (12, 61)], false)]
          (fun i u => if i ≤ 12 then Below w8.heap.size w8 u else w8.grownBy u y2.ownBlock) (fun i u u' => if i = 12 then u.grownBy u' y2.ownBlock else Below u.heap.size u u')
          (fun i Y u => match i with | 0 => Y = .pointer (some ⟨k3, 2, none⟩) | 1 => Y = y2 ∧ u.ownsRow (k3 + 1) 9 1 y2 (PT j).length ((PT j).flatMap tcell) | 2 => Y = .pointer (some ⟨k0, 2, none⟩) | 3 => Y = .slice (some ⟨b2, off2, none⟩) n2 c2 | 4 => Y = .int .i64 j | 5 => Y = .int .i64 m | 6 => Y = .pointer (some ⟨b2, off2 + m, none⟩) | 7 => Y = .string s | 8 => Y = .string a | 9 => Y = .int .i64 a.size | 10 => Y = .string (cutT a s) | 11 => ∃ g, Y = .slice (some ⟨g, 0, none⟩) 1 1 ∧ OneCell u g (cutT a s) | 12 => u.ownsRow (k3 + 1) 9 1 Y ((PT j) ++ [cutT a s]).length (((PT j) ++ [cutT a s]).flatMap tcell) | 13 => Y = .pointer (some ⟨k3, 2, none⟩) | _ => True)
          (by kernel_rfl) (by kernel_rfl) (fun j => ?_) (fun i j u u' hl hi hj hr => ?_) (fun i j v u u' hn h h' hv => ?_) [(some 49, [], false), (some 50, [(0, 49)], false), (some 51, [], false), (some 52, [(2, 51)], false), (some 53, [], false), (some 54, [(4, 53)], false), (some 55, [(3, 52), (5, 54)], false), (some 56, [(6, 55)], false), (some 57, [], false), (some 58, [(8, 57)], false), (some 59, [(7, 56), (9, 58)], false), (some 60, [(10, 59)], false), (some 61, [(1, 50), (11, 60)], true), (some 62, [], true)] 14 rfl _ rfl rfl (by kernel_rfl) (by kernel_rfl) ⟨?_, ?_, ?_, ?_, ?_, ?_, ?_, ?_, ?_, ?_, ?_, ?_, ?_, ?_, trivial⟩ ?_
        · split
          · exact (Below.refl _ _).drew
          · exact below_grown _ (Below.refl _ _).drew
        · by_cases hia : i = 12
          · subst hia
            have hj2 : ¬ j ≤ 12 := by
              intro hle
              match j, hle, hl with
              | 0, _, hl => exact absurd hl (by decide)
              | 1, _, hl => exact absurd hl (by decide)
              | 2, _, hl => exact absurd hl (by decide)
              | 3, _, hl => exact absurd hl (by decide)
              | 4, _, hl => exact absurd hl (by decide)
              | 5, _, hl => exact absurd hl (by decide)
              | 6, _, hl => exact absurd hl (by decide)
              | 7, _, hl => exact absurd hl (by decide)
              | 8, _, hl => exact absurd hl (by decide)
              | 9, _, hl => exact absurd hl (by decide)
              | 10, _, hl => exact absurd hl (by decide)
              | 11, _, hl => exact absurd hl (by decide)
              | 12, _, hl => exact absurd hl (by decide)
              | n + 13, hle, _ => omega
            rw [if_pos (Nat.le_refl _)] at hi
            rw [if_neg hj2] at hj ⊢
            rw [if_pos rfl] at hr
            exact grown_trans hj hr
          · rw [if_neg hia] at hr
            split at hj
            · rename_i hle; rw [if_pos hle]; exact hj.trans (hr.mono hj.size)
            · rename_i hle; rw [if_neg hle]; exact grown_trans hj (below_grown _ hr)
        · by_cases hia : i = 12
          · subst hia
            match j with
            | 0 => exact absurd hn (by decide)
            | 1 => exact absurd hn (by decide)
            | 2 => exact absurd hn (by decide)
            | 3 => exact absurd hn (by decide)
            | 4 => exact absurd hn (by decide)
            | 5 => exact absurd hn (by decide)
            | 6 => exact absurd hn (by decide)
            | 7 => exact absurd hn (by decide)
            | 8 => exact absurd hn (by decide)
            | 9 => exact absurd hn (by decide)
            | 10 => exact absurd hn (by decide)
            | 11 => exact absurd hn (by decide)
            | 12 => exact absurd hn (by decide)
            | 13 => exact hv
            | _ + 14 => trivial
          · rw [if_neg hia] at h'
            match j with
            | 0 => exact hv
            | 1 => exact ⟨hv.1, row_later hv.2 h'⟩
            | 2 => exact hv
            | 3 => exact hv
            | 4 => exact hv
            | 5 => exact hv
            | 6 => exact hv
            | 7 => exact hv
            | 8 => exact hv
            | 9 => exact hv
            | 10 => exact hv
            | 11 => obtain ⟨g, e1, e2⟩ := hv; exact ⟨g, e1, e2.later h'⟩
            | 12 => exact row_later hv h'
            | 13 => exact hv
            | _ + 14 => trivial
        · rintro u hu
          exact opYields_val _ (by kernel_rfl) (by go_simp) ⟨Below.refl _ _, rfl⟩
        · rintro u hu _ rfl
          replace hu : Below w8.heap.size w8 u := hu
          obtain ⟨m0, m1, m2, m3, m4⟩ := (P4.later hu).cells
          exact opYields_val y2 (by kernel_rfl) (by go_simp) ⟨Below.refl _ _, rfl, row_later hq2 hu⟩
        · rintro u hu
          exact opYields_val _ (by kernel_rfl) (by go_simp) ⟨Below.refl _ _, rfl⟩
        · rintro u hu _ rfl
          replace hu : Below w8.heap.size w8 u := hu
          obtain ⟨m0, m1, m2, m3, m4⟩ := ((N0.below hb4 (by omega)).later hu).cells
          exact opYields_val (.slice (some ⟨b2, off2, none⟩) n2 c2) (by kernel_rfl) (by go_simp) ⟨Below.refl _ _, rfl⟩
        · rintro u hu
          exact opYields_val _ (by kernel_rfl) (by go_simp) ⟨Below.refl _ _, rfl⟩
        · rintro u hu _ rfl
          have hjz : (j : Int) = (m : Int) + 1 := by have := HJM.out; omega
          have hwm : IntKind.i64.wrap (m : Int) = (m : Int) := by rw [IntKind.wrap_i64]; omega
          exact opYields_val (.int .i64 m) (by kernel_rfl) (by go_simp) ⟨Below.refl _ _, rfl⟩
        · rintro u hu _ rfl _ rfl
          exact opYields_val (.pointer (some ⟨b2, off2 + m, none⟩)) (by kernel_rfl) (by go_simp) ⟨Below.refl _ _, rfl⟩
        · rintro u hu _ rfl
          replace hu : Below w8.heap.size w8 u := hu
          have t0 := HTx.out u (hb0.trans ((hb4.trans (hu.mono (by omega))).mono (by omega)))
          exact opYields_val (.string s) (by kernel_rfl) (by go_simp) ⟨Below.refl _ _, rfl⟩
        · rintro u hu
          exact opYields_val _ (by kernel_rfl) (by go_simp) ⟨Below.refl _ _, rfl⟩
        · rintro u hu _ rfl
          exact opYields_val (.int .i64 a.size) (by kernel_rfl) (by go_simp) ⟨Below.refl _ _, rfl⟩
        · rintro u hu _ rfl _ rfl
          exact opYields_val (.string (cutT a s)) (by kernel_rfl) (by unfold cutT; go_simp) ⟨Below.refl _ _, rfl⟩
        · rintro u hu _ rfl
          exact opYields_val (.slice (some ⟨u.heap.size, 0, none⟩) 1 1) (u' := u.alloc (.cells #[.string (cutT a s)] 9)) (by kernel_rfl) (by go_simp) ⟨below_box _ _, _, rfl, OneCell.new u _⟩
        · rintro u hu _ ⟨rfl, h1⟩ _ ⟨g, rfl, hg⟩
          replace hu : Below w8.heap.size w8 u := hu
          exact yOne tcell 1 16 23 9 _ (by omega) (fun _ => rfl) Try.underlying23 info9 rfl (by omega) oneT (by kernel_rfl) (.tmp 50) (.tmp 60) rfl (k3 + 1) _ (PT j) rfl h1 (cutT a s) g rfl hg.each (by omega) (by have := hu.size; omega) fun v' w' h2 h3 => ⟨h3, h2⟩
        · rintro u hu
          exact opYields_val _ (by kernel_rfl) (by go_simp) ⟨Below.refl _ _, rfl⟩
        · intro u hu x0 x1 x2 x3 x4 x5 x6 x7 x8 x9 x10 x11 x12 e12 x13 e13
          replace hu : w8.grownBy u y2.ownBlock := hu
          replace e13 : x13 = .pointer (some ⟨k3, 2, none⟩) := e13
          replace e12 : u.ownsRow (k3 + 1) 9 1 x12 (PT j ++ [cutT a s]).length ((PT j ++ [cutT a s]).flatMap tcell) := e12
          subst e13
          obtain ⟨b1, d1, q1, rfl⟩ := row_slice e12
          have P7 := P4.kept hu (row_ge hq2 (Nat.lt_succ_self k3))
          have f2 := P7.free 2
          obtain ⟨y0, y1, y2', y3, y4⟩ := P7.cells
          refine Puts.mk (u.setCell ⟨k3, 2, none⟩ (.slice b1 d1 q1)) (by kernel_rfl) (by go_simp) ?_
          have P8 := P7.put2 (.slice b1 d1 q1)
          have B8 := (B4.kept hu (fun e => by have := hlt2 kp e.symm; omega)).far (k' := k3) (i := 2) (u := .slice b1 d1 q1) (by omega)
          have L8 := (L4.kept hu (fun e => by have := hlt2 kL e.symm; omega)).far (k' := k3) (i := 2) (u := .slice b1 d1 q1) (by omega)
          have q2 := row_set (i := 2) (u := .slice b1 d1 q1) e12 (Nat.lt_succ_self k3)
          have q3 := row_set (i := 2) (u := .slice b1 d1 q1) (row_kept hq3 hq2 (by decide) hu) (Nat.lt_succ_self k3)
          have hb8 : Below k3 w4 (u.setCell ⟨k3, 2, none⟩ (.slice b1 d1 q1)) := (hb4.grown hu (by omega) fun k hk => by have := (World.ownsRow.lt hq2 k hk).1; omega).setCell (p := ⟨k3, 2, none⟩) (Nat.le_refl _) _
          simp only [Act.put, List.setIfInBounds_toArray, List.set_cons_zero, List.set_cons_succ]
          clear f2 P7 e12 hu y0 y1 y2' y3 y4 P4 B4 L4 hq2 hq3 hb4
          generalize u.setCell ⟨k3, 2, none⟩ (.slice b1 d1 q1) = u8 at *
          go_upto_region 11 with fail
          obtain ⟨e0, e1, e2, e3⟩ := B8.four
          simp only [Nat.zero_add] at e1 e2 e3
          dsimp only at e0 e1 e2 e3
          have f2 := B8.free 2
          have f3 := B8.free 3
          obtain ⟨l0, l1⟩ := L8.cells
          have B5 := B8.lift S A
          have P5 := (P8.far (k' := kp) (i := 2) (u := .string S) (by omega)).far (k' := kp) (i := 3) (u := .string A) (by omega)
          have r3 := row_far (i := 3) (u := .string A) (row_far (i := 2) (u := .string S) q3 (fun e => by have := hlt3 kp e.symm; omega)) (fun e => by have := hlt3 kp e.symm; omega)
          have r2 := row_type (i := 3) (u := .string A) (row_type (i := 2) (u := .string S) q2 B8 (by decide)) (Go.Joins.block_setCell B8 (.string S)) (by decide)
          have hb5 := (hb8.setCell (p := ⟨kp, 2, none⟩) (show k3 ≤ kp by omega) (.string S)).setCell (p := ⟨kp, 3, none⟩) (show k3 ≤ kp by omega) (.string A)
          go_upto_region 12 with fail
          clear e0 e1 e2 e3 f2 f3 l0 l1 P8 B8 L8 q2 q3 hb8
          generalize ((u8.setCell ⟨kp, 2, none⟩ (.string S)).setCell ⟨kp, 3, none⟩ (.string A)) = w10 at *
          obtain ⟨p0, p1, p2, p3, p4⟩ := P5.cells
          obtain ⟨e0, e1, e2, e3⟩ := B5.four
          simp only [Nat.zero_add] at e1 e2 e3
          dsimp only at e0 e1 e2 e3
          have hC := (EBox.new w10 ⟨xb, xd, S, A⟩).each
          have r3' := World.ownsRow.alloc r3 (.cells #[.int .u32 xb, .int .u16 xd, .string S, .string A] 72)
          have r2' := World.ownsRow.alloc r2 (.cells #[.int .u32 xb, .int .u16 xd, .string S, .string A] 72)
          have P6 := P5.alloc (.cells #[.int .u32 xb, .int .u16 xd, .string S, .string A] 72)
          have hb6 := hb5.alloc (show k3 ≤ w10.heap.size by have := P5.lt; omega) (.cells #[.int .u32 xb, .int .u16 xd, .string S, .string A] 72)
          have hlt10 := P5.lt
          clear r2 r3 hb5
          go_wp2_with (first | (at_builtin; refine appOne E.cells 4 40 24 72 _ (by omega) (fun _ => rfl) Try.underlying24 info72 rfl (by omega) oneE rfl _ _ rfl (k3 + 1) _ (KT j) rfl r3' ⟨xb, xd, S, A⟩ w10.heap.size rfl hC (by omega) (by simp; omega) ?_; intro v' w11 h1 h2; obtain ⟨g5, n5, q5, rfl⟩ := row_slice h1; have P7 := P6.kept h2 (row_ge r3' (Nat.lt_succ_self k3)); have s2 := row_kept r2' r3' (by decide) h2; have hb7 := hb6.grown h2 (by simp; omega) (fun k hk => by have := (World.ownsRow.lt r3' k hk).1; omega); clear p0 p1 p2 p3 p4 e0 e1 e2 e3 P6 P5 B5 r2' r3' hb6 h2 hC; obtain ⟨p0, p1, p2, p3, p4⟩ := P7.cells; have f3 := P7.free 3) | fail)
          go_roundw
          case rel => exact ⟨j + 1, _, _, by omega, by go_num, P7.put3 _, by rw [HPy.out]; exact row_set s2 (Nat.lt_succ_self k3), by rw [HKx.out, HEx.out]; exact row_set h1 (Nat.lt_succ_self k3), HO1, hb7.setCell (p := ⟨k3, 3, none⟩) (Nat.le_refl _) _⟩
          case measure => simp [intOf]; omega
    · obtain rfl : j = n3 := by omega
      have hbw := hb0.trans (hb.mono (by omega))
      have N2 := N0.below hb (by omega)
      have R2 : Box wr k1 (.string lo) (.string hi) (.bool e) := (hb.block k1 (by omega)).trans R0
      obtain ⟨m0, m1, m2, m3, m4⟩ := N2.cells
      obtain ⟨r0, r1, r2⟩ := R2.cells
      go_wp2_with fail
      refine (HTr.out wr hbw).mono ?_
      rintro x w7 ⟨⟨hx1, hx2⟩, hb7⟩
      have P2 := P1.later hb7
      have q2 := row_later ho2 hb7
      have q3 := row_later ho3 hb7
      have hs7 := hb7.size
      have hb8 := hb.trans (hb7.mono (by omega))
      clear m0 m1 m2 m3 m4 r0 r1 r2 N2 R2 ho2 ho3 hb
      have M2 := M0.below hb8 (by omega)
      obtain ⟨z0, z1, z2, z3, z4⟩ := M2.cells
      have f := M2.free
      have f0 := f 0
      have f1 := f 1
      have f2 := f 2
      have f3 := f 3
      have f4 := f 4
      clear f
      cases TB
      · obtain rfl := hx2 rfl
        clear hx1 hx2
        have hb5 := below_five (hb0.trans (hb8.mono (by omega))) (show k0 ≤ k2 by omega) (.bool false) (.slice none 0 0) (.slice none 0 0) (.slice none 0 0) (.slice none 0 0)
        go_wp2_with fail
        refine bodyPost_ret (v := .tuple #[.agg #[.bool false, .slice none 0 0, .slice none 0 0, .slice none 0 0, .slice none 0 0], .int .i64 1]) (by simp [results, Try.results60, go_sem, z0, z1, z2, z3, z4]) rfl ⟨⟨fun h => ?_, fun _ => rfl⟩, ?_⟩
        · rw [HF.out, Bool.and_false] at h; cases h
        · rw [HQ0.out]; exact hb5
      · obtain ⟨v, rfl, q4⟩ := hx1 rfl
        clear hx1 hx2
        replace q4 : w7.ownsRow wr.heap.size 90 6 v TL.length (TL.flatMap M.cells) := q4
        obtain ⟨b4, d4, t4, rfl⟩ := row_slice q4
        obtain ⟨b2, d2, t2, rfl⟩ := row_slice q2
        obtain ⟨b3, d3, t3, rfl⟩ := row_slice q3
        have g4 := P2.free 4
        obtain ⟨p0, p1, p2, p3, p4⟩ := P2.cells
        have P3 := P2.put4 (.slice b4 d4 t4)
        have q2 := row_set (i := 4) (u := .slice b4 d4 t4) q2 (Nat.lt_succ_self k3)
        have q3 := row_set (i := 4) (u := .slice b4 d4 t4) q3 (Nat.lt_succ_self k3)
        have q4 := row_set (i := 4) (u := .slice b4 d4 t4) q4 (show k3 < wr.heap.size by omega)
        have hb9 := hb8.setCell (p := ⟨k3, 4, none⟩) (Nat.le_refl _) (.slice b4 d4 t4)
        clear z0 z1 z2 z3 z4 f0 f1 f2 f3 f4
        go_upto_region 18 with fail
        clear p0 p1 p2 p3 p4 g4 hb8 P2 M2
        generalize w7.setCell ⟨k3, 4, none⟩ (.slice b4 d4 t4) = w9 at *
        have M2 := M0.below hb9 (by omega)
        obtain ⟨z0, z1, z2, z3, z4⟩ := M2.cells
        have f := M2.free
        have f0 := f 0
        have f1 := f 1
        have f2 := f 2
        have f3 := f 3
        have f4 := f 4
        clear f
        obtain ⟨p0, p1, p2, p3, p4⟩ := P3.cells
        have hb5 := below_five (hb0.trans (hb9.mono (by omega))) (show k0 ≤ k2 by omega) (.bool false) (.slice none 0 0) (.slice b2 d2 t2) (.slice b3 d3 t3) (.slice b4 d4 t4)
        have q2 := row_mono (row_five q2 (show k2 < k3 + 1 by omega) (y0 := .bool false) (y1 := .slice none 0 0) (y2 := .slice b2 d2 t2) (y3 := .slice b3 d3 t3) (y4 := .slice b4 d4 t4)) (show k0 + 1 ≤ k3 + 1 by omega)
        have q3 := row_mono (row_five q3 (show k2 < k3 + 1 by omega) (y0 := .bool false) (y1 := .slice none 0 0) (y2 := .slice b2 d2 t2) (y3 := .slice b3 d3 t3) (y4 := .slice b4 d4 t4)) (show k0 + 1 ≤ k3 + 1 by omega)
        have q4 := row_mono (row_five q4 (show k2 < wr.heap.size by omega) (y0 := .bool false) (y1 := .slice none 0 0) (y2 := .slice b2 d2 t2) (y3 := .slice b3 d3 t3) (y4 := .slice b4 d4 t4)) (show k0 + 1 ≤ wr.heap.size by omega)
        go_wp2_with fail
        refine bodyPost_ret (v := .tuple #[.agg #[.bool false, .slice none 0 0, .slice b2 d2 t2, .slice b3 d3 t3, .slice b4 d4 t4], .int .i64 0]) (by simp [results, Try.results60, go_sem, z0, z1, z2, z3, z4]) rfl ⟨⟨fun _ => ⟨_, _, _, rfl, ?_⟩, fun h => ?_⟩, ?_⟩
        · rw [HFn.out, HQ0.out]
          exact ⟨row_nil _ _ _ _, q2, q3, q4⟩
        · rw [HF.out, hok.out] at h; cases h
        · rw [HQ0.out]; exact hb5
end Go.Proofs.Ytlkcoaencliajaa.Key
