/-
  Contract of Trim (of messages), the document's.
-/
import Derived.Test.YtlkcoaencliajaaQu3
import Derived.Test.YtlkcoaencliajaaTAbout
import Derived.BigQuiet
namespace Go.Proofs.Ytlkcoaencliajaa.Key
open Go.RowKit Draw
open Go.Op (bytesLess)
set_option linter.unusedVariables false
set_option linter.unusedSimpArgs false

theorem OwnM.made (w : World) : OwnM (w.alloc (.cells #[] 90)) w.heap.size (.slice (some ⟨w.heap.size, 0, none⟩) 0 0) [] :=
  World.ownsRow_made (size := 6) w #[] 0 (Nat.le_refl _) (Nat.zero_le _) (by simp)
theorem tl_at {l : List M} {r : Rng} {a : ByteArray} {j : Nat} {x : M} (h : l[j]? = some x) : trimL (l.take (j + 1)) r a = if touch x r then trimL (l.take j) r a ++ [shortM x a] else trimL (l.take j) r a := by
  obtain ⟨hj, rfl⟩ := List.getElem?_eq_some_iff.1 h
  unfold trimL some'
  rw [List.take_succ_eq_append_getElem hj, List.filter_append, List.map_append]
  cases ht : touch l[j] r <;> simp [ht]
theorem tb_at {l : List M} {r : Rng} {a : ByteArray} {j : Nat} {x : M} (h : l[j]? = some x) : trimB (l.take (j + 1)) r a = (trimB (l.take j) r a && (!touch x r || shortB x a)) := by
  obtain ⟨hj, rfl⟩ := List.getElem?_eq_some_iff.1 h
  unfold trimB some'
  rw [List.take_succ_eq_append_getElem hj, List.filter_append, List.all_append]
  congr 1
  cases ht : touch l[j] r <;> simp [ht]
theorem tb_no {l : List M} {r : Rng} {a : ByteArray} {j : Nat} (h : trimB (l.take j) r a = false) : trimB l r a = false := by
  cases hq : trimB l r a
  · rfl
  · unfold trimB some' at h hq
    rw [List.all_eq_true] at hq
    rw [Bool.eq_false_iff, ne_eq, List.all_eq_true] at h
    refine absurd (fun x hx => ?_) h
    obtain ⟨h1, h2⟩ := List.mem_filter.1 hx
    exact hq x (List.mem_filter.2 ⟨List.mem_of_mem_take h1, h2⟩)
theorem tl_le (l : List M) (r : Rng) (a : ByteArray) : (trimL l r a).length ≤ l.length := trim_length l r a
/-- the ways of a message that is trimmed -/
theorem short_front {m : M} {a : ByteArray} (h : has m.key.data.toList a.data.toList = true) (h16 : m.add.size ≤ 16) : shortM m a = ⟨m.kind, m.key.extract a.size m.key.size, m.val, m.blk, m.deep, m.add⟩ ∧ shortB m a = true := by
  unfold shortM shortB
  rw [if_pos h, if_pos h]
  exact ⟨rfl, decide_eq_true h16⟩
theorem short_back {m : M} {a : ByteArray} (h : has m.key.data.toList a.data.toList = false) (h3 : m.kind = 3) (h' : has a.data.toList m.key.data.toList = true) : shortM m a = ⟨m.kind, ⟨#[]⟩, m.val, m.blk, m.deep, m.add ++ a.extract m.key.size a.size⟩ ∧ shortB m a = decide ((m.add ++ a.extract m.key.size a.size).size ≤ 16) := by
  unfold shortM shortB
  rw [h, if_neg (by simp), if_pos ⟨h3, h'⟩, if_neg (by simp), if_pos ⟨h3, h'⟩]
  exact ⟨rfl, rfl⟩
theorem short_else {m : M} {a : ByteArray} (h : has m.key.data.toList a.data.toList = false) (h' : ¬ (m.kind = 3 ∧ has a.data.toList m.key.data.toList = true)) : shortB m a = false := by
  unfold shortB
  rw [h, if_neg (by simp), if_neg h']

/-- what the document's Trim of messages answers -/
def TrimPostR (w w' : World) (x : Ending) (L : List M) (b : Bool) : Prop :=
  (b = true → ∃ v, x = .returned (.tuple #[v, .int .i64 0]) ∧ OwnM w' w.heap.size v L) ∧ (b = false → ∃ g, x = .returned (.tuple #[.slice (some ⟨g, 0, none⟩) 0 0, .int .i64 1]))

set_option maxRecDepth 100000 in
set_option maxHeartbeats 4000000 in
theorem trim34 (a0 : Option Addr) (c : Nat) (l : List M) (lo hi : ByteArray) (e : Bool) (s : ByteArray) (w : World) (hl : l.length ≤ 1000) (hm : Msgs w a0 l) (hk : ∀ m ∈ l, m.key.size ≤ 1000 ∧ m.add.size ≤ 16) (hs : s.size ≤ 1000) :
    Calls Try.prog 65 #[.slice a0 l.length c, av lo hi e, .string s] w fun x w' => TrimPostR w w' x (trimL l (rg lo hi e) s) (trimB l (rg lo hi e) s) ∧ Below w.heap.size w w' := by
  have HMw := hid (fun (wr : World) (hb : Below w.heap.size w wr) => hm.later hb)
  have HL := hid (fun j x (hx : l[j]? = some x) => tl_at (r := rg lo hi e) (a := s) hx)
  have HB := hid (fun j x (hx : l[j]? = some x) => tb_at (r := rg lo hi e) (a := s) hx)
  have HN := hid (fun j (h : trimB (l.take j) (rg lo hi e) s = false) => tb_no h)
  have HK := hid (fun (m : M) (h : m ∈ l) => hk m h)
  have HLl := hid (fun j => tl_le (l.take j) (rg lo hi e) s)
  have HT1 := hid (show trimL (l.take l.length) (rg lo hi e) s = trimL l (rg lo hi e) s by rw [List.take_length])
  have HT2 := hid (show trimB (l.take l.length) (rg lo hi e) s = trimB l (rg lo hi e) s by rw [List.take_length])
  clear hm hk
  generalize trimL l (rg lo hi e) s = TL at *
  generalize trimB l (rg lo hi e) s = TB at *
  generalize hn : l.length = n at *
  have HNn := hid hn
  clear hn
  have R0 := (Box.new w (.string lo) (.string hi) (.bool e)).alloc (.cells #[] 90)
  have O0 := OwnM.made (w.alloc (.cells #[.string lo, .string hi, .bool e] 29))
  have hb0 : Below w.heap.size w ((w.alloc (.cells #[.string lo, .string hi, .bool e] 29)).alloc (.cells #[] 90)) := (below_box w _).alloc (by simp) _
  have hs0 : ((w.alloc (.cells #[.string lo, .string hi, .bool e] 29)).alloc (.cells #[] 90)).heap.size = w.heap.size + 1 + 1 := by simp
  simp only [World.size_alloc] at O0
  go_enter Try.func65, Try.ntmps65
  go_upto_region 2 with fail
  generalize ((w.alloc (.cells #[.string lo, .string hi, .bool e] 29)).alloc (.cells #[] 90)) = w2 at *
  generalize hk0 : w.heap.size = k0 at *
  generalize hk1 : k0 + 1 = k1 at *
  have HQ0 := hid hk0
  have HQ := hid hk1
  clear hk0 hk1
  go_wp2_with fail
  go_loopw [14, 8] (fun i v wr => ∃ j : Nat, j ≤ n ∧ i = .int .i64 j ∧ OwnM wr k1 v (trimL (l.take j) (rg lo hi e) s) ∧ Hid (trimB (l.take j) (rg lo hi e) s = true) ∧ Below k1 w2 wr) (fun i _ _ => n - (intOf i).toNat)
  case atStart => exact ⟨0, Nat.zero_le _, rfl, O0, hid rfl, Below.refl _ _⟩
  case round =>
    obtain ⟨j, hj, rfl, ho, hok, hb⟩ := hrel
    have hkk := HQ.out
    have hsw := hb.size
    by_cases hlt : j < n
    · have hlt' : j < l.length := by rw [HNn.out]; exact hlt
      have hbw := hb0.trans (hb.mono (by omega))
      obtain ⟨b, off, hA, c6⟩ := (HMw.out wr hbw).at hlt'
      subst hA
      obtain ⟨x, hx⟩ : ∃ x, l[j]? = some x := ⟨_, List.getElem?_eq_getElem hlt'⟩
      have hxe : l[j] = x := by rw [List.getElem?_eq_getElem hlt'] at hx; exact Option.some.inj hx
      rw [hxe] at c6
      have HLj := hid (HL.out j x hx)
      have HBj := hid (HB.out j x hx)
      have HNj := hid (HN.out (j + 1))
      obtain ⟨hkx, hax⟩ := HK.out x (by rw [← hxe]; exact List.getElem_mem hlt')
      have HAb := hid (fun wr => about15 x wr hkx)
      have HCj := hid (cut26 (str (aboutR x).lo) (str (aboutR x).hi) (aboutR x).e lo hi e)
      rw [show rg (str (aboutR x).lo) (str (aboutR x).hi) (aboutR x).e = aboutR x from rfl] at HCj
      have HEj := hid (empty28 (str (cutR (aboutR x) (rg lo hi e)).lo) (str (cutR (aboutR x) (rg lo hi e)).hi) (cutR (aboutR x) (rg lo hi e)).e)
      rw [show rg (str (cutR (aboutR x) (rg lo hi e)).lo) (str (cutR (aboutR x) (rg lo hi e)).hi) (cutR (aboutR x) (rg lo hi e)).e = cutR (aboutR x) (rg lo hi e) from rfl] at HEj
      have HTj := hid (show touch x (rg lo hi e) = !emptyR (cutR (aboutR x) (rg lo hi e)) from rfl)
      unfold rv at HCj HAb
      generalize emptyR (cutR (aboutR x) (rg lo hi e)) = bE at *
      generalize str (cutR (aboutR x) (rg lo hi e)).lo = C0 at *
      generalize str (cutR (aboutR x) (rg lo hi e)).hi = C1 at *
      generalize (cutR (aboutR x) (rg lo hi e)).e = C2 at *
      generalize str (aboutR x).lo = L0 at *
      generalize str (aboutR x).hi = L1 at *
      generalize (aboutR x).e = L2 at *
      clear hx hxe
      have HLlj := HLl.out j
      rw [List.length_take, Nat.min_eq_left (Nat.le_of_lt hlt')] at HLlj
      have B1 := MBox.new wr x
      have ho2 := World.ownsRow.alloc ho (.cells #[.int .u8 x.kind, .string x.key, .string x.val, .int .u32 x.blk, .int .u16 x.deep, .string x.add] 90)
      have hlt1 : ∀ k, u8.ownBlock = some k → k < wr.heap.size := fun k hk => (World.ownsRow.lt ho k hk).2
      have hb2 := hb.alloc (show k1 ≤ wr.heap.size by omega) (.cells #[.int .u8 x.kind, .string x.key, .string x.val, .int .u32 x.blk, .int .u16 x.deep, .string x.add] 90)
      have HF := hid (fun h => short_front (m := x) (a := s) h hax)
      have HG := hid (fun h h3 h' => short_back (m := x) (a := s) h h3 h')
      have HE := hid (fun h h' => short_else (m := x) (a := s) h h')
      have HS1 := hid (fun h => has_size (k := x.key) (s := s) h)
      have HS2 := hid (fun h => has_size (k := s) (s := x.key) h)
      have H1 := hid (fun wr => has22 x.key s wr)
      have H2 := hid (fun wr => has22 s x.key wr)
      generalize has x.key.data.toList s.data.toList = h1 at *
      generalize has s.data.toList x.key.data.toList = h2 at *
      generalize shortM x s = X' at *
      generalize shortB x s = oB at *
      generalize touch x (rg lo hi e) = tx at *
      generalize trimL (l.take j) (rg lo hi e) s = TLj at *
      obtain ⟨x0, x1, x2, x3, x4, x5⟩ := x
      obtain ⟨c0, c1', c2', c3', c4', c5'⟩ := c6
      dsimp only at *
      go_upto_region 6 with fail
      clear c0 c1' c2' c3' c4' c5'
      generalize hkp : wr.heap.size = kp at *
      have HKP := hid hkp
      clear hkp
      generalize wr.alloc (.cells #[.int .u8 x0, .string x1, .string x2, .int .u32 x3, .int .u16 x4, .string x5] 90) = w5 at *
      have R2 : Box w5 k0 (.string lo) (.string hi) (.bool e) := (hb2.block k0 (by omega)).trans R0
      have hs5 := hb2.size
      have hkp5 := B1.lt
      clear hbw hb ho
      refine wp_region_quiet (C := fun u => Below w5.heap.size w5 u) (by kernel_rfl) (by kernel_rfl) (Below.refl _ w5).drew ?_
      change wpQuiet _ _ _ _ (_ :: _) _
      repeat
        first
          | go_big_quiet_skip
          | go_big_quiet_want
            first
              | refine quiet_v ?_ ?_ ?_
                rotate_left
                · intro u hu
                  obtain ⟨m0, m1, m2, m3, m4, m5⟩ := (B1.later hu).six
                  obtain ⟨r0, r1, r2⟩ := (R2.later hu).cells
                  go_simp
                  with_reducible rfl
              | refine quiet_c (.agg #[.string L0, .string L1, .bool L2]) 79 #[.agg #[.int .u8 x0, .string x1, .string x2, .int .u32 x3, .int .u16 x4, .string x5]] ?_ (fun u hu => (HAb.out u).mono fun x u' h => ⟨h.1, hu.trans (h.2.mono hu.size)⟩) ?_
                · intro u hu
                  go_simp
                  done
              | refine quiet_c (.agg #[.string C0, .string C1, .bool C2]) 63 #[.agg #[.string L0, .string L1, .bool L2], .agg #[.string lo, .string hi, .bool e]] ?_ (fun u hu => (HCj.out u).mono fun x u' h => ⟨h.1, hu.trans (h.2.mono hu.size)⟩) ?_
                · intro u hu
                  go_simp
                  done
              | refine quiet_c (.bool bE) 49 #[.agg #[.string C0, .string C1, .bool C2]] ?_ (fun u hu => (HEj.out u).mono fun x u' h => ⟨h.1, hu.trans (h.2.mono hu.size)⟩) ?_
                · intro u hu
                  go_simp
                  done
            go_simp
            go_big_quiet_on
      refine wpQuiet_nil (fun u hu => ?_)
      have B3 := B1.later hu
      have hq := OwnM.later ho2 hu
      have hs6 := hu.size
      have hb3 := hb2.trans (hu.mono (by omega))
      clear B1 ho2 hb2 hu R2 HAb HCj HEj
      cases bE
      case true =>
        go_wp2_with fail
        go_roundw
        case rel => exact ⟨j + 1, by omega, by go_num, by rw [HLj.out, HTj.out, if_neg (by simp)]; exact hq, by unfold Hid; rw [HBj.out, hok.out, HTj.out]; rfl, hb3⟩
        case measure => simp [intOf]; omega
      case false =>
      have HLx := hid (show trimL (l.take (j + 1)) (rg lo hi e) s = TLj ++ [X'] from by rw [HLj.out, HTj.out]; rfl)
      have HBx := hid (show trimB (l.take (j + 1)) (rg lo hi e) s = oB from by rw [HBj.out, hok.out, HTj.out]; simp)
      clear HLj HBj HTj hok
      obtain ⟨m0, m1, m2, m3, m4, m5⟩ := B3.six
      simp only [Nat.zero_add] at m1 m2 m3 m4 m5
      dsimp only at m0 m1 m2 m3 m4 m5
      go_wp2_with fail
      refine (H1.out _).mono ?_
      rintro x w7 ⟨rfl, rfl⟩
      cases h1
      case true =>
        obtain ⟨hX, hO⟩ := HF.out rfl
        have hsz := HS1.out rfl
        have hsz' : (s.size : Int) ≤ (x1.size : Int) := by omega
        have f1 := B3.free 1
        have B4 : MBox (w7.setCell ⟨kp, 1, none⟩ (.string (x1.extract s.size x1.size))) kp ⟨x0, x1.extract s.size x1.size, x2, x3, x4, x5⟩ := Go.Joins.block_setCell B3 (.string (x1.extract s.size x1.size))
        have hq4 : OwnM (w7.setCell ⟨kp, 1, none⟩ (.string (x1.extract s.size x1.size))) k1 u8 TLj := row_far (i := 1) (u := .string (x1.extract s.size x1.size)) hq (fun e => by have := hlt1 kp e.symm; omega)
        have hb4 := hb3.setCell (p := ⟨kp, 1, none⟩) (show k1 ≤ kp by omega) (.string (x1.extract s.size x1.size))
        clear hsz
        go_upto_region 15 with fail
        clear m0 m1 m2 m3 m4 m5 f1 B3 hq hb3 hsz'
        generalize w7.setCell ⟨kp, 1, none⟩ (.string (x1.extract s.size x1.size)) = w8 at *
        generalize x1.extract s.size x1.size = x1' at *
        have hC := (MBox.new w8 ⟨x0, x1', x2, x3, x4, x5⟩)
        obtain ⟨m0, m1, m2, m3, m4, m5⟩ := B4.six
        simp only [Nat.zero_add] at m1 m2 m3 m4 m5
        dsimp only at m0 m1 m2 m3 m4 m5 hC
        have hkp8 := B4.lt
        obtain ⟨g9, d9, q9, hv9⟩ := row_slice hq4
        subst hv9
        go_wp2_with (first | (at_builtin; refine appM (w0 := w2) rfl _ _ rfl k1 _ _ rfl (World.ownsRow.alloc hq4 _) ⟨x0, x1', x2, x3, x4, x5⟩ w8.heap.size rfl hC (by omega) (by simp; omega) (hb4.alloc (by omega) _) ?_; intro v' w9 h9 hb9 _; clear m0 m1 m2 m3 m4 m5 hC hq4 hb4 B4) | fail)
        go_roundw
        case rel => exact ⟨j + 1, by omega, by go_num, by rw [HLx.out, hX]; exact h9, by unfold Hid; rw [HBx.out, hO], hb9⟩
        case measure => simp [intOf]; omega
      case false =>
      by_cases h3 : x0 = 3
      case neg =>
        have HEx := hid (HE.out rfl (fun h => h3 h.1))
        have h3' : (x0 == 3) = false := by simpa using h3
        have hd3 : decide (x0 = 3) = false := by simpa using h3
        clear h3
        go_wp2_with fail
        go_ret2
        rw [HQ0.out]
        exact ⟨⟨fun h => (by rw [HNj.out (by rw [HBx.out]; exact HEx.out)] at h; cases h), fun _ => ⟨_, rfl⟩⟩, hb0.trans ((hb3.mono (by omega)).alloc (by omega) _)⟩
      case pos =>
      subst h3
      cases h2
      case false =>
        have HEx := hid (HE.out rfl (fun h => by cases h.2))
        go_wp2_with fail
        refine (H2.out _).mono ?_
        rintro x w8 ⟨rfl, rfl⟩
        go_wp2_with fail
        go_ret2
        rw [HQ0.out]
        exact ⟨⟨fun h => (by rw [HNj.out (by rw [HBx.out]; exact HEx.out)] at h; cases h), fun _ => ⟨_, rfl⟩⟩, hb0.trans ((hb3.mono (by omega)).alloc (by omega) _)⟩
      case true =>
      obtain ⟨hX, hO⟩ := HG.out rfl rfl rfl
      have HXX := hid hX
      have HOO := hid hO
      clear hX hO
      have hsz := HS2.out rfl
      have hsz' : (x1.size : Int) ≤ (s.size : Int) := by omega
      clear hsz
      go_wp2_with fail
      refine (H2.out _).mono ?_
      rintro x w8 ⟨rfl, rfl⟩
      go_upto_region 10 with fail
      clear m0 m1 m2 m3 m4 m5
      have hs8 := hb3.size
      have hsum : ¬ 9223372036854775807 < x5.size + (s.size - x1.size) := by omega
      refine wp_region_last [(some 45, [], false), (some 46, [(0, 45)], false), (some 47, [], false), (some 48, [], false), (some 49, [(3, 48)], false), (some 50, [(4, 49)], false), (some 51, [(2, 47), (5, 50)], false), (some 52, [(1, 46), (6, 51)], true), (some 53, [], true), (none, [(8, 53), (7, 52)], false)]
        (fun u => Below w8.heap.size w8 u) (fun _ u u' => Below u.heap.size u u')
        (fun i Y u => match i with | 0 => Y = .pointer (some ⟨kp, 5, none⟩) | 1 => Y = .string x5 | 2 => Y = .string s | 3 => Y = .pointer (some ⟨kp, 1, none⟩) | 4 => Y = .string x1 | 5 => Y = .int .i64 x1.size | 6 => Y = .string (s.extract x1.size s.size) | 7 => Y = .string (x5 ++ s.extract x1.size s.size) | 8 => Y = .pointer (some ⟨kp, 5, none⟩) | _ => True)
        (by kernel_rfl) (by kernel_rfl) (Below.refl _ _).drew (fun i u u' h h' => h.trans (h'.mono h.size)) (fun i j v u u' hn h h' hv => hv) [(some 45, [], false), (some 46, [(0, 45)], false), (some 47, [], false), (some 48, [], false), (some 49, [(3, 48)], false), (some 50, [(4, 49)], false), (some 51, [(2, 47), (5, 50)], false), (some 52, [(1, 46), (6, 51)], true), (some 53, [], true)] 9 rfl _ rfl rfl (by kernel_rfl) (by kernel_rfl) ⟨?_, ?_, ?_, ?_, ?_, ?_, ?_, ?_, ?_, trivial⟩ ?_
      · rintro u hu
        exact opYields_val _ (by kernel_rfl) (by go_simp) ⟨Below.refl _ _, rfl⟩
      · rintro u hu _ rfl
        obtain ⟨m0, m1, m2, m3, m4, m5⟩ := (B3.later hu).six
        simp only [Nat.zero_add] at m1 m5
        try dsimp only at m1 m5
        exact opYields_val (.string x5) (by kernel_rfl) (by go_simp) ⟨Below.refl _ _, rfl⟩
      · rintro u hu
        exact opYields_val _ (by kernel_rfl) (by go_simp) ⟨Below.refl _ _, rfl⟩
      · rintro u hu
        exact opYields_val _ (by kernel_rfl) (by go_simp) ⟨Below.refl _ _, rfl⟩
      · rintro u hu _ rfl
        obtain ⟨m0, m1, m2, m3, m4, m5⟩ := (B3.later hu).six
        simp only [Nat.zero_add] at m1 m5
        try dsimp only at m1 m5
        exact opYields_val (.string x1) (by kernel_rfl) (by go_simp) ⟨Below.refl _ _, rfl⟩
      · rintro u hu _ rfl
        exact opYields_val (.int .i64 x1.size) (by kernel_rfl) (by go_simp) ⟨Below.refl _ _, rfl⟩
      · rintro u hu _ rfl _ rfl
        exact opYields_val (.string (s.extract x1.size s.size)) (by kernel_rfl) (by go_simp) ⟨Below.refl _ _, rfl⟩
      · rintro u hu _ rfl _ rfl
        exact opYields_val (.string (x5 ++ s.extract x1.size s.size)) (by kernel_rfl) (by go_simp) ⟨Below.refl _ _, rfl⟩
      · rintro u hu
        exact opYields_val _ (by kernel_rfl) (by go_simp) ⟨Below.refl _ _, rfl⟩
      · intro u hu y0 y1 y2 y3 y4 y5 y6 y7 e7 y8 e8
        replace hu : Below w8.heap.size w8 u := hu
        replace e7 : y7 = .string (x5 ++ s.extract x1.size s.size) := e7
        replace e8 : y8 = .pointer (some ⟨kp, 5, none⟩) := e8
        subst e7 e8
        have B5 := B3.later hu
        have hq5 := OwnM.later hq hu
        have hb5 := hb3.trans (hu.mono (by omega))
        have hs9 := hu.size
        obtain ⟨m0, m1, m2, m3, m4, m5⟩ := B5.six
        simp only [Nat.zero_add] at m1 m2 m3 m4 m5
        dsimp only at m0 m1 m2 m3 m4 m5
        have f5 := B5.free 5
        refine Puts.mk (u.setCell ⟨kp, 5, none⟩ (.string (x5 ++ s.extract x1.size s.size))) (by kernel_rfl) (by go_simp) ?_
        have B6 : MBox (u.setCell ⟨kp, 5, none⟩ (.string (x5 ++ s.extract x1.size s.size))) kp ⟨3, x1, x2, x3, x4, x5 ++ s.extract x1.size s.size⟩ := Go.Joins.block_setCell B5 (.string (x5 ++ s.extract x1.size s.size))
        have hq6 : OwnM (u.setCell ⟨kp, 5, none⟩ (.string (x5 ++ s.extract x1.size s.size))) k1 u8 TLj := row_far (i := 5) (u := .string (x5 ++ s.extract x1.size s.size)) hq5 (fun e => by have := hlt1 kp e.symm; omega)
        have hb6 := hb5.setCell (p := ⟨kp, 5, none⟩) (show k1 ≤ kp by omega) (.string (x5 ++ s.extract x1.size s.size))
        simp only [Act.put, List.setIfInBounds_toArray, List.set_cons_zero, List.set_cons_succ]
        clear m0 m1 m2 m3 m4 m5 f5 B5 hq5 hb5 B3 hq hb3
        generalize u.setCell ⟨kp, 5, none⟩ (.string (x5 ++ s.extract x1.size s.size)) = u1 at *
        generalize x5 ++ s.extract x1.size s.size = x5' at *
        obtain ⟨m0, m1, m2, m3, m4, m5⟩ := B6.six
        simp only [Nat.zero_add] at m1 m2 m3 m4 m5
        dsimp only at m0 m1 m2 m3 m4 m5
        have f1 := B6.free 1
        have B4 : MBox (u1.setCell ⟨kp, 1, none⟩ (.string ⟨#[]⟩)) kp ⟨3, ⟨#[]⟩, x2, x3, x4, x5'⟩ := Go.Joins.block_setCell B6 (.string ⟨#[]⟩)
        have hq4 : OwnM (u1.setCell ⟨kp, 1, none⟩ (.string ⟨#[]⟩)) k1 u8 TLj := row_far (i := 1) (u := .string ⟨#[]⟩) hq6 (fun e => by have := hlt1 kp e.symm; omega)
        have hb4 := hb6.setCell (p := ⟨kp, 1, none⟩) (show k1 ≤ kp by omega) (.string ⟨#[]⟩)
        go_upto_region 12 with fail
        clear m0 m1 m2 m3 m4 m5 f1 B6 hq6 hb6
        generalize u1.setCell ⟨kp, 1, none⟩ (.string ⟨#[]⟩) = w8' at *
        by_cases h16 : x5'.size ≤ 16
        case neg =>
          have HEx := hid (show oB = false from by rw [HOO.out, decide_eq_false h16])
          have h16' : (16 : Int) < (x5'.size : Int) := by omega
          clear h16
          obtain ⟨m0, m1, m2, m3, m4, m5⟩ := B4.six
          simp only [Nat.zero_add] at m1 m2 m3 m4 m5
          dsimp only at m0 m1 m2 m3 m4 m5
          have hkp8 := B4.lt
          go_wp2_with fail
          go_ret2
          rw [HQ0.out]
          exact ⟨⟨fun h => (by rw [HNj.out (by rw [HBx.out]; exact HEx.out)] at h; cases h), fun _ => ⟨_, rfl⟩⟩, hb0.trans ((hb4.mono (by omega)).alloc (by omega) _)⟩
        case pos =>
        have HO3 := hid (show oB = true from by rw [HOO.out, decide_eq_true h16])
        have h16' : ¬ (16 : Int) < (x5'.size : Int) := by omega
        clear h16
        obtain ⟨m0, m1, m2, m3, m4, m5⟩ := B4.six
        simp only [Nat.zero_add] at m1 m2 m3 m4 m5
        dsimp only at m0 m1 m2 m3 m4 m5
        go_upto_region 15 with fail
        clear m0 m1 m2 m3 m4 m5
        have hC := (MBox.new w8' ⟨3, ⟨#[]⟩, x2, x3, x4, x5'⟩)
        obtain ⟨m0, m1, m2, m3, m4, m5⟩ := B4.six
        simp only [Nat.zero_add] at m1 m2 m3 m4 m5
        dsimp only at m0 m1 m2 m3 m4 m5 hC
        have hkp8 := B4.lt
        obtain ⟨g9, d9, q9, hv9⟩ := row_slice hq4
        subst hv9
        go_wp2_with (first | (at_builtin; refine appM (w0 := w2) rfl _ _ rfl k1 _ _ rfl (World.ownsRow.alloc hq4 _) ⟨3, ⟨#[]⟩, x2, x3, x4, x5'⟩ w8'.heap.size rfl hC (by omega) (by simp; omega) (hb4.alloc (by omega) _) ?_; intro v' w9 h9 hb9 _; clear m0 m1 m2 m3 m4 m5 hC hq4 hb4 B4) | fail)
        go_roundw
        case rel => exact ⟨j + 1, by omega, by go_num, by rw [HLx.out, HXX.out]; exact h9, by unfold Hid; rw [HBx.out, HO3.out], hb9⟩
        case measure => simp [intOf]; omega
    · obtain rfl : j = n := by omega
      have e1 : trimL (l.take j) (rg lo hi e) s = TL := HT1.out
      have e2 : TB = true := by rw [← HT2.out]; exact hok.out
      rw [e1] at ho
      go_wp2_with fail
      go_ret2
      rw [HQ0.out]
      exact ⟨⟨fun _ => ⟨_, rfl, row_mono ho (by have := HQ0.out; omega)⟩, fun h => by rw [e2] at h; cases h⟩, hb0.trans (hb.mono (by omega))⟩
end Go.Proofs.Ytlkcoaencliajaa.Key
