/-
  Contract of trimLeaf.
-/
import Derived.Test.YtlkcoaencliajaaTApp
namespace Go.Proofs.Ytlkcoaencliajaa.Key
open Go.RowKit Draw
open Go.Op (bytesLess)
set_option linter.unusedVariables false
set_option linter.unusedSimpArgs false

theorem psT_succ {ps : List Pr} {r : Rng} {a : ByteArray} {j : Nat} (h : j < ps.length) : psT (ps.take (j + 1)) r a = if inP r ps[j] then psT (ps.take j) r a ++ [cutP a ps[j]] else psT (ps.take j) r a := by
  unfold psT
  rw [List.take_succ_eq_append_getElem h, List.filter_append, List.map_append]
  cases hp : inP r ps[j] <;> simp [hp]
theorem psT_at {ps : List Pr} {r : Rng} {a : ByteArray} {j : Nat} {x : Pr} (h : ps[j]? = some x) : psT (ps.take (j + 1)) r a = if inP r x then psT (ps.take j) r a ++ [cutP a x] else psT (ps.take j) r a := by
  obtain ⟨hj, rfl⟩ := List.getElem?_eq_some_iff.1 h
  exact psT_succ hj
theorem psT_le (ps : List Pr) (r : Rng) (a : ByteArray) : (psT ps r a).length ≤ ps.length := by
  unfold psT
  rw [List.length_map]
  exact List.length_filter_le _ _

set_option maxRecDepth 100000 in
set_option maxHeartbeats 2000000 in
theorem leaf29 (n : Nd) (p : Pl) (lo hi : ByteArray) (e : Bool) (a : ByteArray) (w : World) (hl : n.ps.length ≤ 1000) (h : Prs w p.a1 n.ps) (hin : ∀ k, inR (rg lo hi e) k = true → has k a.data.toList = true) :
    Calls Try.prog 59 #[nv n p, av lo hi e, .string a] w fun x w' => ∃ x1, x = .returned (.agg #[.bool true, x1, .slice none 0 0, .slice none 0 0, .slice none 0 0]) ∧ w'.ownsRow (w.heap.size + 1) 64 2 x1 (psT n.ps (rg lo hi e) a).length ((psT n.ps (rg lo hi e) a).flatMap Pr.cells) ∧ Below w.heap.size w w' := by
  have HP := hid h
  clear h
  obtain ⟨lf, ps, ws, ks, bf⟩ := n
  obtain ⟨a1, c1, a2, c2, a3, c3, a4, c4⟩ := p
  dsimp only [nv] at *
  have HI := hid (fun k w => in32 lo hi k e w)
  have HF := hid (fun (x : Pr) (hx : inP (rg lo hi e) x = true) => has_size (k := x.key) (s := a) (hin _ hx))
  have HS := hid (fun j x (hx : ps[j]? = some x) => psT_at (r := rg lo hi e) (a := a) hx)
  have HT := hid (show psT (ps.take ps.length) (rg lo hi e) a = psT ps (rg lo hi e) a by rw [List.take_length])
  have HL := hid (fun j => psT_le (ps.take j) (rg lo hi e) a)
  have H0 := hid (show psT (ps.take 0) (rg lo hi e) a = [] from rfl)
  clear hin
  generalize ws.length = n2 at *
  generalize ks.length = n3 at *
  generalize bf.length = n4 at *
  generalize hn1 : ps.length = n1 at *
  have HN := hid hn1
  clear hn1
  obtain ⟨N0, R0, M0, P0, hb0, hs0⟩ := four_boxes w (.bool lf) (.slice a1 n1 c1) (.slice a2 n2 c2) (.slice a3 n3 c3) (.slice a4 n4 c4) (.string lo) (.string hi) (.bool e) (.bool false) (.slice none 0 0) (.slice none 0 0) (.slice none 0 0) (.slice none 0 0) (.bool true) (.slice none 0 0) (.slice none 0 0) (.slice none 0 0) (.slice none 0 0)
  go_enter Try.func59, Try.ntmps59
  go_upto_region 2 with fail
  generalize (((w.alloc (.cells #[.bool lf, .slice a1 n1 c1, .slice a2 n2 c2, .slice a3 n3 c3, .slice a4 n4 c4] 27)).alloc (.cells #[.string lo, .string hi, .bool e] 29)).alloc (.cells #[.bool false, .slice none 0 0, .slice none 0 0, .slice none 0 0, .slice none 0 0] 27)).alloc (.cells #[.bool true, .slice none 0 0, .slice none 0 0, .slice none 0 0, .slice none 0 0] 27) = w4 at *
  have HPw := hid (fun wr (hb : Below w.heap.size w wr) => HP.out.later hb)
  clear HP
  generalize hk0 : w.heap.size = k0 at *
  generalize hk1 : k0 + 1 = k1 at *
  generalize hk2 : k1 + 1 = k2 at *
  generalize hk3 : k2 + 1 = k3 at *
  have HK0 := hid hk0
  have HK := hid (And.intro hk1 (And.intro hk2 hk3))
  clear hk0 hk1 hk2 hk3
  obtain ⟨m0, m1, m2, m3, m4⟩ := N0.cells
  go_upto_region 2 with fail
  go_wp2_with fail
  clear m0 m1 m2 m3 m4
  go_loopw [14] (fun i wr => ∃ (j : Nat) (v : Value), j ≤ n1 ∧ i = .int .i64 j ∧ NBox wr k3 (.bool true) v (.slice none 0 0) (.slice none 0 0) (.slice none 0 0) ∧ wr.ownsRow (k3 + 1) 64 2 v (psT (ps.take j) (rg lo hi e) a).length ((psT (ps.take j) (rg lo hi e) a).flatMap Pr.cells) ∧ Below k3 w4 wr) (fun i _ => n1 - (intOf i).toNat)
  case atStart => exact ⟨0, _, Nat.zero_le _, rfl, P0, by rw [H0.out]; exact row_nil _ _ _ _, Below.refl _ _⟩
  case round =>
    obtain ⟨j, v, hj, rfl, P1, ho, hb⟩ := hrel
    have hkk := HK.out
    have hPlt := P1.lt
    by_cases hlt : j < n1
    · have hlt' : j < ps.length := by rw [HN.out]; exact hlt
      have hbw := hb0.trans (hb.mono (by omega))
      obtain ⟨b, off, ha, c0, c1'⟩ := (HPw.out wr hbw).at hlt'
      subst ha
      obtain ⟨x, hx⟩ : ∃ x, ps[j]? = some x := ⟨_, List.getElem?_eq_getElem hlt'⟩
      have hxe : ps[j] = x := by rw [List.getElem?_eq_getElem hlt'] at hx; exact Option.some.inj hx
      rw [hxe] at c0 c1'
      have HSx := hid (HS.out j x hx)
      have HXF := hid (HF.out x)
      clear hx hxe
      have HLj := HL.out j
      rw [List.length_take, Nat.min_eq_left (Nat.le_of_lt hlt')] at HLj
      obtain ⟨l, hl'⟩ : ∃ l, psT (ps.take j) (rg lo hi e) a = l := ⟨_, rfl⟩
      rw [hl'] at HLj ho HSx
      clear hl'
      have B1 := PBox.new wr x
      have P2 := P1.alloc (.cells #[.string x.key, .string x.val] 64)
      have ho2 := World.ownsRow.alloc ho (.cells #[.string x.key, .string x.val] 64)
      have hb2 := hb.alloc (show k3 ≤ wr.heap.size by omega) (.cells #[.string x.key, .string x.val] 64)
      have HXin := HI.out x.key
      obtain ⟨xk, xv⟩ := x
      dsimp only at *
      go_upto_region 5 with fail
      clear c0 c1'
      generalize hkp : wr.heap.size = kp at *
      have HKP := hid hkp
      clear hkp
      generalize wr.alloc (.cells #[.string xk, .string xv] 64) = w5 at *
      have R2 : Box w5 k1 (.string lo) (.string hi) (.bool e) := (hb2.block k1 (by omega)).trans R0
      obtain ⟨r0, r1, r2⟩ := R2.cells
      obtain ⟨d0, d1⟩ := B1.two
      dsimp only at d0 d1
      go_wp2_with fail
      refine (HXin _).mono ?_
      clear HXin r0 r1 r2 d0 d1 R2
      rintro x w6 ⟨rfl, hb6⟩
      have B6 := B1.later hb6
      have P6 := P2.later hb6
      have ho6 := row_later ho2 hb6
      have hkp2 : k3 < kp := hPlt
      have hk6 := B1.lt
      have hs6 := hb6.size
      replace hb6 := hb2.trans (hb6.mono (by omega))
      have HB := hid (show inP (rg lo hi e) (Pr.mk xk xv) = inR (rg lo hi e) xk.data.toList from rfl)
      clear hb B1 P1 P2 ho ho2 hb2
      generalize inR (rg lo hi e) xk.data.toList = t at *
      cases t
      · go_wp2_with fail
        go_roundw
        case rel => exact ⟨j + 1, v, by omega, by go_num, P6, by rw [HSx.out, HB.out, if_neg (by simp)]; exact ho6, hb6⟩
        case measure => simp [intOf]; omega
      · have hle := HXF.out HB.out
        have hle' : (a.size : Int) ≤ (xk.size : Int) := by have h : a.size ≤ xk.size := hle; omega
        clear hle
        obtain ⟨n', c', q', hv⟩ := row_slice ho6
        go_upto_region 6 with fail
        refine wp_region_until [(some 22, [], false), (some 23, [(0, 22)], false), (some 24, [], false), (some 25, [(2, 24)], false), (some 26, [], false), (some 27, [(4, 26)], false), (some 28, [(3, 25), (5, 27)], false), (some 29, [], false), (some 30, [(7, 29)], false), (some 31, [(6, 28), (8, 30)], false), (some 32, [(9, 31)], false), (some 33, [(1, 23), (10, 32)], true), (some 34, [], true), (none, [(12, 34), (11, 33)], false)]
          (fun i u => if i ≤ 11 then Below w6.heap.size w6 u else w6.grownBy u v.ownBlock) (fun i u u' => if i = 11 then u.grownBy u' v.ownBlock else Below u.heap.size u u')
          (fun i Y u => match i with | 0 => Y = .pointer (some ⟨k3, 1, none⟩) | 1 => Y = v ∧ u.ownsRow (k3 + 1) 64 2 v l.length (l.flatMap Pr.cells) | 2 => Y = .pointer (some ⟨kp, 0, none⟩) | 3 => Y = .string (Pr.mk xk xv).key | 4 => Y = .string a | 5 => Y = .int .i64 a.size | 6 => Y = .string (cutT a (Pr.mk xk xv).key) | 7 => Y = .pointer (some ⟨kp, 1, none⟩) | 8 => Y = .string (Pr.mk xk xv).val | 9 => Y = pv (cutP a (Pr.mk xk xv)) | 10 => ∃ g, Y = .slice (some ⟨g, 0, none⟩) 1 1 ∧ PBox u g (cutP a (Pr.mk xk xv)) | 11 => u.ownsRow (k3 + 1) 64 2 Y (l ++ [cutP a (Pr.mk xk xv)]).length ((l ++ [cutP a (Pr.mk xk xv)]).flatMap Pr.cells) | 12 => Y = .pointer (some ⟨k3, 1, none⟩) | _ => True)
          (by kernel_rfl) (by kernel_rfl) (fun j => ?_) (fun i j u u' hl hi hj hr => ?_) (fun i j v u u' hn h h' hv => ?_) [(some 22, [], false), (some 23, [(0, 22)], false), (some 24, [], false), (some 25, [(2, 24)], false), (some 26, [], false), (some 27, [(4, 26)], false), (some 28, [(3, 25), (5, 27)], false), (some 29, [], false), (some 30, [(7, 29)], false), (some 31, [(6, 28), (8, 30)], false), (some 32, [(9, 31)], false), (some 33, [(1, 23), (10, 32)], true), (some 34, [], true)] 13 rfl _ rfl rfl (by kernel_rfl) (by kernel_rfl) ⟨?_, ?_, ?_, ?_, ?_, ?_, ?_, ?_, ?_, ?_, ?_, ?_, ?_, trivial⟩ ?_
        · split
          · exact (Below.refl _ _).drew
          · exact below_grown _ (Below.refl _ _).drew
        · by_cases hia : i = 11
          · subst hia
            have hj2 : ¬ j ≤ 11 := by
              intro hle
              match j, hle, hl with
              | 0, _, hl => exact absurd hl (by decide)
              | 1, _, hl => exact absurd hl (by decide)
              | 2, _, hl => exact absurd hl (by decide)
              | 3, _, hl => exact absurd hl (by decide)
              | 4, _, hl => exact absurd hl (by decide)
              | 5, _, hl => exact absurd hl (by decide)
              | 6, _, hl => exact absurd hl (by decide)
              | 7, _, hl => exact absurd hl (by decide)
              | 8, _, hl => exact absurd hl (by decide)
              | 9, _, hl => exact absurd hl (by decide)
              | 10, _, hl => exact absurd hl (by decide)
              | 11, _, hl => exact absurd hl (by decide)
              | n + 12, hle, _ => omega
            rw [if_pos (Nat.le_refl _)] at hi
            rw [if_neg hj2] at hj ⊢
            rw [if_pos rfl] at hr
            exact grown_trans hj hr
          · rw [if_neg hia] at hr
            split at hj
            · rename_i hle; rw [if_pos hle]; exact hj.trans (hr.mono hj.size)
            · rename_i hle; rw [if_neg hle]; exact grown_trans hj (below_grown _ hr)
        · by_cases hia : i = 11
          · subst hia
            match j with
            | 0 => exact absurd hn (by decide)
            | 1 => exact absurd hn (by decide)
            | 2 => exact absurd hn (by decide)
            | 3 => exact absurd hn (by decide)
            | 4 => exact absurd hn (by decide)
            | 5 => exact absurd hn (by decide)
            | 6 => exact absurd hn (by decide)
            | 7 => exact absurd hn (by decide)
            | 8 => exact absurd hn (by decide)
            | 9 => exact absurd hn (by decide)
            | 10 => exact absurd hn (by decide)
            | 11 => exact absurd hn (by decide)
            | 12 => exact hv
            | _ + 13 => trivial
          · rw [if_neg hia] at h'
            match j with
            | 0 => exact hv
            | 1 => exact ⟨hv.1, row_later hv.2 h'⟩
            | 2 => exact hv
            | 3 => exact hv
            | 4 => exact hv
            | 5 => exact hv
            | 6 => exact hv
            | 7 => exact hv
            | 8 => exact hv
            | 9 => exact hv
            | 10 => obtain ⟨g, e1, e2⟩ := hv; exact ⟨g, e1, e2.later h'⟩
            | 11 => exact row_later hv h'
            | 12 => exact hv
            | _ + 13 => trivial
        · rintro u hu
          exact opYields_val _ (by kernel_rfl) (by go_simp) ⟨Below.refl _ _, rfl⟩
        · rintro u hu _ rfl
          replace hu : Below w6.heap.size w6 u := hu
          obtain ⟨m0, m1, m2, m3, m4⟩ := (P6.later hu).cells
          exact opYields_val v (by kernel_rfl) (by go_simp) ⟨Below.refl _ _, rfl, row_later ho6 hu⟩
        · rintro u hu
          exact opYields_val _ (by kernel_rfl) (by go_simp) ⟨Below.refl _ _, rfl⟩
        · rintro u hu _ rfl
          replace hu : Below w6.heap.size w6 u := hu
          obtain ⟨m0, m1⟩ := (B6.later hu).two
          exact opYields_val (.string (Pr.mk xk xv).key) (by kernel_rfl) (by go_simp) ⟨Below.refl _ _, rfl⟩
        · rintro u hu
          exact opYields_val _ (by kernel_rfl) (by go_simp) ⟨Below.refl _ _, rfl⟩
        · rintro u hu _ rfl
          exact opYields_val (.int .i64 a.size) (by kernel_rfl) (by go_simp) ⟨Below.refl _ _, rfl⟩
        · rintro u hu _ rfl _ rfl
          exact opYields_val (.string (cutT a (Pr.mk xk xv).key)) (by kernel_rfl) (by unfold cutT; go_simp) ⟨Below.refl _ _, rfl⟩
        · rintro u hu
          exact opYields_val _ (by kernel_rfl) (by go_simp) ⟨Below.refl _ _, rfl⟩
        · rintro u hu _ rfl
          replace hu : Below w6.heap.size w6 u := hu
          obtain ⟨m0, m1⟩ := (B6.later hu).two
          exact opYields_val (.string (Pr.mk xk xv).val) (by kernel_rfl) (by go_simp) ⟨Below.refl _ _, rfl⟩
        · rintro u hu _ rfl _ rfl
          exact opYields_val (pv (cutP a (Pr.mk xk xv))) (by kernel_rfl) (by unfold cutP; go_simp) ⟨Below.refl _ _, rfl⟩
        · rintro u hu _ rfl
          exact opYields_val (.slice (some ⟨u.heap.size, 0, none⟩) 1 1) (u' := u.alloc (.cells #[.string (cutP a (Pr.mk xk xv)).key, .string (cutP a (Pr.mk xk xv)).val] 64)) (by kernel_rfl) (by go_simp) ⟨below_box _ _, _, rfl, PBox.new u _⟩
        · rintro u hu _ ⟨rfl, h1⟩ _ ⟨g, rfl, hg⟩
          replace hu : Below w6.heap.size w6 u := hu
          exact yOne Pr.cells 2 32 22 64 _ (by omega) (fun _ => rfl) Try.underlying22 info64 rfl (by omega) oneP (by kernel_rfl) (.tmp 23) (.tmp 32) rfl (k3 + 1) _ l rfl h1 (cutP a (Pr.mk xk xv)) g rfl hg.each (by omega) (by have := hu.size; omega) fun v' w' h2 h3 => ⟨h3, h2⟩
        · rintro u hu
          exact opYields_val _ (by kernel_rfl) (by go_simp) ⟨Below.refl _ _, rfl⟩
        · intro u hu x0 x1 x2 x3 x4 x5 x6 x7 x8 x9 x10 x11 e11 x12 e12
          replace hu : w6.grownBy u v.ownBlock := hu
          replace e12 : x12 = .pointer (some ⟨k3, 1, none⟩) := e12
          replace e11 : u.ownsRow (k3 + 1) 64 2 x11 (l ++ [cutP a (Pr.mk xk xv)]).length ((l ++ [cutP a (Pr.mk xk xv)]).flatMap Pr.cells) := e11
          subst e12
          obtain ⟨b1, d1, q1, rfl⟩ := row_slice e11
          have P7 := P6.kept hu (row_ge ho6 (Nat.lt_succ_self k3))
          have f1 := P7.free 1
          obtain ⟨y0, y1, y2, y3, y4⟩ := P7.cells
          refine Puts.mk (u.setCell ⟨k3, 1, none⟩ (.slice b1 d1 q1)) (by kernel_rfl) (by go_simp) ?_
          have P8 := P7.put1 (.slice b1 d1 q1)
          have ho8 := row_set (i := 1) (u := .slice b1 d1 q1) e11 (Nat.lt_succ_self k3)
          have hb8 : Below k3 w4 (u.setCell ⟨k3, 1, none⟩ (.slice b1 d1 q1)) := (hb6.grown hu (by have := P6.lt; omega) fun k hk => by have := (World.ownsRow.lt ho6 k hk).1; omega).setCell (p := ⟨k3, 1, none⟩) (Nat.le_refl _) _
          simp only [Act.put, List.setIfInBounds_toArray, List.set_cons_zero, List.set_cons_succ]
          clear f1 P7 e11 hu y0 y1 y2 y3 y4
          generalize u.setCell ⟨k3, 1, none⟩ (.slice b1 d1 q1) = u8 at *
          go_wp2_with fail
          go_roundw
          case rel => exact ⟨j + 1, _, by omega, by go_num, P8, by rw [HSx.out, HB.out, if_pos rfl]; exact ho8, hb8⟩
          case measure => simp [intOf]; omega
    · obtain rfl : j = n1 := by omega
      have hTT := HT.out
      rw [hTT] at ho
      have M1 := M0.below hb (by omega)
      have hb' := hb0.trans (hb.mono (by omega))
      obtain ⟨b1, d1, q1, rfl⟩ := row_slice ho
      obtain ⟨z0, z1, z2, z3, z4⟩ := M1.cells
      obtain ⟨y0, y1, y2, y3, y4⟩ := P1.cells
      have f := M1.free
      have f0 := f 0
      have f1 := f 1
      have f2 := f 2
      have f3 := f 3
      have f4 := f 4
      clear f
      have hb5 := below_five hb' (show k0 ≤ k2 by omega) (.bool true) (.slice b1 d1 q1) (.slice none 0 0) (.slice none 0 0) (.slice none 0 0)
      have ho5 := row_mono (row_five ho (show k2 < k3 + 1 by omega) (y0 := .bool true) (y1 := .slice b1 d1 q1) (y2 := .slice none 0 0) (y3 := .slice none 0 0) (y4 := .slice none 0 0)) (show k0 + 1 ≤ k3 + 1 by omega)
      go_wp2_with fail
      refine bodyPost_ret (v := .agg #[.bool true, .slice b1 d1 q1, .slice none 0 0, .slice none 0 0, .slice none 0 0]) (by simp [results, Try.results59, go_sem, z0, z1, z2, z3, z4]) rfl ⟨_, rfl, ?_, ?_⟩
      · rw [HK0.out]; exact ho5
      · rw [HK0.out]; exact hb5
end Go.Proofs.Ytlkcoaencliajaa.Key
