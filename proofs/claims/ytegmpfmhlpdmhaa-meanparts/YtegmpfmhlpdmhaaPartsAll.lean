/-
  The walk of MeanAgrees.
  The walk of MeanParts.
  Proved: the call of the statement MeanParts returns true for every slice of items, every block, range, text and number (what a range has is what its parts have, one behind the other; some of it is its beginning), and they read afterwards as they read before. No condition.
  The frame of the row's step was written by the guide's proof-skeleton.mjs, turned; the walk is this text's own.
-/
import Derived.Test.YtegmpfmhlpdmhaaJe
import Derived.Test.YtegmpfmhlpdmhaaRightRef
import Derived.WalkKit
import Derived.ProofKit
import Derived.OpenShut
import Derived.ShutString
import Derived.ChangeOld
import Derived.Below
import Derived.Carry
import Derived.Lib.SmallJoins
namespace Go.Proofs.Ytegmpfmhlpdmhaa.Key
open Go.RowKit Draw
open Go.Op (bytesLess)
set_option linter.unusedVariables false
set_option linter.unusedSimpArgs false

theorem rise_upTo {ps : List Pr} (h : RiseP ps) : upTo (riseAt ps) ps.length = true := (upTo_iff _ _).2 fun i hi => by
  match i, hi with
  | 0, _ => rfl
  | i + 1, hi =>
    rw [riseAt_at hi]
    exact List.pairwise_iff_getElem.1 h i (i + 1) (by omega) hi (by omega)
theorem small_ways {l : List It} {root : Int} (h : smallB l root = true) (hr : rightB l = true) : waysF l 65535 root ≤ 100 := by
  unfold smallB at h
  simp only [Bool.and_eq_true, decide_eq_true_eq] at h
  have h2 := h.2
  unfold waysR at h2
  rw [if_pos hr] at h2
  unfold waysM M30 at h2
  omega
theorem small_tot {l : List It} {root : Int} (h : smallB l root = true) (r : Rng) : (totL l root r).length ≤ 1600 := by
  unfold totL
  cases hs : seenI l root with
  | none => simp
  | some x =>
    have hr := (seen_some hs).1
    have h1 := small_ways h hr
    have h2 := cont_len hr 65535 root
    have h3 := rest_len (contL l root) r
    show (restL (contL l root) r).length ≤ 1600
    unfold contL at h3 ⊢
    omega
theorem tot_keys {l : List It} {root : Int} (r : Rng) {p : Pr} (hp : p ∈ totL l root r) : p.key.size ≤ 16 * l.length := by
  unfold totL at hp
  cases hs : seenI l root with
  | none => rw [hs] at hp; cases hp
  | some x =>
    rw [hs] at hp
    obtain ⟨hr, hx⟩ := seen_some hs
    have hm : p ∈ contL l root := (List.mem_filter.1 hp).1
    have hd := right_len hr (find_in hx)
    unfold contL at hm
    rw [cont_deep hr 65535 l.length root x hx (by have := right_le hr (find_in hx); omega) (by omega)] at hm
    exact cont_keys hr l.length root p hm
set_option maxRecDepth 100000 in
set_option maxHeartbeats 1000000 in
theorem get51L (a : Option Addr) (c : Nat) (ps : List Pr) (k : ByteArray) (w : World) (hl : ps.length ≤ 100000) (h : Prs w a ps) :
    Calls Try.prog 16 #[.slice a ps.length c, .string k] w fun x w' => x = .returned (.tuple #[.string (getV ps k.data.toList), .bool (getB ps k.data.toList)]) ∧ w' = w := by
  have HY := hid (fun (j : Nat) (x : Pr) (hx : ps[j]? = some x) (h1 : (ps.take j).any (isK k.data.toList) = false) (h2 : isK k.data.toList x = true) => show getV ps k.data.toList = x.val ∧ getB ps k.data.toList = true by unfold getB getV getP; rw [found_at hx h1 h2]; exact ⟨rfl, rfl⟩)
  have HN := hid (fun (h1 : ps.any (isK k.data.toList) = false) => show getV ps k.data.toList = ⟨#[]⟩ ∧ getB ps k.data.toList = false by unfold getV getB getP; rw [find_no (isK k.data.toList) ps h1]; exact ⟨rfl, rfl⟩)
  generalize getV ps k.data.toList = R at *
  generalize getB ps k.data.toList = B at *
  generalize hn : ps.length = n at *
  have HL := hid hn
  clear hn
  go_enter Try.func16, Try.ntmps16
  go_wp2_with fail
  go_loop [9] (fun i => ∃ j : Nat, j ≤ n ∧ i = .int .i64 j ∧ Hid ((ps.take j).any (isK k.data.toList) = false)) (fun i => n - (intOf i).toNat)
  case atStart => exact ⟨0, Nat.zero_le _, rfl, by simp [Hid]⟩
  case round =>
    obtain ⟨j, hj, rfl, hjn⟩ := hrel
    by_cases hlt : j < n
    · have hlt' : j < ps.length := by rw [HL.out]; exact hlt
      obtain ⟨b, off, rfl, h6⟩ := h.at hlt'
      have HV := hid (HY.out j ps[j] (List.getElem?_eq_getElem hlt') hjn.out)
      have hK := isK_str k ps[j]
      obtain ⟨x, HS⟩ : ∃ s, Hid (ps[j] = s) := ⟨_, hid rfl⟩
      rw [HS.out] at h6 HV hK
      have HK := hid hK
      clear hK
      obtain ⟨xk, xv⟩ := x
      obtain ⟨d0, d1⟩ := h6
      dsimp only at d0 d1 HV HK
      cases q : (xk.toList == k.toList)
      · have HF : Hid (isK k.data.toList ⟨xk, xv⟩ = false) := hid (by rw [← HK.out, q])
        go_wp2_with fail
        go_round
        case rel => exact ⟨j + 1, by omega, by go_num, by unfold Hid at *; rw [any_take_succ ps (isK k.data.toList) hlt', hjn, HS, HF]; rfl⟩
        case measure => simp [intOf]; omega
      · have HF : Hid (R = xv ∧ B = true) := hid (HV.out (by rw [← HK.out, q]))
        clear HV HK
        go_wp2_with fail
        exact bodyPost_ret (v := .tuple #[.string xv, .bool true]) (by simp [results, Try.results16, go_sem]) rfl ⟨ret_two HF.out.1.symm HF.out.2.symm, rfl⟩
    · obtain rfl : j = n := by omega
      have HF : Hid (R = ⟨#[]⟩ ∧ B = false) := hid (HN.out (by have := hjn.out; rw [← HL.out, List.take_length] at this; exact this))
      go_wp2_with fail
      exact bodyPost_ret (v := .tuple #[.string ⟨#[]⟩, .bool false]) (by simp [results, Try.results16, go_sem]) rfl ⟨ret_two HF.out.1.symm HF.out.2.symm, rfl⟩

set_option maxRecDepth 100000 in
set_option maxHeartbeats 2000000 in
theorem meanAgrees4 (a : Option Addr) (c : Nat) (l : List It) (root : Int) (lo hi : ByteArray) (e : Bool) (k : ByteArray) (w : World) (wl : Items w a l) (wn : l.length ≤ c) (wc : c ≤ maxLen) (wz : a = none → l.length = 0 ∧ c = 0) (wm : ∀ m ∈ l, It.In m) (wi : (Lit.int .u32 root).wf = true) (wlo : lo.size ≤ maxLen) (whi : hi.size ≤ maxLen) (ws : k.size ≤ maxLen) :
    Calls Try.prog 4 #[.slice a l.length c, .int .u32 root, av lo hi e, .string k] w fun e w' => e = .returned (.bool true) ∧ Below w.heap.size w w' := by
  have hb0 := below_box w (.cells #[.string lo, .string hi, .bool e] 31)
  have R0 := Box.new w (.string lo) (.string hi) (.bool e)
  obtain ⟨W, HW⟩ : ∃ u, Hid (w.alloc (.cells #[.string lo, .string hi, .bool e] 31) = u) := ⟨_, hid rfl⟩
  rw [HW.out] at hb0 R0
  have H12 := hid (small12 a c l root W (wl.later hb0) (by omega) wm)
  have H13 := hid (fun u => rgreat13 lo hi e u)
  have HA := hid (fun u => awake7 u)
  cases hs : smallB l root
  case false =>
    rw [hs] at H12
    clear wl wm wz
    generalize l.length = n at *
    go_enter Try.func4, Try.ntmps4
    go_upto_region 1 with fail
    rw [HW.out]
    go_wp2_with fail
    refine H12.out.mono ?_
    rintro x w1 ⟨rfl, hb1⟩
    replace hb1 := hb0.trans (hb1.mono hb0.size)
    go_wp2_with fail
    refine (HA.out _).mono ?_
    rintro x w2 ⟨rfl, hb2⟩
    replace hb2 := hb1.trans (hb2.mono hb1.size)
    go_wp2_with fail
    go_ret
    exact ⟨rfl, hb2⟩
  case true =>
  rw [hs] at H12
  cases hg : greatB lo hi
  case true =>
    rw [hg] at H13
    clear wl wm wz
    generalize l.length = n at *
    go_enter Try.func4, Try.ntmps4
    go_upto_region 1 with fail
    rw [HW.out]
    go_wp2_with fail
    refine H12.out.mono ?_
    rintro x w1 ⟨rfl, hb1⟩
    obtain ⟨r0, r1, r2⟩ := (R0.later hb1).cells
    replace hb1 := hb0.trans (hb1.mono hb0.size)
    go_wp2_with fail
    refine (H13.out _).mono ?_
    rintro x w2 ⟨rfl, hb2⟩
    replace hb2 := hb1.trans (hb2.mono hb1.size)
    go_wp2_with fail
    refine (HA.out _).mono ?_
    rintro x w3 ⟨rfl, hb3⟩
    replace hb3 := hb2.trans (hb3.mono hb2.size)
    go_wp2_with fail
    go_ret
    exact ⟨rfl, hb3⟩
  case false =>
  rw [hg] at H13
  by_cases hk : 100 < k.size
  case pos =>
    have hk' : decide ((100 : Int) < (k.size : Int)) = true := decide_eq_true (by omega)
    clear wl wm wz
    generalize l.length = n at *
    go_enter Try.func4, Try.ntmps4
    go_upto_region 1 with fail
    rw [HW.out]
    go_wp2_with fail
    refine H12.out.mono ?_
    rintro x w1 ⟨rfl, hb1⟩
    obtain ⟨r0, r1, r2⟩ := (R0.later hb1).cells
    replace hb1 := hb0.trans (hb1.mono hb0.size)
    go_wp2_with fail
    refine (H13.out _).mono ?_
    rintro x w2 ⟨rfl, hb2⟩
    replace hb2 := hb1.trans (hb2.mono hb1.size)
    go_wp2_with fail
    refine (HA.out _).mono ?_
    rintro x w3 ⟨rfl, hb3⟩
    replace hb3 := hb2.trans (hb3.mono hb2.size)
    go_wp2_with fail
    go_ret
    exact ⟨rfl, hb3⟩
  case neg =>
  have hk' : decide ((100 : Int) < (k.size : Int)) = false := decide_eq_false (by omega)
  have hgl : greatI l = false := by
    unfold smallB at hs
    simp only [Bool.and_eq_true, Bool.not_eq_true'] at hs
    exact hs.1
  obtain ⟨hf, h30⟩ := fine_of hgl wm
  have hlo : lo.size ≤ 300 := by unfold greatB at hg; simp only [Bool.or_eq_false_iff, decide_eq_false_iff_not] at hg; omega
  have hhi : hi.size ≤ 300 := by unfold greatB at hg; simp only [Bool.or_eq_false_iff, decide_eq_false_iff_not] at hg; omega
  have hd := dep_le l root
  have htot := small_tot hs (rg lo hi e)
  have H14 := hid (fun u (hu : Below w.heap.size w u) => pairs14 a c l root (-1) lo hi e u hf (by omega) wi (by omega) (by omega) (by omega) (wl.later hu))
  have H8 := hid (fun u (hu : Below w.heap.size w u) => get8 a c l root k u hf wi (by omega) (wl.later hu))
  have H17 := hid (fun u (kk : ByteArray) => in20 lo hi kk e u)
  have hP : pairsL l root (rg lo hi e) (-1) = totL l root (rg lo hi e) := by rw [tot_pairs]; rfl
  have H8k := hid (fun u (hu : Below w.heap.size w u) (p : Pr) (hp : p ∈ pairsL l root (rg lo hi e) (-1)) => get8 a c l root p.key u hf wi (by have := tot_keys (rg lo hi e) (show p ∈ totL l root (rg lo hi e) from hP ▸ hp); omega) (wl.later hu))
  have HEach := hid (fun p (hp : p ∈ pairsL l root (rg lo hi e) (-1)) => pairs_each hp)
  have hRise := rise_upTo (pairs_rise l root (rg lo hi e) (-1))
  have hLook := pairs_look l root (rg lo hi e) k.data.toList
  have hPl : (pairsL l root (rg lo hi e) (-1)).length ≤ 1600 := by rw [hP]; exact htot
  clear htot hP
  generalize pairsL l root (rg lo hi e) (-1) = P at *
  have hGV : getV P k.data.toList = (lookP P k.data.toList).getD ⟨#[]⟩ := rfl
  have hGB : getB P k.data.toList = (lookP P k.data.toList).isSome := by unfold getB lookP; cases getP P k.data.toList <;> rfl
  have H15 := hid (fun pa pc u h => rise36 pa pc P u (by unfold maxLen; omega) h)
  have H16 := hid (fun pa pc u h => get51L pa pc P k u (by omega) h)
  rw [hRise] at H15
  rw [hGV, hGB, hLook] at H16
  clear hGV hGB hLook hRise
  have HVS : Hid (valS l root k.data.toList = (valL l root k.data.toList).getD ⟨#[]⟩) := hid rfl
  have HVB : Hid (valB l root k.data.toList = (valL l root k.data.toList).isSome) := hid rfl
  rw [HVS.out, HVB.out] at H8
  obtain ⟨I, HI⟩ : ∃ I, Hid (inR (rg lo hi e) k.data.toList = I) := ⟨_, hid rfl⟩
  rw [HI.out] at H16
  have H17k := hid (fun u => H17.out u k)
  rw [HI.out] at H17k
  obtain ⟨V, HV⟩ : ∃ V, Hid (valL l root k.data.toList = V) := ⟨_, hid rfl⟩
  rw [HV.out] at H8 H16
  obtain ⟨X, HX⟩ : ∃ X, Hid ((if I = true then V else none) = X) := ⟨_, hid rfl⟩
  rw [HX.out] at H16
  obtain ⟨XS, HXS⟩ : ∃ X', Hid (X.isSome = X') := ⟨_, hid rfl⟩
  obtain ⟨VS, HVS'⟩ : ∃ X', Hid (V.isSome = X') := ⟨_, hid rfl⟩
  obtain ⟨XD, HXD⟩ : ∃ X', Hid (X.getD ⟨#[]⟩ = X') := ⟨_, hid rfl⟩
  obtain ⟨VD, HVD⟩ : ∃ X', Hid (V.getD ⟨#[]⟩ = X') := ⟨_, hid rfl⟩
  rw [HXS.out, HXD.out] at H16
  rw [HVS'.out, HVD.out] at H8
  obtain ⟨N, HN⟩ : ∃ N, Hid (P.length = N) := ⟨_, hid rfl⟩
  rw [HN.out] at hPl H14 H15 H16
  clear wl wm wz hf hd
  generalize l.length = n at *
  go_enter Try.func4, Try.ntmps4
  go_upto_region 1 with fail
  rw [HW.out]
  go_wp2_with fail
  refine H12.out.mono ?_
  rintro x w1 ⟨rfl, hb1⟩
  have R1 := R0.later hb1
  obtain ⟨r0, r1, r2⟩ := R1.cells
  replace hb1 := hb0.trans (hb1.mono hb0.size)
  go_wp2_with fail
  refine (H13.out _).mono ?_
  rintro x w2 ⟨rfl, hb2⟩
  have R2 := R1.later hb2
  clear r0 r1 r2 R1 R0
  obtain ⟨r0, r1, r2⟩ := R2.cells
  replace hb2 := hb1.trans (hb2.mono hb1.size)
  go_wp2_with fail
  refine (H14.out _ hb2).mono ?_
  rintro x w3 ⟨v, rfl, hO, hb3⟩
  have R3 := R2.later hb3
  clear r0 r1 r2 R2
  obtain ⟨r0, r1, r2⟩ := R3.cells
  rw [← HN.out] at hO
  obtain ⟨pa, pc, rfl, hPr⟩ := prs_row hO
  rw [HN.out]
  replace hb3 := hb2.trans (hb3.mono hb2.size)
  clear hO hb0 hb1 hb2
  go_wp2_with fail
  refine (H15.out pa pc _ hPr).mono ?_
  rintro x w4 ⟨rfl, hb4⟩
  have R4 := R3.later hb4
  have hPr4 := hPr.later hb4
  clear r0 r1 r2 R3
  replace hb4 := hb3.trans (hb4.mono hb3.size)
  clear hb3 hPr
  go_wp2_with fail
  refine (H16.out pa pc _ hPr4).mono ?_
  rintro x w5 ⟨rfl, rfl⟩
  go_wp2_with fail
  refine (H8.out _ hb4).mono ?_
  rintro x w6 ⟨rfl, hb6⟩
  have R6 := R4.later hb6
  have hPr6 := hPr4.later hb6
  obtain ⟨r0, r1, r2⟩ := R6.cells
  replace hb6 := hb4.trans (hb6.mono hb4.size)
  clear hb4 hPr4 R4
  have hX0 : XS = (I && VS) := by rw [← HXS.out, ← HX.out, ← HVS'.out]; cases I <;> simp
  have hXD : I = true → XD = VD := fun h => by rw [← HXD.out, ← HX.out, ← HVD.out, h]; rfl
  have hNx := hid (fun (j : Nat) (hj : j < P.length) => HEach.out P[j] (List.getElem_mem hj))
  have hGx := hid (fun (j : Nat) (hj : j < P.length) u hu => H8k.out u hu P[j] (List.getElem_mem hj))
  clear HX HXS HXD HVD HVS' HV HI HVS HVB HEach H8k H8 H12 H13 H14 H15 H16
  cases VS
  case' false =>
    have hx : XS = false := by rw [hX0]; cases I <;> rfl
    subst hx
    clear hX0 hXD
    go_upto_region 10 with fail
  case' true =>
    cases I
    case' false =>
      have hx : XS = false := hX0
      subst hx
      clear hX0 hXD
      go_upto_region 10 with (first | (go_at_call 17; refine (H17k.out _).mono ?_; rintro y w7 ⟨rfl, hb7⟩; replace R6 := R6.later hb7; replace hPr6 := hPr6.later hb7; replace hb6 := hb6.trans (hb7.mono hb6.size); clear r0 r1 r2 hb7) | fail)
    case' true =>
      have hx : XS = true := hX0
      have hd := hXD rfl
      subst hx hd
      clear hX0 hXD
      go_upto_region 10 with (first | (go_at_call 17; refine (H17k.out _).mono ?_; rintro y w7 ⟨rfl, hb7⟩; replace R6 := R6.later hb7; replace hPr6 := hPr6.later hb7; replace hb6 := hb6.trans (hb7.mono hb6.size); clear r0 r1 r2 hb7) | fail)
  all_goals
    have HPx := hid hPr6
    have HRx := hid R6
    have HBx := hid hb6
    clear hPr6 R6 hb6
    try clear r0 r1 r2
    go_wp2_with fail
    go_loopw [14] (fun i wr => ∃ j : Nat, j ≤ N ∧ i = .int .i64 j ∧ Below w.heap.size w wr ∧ Prs wr pa P ∧ Box wr w.heap.size (.string lo) (.string hi) (.bool e)) (fun i _ => N - (intOf i).toNat)
    case atStart => exact ⟨0, Nat.zero_le _, rfl, HBx.out, HPx.out, HRx.out⟩
    case round =>
      obtain ⟨j, hj, rfl, hbj, hpj, hrj⟩ := hrel
      by_cases hlt : j < N
      · have hlt' : j < P.length := by rw [HN.out]; exact hlt
        obtain ⟨hv, hin⟩ := hNx.out j hlt'
        have hG := hid (hGx.out j hlt' wr hbj)
        have HI2 := hid (fun u => H17.out u P[j].key)
        obtain ⟨pb, po, rfl, h6⟩ := hpj.at hlt'
        have hvS : valS l root P[j].key.data.toList = P[j].val := by unfold valS; rw [show valL l root P[j].key.data.toList = some P[j].val from hv]; rfl
        have hvB : valB l root P[j].key.data.toList = true := by unfold valB; rw [show valL l root P[j].key.data.toList = some P[j].val from hv]; rfl
        rw [hvS, hvB] at hG
        have hin' : inR (rg lo hi e) P[j].key.data.toList = true := hin
        rw [hin'] at HI2
        clear hv hin hin' hvS hvB
        generalize P[j] = x at *
        obtain ⟨xk, xv⟩ := x
        obtain ⟨d0, d1⟩ := h6
        have hji : (j : Int) < (N : Int) := by omega
        dsimp only at d0 d1 hG HI2
        go_wp2_with fail
        refine hG.out.mono ?_
        rintro y w8 ⟨rfl, hb8⟩
        have hr8 := hrj.later hb8
        have hp8 := hpj.later hb8
        have hx8 : w8.cell? ⟨pb, po + j * 2, none⟩ = some (.string xk) := by rw [← d0]; exact hb8.cell (p := ⟨pb, po + j * 2, none⟩) (World.block_lt_of_cell? _ _ d0)
        have hy8 : w8.cell? ⟨pb, po + j * 2 + 1, none⟩ = some (.string xv) := by rw [← d1]; exact hb8.cell (p := ⟨pb, po + j * 2 + 1, none⟩) (World.block_lt_of_cell? _ _ d1)
        have hpb8 : pb < w8.heap.size := World.block_lt_of_cell? _ _ hx8
        have hb9 := hbj.trans (hb8.mono hbj.size)
        have hs9 := hb9.size
        clear d0 d1
        go_upto_region 14 with fail
        refine wp_region_quiet (C := fun u => Below w8.heap.size w8 u) (by kernel_rfl) (by kernel_rfl) ⟨rfl, rfl, rfl, Nat.le_refl _, fun _ _ => rfl⟩ ?_
        change wpQuiet _ _ _ _ (_ :: _) _
        repeat
          first
            | go_big_quiet_skip
            | go_big_quiet_want
              first
                | refine quiet_v ?_ ?_ ?_
                  rotate_left
                  · intro u hu
                    obtain ⟨m0, m1, m2⟩ := (hr8.later hu).cells
                    have e0 := (hu.cell (p := ⟨pb, po + j * 2, none⟩) hpb8).trans hx8
                    have e1 := (hu.cell (p := ⟨pb, po + j * 2 + 1, none⟩) hpb8).trans hy8
                    go_simp
                    with_reducible rfl
                | refine quiet_c (.bool true) 17 #[.agg #[.string lo, .string hi, .bool e], .string xk] ?_ (fun u hu => (HI2.out u).mono fun x u' h => ⟨h.1, hu.trans (h.2.mono hu.size)⟩) ?_
                  · intro u hu
                    go_simp
                    done
              go_simp
              go_big_quiet_on
        refine wpQuiet_nil (fun u hu => ?_)
        go_wp2_with fail
        go_roundw
        case rel => exact ⟨j + 1, by omega, by go_num, hb9.trans (hu.mono hs9), hp8.later hu, hr8.later hu⟩
        case measure => simp [intOf]; omega
      · obtain rfl : j = N := by omega
        go_wp2_with fail
        refine (HA.out _).mono ?_
        rintro y w8 ⟨rfl, hb8⟩
        have hb9 := hbj.trans (hb8.mono hbj.size)
        go_wp2_with fail
        go_ret
        exact ⟨rfl, hb9⟩
end Go.Proofs.Ytegmpfmhlpdmhaa.Key

namespace Go.Proofs.Ytegmpfmhlpdmhaa.Key
open Go.RowKit Draw
open Go.Op (bytesLess)
set_option linter.unusedVariables false
set_option linter.unusedSimpArgs false

theorem cut_small {r s : Rng} {n : Nat} (h1 : r.lo.length ≤ n) (h2 : r.hi.length ≤ n) (h3 : s.lo.length ≤ n) (h4 : s.hi.length ≤ n) : (str (cutR r s).lo).size ≤ n ∧ (str (cutR r s).hi).size ≤ n := by
  have := cut_len h1 h2 h3 h4
  rw [str_sz, str_sz]
  exact this
theorem own_news {w : World} {B c : Nat} {a : Option Addr} {ps : List Pr} (h : w.ownsRow B 40 2 (.slice a ps.length c) ps.length (ps.flatMap Pr.cells)) : (a = none → ps.length = 0 ∧ c = 0) ∧ ps.length ≤ c ∧ ∀ adr, a = some adr → ∀ j u, (ps.flatMap Pr.cells)[j]? = some u → w.cell? (adr.add j) = some u := by
  rcases h.2 with ⟨e, h0⟩ | ⟨g, cap, cur, e, hB, hh, hn, _, hs, ht⟩
  · simp only [Value.slice.injEq] at e
    obtain ⟨rfl, e1, rfl⟩ := e
    exact ⟨fun _ => ⟨h0, rfl⟩, by omega, fun adr h => by cases h⟩
  · simp only [Value.slice.injEq] at e
    obtain ⟨rfl, _, rfl⟩ := e
    refine ⟨(fun h => by cases h), hn, fun adr ha j u hu => ?_⟩
    cases ha
    rw [← ht, List.getElem?_take] at hu
    split at hu
    · have hc : cur[j]? = some u := by simpa using hu
      have e1 : (⟨g, 0, none⟩ : Addr).add j = ⟨g, j, none⟩ := by unfold Addr.add; by_cases h : j = 0 <;> simp [h]
      rw [e1]
      unfold World.cell?
      simp only [hh]
      simpa using hc
    · cases hu
theorem tells_yes {x : Ending} {p : Prop} (h : Tells x p) (hp : p) : x = .returned (.bool true) := by
  obtain ⟨b, rfl, hb⟩ := h
  rw [hb.2 hp]
theorem prs_take {w : World} {a : Option Addr} {ps : List Pr} (h : Prs w a ps) (n : Nat) : Prs w a (ps.take n) := by
  rcases h with rfl | ⟨b, off, rfl, hc⟩
  · exact .inl (by simp)
  · refine .inr ⟨b, off, rfl, fun i hi => ?_⟩
    rw [List.length_take] at hi
    rw [List.getElem_take]
    exact hc i (by omega)
set_option maxRecDepth 100000 in
set_option maxHeartbeats 2000000 in
theorem meanParts5 (a : Option Addr) (c : Nat) (l : List It) (root : Int) (lo hi : ByteArray) (e : Bool) (k : ByteArray) (most : Int) (w : World) (wl : Items w a l) (wn : l.length ≤ c) (wc : c ≤ maxLen) (wz : a = none → l.length = 0 ∧ c = 0) (wm : ∀ m ∈ l, It.In m) (wi : (Lit.int .u32 root).wf = true) (wlo : lo.size ≤ maxLen) (whi : hi.size ≤ maxLen) (ws : k.size ≤ maxLen) (wi4 : (Lit.int .i64 most).wf = true) :
    Calls Try.prog 5 #[.slice a l.length c, .int .u32 root, av lo hi e, .string k, .int .i64 most] w fun e w' => e = .returned (.bool true) ∧ Below w.heap.size w w' := by
  have hb0 := below_box w (.cells #[.string lo, .string hi, .bool e] 31)
  have R0 := Box.new w (.string lo) (.string hi) (.bool e)
  obtain ⟨W, HW⟩ : ∃ u, Hid (w.alloc (.cells #[.string lo, .string hi, .bool e] 31) = u) := ⟨_, hid rfl⟩
  rw [HW.out] at hb0 R0
  have H12 := hid (small12 a c l root W (wl.later hb0) (by omega) wm)
  have H13 := hid (fun u => rgreat13 lo hi e u)
  have HA := hid (fun u => awake7 u)
  cases hs : smallB l root
  case false =>
    rw [hs] at H12
    clear wl wm wz
    generalize l.length = n at *
    go_enter Try.func5, Try.ntmps5
    go_upto_region 1 with fail
    rw [HW.out]
    go_wp2_with fail
    refine H12.out.mono ?_
    rintro x w1 ⟨rfl, hb1⟩
    obtain ⟨r0, r1, r2⟩ := (R0.later hb1).cells
    replace hb1 := hb0.trans (hb1.mono hb0.size)
    go_wp2_with fail
    refine (HA.out _).mono ?_
    rintro x w3 ⟨rfl, hb3⟩
    replace hb3 := hb1.trans (hb3.mono hb1.size)
    go_wp2_with fail
    go_ret
    exact ⟨rfl, hb3⟩
  case true =>
  rw [hs] at H12
  cases hg : greatB lo hi
  case true =>
    rw [hg] at H13
    clear wl wm wz
    generalize l.length = n at *
    go_enter Try.func5, Try.ntmps5
    go_upto_region 1 with fail
    rw [HW.out]
    go_wp2_with fail
    refine H12.out.mono ?_
    rintro x w1 ⟨rfl, hb1⟩
    obtain ⟨r0, r1, r2⟩ := (R0.later hb1).cells
    replace hb1 := hb0.trans (hb1.mono hb0.size)
    go_wp2_with fail
    refine (H13.out _).mono ?_
    rintro x w2 ⟨rfl, hb2⟩
    replace hb1 := hb1.trans (hb2.mono hb1.size)
    go_wp2_with fail
    refine (HA.out _).mono ?_
    rintro x w3 ⟨rfl, hb3⟩
    replace hb3 := hb1.trans (hb3.mono hb1.size)
    go_wp2_with fail
    go_ret
    exact ⟨rfl, hb3⟩
  case false =>
  rw [hg] at H13
  by_cases hk : 100 < k.size
  case pos =>
    have hk' : decide ((100 : Int) < (k.size : Int)) = true := decide_eq_true (by omega)
    clear wl wm wz
    generalize l.length = n at *
    go_enter Try.func5, Try.ntmps5
    go_upto_region 1 with fail
    rw [HW.out]
    go_wp2_with fail
    refine H12.out.mono ?_
    rintro x w1 ⟨rfl, hb1⟩
    obtain ⟨r0, r1, r2⟩ := (R0.later hb1).cells
    replace hb1 := hb0.trans (hb1.mono hb0.size)
    go_wp2_with fail
    refine (H13.out _).mono ?_
    rintro x w2 ⟨rfl, hb2⟩
    replace hb1 := hb1.trans (hb2.mono hb1.size)
    go_wp2_with fail
    refine (HA.out _).mono ?_
    rintro x w3 ⟨rfl, hb3⟩
    replace hb3 := hb1.trans (hb3.mono hb1.size)
    go_wp2_with fail
    go_ret
    exact ⟨rfl, hb3⟩
  case neg =>
  have hk' : decide ((100 : Int) < (k.size : Int)) = false := decide_eq_false (by omega)
  by_cases hm : most < 0
  case pos =>
    have hm' : decide (most < 0) = true := decide_eq_true hm
    clear wl wm wz
    generalize l.length = n at *
    go_enter Try.func5, Try.ntmps5
    go_upto_region 1 with fail
    rw [HW.out]
    go_wp2_with fail
    refine H12.out.mono ?_
    rintro x w1 ⟨rfl, hb1⟩
    obtain ⟨r0, r1, r2⟩ := (R0.later hb1).cells
    replace hb1 := hb0.trans (hb1.mono hb0.size)
    go_wp2_with fail
    refine (H13.out _).mono ?_
    rintro x w2 ⟨rfl, hb2⟩
    replace hb1 := hb1.trans (hb2.mono hb1.size)
    go_wp2_with fail
    refine (HA.out _).mono ?_
    rintro x w3 ⟨rfl, hb3⟩
    replace hb3 := hb1.trans (hb3.mono hb1.size)
    go_wp2_with fail
    go_ret
    exact ⟨rfl, hb3⟩
  case neg =>
  have hm' : decide (most < 0) = false := decide_eq_false hm
  have hgl : greatI l = false := by
    unfold smallB at hs
    simp only [Bool.and_eq_true, Bool.not_eq_true'] at hs
    exact hs.1
  obtain ⟨hf, h30⟩ := fine_of hgl wm
  have hlo : lo.size ≤ 300 := by unfold greatB at hg; simp only [Bool.or_eq_false_iff, decide_eq_false_iff_not] at hg; omega
  have hhi : hi.size ≤ 300 := by unfold greatB at hg; simp only [Bool.or_eq_false_iff, decide_eq_false_iff_not] at hg; omega
  have HP := hid (fun (mo : Int) (l1 h1 : ByteArray) (e1 : Bool) (u : World) (hu : Below w.heap.size w u) (q1 : l1.size ≤ 300) (q2 : h1.size ≤ 300) => pairs14 a c l root mo l1 h1 e1 u hf (by omega) wi (by omega) (by omega) (by have := small_tot hs (rg l1 h1 e1); omega) (wl.later hu))
  have HC := hid (fun (l1 h1 : ByteArray) (e1 : Bool) (u : World) => cut26 lo hi e l1 h1 e1 u)
  have HL : ∀ r, (pairsL l root r (-1)).length ≤ 1600 := fun r => by rw [tot_pairs]; exact small_tot hs r
  have hparts : pairsL l root (cutR (rg lo hi e) (rg ⟨#[]⟩ k true)) (-1) ++ pairsL l root (cutR (rg lo hi e) (rg k ⟨#[]⟩ false)) (-1) = pairsL l root (rg lo hi e) (-1) := pairs_parts l root (rg lo hi e) k.data.toList
  have hfirst := pairs_first l root (rg lo hi e) most (by omega)
  have q1 := cut_small (r := rg lo hi e) (s := rg ⟨#[]⟩ k true) (n := 300) (by show lo.data.toList.length ≤ 300; rw [← Lib.size_eq]; exact hlo) (by show hi.data.toList.length ≤ 300; rw [← Lib.size_eq]; exact hhi) (by simp [rg]) (by show k.data.toList.length ≤ 300; rw [← Lib.size_eq]; omega)
  have q2 := cut_small (r := rg lo hi e) (s := rg k ⟨#[]⟩ false) (n := 300) (by show lo.data.toList.length ≤ 300; rw [← Lib.size_eq]; exact hlo) (by show hi.data.toList.length ≤ 300; rw [← Lib.size_eq]; exact hhi) (by show k.data.toList.length ≤ 300; rw [← Lib.size_eq]; omega) (by simp [rg])
  have L0 := HL (rg lo hi e)
  have L1 := HL (cutR (rg lo hi e) (rg ⟨#[]⟩ k true))
  have L2 := HL (cutR (rg lo hi e) (rg k ⟨#[]⟩ false))
  have E1 := hid (fun u (hu : Below w.heap.size w u) => HP.out (-1) lo hi e u hu hlo hhi)
  have E2 := hid (fun u (hu : Below w.heap.size w u) => HP.out (-1) (str (cutR (rg lo hi e) (rg ⟨#[]⟩ k true)).lo) (str (cutR (rg lo hi e) (rg ⟨#[]⟩ k true)).hi) (cutR (rg lo hi e) (rg ⟨#[]⟩ k true)).e u hu q1.1 q1.2)
  have E3 := hid (fun u (hu : Below w.heap.size w u) => HP.out (-1) (str (cutR (rg lo hi e) (rg k ⟨#[]⟩ false)).lo) (str (cutR (rg lo hi e) (rg k ⟨#[]⟩ false)).hi) (cutR (rg lo hi e) (rg k ⟨#[]⟩ false)).e u hu q2.1 q2.2)
  have E4 := hid (fun u (hu : Below w.heap.size w u) => HP.out most lo hi e u hu hlo hhi)
  have K1 := hid (fun u => HC.out ⟨#[]⟩ k true u)
  have K2 := hid (fun u => HC.out k ⟨#[]⟩ false u)
  rw [rg_str] at E2 E3
  rw [hfirst] at E4
  rw [← hparts] at E1 E4 L0
  unfold rv at K1 K2
  generalize pairsL l root (cutR (rg lo hi e) (rg ⟨#[]⟩ k true)) (-1) = P1 at *
  generalize pairsL l root (cutR (rg lo hi e) (rg k ⟨#[]⟩ false)) (-1) = P2 at *
  generalize str (cutR (rg lo hi e) (rg ⟨#[]⟩ k true)).lo = A1 at *
  generalize str (cutR (rg lo hi e) (rg ⟨#[]⟩ k true)).hi = A2 at *
  generalize (cutR (rg lo hi e) (rg ⟨#[]⟩ k true)).e = A3 at *
  generalize str (cutR (rg lo hi e) (rg k ⟨#[]⟩ false)).lo = B1 at *
  generalize str (cutR (rg lo hi e) (rg k ⟨#[]⟩ false)).hi = B2 at *
  generalize (cutR (rg lo hi e) (rg k ⟨#[]⟩ false)).e = B3 at *
  clear HP HC HL hparts hfirst q1 q2 wl wm wz hf
  generalize l.length = n at *
  go_enter Try.func5, Try.ntmps5
  go_upto_region 1 with fail
  rw [HW.out]
  go_wp2_with fail
  refine H12.out.mono ?_
  rintro x w1 ⟨rfl, hb1⟩
  have R1 := R0.later hb1
  obtain ⟨r0, r1, r2⟩ := R1.cells
  replace hb1 := hb0.trans (hb1.mono hb0.size)
  go_wp2_with fail
  refine (H13.out _).mono ?_
  rintro x w2 ⟨rfl, hb2⟩
  have R2 := R1.later hb2
  clear r0 r1 r2 R1 R0
  obtain ⟨r0, r1, r2⟩ := R2.cells
  replace hb2 := hb1.trans (hb2.mono hb1.size)
  go_wp2_with fail
  refine (E1.out _ hb2).mono ?_
  rintro x w3 ⟨v, rfl, hO, hb3⟩
  have R3 := R2.later hb3
  clear r0 r1 r2 R2
  obtain ⟨r0, r1, r2⟩ := R3.cells
  obtain ⟨pa, pc, rfl, hPr⟩ := prs_row hO
  have hpc := (own_news hO).2.1
  replace hb3 := hb2.trans (hb3.mono hb2.size)
  clear hO hb0 hb1 hb2
  go_wp2_with fail
  refine (K1.out _).mono ?_
  rintro x w4 ⟨rfl, hb4⟩
  have R4 := R3.later hb4
  have hPr4 := hPr.later hb4
  clear r0 r1 r2 R3 hPr
  obtain ⟨r0, r1, r2⟩ := R4.cells
  replace hb4 := hb3.trans (hb4.mono hb3.size)
  go_wp2_with fail
  refine (E2.out _ hb4).mono ?_
  rintro x w5 ⟨v, rfl, hO, hb5⟩
  have R5 := R4.later hb5
  have hPr5 := hPr4.later hb5
  clear r0 r1 r2 R4 hPr4
  obtain ⟨r0, r1, r2⟩ := R5.cells
  obtain ⟨pa1, pc1, rfl, _⟩ := prs_row hO
  have hQ5 := hO
  replace hb5 := hb4.trans (hb5.mono hb4.size)
  clear hO hb3 hb4
  go_wp2_with fail
  refine (K2.out _).mono ?_
  rintro x w6 ⟨rfl, hb6⟩
  have R6 := R5.later hb6
  have hPr6 := hPr5.later hb6
  have hQ6 := row_later hQ5 hb6
  clear r0 r1 r2 R5 hPr5 hQ5
  obtain ⟨r0, r1, r2⟩ := R6.cells
  replace hb6 := hb5.trans (hb6.mono hb5.size)
  go_wp2_with fail
  refine (E3.out _ hb6).mono ?_
  rintro x w7 ⟨v, rfl, hO, hb7⟩
  have R7 := R6.later hb7
  have hPr7 := hPr6.later hb7
  have hQ7 := row_later hQ6 hb7
  clear r0 r1 r2 R6 hPr6 hQ6
  obtain ⟨r0, r1, r2⟩ := R7.cells
  obtain ⟨pa2, pc2, rfl, _⟩ := prs_row hO
  have hZ7 := hO
  replace hb7 := hb6.trans (hb7.mono hb6.size)
  clear hO hb5 hb6
  go_upto_region 7 with fail
  have b8 := below_box w7 (.cells #[] 40)
  have O8 : (w7.alloc (.cells #[] 40)).ownsRow w7.heap.size 40 2 (.slice (some ⟨w7.heap.size, 0, none⟩) 0 0) ([] : List Pr).length (([] : List Pr).flatMap Pr.cells) :=
    ⟨rfl, .inr ⟨w7.heap.size, 0, #[], rfl, Nat.le_refl _, Go.heap_alloc_new _ _, Nat.le_refl _, Nat.zero_le _, rfl, rfl⟩⟩
  have hQ8 := row_later hQ7 b8
  have hZ8 := row_later hZ7 b8
  have hPr8 := hPr7.later b8
  have R8 := R7.later b8
  have s8 : (w7.alloc (.cells #[] 40)).heap.size = w7.heap.size + 1 := by simp
  clear r0 r1 r2 hQ7
  generalize w7.alloc (.cells #[] 40) = w8 at *
  obtain ⟨n1, _, n2⟩ := own_news hQ8
  go_upto_region 8 with (first | (at_builtin; go_loud (refine appGen Pr.cells 2 32 34 40 _ (by omega) (fun _ => rfl) Try.underlying34 info40 rfl (by omega) oneP (w0 := w7) rfl _ _ rfl w7.heap.size _ [] rfl O8 pa1 P1.length pc1 P1 rfl n1 rfl n2 (by simp; omega) (by omega) b8 ?_); intro v9 w9 O9 b9 g9) | fail)
  rw [List.nil_append] at O9
  have hZ9 := row_later hZ7 b9
  obtain ⟨n3, _, n4⟩ := own_news hZ9
  have hs9 := b9.size
  clear hQ8 hZ8 hPr8 R8 n1 n2 O8 b8
  obtain ⟨v9a, v9n, v9c, rfl⟩ := row_slice O9
  go_upto_region 9 with (first | (at_builtin; go_loud (refine appGen Pr.cells 2 32 34 40 _ (by omega) (fun _ => rfl) Try.underlying34 info40 rfl (by omega) oneP (w0 := w7) rfl _ _ rfl w7.heap.size _ P1 rfl O9 pa2 P2.length pc2 P2 rfl n3 rfl n4 (by omega) (by omega) b9 ?_); intro v10 w10 O10 b10 g10) | fail)
  obtain ⟨pb, pbc, rfl, hB10⟩ := prs_row O10
  have hPr10 := hPr7.later b10
  have R10 := R7.later b10
  have hb10 := hb7.trans (b10.mono hb7.size)
  clear O9 O10 hZ9 hZ7 n3 n4 g9 g10 b9 b10 hPr7 R7 hb7 hs9
  have HNl := hid (show (P1 ++ P2).length = P1.length + P2.length by simp)
  rw [← HNl.out]
  clear HNl
  generalize P1 ++ P2 = P at *
  have HS1 := hid (fun z (hz : Below w10.heap.size w10 z) => (same28 pa pb pc pbc P P z (by unfold maxLen; omega) (by unfold maxLen; omega) (hPr10.later hz) (hB10.later hz)).mono fun x u' h => (⟨tells_yes h.1 rfl, h.2⟩ : x = .returned (.bool true) ∧ _))
  have HS2 := hid (fun z (hz : Below w10.heap.size w10 z) qa qc hq => (same28 qa pa qc pc (P.take most.toNat) (P.take most.toNat) z (by unfold maxLen; rw [List.length_take]; omega) (by unfold maxLen; rw [List.length_take]; omega) hq (prs_take (hPr10.later hz) _)).mono fun x u' h => (⟨tells_yes h.1 rfl, h.2⟩ : x = .returned (.bool true) ∧ _))
  refine wp_region_each [(some 58, [], false), (some 59, [], false), (some 60, [(0, 58), (1, 59)], false), (some 61, [(2, 60)], false), (some 62, [(3, 61)], false), (some 63, [(3, 61)], false), (some 64, [(3, 61)], false), (some 65, [(3, 61)], false), (some 66, [(3, 61), (4, 62), (5, 63), (6, 64), (7, 65)], false), (some 67, [(3, 61)], false), (some 68, [(3, 61)], false), (some 69, [(3, 61)], false), (some 70, [(3, 61), (11, 69)], false), (some 71, [(3, 61), (10, 68), (12, 70)], false), (some 72, [(3, 61), (9, 67), (13, 71)], false), (some 73, [(3, 61), (8, 66), (14, 72)], false), (some 74, [(3, 61), (15, 73)], false), (some 75, [(16, 74)], false), (some 76, [(17, 75)], false), (some 77, [(17, 75), (18, 76)], false), (some 10, [(19, 77)], true)]
    (fun z => Below w10.heap.size w10 z) (fun _ z z' => Below z.heap.size z z')
    (fun i Y z => match i with | 0 => Y = .slice pa P.length pc | 1 => Y = .slice pb P.length pbc | 2 => Y = .bool true | 3 => Y = .bool true | 4 => Y = .slice a n c | 5 => Y = .int .u32 root | 6 => Y = av lo hi e | 7 => Y = .int .i64 most | 8 => ∃ qa qc, Y = .slice qa (P.take most.toNat).length qc ∧ Prs z qa (P.take most.toNat) | 9 => Y = .slice pa P.length pc | 10 => Y = .int .i64 most | 11 => Y = .slice pa P.length pc | 12 => Y = .int .i64 P.length | 13 => Y = .int .i64 (P.take most.toNat).length | 14 => Y = .slice pa (P.take most.toNat).length pc | 15 => Y = .bool true | 16 => Y = .bool true | 17 => Y = .bool true | 18 => Y = .bool true | 19 => Y = .bool true | 20 => Y = .bool true | _ => True)
    (by kernel_rfl) (by kernel_rfl) (Below.refl _ _).drew (fun i u u' h h' => h.trans (h'.mono h.size)) (fun i j v u u' hn h h' hv => ?_) ⟨?_, ?_, ?_, ?_, ?_, ?_, ?_, ?_, ?_, ?_, ?_, ?_, ?_, ?_, ?_, ?_, ?_, ?_, ?_, ?_, ?_, trivial⟩ ?_
  · match j with
    | 0 => exact hv
    | 1 => exact hv
    | 2 => exact hv
    | 3 => exact hv
    | 4 => exact hv
    | 5 => exact hv
    | 6 => exact hv
    | 7 => exact hv
    | 8 => obtain ⟨qa, qc, e1, e2⟩ := hv; exact ⟨qa, qc, e1, e2.later h'⟩
    | 9 => exact hv
    | 10 => exact hv
    | 11 => exact hv
    | 12 => exact hv
    | 13 => exact hv
    | 14 => exact hv
    | 15 => exact hv
    | 16 => exact hv
    | 17 => exact hv
    | 18 => exact hv
    | 19 => exact hv
    | 20 => exact hv
    | _ + 21 => trivial
  · rintro z hz
    exact opYields_val _ (by kernel_rfl) (by go_simp) ⟨Below.refl _ _, rfl⟩
  · rintro z hz
    exact opYields_val _ (by kernel_rfl) (by go_simp) ⟨Below.refl _ _, rfl⟩
  · rintro z hz _ rfl _ rfl
    exact opYields_call 19 #[.slice pa P.length pc, .slice pb P.length pbc] (by kernel_rfl) (by go_simp) ((HS1.out z hz).mono fun x u' ⟨h1, h2⟩ => ⟨_, h1, h2, rfl⟩)
  · rintro z hz _ rfl
    exact opYields_val (.bool true) (by kernel_rfl) (by go_simp) ⟨Below.refl _ _, rfl⟩
  · rintro z hz _ rfl
    exact opYields_val _ (by kernel_rfl) (by go_simp) ⟨Below.refl _ _, rfl⟩
  · rintro z hz _ rfl
    exact opYields_val _ (by kernel_rfl) (by go_simp) ⟨Below.refl _ _, rfl⟩
  · rintro z hz _ rfl
    obtain ⟨m0, m1, m2⟩ := (R10.later hz).cells
    exact opYields_val (av lo hi e) (by kernel_rfl) (by go_simp) ⟨Below.refl _ _, rfl⟩
  · rintro z hz _ rfl
    exact opYields_val _ (by kernel_rfl) (by go_simp) ⟨Below.refl _ _, rfl⟩
  · rintro z hz _ rfl _ rfl _ rfl _ rfl _ rfl
    exact opYields_call 14 #[.slice a n c, .int .u32 root, av lo hi e, .int .i64 most] (by kernel_rfl) (by go_simp) ((E4.out z (hb10.trans (Below.mono hz hb10.size))).mono fun x u' ⟨v, h1, h2, h3⟩ => ⟨v, h1, h3, by obtain ⟨qa, qc, e1, e2⟩ := prs_row h2; exact ⟨qa, qc, e1, e2⟩⟩)
  · rintro z hz _ rfl
    exact opYields_val _ (by kernel_rfl) (by go_simp) ⟨Below.refl _ _, rfl⟩
  · rintro z hz _ rfl
    exact opYields_val _ (by kernel_rfl) (by go_simp) ⟨Below.refl _ _, rfl⟩
  · rintro z hz _ rfl
    exact opYields_val _ (by kernel_rfl) (by go_simp) ⟨Below.refl _ _, rfl⟩
  · rintro z hz _ rfl _ rfl
    exact opYields_val (.int .i64 P.length) (by kernel_rfl) (by go_simp) ⟨Below.refl _ _, rfl⟩
  · rintro z hz _ rfl _ rfl _ rfl
    have hq : ((P.take most.toNat).length : Int) = min most (P.length : Int) := by rw [List.length_take]; omega
    rw [hq]
    exact opYields_val (.int .i64 (min most (P.length : Int))) (by kernel_rfl) (by go_simp) ⟨Below.refl _ _, rfl⟩
  · rintro z hz _ rfl _ rfl _ rfl
    have hqp : ((P.take most.toNat).length : Int) ≤ (pc : Int) := by rw [List.length_take]; omega
    obtain ⟨q, hq⟩ : ∃ q, (P.take most.toNat).length = q := ⟨_, rfl⟩
    rw [hq] at hqp ⊢
    exact opYields_val (.slice pa q pc) (by kernel_rfl) (by go_simp) ⟨Below.refl _ _, rfl⟩
  · rintro z hz _ rfl _ ⟨qa, qc, rfl, hq⟩ _ rfl
    exact opYields_call 19 #[.slice qa (P.take most.toNat).length qc, .slice pa (P.take most.toNat).length pc] (by kernel_rfl) (by go_simp) ((HS2.out z hz qa qc hq).mono fun x u' ⟨h1, h2⟩ => ⟨_, h1, h2, rfl⟩)
  · rintro z hz _ rfl _ rfl
    exact opYields_val (.bool true) (by kernel_rfl) (by go_simp) ⟨Below.refl _ _, rfl⟩
  · rintro z hz _ rfl
    exact opYields_val (.bool true) (by kernel_rfl) (by go_simp) ⟨Below.refl _ _, rfl⟩
  · rintro z hz _ rfl
    exact opYields_call 7 #[] (by kernel_rfl) (by go_simp) ((HA.out z).mono fun x u' ⟨h1, h2⟩ => ⟨_, h1, h2, rfl⟩)
  · rintro z hz _ rfl _ rfl
    exact opYields_val (.bool true) (by kernel_rfl) (by go_simp) ⟨Below.refl _ _, rfl⟩
  · rintro z hz _ rfl
    exact opYields_val (.bool true) (by kernel_rfl) (by go_simp) ⟨Below.refl _ _, rfl⟩
  · intro z hz x0 x1 x2 x3 x4 x5 x6 x7 x8 x9 x10 x11 x12 x13 x14 x15 x16 x17 x18 x19 x20 h20
    replace hz : Below w10.heap.size w10 z := hz
    replace h20 : x20 = .bool true := h20
    subst h20
    simp only [givingAll, Act.put, List.setIfInBounds_toArray, List.set_cons_zero, List.set_cons_succ, List.getElem_toArray, List.getElem_cons_succ, List.getElem_cons_zero]
    go_wp2_with fail
    go_ret
    exact ⟨rfl, hb10.trans (hz.mono hb10.size)⟩
end Go.Proofs.Ytegmpfmhlpdmhaa.Key

namespace Go.Proofs.Ytegmpfmhlpdmhaa.meanParts
open Go.ChangeShapes Go.WideShapes Go.ChangeAt Go.RowKit Go.Joins
open Go.ChangeMaps (open_string shut_string)
open Go.Op (bytesLess)
set_option linter.unusedVariables false

theorem own : ownKnob Try.prog.godebug = none := by kernel_rfl
theorem laidOut : laidOutB Try.prog = true := by kernel_rfl
theorem cells31 : Try.prog.cellsOf 31 = 3 := by kernel_rfl

set_option maxRecDepth 100000 in
set_option maxHeartbeats 4000000 in
theorem walk (a0 : Option Addr) (c0 : Nat) (l0 : List Key.It) (n1 : Int) (lo2 hi2 : ByteArray) (e2 : Bool) (s3 : ByteArray) (n4 : Int) (w : World) (wl0 : Key.Items w a0 l0) (wn0 : l0.length ≤ c0) (wc0 : c0 ≤ maxLen) (wz0 : a0 = none → l0.length = 0 ∧ c0 = 0) (wm0 : ∀ m ∈ l0, Key.It.In m) (wi1 : (Lit.int .u32 n1).wf = true) (wlo2 : lo2.size ≤ maxLen) (whi2 : hi2.size ≤ maxLen) (ws3 : s3.size ≤ maxLen) (wi4 : (Lit.int .i64 n4).wf = true) :
    Calls Try.prog 5 #[.slice a0 l0.length c0, .int .u32 n1, Key.av lo2 hi2 e2, .string s3, .int .i64 n4] w fun e w' => e = .returned (.bool true) ∧ Below w.heap.size w w' := by
  exact Key.meanParts5 a0 c0 l0 n1 lo2 hi2 e2 s3 n4 w wl0 wn0 wc0 wz0 wm0 wi1 wlo2 whi2 ws3 wi4

set_option maxRecDepth 100000 in
theorem lifted (os : Os) (started : os.Started) (H : Type) (enc : TypeId × Value → H) :
    ReturnsInHanded {} Try.checked os 5 .any (Rows.meanPartsSpec.pre6 enc Try.prog Try.f5 Rows.meanPartsRow.domain false) (Rows.meanPartsSpec.post enc Try.prog Try.f5 false true false false) := by
  refine returnsInHanded_of_change (C := Try.checked) own started (by kernel_rfl) Try.func5
    (ChangeSpec.witness6 (enc := enc) (C := Try.checked) false ⟨#[], #[.slice none 0 0, .int .u32 0, .agg #[.string ByteArray.empty, .string ByteArray.empty, .bool false], .string ByteArray.empty, .int .i64 0], []⟩ 8 (by kernel_rfl) (by kernel_rfl) (by kernel_rfl) (by kernel_rfl)) ?_
  intro W base args ds gs before hval0 hW hcnd _
  have hval : ∀ (j : Nat) t v, Try.f5.params[j]? = some t → args[j]? = some v → Value.okWide Try.prog W .any base t v := hval0
  have hW' := hW
  obtain ⟨p, q, hA0, hV, rfl, hfz, hnd⟩ := hW
  have hA : DataW.TrodAll enc Try.prog W 0 (fun _ => true) true Try.f5.params.toList args.toList ds p := hA0
  rw [Try.params5] at hA hval
  obtain ⟨v0, vs0, d0, ds0, pp0, qq0, hargs, rfl, rfl, g0, r0⟩ := trodAll_cons hA
  obtain ⟨v1, vs1, d1, ds1, pp1, qq1, rfl, rfl, rfl, g1, r1⟩ := trodAll_cons r0
  obtain ⟨v2, vs2, d2, ds2, pp2, qq2, rfl, rfl, rfl, g2, r2⟩ := trodAll_cons r1
  obtain ⟨v3, vs3, d3, ds3, pp3, qq3, rfl, rfl, rfl, g3, r3⟩ := trodAll_cons r2
  obtain ⟨v4, vs4, d4, ds4, pp4, qq4, rfl, rfl, rfl, g4, r4⟩ := trodAll_cons r3
  obtain ⟨rfl, rfl, rfl⟩ := trodAll_nil r4
  obtain rfl : args = #[v0, v1, v2, v3, v4] := by cases args; simp_all
  obtain ⟨rfl, rfl⟩ := trodVars_none hV
  have k0 := g0
  have lt0 : ∀ x ∈ pp0, x.block < W.heap.size := by obtain ⟨m, hm⟩ := k0; exact DataW.trod_lt m _ _ _ hm
  obtain ⟨a0, len0, c0, rfl⟩ := okWide_slice Try.underlying22 (hval 0 22 v0 rfl rfl)
  obtain ⟨l0, wl0, rfl, wn0, wc0, wz0, wm0⟩ := Key.opened_items g0
  have k1 := g1
  have lt1 : ∀ x ∈ pp1, x.block < W.heap.size := by obtain ⟨m, hm⟩ := k1; exact DataW.trod_lt m _ _ _ hm
  obtain ⟨n1, rfl, rfl, rfl, wi1⟩ := open_int Try.underlying23 (hval 1 23 v1 rfl rfl) g1
  have k2 := g2
  have lt2 : ∀ x ∈ pp2, x.block < W.heap.size := by obtain ⟨m, hm⟩ := k2; exact DataW.trod_lt m _ _ _ hm
  obtain ⟨x2, y2, z2, dx2, dy2, dz2, mm2, rfl, rfl, rfl, hx2, hy2, hz2⟩ := open_agg3 Try.underlying31 (by kernel_rfl) cells31 (hval 2 31 v2 rfl rfl) g2
  obtain ⟨lo2, el2, rfl, wlo2⟩ := DataW.trod_string Try.underlying9 hx2
  obtain ⟨hi2, eh2, rfl, whi2⟩ := DataW.trod_string Try.underlying9 hy2
  obtain ⟨e2, ee2, rfl⟩ := DataW.trod_bool Try.underlying4 hz2
  simp at el2 eh2 ee2
  subst el2 eh2 ee2
  have k3 := g3
  have lt3 : ∀ x ∈ pp3, x.block < W.heap.size := by obtain ⟨m, hm⟩ := k3; exact DataW.trod_lt m _ _ _ hm
  obtain ⟨s3, rfl, rfl, rfl, ws3⟩ := open_string Try.underlying9 (hval 3 9 v3 rfl rfl) g3
  have k4 := g4
  have lt4 : ∀ x ∈ pp4, x.block < W.heap.size := by obtain ⟨m, hm⟩ := k4; exact DataW.trod_lt m _ _ _ hm
  obtain ⟨n4, rfl, rfl, rfl, wi4⟩ := open_int Try.underlying3 (hval 4 3 v4 rfl rfl) g4
  clear hA0 hval0
  refine (walk a0 c0 l0 n1 lo2 hi2 e2 s3 n4 W wl0 wn0 wc0 wz0 wm0 wi1 wlo2 whi2 ws3 wi4).mono fun e W' ⟨he, bel⟩ => ?_
  subst he
  exact ⟨_, rfl, _, _, _, [], _, [], hW', trodAll_mk1 (shut_bool Try.underlying4 _), (trodAll_cons_mk (Below.trod laidOut (by kernel_rfl) (of_decide_eq_true (by kernel_rfl)) k0 bel lt0) (trodAll_cons_mk (Below.trod laidOut (by kernel_rfl) (of_decide_eq_true (by kernel_rfl)) k1 bel lt1) (trodAll_cons_mk (Below.trod laidOut (by kernel_rfl) (of_decide_eq_true (by kernel_rfl)) k2 bel lt2) (trodAll_cons_mk (Below.trod laidOut (by kernel_rfl) (of_decide_eq_true (by kernel_rfl)) k3 bel lt3) (trodAll_cons_mk (Below.trod laidOut (by kernel_rfl) (of_decide_eq_true (by kernel_rfl)) k4 bel lt4) trodAll_mk0))))), rfl, bel.frame _, fun h => by cases h⟩

theorem over : Rows.meanPartsRow.holds Try.pinned (OpenSpec.ofChange Rows.meanPartsSpec) :=
  OpenClaim.holds_of_wide 5 Try.f5 rfl rfl rfl rfl rfl rfl rfl ⟨rfl, rfl, rfl, rfl, rfl⟩ rfl rfl rfl rfl rfl (by kernel_rfl) Try.func5 (by kernel_rfl)
    (of_decide_eq_true (by kernel_rfl)) (by unfold Func.isWrapper; first | (rw [if_pos (by decide +kernel)]; kernel_rfl) | (rw [if_neg (by decide +kernel)]; exact ⟨rfl, rfl⟩))
    (fun os started H enc _ => lifted os started H enc)

/-- the statement -/
theorem proved : Rows.MeanPartsSaid := over
#print axioms proved
end Go.Proofs.Ytegmpfmhlpdmhaa.meanParts
