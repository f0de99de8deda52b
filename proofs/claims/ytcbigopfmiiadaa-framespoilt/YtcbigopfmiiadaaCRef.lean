/-
  Contracts of marcotref01.Mark and marcotref01.Fits.
-/
import Derived.Test.YtcbigopfmiiadaaCFits
import Derived.BigQuiet
import Derived.Deep.RegionWith
namespace Go.Proofs.Ytcbigopfmiiadaa.Crc
open Go.RowKit

theorem le_ints' (s : Nat) : [(s : Int) % 256, (s : Int) / 256 % 256, (s : Int) / 256 / 256 % 256, (s : Int) / 256 / 256 / 256 % 256] = le s := by
  unfold le
  have h1 : (s : Int) / 256 / 256 % 256 = ((s / 65536 % 256 : Nat) : Int) := by omega
  have h2 : (s : Int) / 256 / 256 / 256 % 256 = ((s / 16777216 % 256 : Nat) : Int) := by omega
  rw [h1, h2]
  simp
set_option maxRecDepth 100000 in
set_option maxHeartbeats 1000000 in
theorem ref_mark_any (a : Option Addr) (n cap : Nat) (zs : List Int) (w : World) (hn : zs.length = n) (hb : Bytes w a zs) (hz : Byt zs) (hnil : a = none → n = 0 ∧ cap = 0) (hm : n ≤ 100000) :
    Calls Try.prog 10 #[.slice a n cap] w fun e w' => ∃ v, e = .returned v ∧ Own w' w.heap.size v (zs ++ le (more 0 zs)) ∧ Below w.heap.size w w' := by
  have hb0 : Below w.heap.size w (w.alloc (.cells #[] 5)) := (Below.refl _ _).alloc (Nat.le_refl _) _
  have hlt := more_lt 0 zs
  have HL := hid (le_ints' (more 0 zs))
  go_enter Try.func10, Try.ntmps10
  go_wp2_with (first | (at_builtin; refine app rfl (.tmp 7) (.tmp 8) rfl w.heap.size _ [] rfl (Own.made w) a n cap zs rfl hnil hn (hb.later hb0) (by simp; omega) (by simp) ?_; intro v1 w1 ho1 hg1; have hb1 := (Own.made w).below hb0 (Nat.le_refl _) (by simp) hg1; clear hg1; rw [List.nil_append] at ho1) | fail)
  refine (ref_sum_any _ _ _ zs _ hn (hb.later hb1) hz hm).mono ?_
  rintro e w' ⟨rfl, rfl⟩
  clear hb hb0
  generalize hs : more 0 zs = s at *
  have HS := hid hs
  clear hs
  go_wp2_with fail
  refine wp_loop_rounds 5 ?_
  rw [rounds_succ]
  go_wp2_with (at_builtin; refine app1 rfl (.tmp 16) (.tmp 20) rfl _ _ _ rfl ho1 _ rfl (by omega) (Nat.le_refl _) hb1 ?_; intro v3 w3 ho3 hb3; clear ho1 hb1)
  rw [rounds_succ]
  go_wp2_with (at_builtin; refine app1 rfl (.tmp 16) (.tmp 20) rfl _ _ _ rfl ho3 _ rfl (by simp; omega) (Nat.le_refl _) hb3 ?_; intro v4 w4 ho4 hb4; clear ho3 hb3)
  rw [rounds_succ]
  go_wp2_with (at_builtin; refine app1 rfl (.tmp 16) (.tmp 20) rfl _ _ _ rfl ho4 _ rfl (by simp; omega) (Nat.le_refl _) hb4 ?_; intro v5 w5 ho5 hb5; clear ho4 hb4)
  rw [rounds_succ]
  go_wp2_with (at_builtin; refine app1 rfl (.tmp 16) (.tmp 20) rfl _ _ _ rfl ho5 _ rfl (by simp; omega) (Nat.le_refl _) hb5 ?_; intro v6 w6 ho6 hb6; clear ho5 hb5)
  rw [rounds_succ]
  go_wp2
  obtain ⟨a6, c6, rfl, _, _, _⟩ := ho6.form
  go_ret
  refine ⟨_, rfl, ?_, hb6⟩
  rw [HS.out, ← HL.out]
  simpa using ho6

set_option maxRecDepth 100000 in
set_option maxHeartbeats 1000000 in
theorem ref_fits_short (a : Option Addr) (n cap : Nat) (zs : List Int) (w : World) (hn : zs.length = n) (h4 : n < 4) :
    Calls Try.prog 24 #[.slice a n cap] w fun e w' => e = .returned (.bool (fitsB zs)) ∧ Below w.heap.size w w' := by
  have HF := hid (show fitsB zs = false by simp [fitsB]; omega)
  have hd : decide ((4 : Int) ≤ (n : Int)) = false := by simp; omega
  go_enter Try.func24, Try.ntmps24
  go_wp2_with fail
  go_quiet (fail)
  go_wp2
  go_ret
  exact ⟨ret_bool HF.out.symm, below_drewN (Below.refl _ _) _⟩

/-- a marked row, as its callers want it -/
theorem row_of {w w' : World} {n : Nat} {zs : List Int} {s : Nat} {v : Value} (hn : zs.length = n) (ho : Own w' w.heap.size v (zs ++ le s)) :
    ∃ g c, v = .slice (some ⟨g, 0, none⟩) (n + 4) c ∧ w.heap.size ≤ g ∧ n + 4 ≤ c ∧ Bytes w' (some ⟨g, 0, none⟩) (zs ++ le s) ∧ ((convert 23 9 (.slice (some ⟨g, 0, none⟩) (n + 4) c)).run Try.prog w' = .ok (.string (strOfNums (zs ++ le s))) w') := by
  have hl : (zs ++ le s).length = n + 4 := by simp [le, hn]
  obtain ⟨a, c, rfl, hb, hnil, hlt, hc⟩ := ho.form
  rw [hl] at hnil hc hlt ⊢
  cases a with
  | none => have := (hnil rfl).1; omega
  | some ad =>
    rcases id hb with h | ⟨g, off, he, _⟩
    · rw [h] at hl; simp at hl
    · simp only [Option.some.injEq] at he
      subst he
      rcases ho.2 with ⟨h, _⟩ | ⟨g', _, _, h, hg, _⟩
      · simp at h
      · simp only [Value.slice.injEq, Option.some.injEq, Addr.mk.injEq, and_true] at h
        obtain ⟨⟨rfl, rfl⟩, _, _⟩ := h
        exact ⟨g, c, rfl, hg, hc, hb, conv_str hb _ c hl (fun h => by cases h)⟩
theorem Bytes.drew {w : World} {a : Option Addr} {zs : List Int} (h : Bytes w a zs) : Bytes w.drew a zs := h

theorem byte_inj : ∀ (xs ys : List Int), Byt xs → Byt ys → xs.map (fun n => UInt8.ofNat n.toNat) = ys.map (fun n => UInt8.ofNat n.toNat) → xs = ys
  | [], [], _, _, _ => rfl
  | [], _ :: _, _, _, h => by simp at h
  | _ :: _, [], _, _, h => by simp at h
  | x :: xs, y :: ys, hx, hy, h => by
    simp only [List.map_cons, List.cons.injEq] at h
    have h1 := hx.cons.1
    have h2 := hy.cons.1
    have h3 := congrArg UInt8.toNat h.1
    simp only [UInt8.toNat_ofNat'] at h3
    rw [byte_inj xs ys hx.cons.2 hy.cons.2 h.2]
    have : x = y := by omega
    rw [this]
theorem str_eq (xs ys : List Int) (hx : Byt xs) (hy : Byt ys) : ((strOfNums xs).toList == (strOfNums ys).toList) = decide (xs = ys) := by
  rw [ByteArray.toList_eq, ByteArray.toList_eq, strOfNums_data, strOfNums_data]
  by_cases h : xs = ys
  · simp [h]
  · have : ¬ xs.map (fun n => UInt8.ofNat n.toNat) = ys.map (fun n => UInt8.ofNat n.toNat) := fun e => h (byte_inj xs ys hx hy e)
    simp [h, this]
theorem str_four (p : List Int) (c0 c1 c2 c3 : Int) (s : Nat) (hz : Byt (p ++ [c0, c1, c2, c3])) :
    ((strOfNums (p ++ le s)).toList == (strOfNums (p ++ [c0, c1, c2, c3])).toList) = decide ([c0, c1, c2, c3] = le s) := by
  rw [str_eq _ _ (hz.of_append.1.append (byt_le s)) hz]
  simp [eq_comm]
set_option maxRecDepth 100000 in
set_option maxHeartbeats 1000000 in
theorem ref_fits_long (b off m cap : Nat) (p : List Int) (c0 c1 c2 c3 : Int) (w : World) (hp : p.length = m) (hc : m + 4 ≤ cap) (hb : Bytes w (some ⟨b, off, none⟩) (p ++ [c0, c1, c2, c3])) (hz : Byt (p ++ [c0, c1, c2, c3])) (hm : m ≤ 99000) :
    Calls Try.prog 24 #[.slice (some ⟨b, off, none⟩) (m + 4) cap] w fun e w' => e = .returned (.bool (decide ([c0, c1, c2, c3] = le (more 0 p)))) ∧ Below w.heap.size w w' := by
  have h40 : decide ((4 : Int) ≤ (m : Int) + 4) = true := by simp; omega
  have hbp : Bytes w.drew (some ⟨b, off, none⟩) p := hb.head.drew
  have hzp := hz.of_append.1
  have hno : (some (⟨b, off, none⟩ : Addr)) = none → m = 0 ∧ cap = 0 := fun h => by cases h
  have hno4 : (some (⟨b, off, none⟩ : Addr)) = none → m + 4 = 0 ∧ cap = 0 := fun h => by cases h
  have hl4 : (p ++ [c0, c1, c2, c3]).length = m + 4 := by simp [hp]
  have hcw := conv_str hb.drew (m + 4) cap hl4 hno4
  have hmc : (m : Int) ≤ (cap : Int) := by omega
  have hmc' : m ≤ cap := by omega
  have hwr : IntKind.i64.wrap (m : Int) = (m : Int) := by simp [IntKind.wrap, IntKind.bits, IntKind.signed]; omega
  have HE := hid (str_four p c0 c1 c2 c3 (more 0 p) hz)
  have HC := hid (fun w2 (h : Below w.drew.heap.size w.drew w2) => conv_str (hb.drew.later h) (m + 4) cap hl4 hno4)
  have HM := hid (ref_mark_any (some ⟨b, off, none⟩) m cap p w.drew hp hbp hzp hno (by omega))
  clear hl4 hbp hzp hz hno hno4
  generalize strOfNums (p ++ [c0, c1, c2, c3]) = S at *
  go_enter Try.func24, Try.ntmps24
  go_wp2_with fail
  refine wp_region_any (by kernel_rfl) ?_
  change wpAny _ _ _ _ _ _ _ (World.drew _)
  refine wpAny_take (i := 0) (v := .slice (some ⟨b, off, none⟩) (m + 4) cap) rfl (by kernel_rfl) (by kernel_rfl) (by kernel_rfl) (fun _ _ _ h => h) (Or.inl ⟨by kernel_rfl, by intro w; go_simp⟩) ?_
  refine wpAny_take (i := 1) (v := .int .i64 ((m : Int) + 4)) rfl (by kernel_rfl) (by kernel_rfl) (by kernel_rfl) (fun _ _ _ h => h) (Or.inl ⟨by kernel_rfl, by intro w; go_simp⟩) ?_
  refine wpAny_take (i := 2) (v := .bool true) rfl (by kernel_rfl) (by kernel_rfl) (by kernel_rfl) (fun _ _ _ h => h) (Or.inl ⟨by kernel_rfl, by intro w; go_simp⟩) ?_
  refine wpAny_take (i := 3) (v := .bool true) rfl (by kernel_rfl) (by kernel_rfl) (by kernel_rfl) (fun _ _ _ h => h) (Or.inl ⟨by kernel_rfl, by intro w; go_simp⟩) ?_
  refine wpAny_take (i := 4) (v := .slice (some ⟨b, off, none⟩) (m + 4) cap) rfl (by kernel_rfl) (by kernel_rfl) (by kernel_rfl) (fun _ _ _ h => h) (Or.inl ⟨by kernel_rfl, by intro w; go_simp⟩) ?_
  refine wpAny_take (i := 5) (v := .slice (some ⟨b, off, none⟩) (m + 4) cap) rfl (by kernel_rfl) (by kernel_rfl) (by kernel_rfl) (fun _ _ _ h => h) (Or.inl ⟨by kernel_rfl, by intro w; go_simp⟩) ?_
  refine wpAny_take (i := 6) (v := .int .i64 ((m : Int) + 4)) rfl (by kernel_rfl) (by kernel_rfl) (by kernel_rfl) (fun _ _ _ h => h) (Or.inl ⟨by kernel_rfl, by intro w; go_simp⟩) ?_
  refine wpAny_take (i := 7) (v := .int .i64 (m : Int)) rfl (by kernel_rfl) (by kernel_rfl) (by kernel_rfl) (fun _ _ _ h => h) (Or.inl ⟨by kernel_rfl, by intro w; go_simp⟩) ?_
  refine wpAny_take (i := 8) (v := .slice (some ⟨b, off, none⟩) m cap) rfl (by kernel_rfl) (by kernel_rfl) (by kernel_rfl) (fun _ _ _ h => h) (Or.inl ⟨by kernel_rfl, by intro w; go_simp⟩) ?_
  refine wpAny_take (i := 11) (v := .slice (some ⟨b, off, none⟩) (m + 4) cap) rfl (by kernel_rfl) (by kernel_rfl) (by kernel_rfl) (fun _ _ _ h => h) (Or.inl ⟨by kernel_rfl, by intro w; go_simp⟩) ?_
  refine wpAny_ready (rs := [9, 12]) (by kernel_rfl) (by simp) ?_
  refine AllReady.cons rfl (fun K hK => ?_) ?_
  · go_simp
    refine HM.out.mono ?_
    rintro e w2 ⟨v2, rfl, ho2, hb2⟩
    obtain ⟨g, c, rfl, hg, hgc, hbv, hcm⟩ := row_of hp ho2
    have hcb := HC.out w2 hb2
    generalize strOfNums (p ++ le (more 0 p)) = T at *
    refine hK _ _ ?_
    clear hK K ho2 hbv
    refine wpAny_ready (rs := [10, 12]) (by kernel_rfl) (by simp) ?_
    refine AllReady.cons rfl (fun K hK => ?_) (AllReady.cons rfl (fun K hK => ?_) AllReady.nil)
    · go_simp
      refine hK _ _ ?_
      clear hK K
      refine wpAny_ready (rs := [12]) (by kernel_rfl) (by simp) ?_
      refine AllReady.cons rfl (fun K hK => ?_) AllReady.nil
      go_simp
      refine hK _ _ ?_
      clear hK K
      refine wpAny_ready (rs := [13]) (by kernel_rfl) (by simp) ?_
      refine AllReady.cons rfl (fun K hK => ?_) AllReady.nil
      go_simp
      refine hK _ _ ?_
      clear hK K
      refine wpAny_ready (rs := [14]) (by kernel_rfl) (by simp) ?_
      refine AllReady.cons rfl (fun K hK => ?_) AllReady.nil
      go_simp
      refine hK _ _ ?_
      clear hK K
      refine wpAny_ready (rs := [15]) (by kernel_rfl) (by simp) ?_
      refine AllReady.cons rfl (fun K hK => ?_) AllReady.nil
      go_simp
      refine hK _ _ ?_
      clear hK K
      refine wpAny_done (by kernel_rfl) ?_ _
      go_wp2
      go_ret
      exact ⟨ret_bool HE.out, (Below.refl _ _).drew.trans hb2⟩
    · go_simp
      refine hK _ _ ?_
      clear hK K
      refine wpAny_ready (rs := [10]) (by kernel_rfl) (by simp) ?_
      refine AllReady.cons rfl (fun K hK => ?_) AllReady.nil
      go_simp
      refine hK _ _ ?_
      clear hK K
      refine wpAny_ready (rs := [13]) (by kernel_rfl) (by simp) ?_
      refine AllReady.cons rfl (fun K hK => ?_) AllReady.nil
      go_simp
      refine hK _ _ ?_
      clear hK K
      refine wpAny_ready (rs := [14]) (by kernel_rfl) (by simp) ?_
      refine AllReady.cons rfl (fun K hK => ?_) AllReady.nil
      go_simp
      refine hK _ _ ?_
      clear hK K
      refine wpAny_ready (rs := [15]) (by kernel_rfl) (by simp) ?_
      refine AllReady.cons rfl (fun K hK => ?_) AllReady.nil
      go_simp
      refine hK _ _ ?_
      clear hK K
      refine wpAny_done (by kernel_rfl) ?_ _
      go_wp2
      go_ret
      exact ⟨ret_bool HE.out, (Below.refl _ _).drew.trans hb2⟩
  · refine AllReady.cons rfl (fun K hK => ?_) AllReady.nil
    go_simp
    refine hK _ _ ?_
    clear hK K
    refine wpAny_ready (rs := [9]) (by kernel_rfl) (by simp) ?_
    refine AllReady.cons rfl (fun K hK => ?_) AllReady.nil
    go_simp
    refine HM.out.mono ?_
    rintro e w2 ⟨v2, rfl, ho2, hb2⟩
    obtain ⟨g, c, rfl, hg, hgc, hbv, hcm⟩ := row_of hp ho2
    generalize strOfNums (p ++ le (more 0 p)) = T at *
    refine hK _ _ ?_
    clear hK K ho2 hbv
    refine wpAny_ready (rs := [10]) (by kernel_rfl) (by simp) ?_
    refine AllReady.cons rfl (fun K hK => ?_) AllReady.nil
    go_simp
    refine hK _ _ ?_
    clear hK K
    refine wpAny_ready (rs := [13]) (by kernel_rfl) (by simp) ?_
    refine AllReady.cons rfl (fun K hK => ?_) AllReady.nil
    go_simp
    refine hK _ _ ?_
    clear hK K
    refine wpAny_ready (rs := [14]) (by kernel_rfl) (by simp) ?_
    refine AllReady.cons rfl (fun K hK => ?_) AllReady.nil
    go_simp
    refine hK _ _ ?_
    clear hK K
    refine wpAny_ready (rs := [15]) (by kernel_rfl) (by simp) ?_
    refine AllReady.cons rfl (fun K hK => ?_) AllReady.nil
    go_simp
    refine hK _ _ ?_
    clear hK K
    refine wpAny_done (by kernel_rfl) ?_ _
    go_wp2
    go_ret
    exact ⟨ret_bool HE.out, (Below.refl _ _).drew.trans hb2⟩

theorem ref_fits_any (a : Option Addr) (n cap : Nat) (zs : List Int) (w : World) (hn : zs.length = n) (hb : Bytes w a zs) (hz : Byt zs) (hc : n ≤ cap) (hm : n ≤ 99000) :
    Calls Try.prog 24 #[.slice a n cap] w fun e w' => e = .returned (.bool (fitsB zs)) ∧ Below w.heap.size w w' := by
  by_cases h4 : n < 4
  · exact ref_fits_short a n cap zs w hn h4
  · obtain ⟨m, rfl⟩ : ∃ m, n = m + 4 := ⟨n - 4, by omega⟩
    obtain ⟨p, c0, c1, c2, c3, rfl, hp⟩ := four zs m hn
    rcases id hb with h | ⟨b, off, rfl, _⟩
    · simp at h
    · rw [fitsB_four]
      exact ref_fits_long b off m cap p c0 c1 c2 c3 w hp hc hb hz (by omega)
end Go.Proofs.Ytcbigopfmiiadaa.Crc
