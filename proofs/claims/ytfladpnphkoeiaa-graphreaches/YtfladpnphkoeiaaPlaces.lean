/-
  Contract of placesOf.
-/
import Derived.Test.YtfladpnphkoeiaaRch
import Derived.Test.YtfladpnphkoeiaaGMap
namespace Go.Proofs.Ytfladpnphkoeiaa.Key
open Go.RowKit Go.Maps
set_option linter.unusedVariables false
set_option linter.unusedSimpArgs false

/-- at which place the node in a block stands -/
def placeF (l : List It) (b : Int) : Option Int := Option.map Int.ofNat (l.findIdx? fun x => x.blk == b)
theorem placeF_nil (b : Int) : placeF [] b = none := rfl
theorem placeF_snoc (l : List It) (x : It) (b : Int) : placeF (l ++ [x]) b = (placeF l b).or (if x.blk = b then some (l.length : Int) else none) := by
  unfold placeF
  rw [List.findIdx?_append]
  cases h : l.findIdx? (fun x => x.blk == b) with
  | some i => simp
  | none =>
    by_cases e : x.blk = b
    · simp [e, List.findIdx?_cons]
    · simp [e, List.findIdx?_cons, beq_eq_false_iff_ne.2 e]
theorem placeF_some {l : List It} {b p : Int} (h : placeF l b = some p) : ∃ (i : Nat) (hi : i < l.length), p = (i : Int) ∧ findI l b = some l[i] := by
  unfold placeF at h
  cases hf : l.findIdx? (fun x => x.blk == b) with
  | none => rw [hf] at h; cases h
  | some i =>
    rw [hf] at h
    simp only [Option.map_some, Option.some.injEq] at h
    obtain ⟨hi, h1, h2⟩ := List.findIdx?_eq_some_iff_getElem.1 hf
    refine ⟨i, hi, h.symm, ?_⟩
    unfold findI
    rw [List.find?_eq_some_iff_getElem]
    refine ⟨h1, i, hi, rfl, fun j hj => ?_⟩
    simpa using h2 j hj
theorem placeF_none {l : List It} {b : Int} (h : placeF l b = none) : findI l b = none := by
  unfold placeF at h
  simp only [Option.map_eq_none_iff] at h
  unfold findI
  rw [List.find?_eq_none]
  intro x hx
  have := List.findIdx?_eq_none_iff.1 h x hx
  simpa using this
theorem wf_i64 {z : Int} (h : 0 ≤ z ∧ z ≤ 100000) : (Lit.int .i64 z).wf = true := by
  simp only [Lit.wf, Bool.and_eq_true, decide_eq_true_eq]
  have e1 : IntKind.i64.min = -9223372036854775808 := by decide
  have e2 : IntKind.i64.max = 9223372036854775807 := by decide
  omega
set_option maxRecDepth 100000 in
set_option maxHeartbeats 800000 in
theorem places39 (a : Option Addr) (c : Nat) (l : List It) (w : World) (hln : l.length ≤ 1000) (hin : ∀ x ∈ l, x.In) (h : Items w a l) :
    Calls Try.prog 39 #[.slice a l.length c] w fun x w' => x = .returned (.map (some w.heap.size)) ∧ (∃ m, GMap w' 3 .i64 w.heap.size m (placeF l)) ∧ Below w.heap.size w w' := by
  have hmm := @run_makeMap Try.prog
  obtain ⟨n, HN⟩ : ∃ m, Hid (l.length = m) := ⟨_, hid rfl⟩
  rw [HN.out] at hln ⊢
  have M0 := GMap.made w 3 .i64
  have hb0 := below_box w (.map #[] 0)
  have HI := hid h
  clear h
  go_enter Try.func39, Try.ntmps39
  go_wp2_with fail
  generalize w.alloc (.map #[] 0) = w0 at *
  generalize hk0 : w.heap.size = k0 at *
  go_loopw [11] (fun i wr => ∃ j : Nat, j ≤ n ∧ i = .int .i64 j ∧ GMap wr 3 .i64 k0 j (placeF (l.take j)) ∧ Below k0 w wr) (fun i _ => n - (intOf i).toNat)
  case atStart => exact ⟨0, Nat.zero_le _, rfl, M0, hb0⟩
  case round =>
    clear M0 hb0
    obtain ⟨j, hj, rfl, hM, hb⟩ := hrel
    have hbs : k0 ≤ wr.heap.size := by rw [← hk0]; exact hb.size
    by_cases hlt : j < n
    · have hlt' : j < l.length := by rw [HN.out]; exact hlt
      have hxi := hin _ (List.getElem_mem hlt')
      have hnx : placeF (l.take (j + 1)) = fun b => (placeF (l.take j) b).or (if l[j].blk = b then some (j : Int) else none) := by
        funext b
        rw [List.take_succ_eq_append_getElem hlt', placeF_snoc, List.length_take, Nat.min_eq_left (by omega)]
      obtain ⟨b, off, rfl, h6, h7⟩ := (HI.out.later (by rw [hk0]; exact hb)).at hlt'
      obtain ⟨x, HX⟩ : ∃ m, Hid (l[j] = m) := ⟨_, hid rfl⟩
      rw [HX.out] at h6 hxi hnx
      have hwb := hxi.blk
      have X5 := I6.new wr (.int .u32 x.blk) (.bool x.nd.leaf) (.slice x.pl.a1 x.nd.ps.length x.pl.c1) (.slice x.pl.a2 x.nd.pv.length x.pl.c2) (.slice x.pl.a3 x.nd.ks.length x.pl.c3) (.slice x.pl.a4 x.nd.bf.length x.pl.c4)
      have hbx := below_box wr (.cells #[.int .u32 x.blk, .bool x.nd.leaf, .slice x.pl.a1 x.nd.ps.length x.pl.c1, .slice x.pl.a2 x.nd.pv.length x.pl.c2, .slice x.pl.a3 x.nd.ks.length x.pl.c3, .slice x.pl.a4 x.nd.bf.length x.pl.c4] 47)
      have hM5 := hM.later hbx
      have hb5 : Below k0 w _ := hb.trans (hbx.mono hbs)
      obtain ⟨bk, ⟨lf, ps, pv, ks, bf⟩, ⟨a1, c1, a2, c2, a3, c3, a4, c4⟩⟩ := x
      obtain ⟨d0, d1, d2, d3, d4, d5⟩ := h6
      dsimp only [nv] at *
      clear h7 hxi hM hb hbx
      generalize ps.length = n1 at *
      generalize pv.length = n2 at *
      generalize ks.length = n3 at *
      generalize bf.length = n4 at *
      obtain ⟨x0, x1, x2, x3, x4, x5⟩ := X5.c
      clear X5
      have hs5 : k0 ≤ (wr.alloc (.cells #[.int .u32 bk, .bool lf, .slice a1 n1 c1, .slice a2 n2 c2, .slice a3 n3 c3, .slice a4 n4 c4] 47)).heap.size := by simp; omega
      obtain ⟨y, HY⟩ : ∃ y, Hid (placeF (l.take j) bk = y) := ⟨_, hid rfl⟩
      have HNX := hid hnx
      clear hnx
      generalize hf : placeF (l.take j) = f at *
      cases y with
      | none =>
        have hput : Hid (placeF (l.take (j + 1)) = putF f bk (j : Int)) := hid (by
          rw [HNX.out]
          funext z
          unfold putF
          by_cases e : bk = z
          · subst e; rw [HY.out]; simp
          · simp [e])
        obtain ⟨w6, hrun, hM6, hg6⟩ := hM5.store (t := 83) Try.underlying83 Try.underlying3 (by unfold maxLen; omega) bk (j : Int) hwb (wf_i64 (by omega))
        have hb6 := hid (hb5.grown hg6 hs5 (fun j hj => by cases hj; exact Nat.le_refl _))
        clear hf hg6
        go_wp2_with (first | (at_lookup; refine look rfl _ _ 83 rfl 3 .i64 Try.underlying83 Try.underlying3 (zero3 _) k0 j f rfl hM5 bk rfl hwb ?_; rw [HY.out]; dsimp only [Option.getD, Option.isSome]) | fail)
        go_roundw
        case rel => exact ⟨j + 1, by omega, by go_num, by rw [hput.out]; exact hM6, hb6.out⟩
        case measure => simp [intOf]; omega
      | some p =>
        have hsame : Hid (placeF (l.take (j + 1)) = f) := hid (by
          rw [HNX.out]
          funext z
          by_cases e : bk = z
          · subst e; rw [HY.out]; simp
          · simp [e])
        clear hf
        go_wp2_with (first | (at_lookup; refine look rfl _ _ 83 rfl 3 .i64 Try.underlying83 Try.underlying3 (zero3 _) k0 j f rfl hM5 bk rfl hwb ?_; rw [HY.out]; dsimp only [Option.getD, Option.isSome]) | fail)
        go_roundw
        case rel =>
          refine ⟨j + 1, by omega, by go_num, ?_, hb5⟩
          rw [hsame.out]
          obtain ⟨D, hD, hD2⟩ := hM5
          exact ⟨D, hD.mono (Nat.le_succ _), hD2⟩
        case measure => simp [intOf]; omega
    · obtain rfl : j = n := by omega
      rw [show l.take j = l by rw [← HN.out, List.take_length]] at hM
      go_wp2_with fail
      go_ret
      exact ⟨by first | rfl | (rw [hk0]; rfl), ⟨j, by first | exact hM | (rw [hk0]; exact hM)⟩, by first | exact hb | (rw [hk0]; exact hb)⟩
end Go.Proofs.Ytfladpnphkoeiaa.Key
