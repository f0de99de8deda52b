/-
  How often blocks are named, plain; contracts of Counts' closure, and of eachName.
-/
import Derived.Test.YtfladpnphkoeiaaMp
import Derived.Test.YtfladpnphkoeiaaRefs
import Derived.Test.YtfladpnphkoeiaaRight
namespace Go.Proofs.Ytfladpnphkoeiaa.Key
open Go.RowKit
set_option linter.unusedVariables false
set_option linter.unusedSimpArgs false

/-- a map: its keys, its values -/
abbrev St := List Int × List Int
/-- so often, at most 2^32 - 1 -/
def upC (had t : Int) : Int := if t ≤ 4294967295 - had then had + t else 4294967295
def addC (s : St) (b t : Int) : St := if 0 < t then (putK s.1 b, putV s.1 s.2 b (upC (getV s.1 s.2 b) t)) else s
def cnt (p : List (Int × Int)) : St := p.foldl (fun s x => addC s x.1 x.2) ([], [])
def Vok (s : St) : Prop := s.2.length = s.1.length ∧ ∀ v ∈ s.2, 0 ≤ v ∧ v ≤ 4294967295
theorem upC_in {h t : Int} (hh : 0 ≤ h ∧ h ≤ 4294967295) (ht : 0 ≤ t) : 0 ≤ upC h t ∧ upC h t ≤ 4294967295 := by unfold upC; split <;> omega
theorem getV_in {s : St} (h : Vok s) (b : Int) : 0 ≤ getV s.1 s.2 b ∧ getV s.1 s.2 b ≤ 4294967295 := by
  unfold getV
  split
  · rename_i ht
    have hp := there_lt ht
    have hp2 : pos s.1 b < s.2.length := by rw [h.1]; exact hp
    have : s.2.getD (pos s.1 b) 0 = s.2[pos s.1 b] := by simp [List.getD, List.getElem?_eq_getElem hp2]
    rw [this]
    exact h.2 _ (List.getElem_mem hp2)
  · omega
theorem Vok.add {s : St} (h : Vok s) (b : Int) {t : Int} (ht : 0 ≤ t) : Vok (addC s b t) := by
  unfold addC
  split
  · have hv := upC_in (getV_in h b) ht
    generalize upC (getV s.1 s.2 b) t = v at hv
    unfold putK putV
    by_cases hth : there s.1 b = true
    · simp only [hth, if_true]
      refine ⟨by simp [h.1], fun y hy => ?_⟩
      rcases List.mem_or_eq_of_mem_set hy with hy | rfl
      · exact h.2 y hy
      · exact hv
    · simp only [hth]
      have hp := pos_le s.1 b
      refine ⟨by simp only [Bool.false_eq_true, if_false]; rw [insertAt_length _ _ _ (by rw [h.1]; exact hp), insertAt_length _ _ _ hp, h.1], fun y hy => ?_⟩
      rcases insertAt_mem hy with hy | rfl
      · exact h.2 y hy
      · exact hv
  · exact h
theorem cnt_snoc (p : List (Int × Int)) (x : Int × Int) : cnt (p ++ [x]) = addC (cnt p) x.1 x.2 := by simp [cnt]
theorem fold_ok : ∀ (p : List (Int × Int)) (s : St), Vok s → (∀ x ∈ p, 0 ≤ x.2) → Vok (p.foldl (fun s x => addC s x.1 x.2) s)
  | [], s, hs, _ => hs
  | x :: p, s, hs, h => fold_ok p _ (hs.add _ (h x (by simp))) (fun y hy => h y (by simp [hy]))
theorem cnt_ok (p : List (Int × Int)) (h : ∀ x ∈ p, 0 ≤ x.2) : Vok (cnt p) := fold_ok p _ ⟨rfl, by simp⟩ h
theorem addC_len (s : St) (b t : Int) : (addC s b t).1.length ≤ s.1.length + 1 := by
  unfold addC
  split
  · exact putK_len _ _
  · omega
theorem fold_len : ∀ (p : List (Int × Int)) (s : St), (p.foldl (fun s x => addC s x.1 x.2) s).1.length ≤ s.1.length + p.length
  | [], s => by simp
  | x :: p, s => by
    have h1 := fold_len p (addC s x.1 x.2)
    have h2 := addC_len s x.1 x.2
    simp only [List.foldl_cons, List.length_cons]
    omega
theorem cnt_len (p : List (Int × Int)) : (cnt p).1.length ≤ p.length := by
  have := fold_len p ([], [])
  simpa [cnt] using this
theorem Free.before {w w1 w2 : World} {k : Nat} {kv vv kv' vv' : Value} (hb : Below w.heap.size w w1) (h : Free w1 w2 k kv vv kv' vv') : Free w w2 k kv vv kv' vv' := fun g hg h0 h1 h2 => by
  obtain ⟨e, f⟩ := h g (Nat.lt_of_lt_of_le hg hb.size) h0 h1 h2
  exact ⟨e.trans (hb.block g hg), f⟩
set_option maxRecDepth 100000 in
set_option maxHeartbeats 600000 in
theorem name34 (cb B k : Nat) (kv vv : Value) (s : St) (b t : Int) (w0 w : World) (hc : w.heap[cb]? = some (.cells #[.pointer (some ⟨k, 0, none⟩)] 72 (0, 0))) (hck : cb ≠ k) (hco : kv.ownBlock ≠ some cb ∧ vv.ownBlock ≠ some cb) (hm : UMap w B k kv vv s.1 s.2) (hl : s.1.length ≤ 10000) (hv : Vok s) (ht : 0 ≤ t ∧ t ≤ 4294967295) (hbel : Below B w0 w) :
    Calls Try.prog 34 #[.int .u32 b, .int .u32 t, .pointer (some ⟨cb, 0, none⟩)] w fun e w' => (∃ v, e = .returned v) ∧ (∃ kv' vv', UMap w' B k kv' vv' (addC s b t).1 (addC s b t).2 ∧ Free w w' k kv vv kv' vv') ∧ Below B w0 w' := by
  have hA : addC s b t = if 0 < t then (putK s.1 b, putV s.1 s.2 b (upC (getV s.1 s.2 b) t)) else s := rfl
  by_cases h0 : 0 < t
  · have hA2 := hid (hA.trans (if_pos h0))
    have hgi := getV_in hv b
    have HG := get35 B k kv vv s.1 s.2 b w hm (by omega)
    have hBk := hm.above
    have hklt := hm.lt
    have HP := hid (fun w1 (hb1 : Below w.heap.size w w1) v => put36 B k kv vv s.1 s.2 b v w0 w1 (hm.later hb1) hl (hbel.trans (hb1.mono (by omega))))
    have hU : upC (getV s.1 s.2 b) t = if t ≤ 4294967295 - getV s.1 s.2 b then getV s.1 s.2 b + t else 4294967295 := rfl
    generalize addC s b t = A at *
    have hc' := cell_of_row _ _ 0 _ _ _ hc
    dsimp at hc'
    have hcl : cb < w.heap.size := (Array.getElem?_eq_some_iff.1 hc).1
    generalize upC (getV s.1 s.2 b) t = U at *
    generalize getV s.1 s.2 b = gv at *
    clear hA hv hm
    have h0' : decide ((0 : Int) < t) = true := by simpa using h0
    have hw1 : IntKind.u32.wrap (4294967295 - gv) = 4294967295 - gv := by
      have : IntKind.u32.wrap (4294967295 - gv) = (4294967295 - gv) % 4294967296 := rfl
      rw [this]; omega
    by_cases hle : t ≤ 4294967295 - gv
    · have HU : Hid (U = gv + t) := hid (hU.trans (if_pos hle))
      have hw2 : IntKind.u32.wrap (gv + t) = gv + t := by
        have : IntKind.u32.wrap (gv + t) = (gv + t) % 4294967296 := rfl
        rw [this]; omega
      have hmin : min t (4294967295 - gv) = t := by omega
      clear hU
      go_enter Try.func34, Try.ntmps34
      go_wp2_with fail
      refine HG.mono ?_
      rintro e w1 ⟨rfl, hb1⟩
      have hc1 := (hb1.cell (p := ⟨cb, 0, none⟩) hcl).trans hc'
      have HP1 := HP.out w1 hb1 U
      rw [HU.out] at HP1
      go_wp2_with fail
      refine HP1.mono ?_
      rintro e w2 ⟨rfl, ⟨kv', vv', hm2, hf2⟩, hb2⟩
      go_wp2_with fail
      go_end0
      exact ⟨⟨_, rfl⟩, ⟨kv', vv', by rw [hA2.out, HU.out]; exact hm2, hf2.before hb1⟩, hb2⟩
    · have HU : Hid (U = 4294967295) := hid (hU.trans (if_neg hle))
      have hw2 : IntKind.u32.wrap (gv + (4294967295 - gv)) = 4294967295 := by
        have : IntKind.u32.wrap (gv + (4294967295 - gv)) = (gv + (4294967295 - gv)) % 4294967296 := rfl
        rw [this]; omega
      have hmin : min t (4294967295 - gv) = 4294967295 - gv := by omega
      clear hU
      go_enter Try.func34, Try.ntmps34
      go_wp2_with fail
      refine HG.mono ?_
      rintro e w1 ⟨rfl, hb1⟩
      have hc1 := (hb1.cell (p := ⟨cb, 0, none⟩) hcl).trans hc'
      have HP1 := HP.out w1 hb1 U
      rw [HU.out] at HP1
      go_wp2_with fail
      refine HP1.mono ?_
      rintro e w2 ⟨rfl, ⟨kv', vv', hm2, hf2⟩, hb2⟩
      go_wp2_with fail
      go_end0
      exact ⟨⟨_, rfl⟩, ⟨kv', vv', by rw [hA2.out, HU.out]; exact hm2, hf2.before hb1⟩, hb2⟩
  · have hA2 := hid (hA.trans (if_neg h0))
    have h0' : decide ((0 : Int) < t) = false := by simpa using h0
    clear hA
    go_enter Try.func34, Try.ntmps34
    go_wp2_with fail
    go_end0
    exact ⟨⟨_, rfl⟩, ⟨kv, vv, by rw [hA2.out]; exact hm, fun g _ _ h1 h2 => ⟨rfl, h1, h2⟩⟩, hbel⟩
end Go.Proofs.Ytfladpnphkoeiaa.Key
