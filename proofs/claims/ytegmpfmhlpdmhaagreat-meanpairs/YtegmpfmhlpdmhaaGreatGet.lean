/-
  Contract of the program's Get.
-/
import Derived.Test.YtegmpfmhlpdmhaaGreatNodes
import Derived.Test.YtegmpfmhlpdmhaaGreatKc
import Derived.Test.YtegmpfmhlpdmhaaGreatKk
namespace Go.Proofs.YtegmpfmhlpdmhaaGreat.Key
open Go.RowKit
open Draw
set_option linter.unusedVariables false
set_option linter.unusedSimpArgs false

def seenN (l : List It) (z : Int) : Nd := ((seenI l z).map (·.nd)).getD zeroN
/-- what a way comes to -/
def wayV (l : List It) (y : Wy) : Option ByteArray := if y.kind = 2 then valL l y.blk y.key.data.toList else if y.kind = 1 then some y.val else none
def depM (l : List It) (b : Int) : Nat := match seenI l b with | none => 0 | some x => (deepI x.nd).toNat
theorem seen_some {l : List It} {b : Int} {x : It} (h : seenI l b = some x) : rightB l = true ∧ findI l b = some x := by
  unfold seenI at h
  split at h
  · exact ⟨by assumption, h⟩
  · cases h
theorem zero_step (k : List UInt8) : stepW zeroN k = noWay := by
  unfold stepW
  rw [if_neg (by decide)]
theorem val_unseen {l : List It} {b : Int} (h : seenI l b = none) (k : List UInt8) : valL l b k = none := by
  unfold seenI at h
  split at h
  · exact val_out h k
  · rename_i hr
    exact val_no (by simpa using hr) b k
theorem way_next (l : List It) (b : Int) (k : List UInt8) : wayV l (stepW (seenN l b) k) = valL l b k := by
  unfold seenN
  cases hs : seenI l b with
  | none =>
    show wayV l (stepW zeroN k) = _
    rw [zero_step, val_unseen hs]
    rfl
  | some x =>
    obtain ⟨hr, hf⟩ := seen_some hs
    show wayV l (stepW x.nd k) = _
    rw [val_step hr hf]
    rfl
theorem dep_next {l : List It} {b : Int} {k : List UInt8} (h2 : (stepW (seenN l b) k).kind = 2) : depM l (stepW (seenN l b) k).blk < depM l b ∧ (∃ y ∈ l, y.blk = (stepW (seenN l b) k).blk) ∧ (stepW (seenN l b) k).key.size ≤ k.length + 16 := by
  unfold seenN depM at *
  cases hs : seenI l b with
  | none =>
    rw [hs] at h2
    rw [show ((none : Option It).map (·.nd)).getD zeroN = zeroN from rfl, zero_step] at h2
    cases h2
  | some x =>
    obtain ⟨hr, hf⟩ := seen_some hs
    rw [hs] at h2
    obtain ⟨y, hy, hlt⟩ := step_on hr hf h2
    have h3 := step_key hr hf k
    have h4 := deep_pos (right_may hr (find_in hy))
    refine ⟨?_, ⟨y, find_in hy, by simpa using List.find?_some hy⟩, h3⟩
    show (match seenI l (stepW x.nd k).blk with | none => 0 | some x => (deepI x.nd).toNat) < (deepI x.nd).toNat
    have : seenI l (stepW x.nd k).blk = some y := by unfold seenI; rw [if_pos hr]; exact hy
    rw [this]
    show (deepI y.nd).toNat < (deepI x.nd).toNat
    clear h3 this
    generalize deepI y.nd = p at *
    generalize deepI x.nd = q at *
    omega
/-- a way of which a kind tells enough -/
def PlainW (y : Wy) : Prop := y.kind ≠ 1 → y.val = ⟨#[]⟩
theorem step_plain (n : Nd) (k : List UInt8) : PlainW (stepW n k) := by
  rcases step_cases n k with e | ⟨v, e⟩ | ⟨t, dp, key, e, _⟩
  · rw [e]; intro _; rfl
  · rw [e]; intro h; exact absurd rfl h
  · rw [e]; intro _; rfl
/-- how far a way in a block is from its end -/
def wayM (l : List It) (w : World) (g : Nat) : Nat := match w.cell? ⟨g, 0, none⟩ with
  | some (.int _ kd) => if kd = 2 then (match w.cell? ⟨g, 2, none⟩ with | some (.int _ b) => depM l b + 1 | _ => 0) else 0
  | _ => 0
theorem wayM_at {l : List It} {w : World} {g : Nat} {kd b : Int} {v1 v3 v4 : Value} (h : WBox w g (.int .u8 kd) v1 (.int .u32 b) v3 v4) : wayM l w g = if kd = 2 then depM l b + 1 else 0 := by
  obtain ⟨h0, _, h2, _, _⟩ := h.cells
  unfold wayM
  rw [h0, h2]
theorem NMap.at {w : World} {b n : Nat} {l : List It} (h : NMap w b n (seenI l)) (z : Int) : ∃ f, VMap w b n f ∧ (∃ p, (f z).getD (nv zeroN ⟨none, 0, none, 0, none, 0, none, 0⟩) = nv (seenN l z) p ∧ Lies w (seenN l z) p) ∧ (f z).isSome = (seenI l z).isSome := by
  obtain ⟨f, h1, h2⟩ := h.ex
  refine ⟨f, h1, ?_⟩
  have := h2 z
  unfold seenN
  cases hs : seenI l z with
  | none =>
    rw [hs] at this
    dsimp only at this
    rw [this]
    exact ⟨⟨⟨none, 0, none, 0, none, 0, none, 0⟩, rfl, ⟨.inl rfl, .inl rfl, .inl rfl, .inl rfl⟩⟩, rfl⟩
  | some x =>
    rw [hs] at this
    obtain ⟨p, h3, h4⟩ := this
    rw [h3]
    exact ⟨⟨p, rfl, h4⟩, rfl⟩
theorem seen_small {l : List It} (hl : Fine l) (z : Int) : Small (seenN l z) := by
  unfold seenN
  cases hs : seenI l z with
  | none => exact ⟨⟨by simp [zeroN], by simp [zeroN], by simp [zeroN], by simp [zeroN]⟩, by simp [zeroN], by simp [zeroN], by simp [zeroN], by simp [zeroN], by simp [zeroN]⟩
  | some x => exact hl.sml x (find_in (seen_some hs).2)
set_option maxRecDepth 100000 in
set_option maxHeartbeats 1600000 in
theorem get8 (a : Option Addr) (c : Nat) (l : List It) (root : Int) (k : ByteArray) (w : World) (hl : Fine l) (hr : (Lit.int .u32 root).wf = true) (hk : k.size + 16 * depM l root ≤ 1000) (h : Items w a l) :
    Calls Tryz.prog 12 #[.slice a l.length c, .int .u32 root, .string k] w fun x w' => x = .returned (.tuple #[.string (valS l root k.data.toList), .bool (valB l root k.data.toList)]) ∧ Below w.heap.size w w' := by
  have HN := hid (nodes21 a c l w hl h)
  have hin := fun x hx => (hl.inn x hx).blk
  have HV := hid (show wayV l ⟨2, ⟨#[]⟩, root, 0, k⟩ = valL l root k.data.toList from rfl)
  have HS := hid (show valS l root k.data.toList = (valL l root k.data.toList).getD ⟨#[]⟩ from rfl)
  have HB := hid (show valB l root k.data.toList = (valL l root k.data.toList).isSome from rfl)
  generalize valS l root k.data.toList = VS at *
  generalize valB l root k.data.toList = VB at *
  generalize valL l root k.data.toList = V at *
  generalize hn : l.length = n at *
  clear hn h
  go_enter Tryz.func12, Tryz.ntmps12
  go_wp2_with fail
  refine HN.out.mono ?_
  clear HN
  rintro x w1 ⟨rfl, ⟨m, hM⟩, hb1⟩
  go_wp2_with fail
  have W0 := WBox.new w1 (.int .u8 2) (.string ⟨#[]⟩) (.int .u32 root) (.int .u16 0) (.string k)
  have hb2 := below_box w1 (.cells #[.int .u8 2, .string ⟨#[]⟩, .int .u32 root, .int .u16 0, .string k] 70)
  go_loopw [] (fun wr => ∃ yk yv yb yd yy, WBox wr w1.heap.size (.int .u8 yk) (.string yv) (.int .u32 yb) (.int .u16 yd) (.string yy) ∧ Below w1.heap.size w1 wr ∧ Hid (wayV l ⟨yk, yv, yb, yd, yy⟩ = V) ∧ PlainW ⟨yk, yv, yb, yd, yy⟩ ∧ (yk = 2 → (Lit.int .u32 yb).wf = true ∧ yy.size + 16 * depM l yb ≤ 1000)) (fun wr => wayM l wr w1.heap.size)
  case atStart => exact ⟨2, ⟨#[]⟩, root, 0, k, W0, hb2, HV, fun _ => rfl, fun _ => ⟨hr, hk⟩⟩
  case round =>
    obtain ⟨yk, yv, yb, yd, yy, W2, hb3, hv, hp, ht⟩ := hrel
    have hms := hid (wayM_at (l := l) W2)
    obtain ⟨g0, g1, g2, g3, g4⟩ := W2.cells
    by_cases h2 : yk = 2
    · subst h2
      obtain ⟨hwf, hsz⟩ := ht rfl
      obtain ⟨f, hf, ⟨p, hp1, hp2⟩, _⟩ := (hM.later hb3).at yb
      have hws := step19 (seenN l yb) p yy wr (seen_small hl yb) (by omega) hp2
      have hnx := way_next l yb yy.data.toList
      have hdn := fun h => dep_next (l := l) (b := yb) (k := yy.data.toList) h
      have hsp := step_plain (seenN l yb) yy.data.toList
      have hys : yy.data.toList.length = yy.size := by rw [← Lib.size_eq]
      have HP1 := hid hp1
      have HWS := hid hws
      have hms2 : wayM l wr w1.heap.size = depM l yb + 1 := by rw [hms.out, if_pos rfl]
      have HMS := hid hms2
      have hv2 : valL l yb yy.data.toList = V := by rw [← hv.out]; rfl
      clear hp1 hws hms hms2 ht hp hv HV W0 hb2 hr hk
      generalize hy : stepW (seenN l yb) yy.data.toList = y at *
      clear hy
      obtain ⟨zk, zv, zb, zd, zy⟩ := y
      dsimp only at hdn hsp
      clear hl hp2
      generalize seenN l yb = nd at *
      have HG0 := hid g0
      go_upto_region 4 with fail
      go_wp2_with (first
        | (at_lookup; refine lookV rfl _ _ 67 rfl 46 Tryz.underlying67 (zero46 _) w.heap.size m f rfl hf yb rfl hwf ?_; rw [HP1.out])
        | (go_at_call 22; refine HWS.out.mono ?_; clear HWS; rintro x w4 ⟨rfl, hb4⟩; have W4 := W2.later hb4; have hb5 := hb3.trans (hb4.mono hb3.size); obtain ⟨q0, q1, q2, q3, q4⟩ := W4.cells; have f0 := W4.free 0; have f1 := W4.free 1; have f2 := W4.free 2; have f3 := W4.free 3; have f4 := W4.free 4; clear g0 g1 g2 g3 g4 W2 hb3; dsimp only [wv])
        | fail)
      have W5 := W4.put (.int .u8 zk) (.string zv) (.int .u32 zb) (.int .u16 zd) (.string zy)
      have hb6 := below_five hb5 (Nat.le_refl _) (.int .u8 zk) (.string zv) (.int .u32 zb) (.int .u16 zd) (.string zy)
      go_roundw
      case rel =>
        refine ⟨zk, zv, zb, zd, zy, W5, hb6, hid (hnx.trans hv2), hsp, fun h => ?_⟩
        obtain ⟨e1, ⟨x, hx, rfl⟩, e3⟩ := hdn h
        exact ⟨hin x hx, by omega⟩
      case measure =>
        rw [HMS.out, wayM_at W5]
        by_cases h : zk = 2
        · rw [if_pos h]
          have := (hdn h).1
          omega
        · rw [if_neg h]; omega
    · have h2' : (yk == 2) = false := by simpa using h2
      have hv2 := hv.out
      unfold wayV at hv2
      dsimp only at hv2
      rw [if_neg h2] at hv2
      have hVB : (yk == 1) = VB := by
        rw [HB.out, ← hv2]
        by_cases h1 : yk = 1
        · subst h1; rfl
        · rw [if_neg h1]; simpa using h1
      have hVS : yv = VS := by
        rw [HS.out, ← hv2]
        by_cases h1 : yk = 1
        · rw [if_pos h1]; rfl
        · rw [if_neg h1]; exact hp h1
      subst hVS
      clear hv hp hv2 ht hms HV W0 hb2
      have hb4 := hb1.trans (hb3.mono hb1.size)
      go_upto_region 5 with fail
      go_quiet (fail)
      go_wp2_with fail
      exact bodyPost_ret (v := .tuple #[.string yv, .bool VB]) (by simp [results, Tryz.results12, go_sem]) rfl ⟨rfl, below_drew hb4 _⟩
end Go.Proofs.YtegmpfmhlpdmhaaGreat.Key
