/-
  Contracts of the document's lists of pairs: without a key, without a beginning, with a pair put.
  Contract of PutPair, the document's.
  Contract of add, the document's: what an edge leads to, of a range.
  Contract of Apply, the document's, of one message that puts or deletes.
  Contract of Content, the document's, of one node over those it leads to.
  Contract of Content, the document's: all pairs of a block of a right graph.
  Contract of Pairs, the document's.
-/
import Derived.Test.YtegmpfmhlpdmhaaGreatClone
import Derived.Test.YtegmpfmhlpdmhaaGreatKp
import Derived.Test.YtegmpfmhlpdmhaaGreatOwn
import Derived.Test.YtegmpfmhlpdmhaaGreatBump
import Derived.Test.YtegmpfmhlpdmhaaGreatKt
import Derived.Test.YtegmpfmhlpdmhaaGreatJ1
import Derived.Test.YtegmpfmhlpdmhaaGreatKc
import Derived.Test.YtegmpfmhlpdmhaaGreatQu
import Derived.BigQuiet
import Derived.Test.YtegmpfmhlpdmhaaGreatJ2
import Derived.Test.YtegmpfmhlpdmhaaGreatJ3
import Derived.Test.YtegmpfmhlpdmhaaGreatKm
import Derived.Test.YtegmpfmhlpdmhaaGreatKv
import Derived.Test.YtegmpfmhlpdmhaaGreatKk
import Derived.Test.YtegmpfmhlpdmhaaGreatRightRef
import Derived.Maps.OwnIn
namespace Go.Proofs.YtegmpfmhlpdmhaaGreat.Key
open Go.RowKit Draw
open Go.Op (bytesLess)
set_option linter.unusedVariables false
set_option linter.unusedSimpArgs false

/-- pairs handed back, somewhere in memory -/
def PrsOut (w' : World) (x : Ending) (l : List Pr) : Prop := ∃ a c, x = .returned (.slice a l.length c) ∧ Prs w' a l
theorem row_prs {w : World} {B : Nat} {v : Value} {l : List Pr} (h : w.ownsRow B 50 2 v l.length (l.flatMap Pr.cells)) : ∃ a c, v = .slice a l.length c ∧ Prs w a l := by
  obtain ⟨a, c, e, h1⟩ := row_cells Pr.cells 2 (fun _ => rfl) h
  refine ⟨a, c, e, ?_⟩
  rcases h1 with h1 | ⟨g, e, _, _, hc⟩
  · exact .inl h1
  · exact .inr ⟨g, 0, e, fun i hi => ⟨hc i hi 0 _ (by omega) rfl, hc i hi 1 _ (by omega) rfl⟩⟩
theorem PrsOut.row {w : World} {B : Nat} {v : Value} {l : List Pr} (h : w.ownsRow B 50 2 v l.length (l.flatMap Pr.cells)) : PrsOut w (.returned v) l := by
  obtain ⟨a, c, rfl, hp⟩ := row_prs h
  exact ⟨a, c, rfl, hp⟩
theorem row_made (w : World) : (w.alloc (.cells #[] 50)).ownsRow w.heap.size 50 2 (.slice (some ⟨w.heap.size, 0, none⟩) 0 0) ([] : List Pr).length (([] : List Pr).flatMap Pr.cells) :=
  World.ownsRow_made w #[] 0 (Nat.le_refl _) (Nat.zero_le _) (by simp)
/-- a new block that holds one pair, as what is appended -/
theorem one_news (w : World) (p : Pr) : ∀ adr, some (⟨w.heap.size, 0, none⟩ : Addr) = some adr → ∀ j u, ([p].flatMap Pr.cells)[j]? = some u → (w.alloc (.cells #[.string p.key, .string p.val] 50)).cell? (adr.add j) = some u := by
  rintro adr e
  simp only [Option.some.injEq] at e
  subst e
  intro j u hu
  rw [add_plain, Nat.zero_add]
  have hn : (w.alloc (.cells #[.string p.key, .string p.val] 50)).heap[w.heap.size]? = some (.cells #[.string p.key, .string p.val] 50 (0, 0)) := Go.heap_alloc_new _ _
  have hj : j < 2 := by have := (List.getElem?_eq_some_iff.1 hu).1; simpa [Pr.cells] using this
  match j, hj with
  | 0, _ => rw [← hu]; exact cell_of_row _ _ 0 _ _ _ hn
  | 1, _ => rw [← hu]; exact cell_of_row _ _ 1 _ _ _ hn
theorem filt_at {α : Type} {p : α → Bool} {l : List α} {j : Nat} {x : α} (h : l[j]? = some x) : (l.take (j + 1)).filter p = if p x then (l.take j).filter p ++ [x] else (l.take j).filter p := by
  rw [List.take_add_one, h]
  show (l.take j ++ [x]).filter p = _
  rw [List.filter_append]
  cases hq : p x <;> simp [hq]
theorem filter_le {α : Type} (p : α → Bool) (l : List α) (j : Nat) : ((l.take j).filter p).length ≤ j := by
  have := List.length_filter_le p (l.take j)
  rw [List.length_take] at this
  omega

set_option maxRecDepth 100000 in
set_option maxHeartbeats 2000000 in
theorem without51 (a : Option Addr) (c : Nat) (l : List Pr) (k : ByteArray) (w : World) (hl : l.length ≤ 50000) (h : Prs w a l) :
    Calls Tryz.prog 51 #[.slice a l.length c, .string k] w fun x w' => PrsOut w' x (woP l k.data.toList) ∧ Below w.heap.size w w' := by
  have HX := hid (fun (wr : World) (hb : Below w.heap.size w wr) => h.later hb)
  have HS := hid (fun j x (hx : l[j]? = some x) => filt_at (p := fun q => !(kOf q == k.data.toList)) hx)
  have HL := hid (fun j => filter_le (fun q => !(kOf q == k.data.toList)) l j)
  have H0 := hid (show (l.take 0).filter (fun q => !(kOf q == k.data.toList)) = [] from rfl)
  have HE := hid (show (l.take l.length).filter (fun q => !(kOf q == k.data.toList)) = woP l k.data.toList by rw [List.take_length]; rfl)
  clear h
  generalize woP l k.data.toList = WE at *
  obtain ⟨FT, hFT⟩ : ∃ f : Nat → List Pr, (fun j => (l.take j).filter (fun q => !(kOf q == k.data.toList))) = f := ⟨_, rfl⟩
  simp only [show ∀ j, (l.take j).filter (fun q => !(kOf q == k.data.toList)) = FT j from fun j => congrFun hFT j] at HS HL H0 HE
  clear hFT
  generalize hn : l.length = n at *
  have HN := hid hn
  clear hn
  have b0 := below_box w (.cells #[] 50)
  have r0 := row_made w
  go_enter Tryz.func51, Tryz.ntmps51
  go_upto_region 2 with fail
  generalize w.alloc (.cells #[] 50) = w1 at *
  go_wp2_with fail
  go_loopw [5, 10] (fun v i wr => ∃ (j : Nat), j ≤ n ∧ i = .int .i64 j ∧ wr.ownsRow w.heap.size 50 2 v (FT j).length ((FT j).flatMap Pr.cells) ∧ Below w.heap.size w wr) (fun _ i _ => n - (intOf i).toNat)
  case atStart => exact ⟨0, Nat.zero_le _, rfl, by rw [H0.out]; exact r0, b0⟩
  case round =>
    obtain ⟨j, hj, rfl, ho, hb⟩ := hrel
    have hsz := hb.size
    by_cases hlt : j < n
    · have hlt' : j < l.length := by rw [HN.out]; exact hlt
      obtain ⟨b, off, hA, c0, c1⟩ := (HX.out wr hb).at hlt'
      subst hA
      obtain ⟨x, hx⟩ : ∃ x, l[j]? = some x := ⟨_, List.getElem?_eq_getElem hlt'⟩
      have hxe : l[j] = x := by rw [List.getElem?_eq_getElem hlt'] at hx; exact Option.some.inj hx
      rw [hxe] at c0 c1
      have HSx := hid (HS.out j x hx)
      have HLj := HL.out j
      clear hx hxe
      have hC := one_news wr x
      obtain ⟨xk, xv⟩ := x
      dsimp only at *
      cases hq : (xk.toList == k.toList)
      case true =>
        have heq : xk.toList = k.toList := eq_of_beq hq
        have HSy := hid (HSx.out.trans (if_neg (by show ¬ (!(xk.data.toList == k.data.toList)) = true; rw [← Lib.toList_data, ← Lib.toList_data, hq]; simp)))
        go_wp2_with fail
        go_roundw
        case rel => exact ⟨j + 1, by omega, by go_num, by rw [HSy.out]; exact ho, hb⟩
        case measure => simp [intOf]; omega
      case false =>
        have hne : ¬ xk.toList = k.toList := fun e => by rw [e] at hq; simp at hq
        have HSy := hid (HSx.out.trans (if_pos (by show (!(xk.data.toList == k.data.toList)) = true; rw [← Lib.toList_data, ← Lib.toList_data, hq]; rfl)))
        have bx := below_box wr (.cells #[.string xk, .string xv] 50)
        have ho2 := row_later ho bx
        have hb2 := hb.trans (bx.mono (by omega))
        obtain ⟨oa, on, oc, rfl⟩ := row_slice ho
        clear ho
        go_wp2_with (first | (at_builtin; refine appGen Pr.cells 2 32 30 50 _ (by omega) (fun _ => rfl) Tryz.underlying30 info50 rfl (by omega) oneP (w0 := w) rfl _ _ rfl w.heap.size _ (FT j) rfl ho2 (some ⟨wr.heap.size, 0, none⟩) 1 1 [⟨xk, xv⟩] rfl (by simp) rfl hC (by omega) (by simp; omega) hb2 ?_; intro v' w9 h1 h2 _; clear ho2 hb2 bx hC) | fail)
        go_roundw
        case rel => exact ⟨j + 1, by omega, by go_num, by rw [HSy.out]; exact h1, h2⟩
        case measure => simp [intOf]; omega
    · obtain rfl : j = n := by omega
      go_wp2_with fail
      go_ret
      exact ⟨by rw [← HE.out]; exact PrsOut.row ho, hb⟩
set_option maxRecDepth 100000 in
set_option maxHeartbeats 2000000 in
theorem without30 (a : Option Addr) (c : Nat) (l : List Pr) (k : ByteArray) (w : World) (hl : l.length ≤ 50000) (h : Prs w a l) :
    Calls Tryz.prog 30 #[.slice a l.length c, .string k] w fun x w' => PrsOut w' x (woB l k.data.toList) ∧ Below w.heap.size w w' := by
  have HX := hid (fun (wr : World) (hb : Below w.heap.size w wr) => h.later hb)
  have HS := hid (fun j x (hx : l[j]? = some x) => filt_at (p := fun q => !has (kOf q) k.data.toList) hx)
  have HL := hid (fun j => filter_le (fun q => !has (kOf q) k.data.toList) l j)
  have H0 := hid (show (l.take 0).filter (fun q => !has (kOf q) k.data.toList) = [] from rfl)
  have HE := hid (show (l.take l.length).filter (fun q => !has (kOf q) k.data.toList) = woB l k.data.toList by rw [List.take_length]; rfl)
  clear h
  generalize woB l k.data.toList = WE at *
  obtain ⟨FT, hFT⟩ : ∃ f : Nat → List Pr, (fun j => (l.take j).filter (fun q => !has (kOf q) k.data.toList)) = f := ⟨_, rfl⟩
  simp only [show ∀ j, (l.take j).filter (fun q => !has (kOf q) k.data.toList) = FT j from fun j => congrFun hFT j] at HS HL H0 HE
  clear hFT
  generalize hn : l.length = n at *
  have HN := hid hn
  clear hn
  have b0 := below_box w (.cells #[] 50)
  have r0 := row_made w
  go_enter Tryz.func30, Tryz.ntmps30
  go_upto_region 2 with fail
  generalize w.alloc (.cells #[] 50) = w1 at *
  go_wp2_with fail
  go_loopw [5, 10] (fun v i wr => ∃ (j : Nat), j ≤ n ∧ i = .int .i64 j ∧ wr.ownsRow w.heap.size 50 2 v (FT j).length ((FT j).flatMap Pr.cells) ∧ Below w.heap.size w wr) (fun _ i _ => n - (intOf i).toNat)
  case atStart => exact ⟨0, Nat.zero_le _, rfl, by rw [H0.out]; exact r0, b0⟩
  case round =>
    obtain ⟨j, hj, rfl, ho, hb⟩ := hrel
    have hsz := hb.size
    by_cases hlt : j < n
    · have hlt' : j < l.length := by rw [HN.out]; exact hlt
      obtain ⟨b, off, hA, c0, c1⟩ := (HX.out wr hb).at hlt'
      subst hA
      obtain ⟨x, hx⟩ : ∃ x, l[j]? = some x := ⟨_, List.getElem?_eq_getElem hlt'⟩
      have hxe : l[j] = x := by rw [List.getElem?_eq_getElem hlt'] at hx; exact Option.some.inj hx
      rw [hxe] at c0 c1
      have HSx := hid (HS.out j x hx)
      have HLj := HL.out j
      clear hx hxe
      have hC := one_news wr x
      obtain ⟨xk, xv⟩ := x
      dsimp only at *
      have HH := hid (has66 xk k wr)
      have hko : kOf ⟨xk, xv⟩ = xk.data.toList := rfl
      rw [hko] at HSx
      clear hko
      generalize has xk.data.toList k.data.toList = t at *
      go_wp2_with fail
      refine HH.out.mono ?_
      clear HH
      rintro x w2 ⟨rfl, rfl⟩
      cases t
      case true =>
        have HSy := hid (HSx.out.trans (if_neg (by simp)))
        go_wp2_with fail
        go_roundw
        case rel => exact ⟨j + 1, by omega, by go_num, by rw [HSy.out]; exact ho, hb⟩
        case measure => simp [intOf]; omega
      case false =>
        have HSy := hid (HSx.out.trans (if_pos rfl))
        have bx := below_box w2 (.cells #[.string xk, .string xv] 50)
        have ho2 := row_later ho bx
        have hb2 := hb.trans (bx.mono (by omega))
        obtain ⟨oa, on, oc, rfl⟩ := row_slice ho
        clear ho
        go_wp2_with (first | (at_builtin; refine appGen Pr.cells 2 32 30 50 _ (by omega) (fun _ => rfl) Tryz.underlying30 info50 rfl (by omega) oneP (w0 := w) rfl _ _ rfl w.heap.size _ (FT j) rfl ho2 (some ⟨w2.heap.size, 0, none⟩) 1 1 [⟨xk, xv⟩] rfl (by simp) rfl hC (by omega) (by simp; omega) hb2 ?_; intro v' w9 h1 h2 _; clear ho2 hb2 bx hC) | fail)
        go_roundw
        case rel => exact ⟨j + 1, by omega, by go_num, by rw [HSy.out]; exact h1, h2⟩
        case measure => simp [intOf]; omega
    · obtain rfl : j = n := by omega
      go_wp2_with fail
      go_ret
      exact ⟨by rw [← HE.out]; exact PrsOut.row ho, hb⟩
end Go.Proofs.YtegmpfmhlpdmhaaGreat.Key

namespace Go.Proofs.YtegmpfmhlpdmhaaGreat.Key
open Go.RowKit Draw
open Go.Op (bytesLess)
set_option linter.unusedVariables false
set_option linter.unusedSimpArgs false

theorem insD_le (l : List Pr) (p : Pr) (j : Nat) : (insD (l.take j) p).length ≤ j + 1 := by
  unfold insD
  have h : (l.take j).length ≤ j := by rw [List.length_take]; omega
  split
  · rw [len_ins]; omega
  · omega
theorem anyp_at {l : List Pr} {p x : Pr} {j : Nat} (h : l[j]? = some x) : anyP p (l.take (j + 1)) = (anyP p (l.take j) || bytesLess (kOf p) (kOf x)) := by
  rw [List.take_add_one, h]
  exact any_snoc _ _ _
theorem insD_at {l : List Pr} {p x : Pr} {j : Nat} (h : l[j]? = some x) : insD (l.take (j + 1)) p = if anyP p (l.take j) = false ∧ bytesLess (kOf p) (kOf x) = true then insD (l.take j) p ++ [p] ++ [x] else insD (l.take j) p ++ [x] := by
  rw [List.take_add_one, h]
  show insD (l.take j ++ [x]) p = _
  cases ha : anyP p (l.take j)
  · cases hb : bytesLess (kOf p) (kOf x)
    · rw [if_neg (by simp), insD_on ha hb]
    · rw [if_pos ⟨rfl, rfl⟩, insD_now ha hb]
  · rw [if_neg (by simp), insD_done ha]
/-- a pair in a block -/
def PB (w : World) (k : Nat) (p : Pr) : Prop := w.heap[k]? = some (.cells #[.string p.key, .string p.val] 50 (0, 0))
theorem PB.new (w : World) (p : Pr) : PB (w.alloc (.cells #[.string p.key, .string p.val] 50)) w.heap.size p := Go.heap_alloc_new _ _
theorem PB.lt {w : World} {k : Nat} {p : Pr} (h : PB w k p) : k < w.heap.size := (Array.getElem?_eq_some_iff.1 h).1
theorem PB.below {w w' : World} {B k : Nat} {p : Pr} (h : PB w k p) (hb : Below B w w') (hk : k < B) : PB w' k p := (hb.block k hk).trans h
theorem PB.later {w w' : World} {k : Nat} {p : Pr} (h : PB w k p) (hb : Below w.heap.size w w') : PB w' k p := h.below hb h.lt
theorem PB.two {w : World} {k : Nat} {p : Pr} (h : PB w k p) : w.cell? ⟨k, 0, none⟩ = some (.string p.key) ∧ w.cell? ⟨k, 1, none⟩ = some (.string p.val) := ⟨cell_of_row _ _ 0 _ _ _ h, cell_of_row _ _ 1 _ _ _ h⟩

set_option maxRecDepth 100000 in
set_option maxHeartbeats 2000000 in
theorem putPair48 (a : Option Addr) (c : Nat) (l : List Pr) (pk pv : ByteArray) (w : World) (hl : l.length ≤ 50000) (h : Prs w a l) :
    Calls Tryz.prog 48 #[.slice a l.length c, .agg #[.string pk, .string pv]] w fun x w' => PrsOut w' x (putP l ⟨pk, pv⟩) ∧ Below w.heap.size w w' := by
  have B0 := PB.new w ⟨pk, pv⟩
  have b0 := below_box w (.cells #[.string pk, .string pv] 50)
  have HW := hid (without51 a c l pk _ hl (h.later b0))
  have hwl := len_wo l pk.data.toList
  have HP := hid (show putP l ⟨pk, pv⟩ = insP (woP l pk.data.toList) ⟨pk, pv⟩ from rfl)
  clear h
  generalize putP l ⟨pk, pv⟩ = PP at *
  generalize woP l pk.data.toList = W at *
  have HA := hid (fun j x (hx : W[j]? = some x) => anyp_at (p := ⟨pk, pv⟩) hx)
  have HD := hid (fun j x (hx : W[j]? = some x) => insD_at (p := ⟨pk, pv⟩) hx)
  have HL := hid (fun j => insD_le W ⟨pk, pv⟩ j)
  have HE := hid (HP.out.trans (insD_end (l := W) (p := ⟨pk, pv⟩)))
  have hA0 : anyP ⟨pk, pv⟩ (W.take 0) = false := rfl
  have hD0 : insD (W.take 0) ⟨pk, pv⟩ = [] := rfl
  have HTk := hid (List.take_length (l := W))
  rw [← HTk.out] at HE
  clear HP
  obtain ⟨AT, hAT⟩ : ∃ f : Nat → Bool, (fun j => anyP ⟨pk, pv⟩ (W.take j)) = f := ⟨_, rfl⟩
  obtain ⟨DT, hDT⟩ : ∃ f : Nat → List Pr, (fun j => insD (W.take j) ⟨pk, pv⟩) = f := ⟨_, rfl⟩
  simp only [show ∀ j, anyP ⟨pk, pv⟩ (W.take j) = AT j from fun j => congrFun hAT j, show ∀ j, insD (W.take j) ⟨pk, pv⟩ = DT j from fun j => congrFun hDT j] at HA HD HL HE hA0 hD0
  clear hAT hDT HTk
  have HA0 := hid (And.intro hA0 hD0)
  clear hA0 hD0
  generalize hnl : l.length = nl at *
  clear hnl
  obtain ⟨d0, d1⟩ := B0.two
  dsimp only at d0 d1
  go_enter Tryz.func48, Tryz.ntmps48
  go_wp2_with fail
  refine HW.out.mono ?_
  clear HW d0 d1
  rintro x w2 ⟨⟨a2, c2, rfl, hp⟩, hb2⟩
  have B2 := B0.later hb2
  replace hb2 := b0.trans (hb2.mono b0.size)
  clear B0 b0
  generalize hn : W.length = n at *
  have HN := hid hn
  clear hn
  have HX := hid (fun (wr : World) (hb : Below w2.heap.size w2 wr) => hp.later hb)
  have b3 := below_box w2 (.cells #[] 50)
  have r3 := row_made w2
  have B3 := B2
  clear hp
  go_upto_region 4 with fail
  have hk2 := B2.lt
  have hs2 := hb2.size
  generalize w2.alloc (.cells #[] 50) = w3 at *
  go_wp2_with fail
  go_loopw [6, 7, 16] (fun v dn i wr => ∃ (j : Nat), j ≤ n ∧ i = .int .i64 j ∧ dn = .bool (AT j) ∧ wr.ownsRow w2.heap.size 50 2 v (DT j).length ((DT j).flatMap Pr.cells) ∧ Below w2.heap.size w2 wr) (fun _ _ i _ => n - (intOf i).toNat)
  case atStart => exact ⟨0, Nat.zero_le _, rfl, by rw [HA0.out.1], by rw [HA0.out.2]; exact r3, b3⟩
  case round =>
    obtain ⟨j, hj, rfl, rfl, ho, hb⟩ := hrel
    have hsz := hb.size
    have BR := B2.below hb hk2
    by_cases hlt : j < n
    · have hlt' : j < W.length := by rw [HN.out]; exact hlt
      obtain ⟨b, off, hA, -⟩ := (HX.out wr hb).at hlt'
      subst hA
      obtain ⟨x, hx⟩ : ∃ x, W[j]? = some x := ⟨_, List.getElem?_eq_getElem hlt'⟩
      have hxe : W[j] = x := by rw [List.getElem?_eq_getElem hlt'] at hx; exact Option.some.inj hx
      have HX2 := hid (fun u (hb : Below w2.heap.size w2 u) => (show u.cell? ⟨b, off + j * 2, none⟩ = some (.string x.key) ∧ u.cell? ⟨b, off + j * 2 + 1, none⟩ = some (.string x.val) from by
        obtain ⟨b', off', e, hc0, hc1⟩ := (HX.out u hb).at hlt'
        simp only [Option.some.injEq, Addr.mk.injEq, and_true] at e
        obtain ⟨rfl, rfl⟩ := e
        rw [hxe] at hc0 hc1
        exact ⟨hc0, hc1⟩))
      have HAx := hid (HA.out j x hx)
      have HDx := hid (HD.out j x hx)
      have HLj := HL.out j
      have HXk := HX2
      clear hx hxe
      obtain ⟨xk, xv⟩ := x
      have hk1 : kOf ⟨pk, pv⟩ = pk.data.toList := rfl
      have hk2' : kOf ⟨xk, xv⟩ = xk.data.toList := rfl
      rw [hk1, hk2', ← less_str] at HAx HDx
      clear hk1 hk2'
      dsimp only at HX2 HXk HDx HAx
      go_upto_region 7 with fail
      cases hat : AT j
      case true =>
        rw [hat] at HAx HDx
        have HAy := hid (HAx.out.trans (Bool.true_or _))
        have HDy := hid (HDx.out.trans (if_neg (by simp)))
        refine wp_region_quiet (C := fun u => Below wr.heap.size wr u) (by kernel_rfl) (by kernel_rfl) (Below.refl _ wr).drew ?_
        change wpQuiet _ _ _ _ (_ :: _) _
        repeat
          first
            | go_big_quiet_skip
            | go_big_quiet_want
              first
                | refine quiet_v ?_ ?_ ?_
                  rotate_left
                  · intro u hu
                    obtain ⟨d0, d1⟩ := (BR.later hu).two
                    obtain ⟨x0, x1⟩ := HX2.out u (hb.trans (hu.mono hsz))
                    dsimp only at d0 d1
                    go_simp
                    with_reducible rfl
              go_simp
              go_big_quiet_on
        refine wpQuiet_nil (fun u hu => ?_)
        obtain ⟨d0, d1⟩ := (BR.later hu).two
        obtain ⟨x0, x1⟩ := HX2.out u (hb.trans (hu.mono hsz))
        dsimp only at d0 d1
        have ho2 := row_later ho hu
        have hsu := hu.size
        have hb2' := hb.trans (hu.mono hsz)
        clear ho hb hu BR HX2
        obtain ⟨oa, on, oc, rfl⟩ := row_slice ho2
        have hCx := one_news u ⟨xk, xv⟩
        have bx := below_box u (.cells #[.string xk, .string xv] 50)
        dsimp only at hCx
        have ho3 := row_later ho2 bx
        have hb3 := hb2'.trans (bx.mono (by omega))
        go_wp2_with (first | (at_builtin; refine appGen Pr.cells 2 32 30 50 _ (by omega) (fun _ => rfl) Tryz.underlying30 info50 rfl (by omega) oneP (w0 := w2) rfl _ _ rfl w2.heap.size _ (DT j) rfl ho3 (some ⟨u.heap.size, 0, none⟩) 1 1 [⟨xk, xv⟩] rfl (by simp) rfl hCx (by omega) (by simp; omega) hb3 ?_; intro v' w9 h1 h2 _; clear ho2 ho3 hb2' hb3 bx hCx d0 d1 x0 x1) | fail)
        go_roundw
        case rel => exact ⟨j + 1, by omega, by go_num, by rw [HAy.out], by rw [HDy.out]; exact h1, h2⟩
        case measure => simp [intOf]; omega
      case false =>
        rw [hat] at HAx HDx
        cases hlp : bytesLess pk.toList xk.toList
        case false =>
          rw [hlp] at HAx HDx
          have HAy := hid (HAx.out.trans (Bool.or_false _))
          have HDy := hid (HDx.out.trans (if_neg (by simp)))
          refine wp_region_quiet (C := fun u => Below wr.heap.size wr u) (by kernel_rfl) (by kernel_rfl) (Below.refl _ wr).drew ?_
          change wpQuiet _ _ _ _ (_ :: _) _
          repeat
            first
              | go_big_quiet_skip
              | go_big_quiet_want
                first
                  | refine quiet_v ?_ ?_ ?_
                    rotate_left
                    · intro u hu
                      obtain ⟨d0, d1⟩ := (BR.later hu).two
                      obtain ⟨x0, x1⟩ := HX2.out u (hb.trans (hu.mono hsz))
                      dsimp only at d0 d1
                      go_simp
                      with_reducible rfl
                go_simp
                go_big_quiet_on
          refine wpQuiet_nil (fun u hu => ?_)
          obtain ⟨d0, d1⟩ := (BR.later hu).two
          obtain ⟨x0, x1⟩ := HX2.out u (hb.trans (hu.mono hsz))
          dsimp only at d0 d1
          have ho2 := row_later ho hu
          have hsu := hu.size
          have hb2' := hb.trans (hu.mono hsz)
          clear ho hb hu BR HX2
          obtain ⟨oa, on, oc, rfl⟩ := row_slice ho2
          have hCx := one_news u ⟨xk, xv⟩
          have bx := below_box u (.cells #[.string xk, .string xv] 50)
          dsimp only at hCx
          have ho3 := row_later ho2 bx
          have hb3 := hb2'.trans (bx.mono (by omega))
          go_wp2_with (first | (at_builtin; refine appGen Pr.cells 2 32 30 50 _ (by omega) (fun _ => rfl) Tryz.underlying30 info50 rfl (by omega) oneP (w0 := w2) rfl _ _ rfl w2.heap.size _ (DT j) rfl ho3 (some ⟨u.heap.size, 0, none⟩) 1 1 [⟨xk, xv⟩] rfl (by simp) rfl hCx (by omega) (by simp; omega) hb3 ?_; intro v' w9 h1 h2 _; clear ho2 ho3 hb2' hb3 bx hCx d0 d1 x0 x1) | fail)
          go_roundw
          case rel => exact ⟨j + 1, by omega, by go_num, by rw [HAy.out], by rw [HDy.out]; exact h1, h2⟩
          case measure => simp [intOf]; omega
        case true =>
          rw [hlp] at HAx HDx
          have HAy := hid (HAx.out.trans (Bool.or_true _))
          have HDy := hid (HDx.out.trans (if_pos ⟨rfl, rfl⟩))
          refine wp_region_quiet (C := fun u => Below wr.heap.size wr u) (by kernel_rfl) (by kernel_rfl) (Below.refl _ wr).drew ?_
          change wpQuiet _ _ _ _ (_ :: _) _
          repeat
            first
              | go_big_quiet_skip
              | go_big_quiet_want
                first
                  | refine quiet_v ?_ ?_ ?_
                    rotate_left
                    · intro u hu
                      obtain ⟨d0, d1⟩ := (BR.later hu).two
                      obtain ⟨x0, x1⟩ := HX2.out u (hb.trans (hu.mono hsz))
                      dsimp only at d0 d1
                      go_simp
                      with_reducible rfl
                go_simp
                go_big_quiet_on
          refine wpQuiet_nil (fun u hu => ?_)
          obtain ⟨d0, d1⟩ := (BR.later hu).two
          obtain ⟨x0, x1⟩ := HX2.out u (hb.trans (hu.mono hsz))
          dsimp only at d0 d1
          have ho2 := row_later ho hu
          have hsu := hu.size
          have hb2' := hb.trans (hu.mono hsz)
          clear ho hb hu BR HX2
          obtain ⟨oa, on, oc, rfl⟩ := row_slice ho2
          have hCx := one_news u ⟨xk, xv⟩
          have bx := below_box u (.cells #[.string xk, .string xv] 50)
          dsimp only at hCx
          have hCp := one_news u ⟨pk, pv⟩
          have bp := below_box u (.cells #[.string pk, .string pv] 50)
          dsimp only at hCp
          have ho3 := row_later ho2 bp
          have hb3 := hb2'.trans (bp.mono (by omega))
          clear bx hCx
          have HX3 := hid (fun v (hb : Below w2.heap.size w2 v) => HXk.out v hb)
          go_upto_region 9 with (first | (at_builtin; refine appGen Pr.cells 2 32 30 50 _ (by omega) (fun _ => rfl) Tryz.underlying30 info50 rfl (by omega) oneP (w0 := w2) rfl _ _ rfl w2.heap.size _ (DT j) rfl ho3 (some ⟨u.heap.size, 0, none⟩) 1 1 [⟨pk, pv⟩] rfl (by simp) rfl hCp (by omega) (by simp; omega) hb3 ?_; intro v' w9 h1 h2 _; clear ho2 ho3 hb2' hb3 bp hCp d0 d1 x0 x1) | fail)
          obtain ⟨x0, x1⟩ := HX3.out w9 h2
          have hs9 := h2.size
          have hlen : (DT j ++ [Pr.mk pk pv]).length ≤ 60000 := by rw [List.length_append, List.length_singleton]; omega
          obtain ⟨oa', on', oc', rfl⟩ := row_slice h1
          have hCx := one_news w9 ⟨xk, xv⟩
          have bx := below_box w9 (.cells #[.string xk, .string xv] 50)
          dsimp only at hCx
          have ho3 := row_later h1 bx
          have hb3 := h2.trans (bx.mono (by omega))
          go_wp2_with (first | (at_builtin; refine appGen Pr.cells 2 32 30 50 _ (by omega) (fun _ => rfl) Tryz.underlying30 info50 rfl (by omega) oneP (w0 := w2) rfl _ _ rfl w2.heap.size _ (DT j ++ [Pr.mk pk pv]) rfl ho3 (some ⟨w9.heap.size, 0, none⟩) 1 1 [⟨xk, xv⟩] rfl (by simp) rfl hCx (by omega) (by simp; omega) hb3 ?_; intro v'' w10 h3 h4 _; clear h1 h2 ho3 hb3 bx hCx x0 x1) | fail)
          go_roundw
          case rel => exact ⟨j + 1, by omega, by go_num, by rw [HAy.out], by rw [HDy.out]; exact h3, h4⟩
          case measure => simp [intOf]; omega
    · obtain rfl : j = n := by omega
      obtain ⟨d0, d1⟩ := BR.two
      dsimp only at d0 d1
      cases hat : AT j
      case true =>
        have HE2 := hid (HE.out.trans (if_pos hat))
        go_wp2_with fail
        go_ret
        exact ⟨by rw [HE2.out]; exact PrsOut.row ho, hb2.trans (hb.mono hs2)⟩
      case false =>
        have HE2 := hid (HE.out.trans (if_neg (by rw [hat]; simp)))
        have HLj := HL.out j
        have hC := one_news wr ⟨pk, pv⟩
        have bx := below_box wr (.cells #[.string pk, .string pv] 50)
        have ho2 := row_later ho bx
        have hb3 := hb.trans (bx.mono (by omega))
        obtain ⟨oa, on, oc, rfl⟩ := row_slice ho
        clear ho
        dsimp only at hC
        go_wp2_with (first | (at_builtin; refine appGen Pr.cells 2 32 30 50 _ (by omega) (fun _ => rfl) Tryz.underlying30 info50 rfl (by omega) oneP (w0 := w2) rfl _ _ rfl w2.heap.size _ (DT j) rfl ho2 (some ⟨wr.heap.size, 0, none⟩) 1 1 [⟨pk, pv⟩] rfl (by simp) rfl hC (by omega) (by simp; omega) hb3 ?_; intro v' w9 h1 h2 _; clear ho2 hb3 bx hC d0 d1) | fail)
        go_ret
        exact ⟨by rw [HE2.out]; exact PrsOut.row h1, hb2.trans (h2.mono hs2)⟩
end Go.Proofs.YtegmpfmhlpdmhaaGreat.Key

namespace Go.Proofs.YtegmpfmhlpdmhaaGreat.Key
open Go.RowKit Draw
open Go.Op (bytesLess)
set_option linter.unusedVariables false
set_option linter.unusedSimpArgs false

theorem addOne_form (s d : ByteArray) (r : Rng) (out : List Pr) (f : Pr) : addOne (lf s d) r out f = if upB (lf d s) f.key.data.toList && inR r (upS (lf d s) f.key.data.toList).data.toList then putP out ⟨upS (lf d s) f.key.data.toList, f.val⟩ else out := by
  unfold addOne
  rw [show turn (lf s d) = lf d s from rfl, show kOf f = f.key.data.toList from rfl]
  cases h : up (lf d s) f.key.data.toList with
  | none => rw [upB_none h]; rfl
  | some x => rw [upB_of h, upS_of h]; rfl
theorem add_at {s d : ByteArray} {r : Rng} {far out : List Pr} {j : Nat} {x : Pr} (h : far[j]? = some x) : addL (lf s d) r (far.take (j + 1)) out = if upB (lf d s) x.key.data.toList && inR r (upS (lf d s) x.key.data.toList).data.toList then putP (addL (lf s d) r (far.take j) out) ⟨upS (lf d s) x.key.data.toList, x.val⟩ else addL (lf s d) r (far.take j) out := by
  obtain ⟨hj, rfl⟩ := List.getElem?_eq_some_iff.1 h
  unfold addL
  rw [foldl_take _ _ _ _ hj, addOne_form]

set_option maxRecDepth 100000 in
set_option maxHeartbeats 4000000 in
theorem add28 (a a' : Option Addr) (c c' : Nat) (l far : List Pr) (s d lo hi : ByteArray) (e : Bool) (w : World) (hl : l.length + far.length ≤ 40000) (hs : s.size ≤ 100000) (hd : d.size ≤ 100000) (hk : ∀ x ∈ far, x.key.size ≤ 100000) (h : Prs w a l) (h' : Prs w a' far) :
    Calls Tryz.prog 28 #[.slice a l.length c, .slice a' far.length c', .agg #[.string s, .string d], av lo hi e] w fun x w' => PrsOut w' x (addL (lf s d) (rg lo hi e) far l) ∧ Below w.heap.size w w' := by
  have HF := hid (fun (wr : World) (hb : Below w.heap.size w wr) => h'.later hb)
  have HA := hid (fun j x (hx : far[j]? = some x) => add_at (s := s) (d := d) (r := rg lo hi e) (out := l) hx)
  have HL := hid (fun j => (show (addL (lf s d) (rg lo hi e) (far.take j) l).length ≤ 40000 by
    have h1 := len_add (lf s d) (rg lo hi e) (far.take j) l
    rw [List.length_take] at h1
    omega))
  have HE := hid (show addL (lf s d) (rg lo hi e) (far.take far.length) l = addL (lf s d) (rg lo hi e) far l by rw [List.take_length])
  have HD := hid (fun x (hx : x ∈ far) (wr : World) => down47 s d x.key wr (by omega) (by have := hk x hx; omega))
  have HI := hid (fun (k : ByteArray) (wr : World) => in60 lo hi k e wr)
  have H0 := hid (show addL (lf s d) (rg lo hi e) (far.take 0) l = l from rfl)
  clear h' hk
  generalize addL (lf s d) (rg lo hi e) far l = AE at *
  obtain ⟨AT, hAT⟩ : ∃ f : Nat → List Pr, (fun j => addL (lf s d) (rg lo hi e) (far.take j) l) = f := ⟨_, rfl⟩
  simp only [show ∀ j, addL (lf s d) (rg lo hi e) (far.take j) l = AT j from fun j => congrFun hAT j] at HA HL HE H0
  clear hAT
  have L0 := (Pair.new w (.string s) (.string d)).alloc (.cells #[.string lo, .string hi, .bool e] 25)
  have R0 := Box.new (w.alloc (.cells #[.string s, .string d] 37)) (.string lo) (.string hi) (.bool e)
  have b0 := (below_box w (.cells #[.string s, .string d] 37)).alloc (by rw [World.size_alloc]; omega) (.cells #[.string lo, .string hi, .bool e] 25)
  rw [World.size_alloc] at R0
  have hp0 := h.later b0
  clear h
  generalize hnl : l.length = nl at *
  generalize hn : far.length = n at *
  have HN := hid hn
  have HNl := hid hnl
  clear hn hnl
  go_enter Tryz.func28, Tryz.ntmps28
  go_upto_region 1 with fail
  generalize (w.alloc (.cells #[.string s, .string d] 37)).alloc (.cells #[.string lo, .string hi, .bool e] 25) = w1 at *
  go_wp2_with fail
  have hs1 := b0.size
  go_loopw [0, 14] (fun v i wr => ∃ (j : Nat) (a2 : Option Addr) (c2 : Nat), j ≤ n ∧ i = .int .i64 j ∧ v = .slice a2 (AT j).length c2 ∧ Prs wr a2 (AT j) ∧ Below w1.heap.size w1 wr) (fun _ i _ => n - (intOf i).toNat)
  case atStart => exact ⟨0, a, c, Nat.zero_le _, rfl, by rw [H0.out, HNl.out], by rw [H0.out]; exact hp0, Below.refl _ _⟩
  case round =>
    clear hp0
    obtain ⟨j, a2, c2, hj, rfl, rfl, hp, hb⟩ := hrel
    have hsz := hb.size
    have hbw := b0.trans (hb.mono hs1)
    have LR := L0.later hb
    have RR := R0.later hb
    by_cases hlt : j < n
    · have hlt' : j < far.length := by rw [HN.out]; exact hlt
      obtain ⟨b, off, hA, -⟩ := (HF.out wr hbw).at hlt'
      subst hA
      obtain ⟨x, hx⟩ : ∃ x, far[j]? = some x := ⟨_, List.getElem?_eq_getElem hlt'⟩
      have hxe : far[j] = x := by rw [List.getElem?_eq_getElem hlt'] at hx; exact Option.some.inj hx
      have HX2 := hid (fun u (hb : Below w.heap.size w u) => (show u.cell? ⟨b, off + j * 2, none⟩ = some (.string x.key) ∧ u.cell? ⟨b, off + j * 2 + 1, none⟩ = some (.string x.val) from by
        obtain ⟨b', off', e, hc0, hc1⟩ := (HF.out u hb).at hlt'
        simp only [Option.some.injEq, Addr.mk.injEq, and_true] at e
        obtain ⟨rfl, rfl⟩ := e
        rw [hxe] at hc0 hc1
        exact ⟨hc0, hc1⟩))
      have HAx := hid (HA.out j x hx)
      have HLj := HL.out j
      have HDx := hid (HD.out x (by rw [← hxe]; exact List.getElem_mem hlt'))
      clear hx hxe
      obtain ⟨xk, xv⟩ := x
      dsimp only at HX2 HAx HDx
      generalize upS (lf d s) xk.data.toList = U at *
      generalize upB (lf d s) xk.data.toList = UB at *
      have HIx := hid (fun wr => HI.out U wr)
      generalize inR (rg lo hi e) U.data.toList = IB at *
      go_upto_region 4 with fail
      refine wp_region_quiet (C := fun u => Below wr.heap.size wr u) (by kernel_rfl) (by kernel_rfl) (Below.refl _ wr).drew ?_
      change wpQuiet _ _ _ _ (_ :: _) _
      repeat
        first
          | go_big_quiet_skip
          | go_big_quiet_want
            first
              | refine quiet_c (.tuple #[.string U, .bool UB]) 47 #[.agg #[.string s, .string d], .string xk] ?_ (fun u hu => (HDx.out u).mono fun x u' h => ⟨h.1, hu.trans (h.2.mono hu.size)⟩) ?_
                · intro u hu
                  go_simp
                  done
              | refine quiet_v ?_ ?_ ?_
                rotate_left
                · intro u hu
                  obtain ⟨d0, d1⟩ := (LR.later hu).cells
                  obtain ⟨x0, x1⟩ := HX2.out u (hbw.trans (hu.mono (by omega)))
                  go_simp
                  with_reducible rfl
            go_simp
            go_big_quiet_on
      refine wpQuiet_nil (fun u hu => ?_)
      replace hp := hp.later hu
      have hsu := hu.size
      replace RR := RR.later hu
      replace hb := hb.trans (hu.mono (by omega))
      replace hbw := hbw.trans (hu.mono (by omega))
      clear hu LR
      obtain ⟨r0, r1, r2⟩ := RR.cells
      cases UB
      case false =>
        have HAy := hid (HAx.out.trans (if_neg (by simp)))
        go_wp2_with fail
        go_roundw
        case rel => exact ⟨j + 1, a2, c2, by omega, by go_num, by rw [HAy.out], by rw [HAy.out]; exact hp, hb⟩
        case measure => simp [intOf]; omega
      case true =>
        go_wp2_with fail
        refine (HIx.out _).mono ?_
        rintro x w5 ⟨rfl, hb5⟩
        clear r0 r1 r2 RR
        replace hp := hp.later hb5
        replace hb := hb.trans (hb5.mono (by omega))
        replace hbw := hbw.trans (hb5.mono (by omega))
        clear hb5
        cases IB
        case false =>
          have HAy := hid (HAx.out.trans (if_neg (by simp)))
          go_wp2_with fail
          go_roundw
          case rel => exact ⟨j + 1, a2, c2, by omega, by go_num, by rw [HAy.out], by rw [HAy.out]; exact hp, hb⟩
          case measure => simp [intOf]; omega
        case true =>
          have HAy := hid (HAx.out.trans (if_pos rfl))
          obtain ⟨x0, x1⟩ := HX2.out w5 hbw
          have HP := hid (putPair48 a2 c2 (AT j) U xv w5 (by omega) hp)
          go_wp2_with fail
          refine HP.out.mono ?_
          clear HP x0 x1
          rintro x w6 ⟨⟨a3, c3, rfl, hp3⟩, hb6⟩
          replace hb := hb.trans (hb6.mono (by have := hb.size; omega))
          go_wp2_with fail
          go_roundw
          case rel => exact ⟨j + 1, a3, c3, by omega, by go_num, by rw [HAy.out], by rw [HAy.out]; exact hp3, hb⟩
          case measure => simp [intOf]; omega
    · obtain rfl : j = n := by omega
      go_wp2_with fail
      go_ret
      exact ⟨⟨a2, c2, by rw [← HE.out]; rfl, by rw [← HE.out]; exact hp⟩, hbw⟩
end Go.Proofs.YtegmpfmhlpdmhaaGreat.Key

namespace Go.Proofs.YtegmpfmhlpdmhaaGreat.Key
open Go.RowKit Draw
open Go.Op (bytesLess)
set_option linter.unusedVariables false
set_option linter.unusedSimpArgs false

theorem rise_up {ps : List Pr} (h : RiseP ps) : upTo (riseAt ps) ps.length = true := (upTo_iff _ _).2 fun i hi => by
  match i, hi with
  | 0, _ => rfl
  | i + 1, hi =>
    rw [riseAt_at hi]
    exact List.pairwise_iff_getElem.1 h i (i + 1) (by omega) hi (by omega)
/-- what one message makes of pairs -/
def applyL (out : List Pr) (m : M) : List Pr := if m.kind = 1 then putP out ⟨m.key, m.val⟩ else woP out m.key.data.toList

set_option maxRecDepth 100000 in
set_option maxHeartbeats 1000000 in
theorem apply32 (a : Option Addr) (c : Nat) (out : List Pr) (m : M) (g : Nat) (w : World) (hl : out.length ≤ 40000) (h : Prs w a out) (hR : RiseP out) (hm : MBox w g m) (hk : m.kind = 1 ∨ m.kind = 2) :
    Calls Tryz.prog 32 #[.slice a out.length c, .slice (some ⟨g, 0, none⟩) 1 1] w fun x w' => (∃ a2 c2, x = .returned (.tuple #[.slice a2 (applyL out m).length c2, .int .i64 0]) ∧ Prs w' a2 (applyL out m)) ∧ Below w.heap.size w w' := by
  have HRi := hid (rise36 a c out w (by unfold maxLen; omega) h)
  rw [rise_up hR] at HRi
  clear hR
  have HP := hid (fun (wr : World) (hp : Prs wr a out) => putPair48 a c out m.key m.val wr (by omega) hp)
  have HW := hid (fun (wr : World) (hp : Prs wr a out) => without51 a c out m.key wr (by omega) hp)
  have HA := hid (show applyL out m = if m.kind = 1 then putP out ⟨m.key, m.val⟩ else woP out m.key.data.toList from rfl)
  generalize putP out ⟨m.key, m.val⟩ = PP at *
  generalize woP out m.key.data.toList = PW at *
  generalize applyL out m = L at *
  obtain ⟨LT, hL0, hL1⟩ : ∃ f : Nat → List Pr, f 0 = out ∧ f 1 = L := ⟨fun j => if j = 0 then out else L, rfl, rfl⟩
  have HL0 := hid hL0
  have HL1 := hid hL1
  clear hL0 hL1
  have hg := hm.lt
  generalize hnl : out.length = nl at *
  have HNl := hid hnl
  clear hnl
  go_enter Tryz.func32, Tryz.ntmps32
  go_wp2_with fail
  refine HRi.out.mono ?_
  clear HRi
  rintro x w1 ⟨rfl, hb1⟩
  have hp1 := h.later hb1
  have m1 := hm.later hb1
  have hs1 := hb1.size
  clear h hm
  go_wp2_with fail
  go_loopw [0, 13] (fun v i wr => ∃ (j : Nat) (a2 : Option Addr) (c2 : Nat), j ≤ 1 ∧ i = .int .i64 j ∧ v = .slice a2 (LT j).length c2 ∧ (j = 0 → a2 = a ∧ c2 = c) ∧ Prs wr a2 (LT j) ∧ Below w1.heap.size w1 wr) (fun _ i _ => 1 - (intOf i).toNat)
  case atStart => exact ⟨0, a, c, Nat.zero_le _, rfl, by rw [HL0.out, HNl.out], fun _ => ⟨rfl, rfl⟩, by rw [HL0.out]; exact hp1, Below.refl _ _⟩
  case round =>
    clear hp1
    obtain ⟨j, a2, c2, hj, rfl, rfl, hac, hp, hb⟩ := hrel
    have hsz := hb.size
    by_cases hlt : j < 1
    · obtain rfl : j = 0 := by omega
      obtain ⟨rfl, rfl⟩ := hac rfl
      rw [HL0.out, HNl.out]
      rw [HL0.out] at hp
      have MR := m1.later hb
      obtain ⟨kd, ky, vl, bk, dp, ad⟩ := m
      dsimp only at hk
      obtain ⟨e0, e1, e2, e3, e4, e5⟩ := MR.six
      simp only [Nat.zero_add] at e1 e2 e3 e4 e5
      dsimp only at e0 e1 e2 e3 e4 e5
      rcases hk with rfl | rfl
      · have HPw := hid (fun u (hu : Below wr.heap.size wr u) => HP.out u (hp.later hu))
        have HLx := hid (HL1.out.trans (HA.out.trans (if_pos rfl)))
        dsimp only at HPw
        go_upto_region 9 with fail
        clear e0 e1 e2 e3 e4 e5
        refine wp_region_put [(some 24, [], false), (some 25, [], false), (some 26, [], false), (some 27, [(1, 25), (2, 26)], false), (some 28, [(3, 27)], false), (some 29, [(4, 28)], false), (some 30, [], false), (some 31, [], false), (some 32, [(6, 30), (7, 31)], false), (some 33, [(8, 32)], false), (some 34, [(9, 33)], false), (some 35, [(5, 29), (10, 34)], false), (some 36, [(0, 24), (11, 35)], true), (some 0, [(12, 36)], false)]
          (fun u => Below wr.heap.size wr u) (fun _ u u' => Below u.heap.size u u')
          (fun i v u => match i with | 0 => v = .slice a2 nl c2 | 1 => v = .slice (some ⟨g, 0, none⟩) 1 1 | 2 => v = .int .i64 0 | 3 => v = .pointer (some ⟨g, 0, none⟩) | 4 => v = .pointer (some ⟨g, 1, none⟩) | 5 => v = .string ky | 6 => v = .slice (some ⟨g, 0, none⟩) 1 1 | 7 => v = .int .i64 0 | 8 => v = .pointer (some ⟨g, 0, none⟩) | 9 => v = .pointer (some ⟨g, 2, none⟩) | 10 => v = .string vl | 11 => v = .agg #[.string ky, .string vl] | 12 => ∃ a3 c3, v = .slice a3 PP.length c3 ∧ Prs u a3 PP | _ => True)
          (by kernel_rfl) 13 (by kernel_rfl) (Below.refl _ _).drew (fun i u u' h h' => h.trans (h'.mono h.size)) (fun i j v u u' hn h h' hv => ?_) [(some 24, [], false), (some 25, [], false), (some 26, [], false), (some 27, [(1, 25), (2, 26)], false), (some 28, [(3, 27)], false), (some 29, [(4, 28)], false), (some 30, [], false), (some 31, [], false), (some 32, [(6, 30), (7, 31)], false), (some 33, [(8, 32)], false), (some 34, [(9, 33)], false), (some 35, [(5, 29), (10, 34)], false), (some 36, [(0, 24), (11, 35)], true)] rfl _ rfl rfl (by kernel_rfl) ⟨?_, ?_, ?_, ?_, ?_, ?_, ?_, ?_, ?_, ?_, ?_, ?_, ?_, trivial⟩ ?_
        · match j with
          | 0 => exact hv
          | 1 => exact hv
          | 2 => exact hv
          | 3 => exact hv
          | 4 => exact hv
          | 5 => exact hv
          | 6 => exact hv
          | 7 => exact hv
          | 8 => exact hv
          | 9 => exact hv
          | 10 => exact hv
          | 11 => exact hv
          | 12 => obtain ⟨a3, c3, e1, e2⟩ := hv; exact ⟨a3, c3, e1, e2.later h'⟩
          | _ + 13 => trivial
        · rintro u hu
          exact opYields_val _ (by kernel_rfl) (by go_simp) ⟨Below.refl _ _, rfl⟩
        · rintro u hu
          exact opYields_val _ (by kernel_rfl) (by go_simp) ⟨Below.refl _ _, rfl⟩
        · rintro u hu
          exact opYields_val _ (by kernel_rfl) (by go_simp) ⟨Below.refl _ _, rfl⟩
        · rintro u hu _ rfl _ rfl
          exact opYields_val (.pointer (some ⟨g, 0, none⟩)) (by kernel_rfl) (by go_simp) ⟨Below.refl _ _, rfl⟩
        · rintro u hu _ rfl
          exact opYields_val (.pointer (some ⟨g, 1, none⟩)) (by kernel_rfl) (by go_simp) ⟨Below.refl _ _, rfl⟩
        · rintro u hu _ rfl
          replace hu : Below wr.heap.size wr u := hu
          obtain ⟨e0, e1, e2, e3, e4, e5⟩ := (MR.later hu).six
          simp only [Nat.zero_add] at e1 e2 e3 e4 e5
          dsimp only at e0 e1 e2 e3 e4 e5
          exact opYields_val (.string ky) (by kernel_rfl) (by go_simp) ⟨Below.refl _ _, rfl⟩
        · rintro u hu
          exact opYields_val _ (by kernel_rfl) (by go_simp) ⟨Below.refl _ _, rfl⟩
        · rintro u hu
          exact opYields_val _ (by kernel_rfl) (by go_simp) ⟨Below.refl _ _, rfl⟩
        · rintro u hu _ rfl _ rfl
          exact opYields_val (.pointer (some ⟨g, 0, none⟩)) (by kernel_rfl) (by go_simp) ⟨Below.refl _ _, rfl⟩
        · rintro u hu _ rfl
          exact opYields_val (.pointer (some ⟨g, 2, none⟩)) (by kernel_rfl) (by go_simp) ⟨Below.refl _ _, rfl⟩
        · rintro u hu _ rfl
          replace hu : Below wr.heap.size wr u := hu
          obtain ⟨e0, e1, e2, e3, e4, e5⟩ := (MR.later hu).six
          simp only [Nat.zero_add] at e1 e2 e3 e4 e5
          dsimp only at e0 e1 e2 e3 e4 e5
          exact opYields_val (.string vl) (by kernel_rfl) (by go_simp) ⟨Below.refl _ _, rfl⟩
        · rintro u hu _ rfl _ rfl
          exact opYields_val (.agg #[.string ky, .string vl]) (by kernel_rfl) (by go_simp) ⟨Below.refl _ _, rfl⟩
        · rintro u hu _ rfl _ rfl
          exact opYields_call 48 #[.slice a2 nl c2, .agg #[.string ky, .string vl]] (by kernel_rfl) (by go_simp) ((HPw.out u hu).mono fun x u' ⟨⟨a3, c3, h1, h2⟩, h3⟩ => ⟨_, h1, h3, a3, c3, rfl, h2⟩)
        · rintro u hu _ _ _ _ _ _ _ _ _ _ _ _ v hv
          replace hu : Below wr.heap.size wr u := hu
          have hb2 := hb.trans (hu.mono hsz)
          replace hv : ∃ a3 c3, v = .slice a3 PP.length c3 ∧ Prs u a3 PP := hv
          obtain ⟨a3, c3, rfl, hp3⟩ := hv
          simp only [Act.put, List.setIfInBounds_toArray, List.set_cons_zero, List.set_cons_succ]
          refine opYields_val (.slice a3 PP.length c3) (by kernel_rfl) (by go_simp; rfl) ?_
          simp only [Act.put, List.setIfInBounds_toArray, List.set_cons_zero, List.set_cons_succ]
          go_wp2_with fail
          go_roundw
          case rel => exact ⟨1, a3, c3, Nat.le_refl _, by go_num, by rw [HLx.out], fun h => by omega, by rw [HLx.out]; exact hp3, hb2⟩
          case measure => simp [intOf]
      · have HLx := hid (HL1.out.trans (HA.out.trans (if_neg (by simp))))
        have HWw := hid (HW.out wr hp)
        dsimp only at HWw
        go_wp2_with fail
        refine HWw.out.mono ?_
        rintro x w5 ⟨⟨a3, c3, rfl, hp3⟩, hb5⟩
        have hb2 := hb.trans (hb5.mono hsz)
        go_wp2_with fail
        go_roundw
        case rel => exact ⟨1, a3, c3, Nat.le_refl _, by go_num, by rw [HLx.out], fun h => by omega, by rw [HLx.out]; exact hp3, hb2⟩
        case measure => simp [intOf]
    · obtain rfl : j = 1 := by omega
      rw [HL1.out] at hp ⊢
      go_wp2_with fail
      go_ret2
      exact ⟨⟨a2, c2, rfl, hp⟩, hb1.trans (hb.mono hs1)⟩
end Go.Proofs.YtegmpfmhlpdmhaaGreat.Key

namespace Go.Proofs.YtegmpfmhlpdmhaaGreat.Key
open Go.RowKit Draw
open Go.Op (bytesLess)
set_option linter.unusedVariables false
set_option linter.unusedSimpArgs false

theorem msgs_at {f : Int → List Pr} {out : List Pr} {bf : List M} {j : Nat} {m : M} (h : bf[j]? = some m) : (bf.take (j + 1)).foldl (msgC f) out = msgC f ((bf.take j).foldl (msgC f) out) m := by
  obtain ⟨hj, rfl⟩ := List.getElem?_eq_some_iff.1 h
  exact foldl_take _ _ _ _ hj
theorem kids_at {f : Int → List Pr} {n : Nd} {j : Nat} {x : E} (h : n.ks[j]? = some x) : kidsC f n (j + 1) = addL (lf x.strip x.add) (rg (loOf n.pv j) (hiOf n.pv j) (endOf n.pv j)) (f x.blk) (kidsC f n j) := by
  obtain ⟨hj, rfl⟩ := List.getElem?_eq_some_iff.1 h
  rw [kidsC, getD_at hj]
  rfl
/-- what is asked of a node and of what it leads to -/
structure Con16 (f : Int → List Pr) (n : Nd) : Prop where
  few : Few n
  kinds : ∀ m ∈ n.bf, m.kind = 1 ∨ m.kind = 2 ∨ m.kind = 3
  kids : ∀ j, j ≤ n.ks.length → (kidsC f n j).length ≤ 10000
  msgs : ∀ j, j ≤ n.bf.length → ((n.bf.take j).foldl (msgC f) (kidsC f n n.ks.length)).length ≤ 10000
  far : ∀ e ∈ n.ks, (f e.blk).length ≤ 10000 ∧ KIn 100000 (f e.blk) ∧ e.strip.size ≤ 100000 ∧ e.add.size ≤ 100000
  farM : ∀ m ∈ n.bf, m.key.size ≤ 100000 ∧ m.add.size ≤ 100000 ∧ (m.kind = 3 → (f m.blk).length ≤ 10000 ∧ KIn 100000 (f m.blk))

set_option maxRecDepth 100000 in
set_option maxHeartbeats 2000000 in
theorem node16 (f : Int → List Pr) (n : Nd) (a : Option Addr) (c : Nat) (l : List It) (root : Int) (w : World) (hln : l.length ≤ 1000) (hl : Items w a l) (hn : foundN l root = n) (hc : Con16 f n)
    (HK : ∀ e ∈ n.ks, ∀ wr, Below w.heap.size w wr → Calls Tryz.prog 16 #[.slice a l.length c, .int .u32 e.blk] wr fun x w' => PrsOut w' x (f e.blk) ∧ Below wr.heap.size wr w')
    (HM : ∀ m ∈ n.bf, m.kind = 3 → ∀ wr, Below w.heap.size w wr → Calls Tryz.prog 16 #[.slice a l.length c, .int .u32 m.blk] wr fun x w' => PrsOut w' x (f m.blk) ∧ Below wr.heap.size wr w') :
    Calls Tryz.prog 16 #[.slice a l.length c, .int .u32 root] w fun x w' => PrsOut w' x (nodeC f n) ∧ Below w.heap.size w w' := by
  have HFi := hid (find10 a c l root w hln hl)
  have HK2 := hid HK
  have HM2 := hid HM
  clear HK HM hl
  go_enter Tryz.func16, Tryz.ntmps16
  go_wp2_with fail
  refine HFi.out.mono ?_
  clear HFi
  rintro x w1 ⟨⟨n', p, rfl, hn', hL⟩, hb1⟩
  rw [hn] at hn'
  subst hn'
  have HN := hid (show nodeC f n' = if n'.leaf then n'.ps else n'.bf.foldl (msgC f) (kidsC f n' n'.ks.length) from rfl)
  have hs1 := hb1.size
  have HRg := hid (fun (j : Nat) (hj : j < n'.ks.length) (wr : World) (hb : Below w1.heap.size w1 wr) => range61 n' p j wr hc.few.l2 hc.few.l3 hj (hL.later hb))
  have HLk := hid (fun (wr : World) (hb : Below w1.heap.size w1 wr) => hL.h3.later hb)
  have HLb := hid (fun (wr : World) (hb : Below w1.heap.size w1 wr) => hL.h4.later hb)
  have HLp := hid (fun (wr : World) (hb : Below w1.heap.size w1 wr) => hL.h1.later hb)
  have HKi := hid (fun j x (hx : n'.ks[j]? = some x) => kids_at (f := f) hx)
  have HMs := hid (fun j m (hx : n'.bf[j]? = some m) => msgs_at (f := f) (out := kidsC f n' n'.ks.length) hx)
  have HMr := hid (fun j => RiseP.msgs (f := f) (l := n'.bf.take j) (rise_kids f n' n'.ks.length))
  have HK0 := hid (show kidsC f n' 0 = [] from rfl)
  have HM0 := hid (show (n'.bf.take 0).foldl (msgC f) (kidsC f n' n'.ks.length) = kidsC f n' n'.ks.length from rfl)
  have HMe := hid (show (n'.bf.take n'.bf.length).foldl (msgC f) (kidsC f n' n'.ks.length) = n'.bf.foldl (msgC f) (kidsC f n' n'.ks.length) by rw [List.take_length])
  have HC := hid hc
  have hl3 := hc.few.l3
  have hl4 := hc.few.l4
  have HCk := hid hc.kids
  have HCm := hid hc.msgs
  have HCf := hid hc.far
  have HCg := hid hc.farM
  have HCd := hid hc.kinds
  clear hc hL hn HC
  generalize n'.bf.foldl (msgC f) (kidsC f n' n'.ks.length) = ME at *
  obtain ⟨KT, hKT⟩ : ∃ g : Nat → List Pr, (fun j => kidsC f n' j) = g := ⟨_, rfl⟩
  simp only [show ∀ j, kidsC f n' j = KT j from fun j => congrFun hKT j] at HKi HMs HMr HK0 HM0 HMe HCk HCm
  clear hKT
  obtain ⟨MT, hMT⟩ : ∃ g : Nat → List Pr, (fun j => (n'.bf.take j).foldl (msgC f) (KT n'.ks.length)) = g := ⟨_, rfl⟩
  simp only [show ∀ j, (n'.bf.take j).foldl (msgC f) (KT n'.ks.length) = MT j from fun j => congrFun hMT j] at HMs HMr HM0 HMe HCm
  clear hMT
  obtain ⟨lB, ps, pv, ks, bf⟩ := n'
  obtain ⟨a1, c1, a2, c2, a3, c3, a4, c4⟩ := p
  dsimp only [nv] at *
  generalize hn1 : ps.length = n1 at *
  generalize pv.length = n2 at *
  generalize hn3 : ks.length = n3 at *
  generalize hn4 : bf.length = n4 at *
  have HN1 := hid hn1
  have HN3 := hid hn3
  have HN4 := hid hn4
  clear hn1 hn3 hn4
  have N1 := NBox.new w1 (.bool lB) (.slice a1 n1 c1) (.slice a2 n2 c2) (.slice a3 n3 c3) (.slice a4 n4 c4)
  have bx := below_box w1 (.cells #[.bool lB, .slice a1 n1 c1, .slice a2 n2 c2, .slice a3 n3 c3, .slice a4 n4 c4] 46)
  go_upto_region 2 with fail
  have hk5 := N1.lt
  have hs2 := bx.size
  generalize hkk : w1.heap.size = k5 at *
  generalize w1.alloc (.cells #[.bool lB, .slice a1 n1 c1, .slice a2 n2 c2, .slice a3 n3 c3, .slice a4 n4 c4] 46) = w2 at *
  obtain ⟨m0, m1, m2, m3, m4⟩ := N1.cells
  cases lB
  case true =>
    have HNt := hid (HN.out.trans (if_pos rfl))
    go_wp2_with fail
    go_ret
    exact ⟨⟨a1, c1, by rw [HNt.out, HN1.out]; rfl, by rw [HNt.out]; exact HLp.out w2 bx⟩, hb1.trans (bx.mono hs1)⟩
  case false =>
    have HNt := hid (HN.out.trans (if_neg (by simp)))
    clear HN HLp
    have r0 := (row_prs (row_made w2))
    have b0 := below_box w2 (.cells #[] 50)
    go_upto_region 5 with fail
    clear m0 m1 m2 m3 m4
    have N2 := N1.later b0
    have hb2 := bx.trans (b0.mono (by omega))
    clear N1 b0 bx
    have hp0 : Prs (w2.alloc (.cells #[] 50)) (some ⟨w2.heap.size, 0, none⟩) [] := .inl rfl
    generalize hk6 : w2.heap.size = k6 at *
    generalize w2.alloc (.cells #[] 50) = w3 at *
    clear r0
    have hs3 := N2.lt
    obtain ⟨m0, m1, m2, m3, m4⟩ := N2.cells
    go_wp2_with fail
    clear m0 m1 m2 m3 m4
    go_loopw [7, 27] (fun v i wr => ∃ (j : Nat) (oa : Option Addr) (oc : Nat), j ≤ n3 ∧ i = .int .i64 j ∧ v = .slice oa (KT j).length oc ∧ Prs wr oa (KT j) ∧ Below w3.heap.size w3 wr) (fun _ i _ => n3 - (intOf i).toNat)
    case atStart => exact ⟨0, _, _, Nat.zero_le _, rfl, by rw [HK0.out]; rfl, by rw [HK0.out]; exact hp0, Below.refl _ _⟩
    case round =>
      clear hp0
      obtain ⟨j, oa, oc, hj, rfl, rfl, hpO, hb⟩ := hrel
      have hsz := hb.size
      have hsw := hb2.size
      have hbw := hb2.trans (hb.mono (by omega))
      have NR := N2.later hb
      by_cases hlt : j < n3
      · have hlt' : j < ks.length := by rw [HN3.out]; exact hlt
        obtain ⟨b, off, hA, -⟩ := (HLk.out wr hbw).at hlt'
        subst hA
        obtain ⟨x, hx⟩ : ∃ x, ks[j]? = some x := ⟨_, List.getElem?_eq_getElem hlt'⟩
        have hxe : ks[j] = x := by rw [List.getElem?_eq_getElem hlt'] at hx; exact Option.some.inj hx
        have hmem : x ∈ ks := by rw [← hxe]; exact List.getElem_mem hlt'
        have HX4 := hid (fun u (hb : Below k5 w1 u) => (show Four u b (off + j * 4) x from by
          obtain ⟨b', off', e, hc⟩ := (HLk.out u hb).at hlt'
          simp only [Option.some.injEq, Addr.mk.injEq, and_true] at e
          obtain ⟨rfl, rfl⟩ := e
          rw [hxe] at hc
          exact hc))
        have HGj := hid (HKi.out j x hx)
        have HKj := hid (fun u (hu : Below k5 w1 u) => HK2.out x hmem u (hb1.trans (hu.mono hs1)))
        have HRj := hid (HRg.out j hlt)
        have hcl := HCk.out j hj
        obtain ⟨hf1, hf2, hf3, hf4⟩ := HCf.out x hmem
        have HDj := hid (fun (u : World) (oa a3 : Option Addr) (oc c5 : Nat) (h1 : Prs u oa (KT j)) (h2 : Prs u a3 (f x.blk)) => add28 oa a3 oc c5 (KT j) (f x.blk) x.strip x.add (loOf pv j) (hiOf pv j) (endOf pv j) u (by omega) hf3 hf4 hf2 h1 h2)
        clear hx hxe hmem hf1 hf2 hf3 hf4
        generalize addL (lf x.strip x.add) (rg (loOf pv j) (hiOf pv j) (endOf pv j)) (f x.blk) (KT j) = GL at *
        generalize loOf pv j = L0 at *
        generalize hiOf pv j = L1 at *
        generalize endOf pv j = L2 at *
        obtain ⟨xb, xd, xs, xa⟩ := x
        dsimp only at *
        generalize f xb = FL at *
        generalize KT j = OL at *
        go_upto_region 8 with fail
        refine wp_region_put [(some 30, [], false), (some 31, [], false), (some 32, [], false), (some 33, [(2, 32)], false), (some 34, [], false), (some 35, [(3, 33), (4, 34)], false), (some 36, [(5, 35)], false), (some 37, [(6, 36)], false), (some 38, [(1, 31), (7, 37)], false), (some 39, [], false), (some 40, [(9, 39)], false), (some 41, [], false), (some 42, [(10, 40), (11, 41)], false), (some 43, [(12, 42)], false), (some 44, [(13, 43)], false), (some 45, [], false), (some 46, [], false), (some 47, [(15, 45), (16, 46)], false), (some 48, [(0, 30), (8, 38), (14, 44), (17, 47)], true), (some 7, [(18, 48)], false)]
          (fun u => Below wr.heap.size wr u) (fun _ u u' => Below u.heap.size u u')
          (fun i v u => match i with | 0 => v = .slice oa OL.length oc ∧ Prs u oa OL | 1 => v = .slice a l.length c | 2 => v = .pointer (some ⟨k5, 3, none⟩) | 3 => v = .slice (some ⟨b, off, none⟩) n3 c3 | 4 => v = .int .i64 j | 5 => v = .pointer (some ⟨b, off + j * 4, none⟩) | 6 => v = .pointer (some ⟨b, off + j * 4, none⟩) | 7 => v = .int .u32 xb | 8 => ∃ a3 c5, v = .slice a3 FL.length c5 ∧ Prs u a3 FL | 9 => v = .pointer (some ⟨k5, 3, none⟩) | 10 => v = .slice (some ⟨b, off, none⟩) n3 c3 | 11 => v = .int .i64 j | 12 => v = .pointer (some ⟨b, off + j * 4, none⟩) | 13 => v = .pointer (some ⟨b, off + j * 4 + 2, none⟩) | 14 => v = .agg #[.string xs, .string xa] | 15 => v = .agg #[.bool false, .slice a1 n1 c1, .slice a2 n2 c2, .slice (some ⟨b, off, none⟩) n3 c3, .slice a4 n4 c4] | 16 => v = .int .i64 j | 17 => v = av L0 L1 L2 | 18 => ∃ a3 c5, v = .slice a3 GL.length c5 ∧ Prs u a3 GL | _ => True)
          (by kernel_rfl) 19 (by kernel_rfl) (Below.refl _ _).drew (fun i u u' h h' => h.trans (h'.mono h.size)) (fun i j v u u' hn h h' hv => ?_) [(some 30, [], false), (some 31, [], false), (some 32, [], false), (some 33, [(2, 32)], false), (some 34, [], false), (some 35, [(3, 33), (4, 34)], false), (some 36, [(5, 35)], false), (some 37, [(6, 36)], false), (some 38, [(1, 31), (7, 37)], false), (some 39, [], false), (some 40, [(9, 39)], false), (some 41, [], false), (some 42, [(10, 40), (11, 41)], false), (some 43, [(12, 42)], false), (some 44, [(13, 43)], false), (some 45, [], false), (some 46, [], false), (some 47, [(15, 45), (16, 46)], false), (some 48, [(0, 30), (8, 38), (14, 44), (17, 47)], true)] rfl _ rfl rfl (by kernel_rfl) ⟨?_, ?_, ?_, ?_, ?_, ?_, ?_, ?_, ?_, ?_, ?_, ?_, ?_, ?_, ?_, ?_, ?_, ?_, ?_, trivial⟩ ?_
        · match j with
          | 0 => obtain ⟨e1, e2⟩ := hv; exact ⟨e1, e2.later h'⟩
          | 1 => exact hv
          | 2 => exact hv
          | 3 => exact hv
          | 4 => exact hv
          | 5 => exact hv
          | 6 => exact hv
          | 7 => exact hv
          | 8 => obtain ⟨a3, c5, e1, e2⟩ := hv; exact ⟨a3, c5, e1, e2.later h'⟩
          | 9 => exact hv
          | 10 => exact hv
          | 11 => exact hv
          | 12 => exact hv
          | 13 => exact hv
          | 14 => exact hv
          | 15 => exact hv
          | 16 => exact hv
          | 17 => exact hv
          | 18 => obtain ⟨a3, c5, e1, e2⟩ := hv; exact ⟨a3, c5, e1, e2.later h'⟩
          | _ + 19 => trivial
        · rintro u hu
          replace hu : Below wr.heap.size wr u := hu
          exact opYields_val _ (by kernel_rfl) (by go_simp) ⟨Below.refl _ _, rfl, hpO.later hu⟩
        · rintro u hu
          replace hu : Below wr.heap.size wr u := hu
          exact opYields_val _ (by kernel_rfl) (by go_simp) ⟨Below.refl _ _, rfl⟩
        · rintro u hu
          replace hu : Below wr.heap.size wr u := hu
          exact opYields_val _ (by kernel_rfl) (by go_simp) ⟨Below.refl _ _, rfl⟩
        · rintro u hu _ rfl
          replace hu : Below wr.heap.size wr u := hu
          obtain ⟨m0, m1, m2, m3, m4⟩ := (NR.later hu).cells
          exact opYields_val (.slice (some ⟨b, off, none⟩) n3 c3) (by kernel_rfl) (by go_simp) ⟨Below.refl _ _, rfl⟩
        · rintro u hu
          replace hu : Below wr.heap.size wr u := hu
          exact opYields_val _ (by kernel_rfl) (by go_simp) ⟨Below.refl _ _, rfl⟩
        · rintro u hu _ rfl _ rfl
          replace hu : Below wr.heap.size wr u := hu
          exact opYields_val (.pointer (some ⟨b, off + j * 4, none⟩)) (by kernel_rfl) (by go_simp) ⟨Below.refl _ _, rfl⟩
        · rintro u hu _ rfl
          replace hu : Below wr.heap.size wr u := hu
          exact opYields_val (.pointer (some ⟨b, off + j * 4, none⟩)) (by kernel_rfl) (by go_simp) ⟨Below.refl _ _, rfl⟩
        · rintro u hu _ rfl
          replace hu : Below wr.heap.size wr u := hu
          obtain ⟨t0, t1, t2, t3⟩ := HX4.out u (hbw.trans (hu.mono (by omega)))
          dsimp only at t0 t1 t2 t3
          exact opYields_val (.int .u32 xb) (by kernel_rfl) (by go_simp) ⟨Below.refl _ _, rfl⟩
        · rintro u hu _ rfl _ rfl
          replace hu : Below wr.heap.size wr u := hu
          exact opYields_call 16 #[.slice a l.length c, .int .u32 xb] (by kernel_rfl) (by go_simp) ((HKj.out u (hbw.trans (hu.mono (by omega)))).mono fun x u' ⟨⟨a3, c5, h1, h2⟩, h3⟩ => ⟨_, h1, h3, a3, c5, rfl, h2⟩)
        · rintro u hu
          replace hu : Below wr.heap.size wr u := hu
          exact opYields_val _ (by kernel_rfl) (by go_simp) ⟨Below.refl _ _, rfl⟩
        · rintro u hu _ rfl
          replace hu : Below wr.heap.size wr u := hu
          obtain ⟨m0, m1, m2, m3, m4⟩ := (NR.later hu).cells
          exact opYields_val (.slice (some ⟨b, off, none⟩) n3 c3) (by kernel_rfl) (by go_simp) ⟨Below.refl _ _, rfl⟩
        · rintro u hu
          replace hu : Below wr.heap.size wr u := hu
          exact opYields_val _ (by kernel_rfl) (by go_simp) ⟨Below.refl _ _, rfl⟩
        · rintro u hu _ rfl _ rfl
          replace hu : Below wr.heap.size wr u := hu
          exact opYields_val (.pointer (some ⟨b, off + j * 4, none⟩)) (by kernel_rfl) (by go_simp) ⟨Below.refl _ _, rfl⟩
        · rintro u hu _ rfl
          replace hu : Below wr.heap.size wr u := hu
          exact opYields_val (.pointer (some ⟨b, off + j * 4 + 2, none⟩)) (by kernel_rfl) (by go_simp) ⟨Below.refl _ _, rfl⟩
        · rintro u hu _ rfl
          replace hu : Below wr.heap.size wr u := hu
          obtain ⟨t0, t1, t2, t3⟩ := HX4.out u (hbw.trans (hu.mono (by omega)))
          dsimp only at t0 t1 t2 t3
          exact opYields_val (.agg #[.string xs, .string xa]) (by kernel_rfl) (by go_simp) ⟨Below.refl _ _, rfl⟩
        · rintro u hu
          replace hu : Below wr.heap.size wr u := hu
          obtain ⟨m0, m1, m2, m3, m4⟩ := (NR.later hu).cells
          exact opYields_val (.agg #[.bool false, .slice a1 n1 c1, .slice a2 n2 c2, .slice (some ⟨b, off, none⟩) n3 c3, .slice a4 n4 c4]) (by kernel_rfl) (by go_simp) ⟨Below.refl _ _, rfl⟩
        · rintro u hu
          replace hu : Below wr.heap.size wr u := hu
          exact opYields_val _ (by kernel_rfl) (by go_simp) ⟨Below.refl _ _, rfl⟩
        · rintro u hu _ rfl _ rfl
          replace hu : Below wr.heap.size wr u := hu
          exact opYields_call 29 #[.agg #[.bool false, .slice a1 n1 c1, .slice a2 n2 c2, .slice (some ⟨b, off, none⟩) n3 c3, .slice a4 n4 c4], .int .i64 j] (by kernel_rfl) (by go_simp) ((HRj.out u (hbw.trans (hu.mono (by omega)))).mono fun x u' ⟨h1, h2⟩ => ⟨_, h1, h2, rfl⟩)
        · rintro u hu _ ⟨rfl, hq1⟩ _ ⟨a3, c5, rfl, hq2⟩ _ rfl _ rfl
          replace hu : Below wr.heap.size wr u := hu
          exact opYields_call 28 #[.slice oa OL.length oc, .slice a3 FL.length c5, .agg #[.string xs, .string xa], av L0 L1 L2] (by kernel_rfl) (by go_simp) ((HDj.out u oa a3 oc c5 hq1 hq2).mono fun x u' ⟨⟨a6, c6, h1, h2⟩, h3⟩ => ⟨_, h1, h3, a6, c6, rfl, h2⟩)
        · rintro u hu _ _ _ _ _ _ _ _ _ _ _ _ _ _ _ _ _ _ v hv
          replace hu : Below wr.heap.size wr u := hu
          have hb2 := hb.trans (hu.mono hsz)
          replace hv : ∃ a3 c5, v = .slice a3 GL.length c5 ∧ Prs u a3 GL := hv
          obtain ⟨a3, c5, rfl, hp3⟩ := hv
          simp only [Act.put, List.setIfInBounds_toArray, List.set_cons_zero, List.set_cons_succ]
          refine opYields_val (.slice a3 GL.length c5) (by kernel_rfl) (by go_simp; rfl) ?_
          simp only [Act.put, List.setIfInBounds_toArray, List.set_cons_zero, List.set_cons_succ]
          go_wp2_with fail
          go_roundw
          case rel => exact ⟨j + 1, a3, c5, by omega, by go_num, by rw [HGj.out], by rw [HGj.out]; exact hp3, hb2⟩
          case measure => simp [intOf]; omega
      · obtain rfl : j = n3 := by omega
        rw [← HM0.out] at hpO ⊢
        obtain ⟨m0, m1, m2, m3, m4⟩ := NR.cells
        go_wp2_with fail
        clear m0 m1 m2 m3 m4
        go_loopw [7, 53] (fun v i wr' => ∃ (q : Nat) (oa : Option Addr) (oc : Nat), q ≤ n4 ∧ i = .int .i64 q ∧ v = .slice oa (MT q).length oc ∧ Prs wr' oa (MT q) ∧ Below wr.heap.size wr wr') (fun _ i _ => n4 - (intOf i).toNat)
        case atStart => exact ⟨0, _, _, Nat.zero_le _, rfl, rfl, hpO, Below.refl _ _⟩
        case round =>
          clear hpO
          have hbo := hb
          clear hb
          obtain ⟨q, oa, oc, hq, rfl, rfl, hpO, hb⟩ := hrel
          rename World => wq
          have hszq := hb.size
          have hbw := hbw.trans (hb.mono (by omega))
          have NQ := NR.later hb
          clear HKi HRg HLk HCk HCf
          by_cases hlt2 : q < n4
          · have hlt' : q < bf.length := by rw [HN4.out]; exact hlt2
            obtain ⟨b, off, hA, g0, g1, g2, g3, g4, g5⟩ := (HLb.out wq hbw).at hlt'
            subst hA
            obtain ⟨x, hx⟩ : ∃ x, bf[q]? = some x := ⟨_, List.getElem?_eq_getElem hlt'⟩
            have hxe : bf[q] = x := by rw [List.getElem?_eq_getElem hlt'] at hx; exact Option.some.inj hx
            rw [hxe] at g0 g1 g2 g3 g4 g5
            have hmem : x ∈ bf := by rw [← hxe]; exact List.getElem_mem hlt'
            have HMx := hid (HMs.out q x hx)
            have HKx := hid (HM2.out x hmem)
            have hcl := HCm.out q hq
            obtain ⟨hf1, hf2, hf3⟩ := HCg.out x hmem
            have hkd := HCd.out x hmem
            have hris := HMr.out q
            clear hx hxe hmem
            obtain ⟨m0, m1, m2, m3, m4⟩ := NQ.cells
            have MX := MBox.new wq x
            have bx := below_box wq (.cells #[.int .u8 x.kind, .string x.key, .string x.val, .int .u32 x.blk, .int .u16 x.deep, .string x.add] 42)
            have hp2 := hpO.later bx
            have hb3 := hb.trans (bx.mono (by omega))
            have hbw3 := hbw.trans (bx.mono (by omega))
            obtain ⟨kd, ky, vl, bk, dp, ad⟩ := x
            dsimp only at *
            go_upto_region 14 with fail
            clear m0 m1 m2 m3 m4 g0 g1 g2 g3 g4 g5 hpO hb hbw NQ
            have hkq := MX.lt
            have hs5 := hb3.size
            generalize wq.heap.size = kq at *
            generalize wq.alloc (.cells #[.int .u8 kd, .string ky, .string vl, .int .u32 bk, .int .u16 dp, .string ad] 42) = w5 at *
            obtain ⟨e0, e1, e2, e3, e4, e5⟩ := MX.six
            simp only [Nat.zero_add] at e1 e2 e3 e4 e5
            dsimp only at e0 e1 e2 e3 e4 e5
            by_cases h3 : kd = 3
            · subst h3
              obtain ⟨hf4, hf5⟩ := hf3 rfl
              have HKj := hid (fun u (hu : Below k5 w1 u) => HKx.out rfl u (hb1.trans (hu.mono hs1)))
              have HWo := hid (without30 oa oc (MT q) ky w5 (by omega) hp2)
              have hwl := len_woB (MT q) ky.data.toList
              have HOf := hid (fun u => of31 ky u (by omega))
              have HDj := hid (fun (u : World) (oa a3 : Option Addr) (oc c5 : Nat) (h1 : Prs u oa (woB (MT q) ky.data.toList)) (h2 : Prs u a3 (f bk)) => add28 oa a3 oc c5 (woB (MT q) ky.data.toList) (f bk) ky ad ky (sucS ky.data.toList) (sucO ky.data.toList) u (by omega) hf1 hf2 hf5 h1 h2)
              have HGj := hid (HMx.out.trans (show msgC f (MT q) ⟨3, ky, vl, bk, dp, ad⟩ = addL (lf ky ad) (rg ky (sucS ky.data.toList) (sucO ky.data.toList)) (f bk) (woB (MT q) ky.data.toList) from rfl))
              clear HMx HKx hkd hf3 hris
              generalize addL (lf ky ad) (rg ky (sucS ky.data.toList) (sucO ky.data.toList)) (f bk) (woB (MT q) ky.data.toList) = GL at *
              generalize woB (MT q) ky.data.toList = OL at *
              generalize sucS ky.data.toList = S1 at *
              generalize sucO ky.data.toList = S2 at *
              generalize f bk = FL at *
              go_wp2_with fail
              refine HWo.out.mono ?_
              clear HWo e0 e1 e2 e3 e4 e5 hp2
              rintro x w6 ⟨⟨oa, oc, rfl, hpO⟩, hb6⟩
              have MR := MX.later hb6
              have hs6 := hb6.size
              have hb := hb3.trans (hb6.mono (by omega))
              have hbw := hbw3.trans (hb6.mono (by omega))
              clear hb6 hb3 hbw3 MX
              go_upto_region 16 with fail
              refine wp_region_put [(some 68, [], false), (some 69, [], false), (some 70, [], false), (some 71, [(2, 70)], false), (some 72, [(1, 69), (3, 71)], false), (some 73, [], false), (some 74, [(5, 73)], false), (some 75, [], false), (some 76, [(7, 75)], false), (some 77, [(6, 74), (8, 76)], false), (some 78, [], false), (some 79, [(10, 78)], false), (some 80, [(11, 79)], false), (some 81, [(0, 68), (4, 72), (9, 77), (12, 80)], true), (some 7, [(13, 81)], false)]
                (fun u => Below w6.heap.size w6 u) (fun _ u u' => Below u.heap.size u u')
                (fun i v u => match i with | 0 => v = .slice oa OL.length oc ∧ Prs u oa OL | 1 => v = .slice a l.length c | 2 => v = .pointer (some ⟨kq, 3, none⟩) | 3 => v = .int .u32 bk | 4 => ∃ a3 c5, v = .slice a3 FL.length c5 ∧ Prs u a3 FL | 5 => v = .pointer (some ⟨kq, 1, none⟩) | 6 => v = .string ky | 7 => v = .pointer (some ⟨kq, 5, none⟩) | 8 => v = .string ad | 9 => v = .agg #[.string ky, .string ad] | 10 => v = .pointer (some ⟨kq, 1, none⟩) | 11 => v = .string ky | 12 => v = .agg #[.string ky, .string S1, .bool S2] | 13 => ∃ a3 c5, v = .slice a3 GL.length c5 ∧ Prs u a3 GL | _ => True)
                (by kernel_rfl) 14 (by kernel_rfl) (Below.refl _ _).drew (fun i u u' h h' => h.trans (h'.mono h.size)) (fun i j v u u' hn h h' hv => ?_) [(some 68, [], false), (some 69, [], false), (some 70, [], false), (some 71, [(2, 70)], false), (some 72, [(1, 69), (3, 71)], false), (some 73, [], false), (some 74, [(5, 73)], false), (some 75, [], false), (some 76, [(7, 75)], false), (some 77, [(6, 74), (8, 76)], false), (some 78, [], false), (some 79, [(10, 78)], false), (some 80, [(11, 79)], false), (some 81, [(0, 68), (4, 72), (9, 77), (12, 80)], true)] rfl _ rfl rfl (by kernel_rfl) ⟨?_, ?_, ?_, ?_, ?_, ?_, ?_, ?_, ?_, ?_, ?_, ?_, ?_, ?_, trivial⟩ ?_
              · match j with
                | 0 => obtain ⟨e1, e2⟩ := hv; exact ⟨e1, e2.later h'⟩
                | 1 => exact hv
                | 2 => exact hv
                | 3 => exact hv
                | 4 => obtain ⟨a3, c5, e1, e2⟩ := hv; exact ⟨a3, c5, e1, e2.later h'⟩
                | 5 => exact hv
                | 6 => exact hv
                | 7 => exact hv
                | 8 => exact hv
                | 9 => exact hv
                | 10 => exact hv
                | 11 => exact hv
                | 12 => exact hv
                | 13 => obtain ⟨a3, c5, e1, e2⟩ := hv; exact ⟨a3, c5, e1, e2.later h'⟩
                | _ + 14 => trivial
              · rintro u hu
                replace hu : Below w6.heap.size w6 u := hu
                exact opYields_val _ (by kernel_rfl) (by go_simp) ⟨Below.refl _ _, rfl, hpO.later hu⟩
              · rintro u hu
                replace hu : Below w6.heap.size w6 u := hu
                exact opYields_val _ (by kernel_rfl) (by go_simp) ⟨Below.refl _ _, rfl⟩
              · rintro u hu
                replace hu : Below w6.heap.size w6 u := hu
                exact opYields_val _ (by kernel_rfl) (by go_simp) ⟨Below.refl _ _, rfl⟩
              · rintro u hu _ rfl
                replace hu : Below w6.heap.size w6 u := hu
                obtain ⟨e0, e1, e2, e3, e4, e5⟩ := (MR.later hu).six
                simp only [Nat.zero_add] at e1 e2 e3 e4 e5
                dsimp only at e0 e1 e2 e3 e4 e5
                exact opYields_val (.int .u32 bk) (by kernel_rfl) (by go_simp) ⟨Below.refl _ _, rfl⟩
              · rintro u hu _ rfl _ rfl
                replace hu : Below w6.heap.size w6 u := hu
                exact opYields_call 16 #[.slice a l.length c, .int .u32 bk] (by kernel_rfl) (by go_simp) ((HKj.out u (hbw.trans (hu.mono (by omega)))).mono fun x u' ⟨⟨a3, c5, h1, h2⟩, h3⟩ => ⟨_, h1, h3, a3, c5, rfl, h2⟩)
              · rintro u hu
                replace hu : Below w6.heap.size w6 u := hu
                exact opYields_val _ (by kernel_rfl) (by go_simp) ⟨Below.refl _ _, rfl⟩
              · rintro u hu _ rfl
                replace hu : Below w6.heap.size w6 u := hu
                obtain ⟨e0, e1, e2, e3, e4, e5⟩ := (MR.later hu).six
                simp only [Nat.zero_add] at e1 e2 e3 e4 e5
                dsimp only at e0 e1 e2 e3 e4 e5
                exact opYields_val (.string ky) (by kernel_rfl) (by go_simp) ⟨Below.refl _ _, rfl⟩
              · rintro u hu
                replace hu : Below w6.heap.size w6 u := hu
                exact opYields_val _ (by kernel_rfl) (by go_simp) ⟨Below.refl _ _, rfl⟩
              · rintro u hu _ rfl
                replace hu : Below w6.heap.size w6 u := hu
                obtain ⟨e0, e1, e2, e3, e4, e5⟩ := (MR.later hu).six
                simp only [Nat.zero_add] at e1 e2 e3 e4 e5
                dsimp only at e0 e1 e2 e3 e4 e5
                exact opYields_val (.string ad) (by kernel_rfl) (by go_simp) ⟨Below.refl _ _, rfl⟩
              · rintro u hu _ rfl _ rfl
                replace hu : Below w6.heap.size w6 u := hu
                exact opYields_val (.agg #[.string ky, .string ad]) (by kernel_rfl) (by go_simp) ⟨Below.refl _ _, rfl⟩
              · rintro u hu
                replace hu : Below w6.heap.size w6 u := hu
                exact opYields_val _ (by kernel_rfl) (by go_simp) ⟨Below.refl _ _, rfl⟩
              · rintro u hu _ rfl
                replace hu : Below w6.heap.size w6 u := hu
                obtain ⟨e0, e1, e2, e3, e4, e5⟩ := (MR.later hu).six
                simp only [Nat.zero_add] at e1 e2 e3 e4 e5
                dsimp only at e0 e1 e2 e3 e4 e5
                exact opYields_val (.string ky) (by kernel_rfl) (by go_simp) ⟨Below.refl _ _, rfl⟩
              · rintro u hu _ rfl
                replace hu : Below w6.heap.size w6 u := hu
                exact opYields_call 31 #[.string ky] (by kernel_rfl) (by go_simp) ((HOf.out u).mono fun x u' ⟨h1, h2⟩ => ⟨_, h1, h2, rfl⟩)
              · rintro u hu _ ⟨rfl, hq1⟩ _ ⟨a3, c5, rfl, hq2⟩ _ rfl _ rfl
                replace hu : Below w6.heap.size w6 u := hu
                exact opYields_call 28 #[.slice oa OL.length oc, .slice a3 FL.length c5, .agg #[.string ky, .string ad], av ky S1 S2] (by kernel_rfl) (by go_simp) ((HDj.out u oa a3 oc c5 hq1 hq2).mono fun x u' ⟨⟨a6, c6, h1, h2⟩, h3⟩ => ⟨_, h1, h3, a6, c6, rfl, h2⟩)
              · rintro u hu _ _ _ _ _ _ _ _ _ _ _ _ _ v hv
                replace hu : Below w6.heap.size w6 u := hu
                have hb2 := hb.trans (hu.mono (by omega))
                replace hv : ∃ a3 c5, v = .slice a3 GL.length c5 ∧ Prs u a3 GL := hv
                obtain ⟨a3, c5, rfl, hp3⟩ := hv
                simp only [Act.put, List.setIfInBounds_toArray, List.set_cons_zero, List.set_cons_succ]
                refine opYields_val (.slice a3 GL.length c5) (by kernel_rfl) (by go_simp; rfl) ?_
                simp only [Act.put, List.setIfInBounds_toArray, List.set_cons_zero, List.set_cons_succ]
                go_wp2_with fail
                go_roundw
                case rel => exact ⟨q + 1, a3, c5, by omega, by go_num, by rw [HGj.out], by rw [HGj.out]; exact hp3, hb2⟩
                case measure => simp [intOf]; omega
            · have hk12 : kd = 1 ∨ kd = 2 := by omega
              have HAp := hid (fun (g : Nat) (u : World) (hp : Prs u oa (MT q)) (hm : MBox u g ⟨kd, ky, vl, bk, dp, ad⟩) => apply32 oa oc (MT q) ⟨kd, ky, vl, bk, dp, ad⟩ g u (by omega) hp hris hm hk12)
              have HGj := hid (HMx.out.trans (show msgC f (MT q) ⟨kd, ky, vl, bk, dp, ad⟩ = applyL (MT q) ⟨kd, ky, vl, bk, dp, ad⟩ by
                unfold msgC applyL
                dsimp only
                rw [if_neg h3]
                rcases hk12 with rfl | rfl
                · rfl
                · rfl))
              clear HMx HKx hkd hf3 hris
              generalize applyL (MT q) ⟨kd, ky, vl, bk, dp, ad⟩ = GL at *
              have hd : (kd == 3) = false := by simp [h3]
              have MY := MBox.new w5 ⟨kd, ky, vl, bk, dp, ad⟩
              have by5 := below_box w5 (.cells #[.int .u8 kd, .string ky, .string vl, .int .u32 bk, .int .u16 dp, .string ad] 42)
              have HA2 := hid (HAp.out _ _ (hp2.later by5) MY)
              try dsimp only at HA2
              go_wp2_with fail
              refine HA2.out.mono ?_
              rintro x w7 ⟨⟨a6, c6, rfl, hp6⟩, hb7⟩
              have hb := hb3.trans ((by5.trans (hb7.mono by5.size)).mono (by omega))
              go_wp2_with fail
              go_roundw
              case rel => exact ⟨q + 1, a6, c6, by omega, by go_num, by rw [HGj.out], by rw [HGj.out]; exact hp6, hb⟩
              case measure => simp [intOf]; omega
          · obtain rfl : q = n4 := by omega
            go_wp2_with fail
            go_ret
            exact ⟨⟨oa, oc, by rw [HNt.out, ← HMe.out]; rfl, by rw [HNt.out, ← HMe.out]; exact hpO⟩, hb1.trans (hbw.mono (by omega))⟩
end Go.Proofs.YtegmpfmhlpdmhaaGreat.Key

namespace Go.Proofs.YtegmpfmhlpdmhaaGreat.Key
open Go.RowKit Draw
open Go.Op (bytesLess)
set_option linter.unusedVariables false
set_option linter.unusedSimpArgs false

theorem sum_take {α : Type} (g : α → Nat) (l : List α) (j : Nat) : ((l.take j).map g).sum ≤ (l.map g).sum := by
  have h : (l.map g).sum = ((l.take j).map g).sum + ((l.drop j).map g).sum := by
    rw [← List.sum_append, ← List.map_append, List.take_append_drop]
  omega
theorem sum_mem {α : Type} (g : α → Nat) : ∀ {l : List α} {x : α}, x ∈ l → g x ≤ (l.map g).sum
  | y :: l, x, h => by
    rw [List.map_cons, List.sum_cons]
    rcases List.mem_cons.1 h with rfl | h
    · omega
    · have := sum_mem g h
      omega
theorem sum_blocks (g : Int → Nat) (bf : List M) (j : Nat) : ((blocksL (bf.take j)).map g).sum ≤ ((blocksL bf).map g).sum := by
  have h : blocksL bf = blocksL (bf.take j) ++ blocksL (bf.drop j) := by
    unfold blocksL
    rw [← List.map_append, ← List.filter_append, List.take_append_drop]
  rw [h, List.map_append, List.sum_append]
  omega
theorem goto_block {bf : List M} {m : M} (h : m ∈ bf) (h3 : m.kind = 3) : m.blk ∈ blocksL bf := by
  unfold blocksL
  exact List.mem_map.2 ⟨m, List.mem_filter.2 ⟨h, by simp [h3]⟩, rfl⟩
/-- of a right graph of few ways -/
theorem con16_ok {l : List It} (hr : rightB l = true) {x : It} {d : Nat} {b : Int} (hx : findI l b = some x) (hd : d ≤ 1000) (hw : waysF l (d + 1) b ≤ 500) : Con16 (contF l d) x.nd := by
  have hm := right_may hr (find_in hx)
  obtain ⟨f1, f2, f3⟩ := may_few hm
  rw [ways_some hx, targets_split] at hw
  have hk : ∀ j, j ≤ x.nd.ks.length → (kidsC (contF l d) x.nd j).length ≤ 8000 := fun j hj => by
    have h1 := len_kids (f := contF l d) (g := waysF l d) (n := x.nd) (fun e _ => cont_len hr d e.blk) j hj
    have h2 := sum_take (fun e : E => waysF l d e.blk) x.nd.ks j
    omega
  have hpv : x.nd.pv.length ≤ 1000 := by
    cases hl : x.nd.leaf
    · have h1 := may_zero hm
      unfold fineB at h1
      rw [hl] at h1
      unfold forkB at h1
      simp only [Bool.false_eq_true, if_false, Bool.and_eq_true, beq_iff_eq] at h1
      have := h1.2.1
      omega
    · have h1 := may_zero hm
      unfold fineB at h1
      rw [hl] at h1
      unfold leafB at h1
      simp only [if_true, Bool.and_eq_true, List.isEmpty_iff] at h1
      rw [h1.1]
      exact Nat.zero_le _
  refine ⟨⟨by omega, hpv, by omega, by omega⟩, may_kinds hm, fun j hj => Nat.le_trans (hk j hj) (by omega), fun j hj => ?_, fun e he => ?_, fun m hm' => ?_⟩
  · have h1 := hk _ (Nat.le_refl _)
    have h2 := len_msgs (f := contF l d) (g := waysF l d) (bf := x.nd.bf) (out := kidsC (contF l d) x.nd x.nd.ks.length) (fun m _ _ => cont_len hr d m.blk) j hj
    have h3 := sum_blocks (waysF l d) x.nd.bf j
    have h4 := len_kids (f := contF l d) (g := waysF l d) (n := x.nd) (fun e _ => cont_len hr d e.blk) _ (Nat.le_refl _)
    rw [List.take_length] at h4
    omega
  · have h1 := cont_len hr d e.blk
    have h2 := sum_mem (fun e : E => waysF l d e.blk) he
    obtain ⟨h3, h4⟩ := edges_small hm he
    exact ⟨by omega, (cont_keys hr d e.blk).mono (by omega), by omega, by omega⟩
  · obtain ⟨h3, _, h4⟩ := msgs_small hm hm'
    refine ⟨by omega, by omega, fun hg => ?_⟩
    have h1 := cont_len hr d m.blk
    have h2 := sum_mem (waysF l d) (goto_block hm' hg)
    exact ⟨by omega, (cont_keys hr d m.blk).mono (by omega)⟩
theorem con16_nil : Con16 (fun _ => []) zeroN := by
  refine ⟨⟨by decide, by decide, by decide, by decide⟩, (by intro m h; cases h), fun j hj => ?_, fun j hj => ?_, (by intro m h; cases h), (by intro m h; cases h)⟩
  · obtain rfl : j = 0 := by simpa [zeroN] using hj
    exact Nat.zero_le _
  · obtain rfl : j = 0 := by simpa [zeroN] using hj
    exact Nat.zero_le _
theorem content16 {l : List It} (hr : rightB l = true) (hln : l.length ≤ 1000) (a : Option Addr) (c : Nat) : ∀ (d : Nat), d ≤ 1000 → ∀ (b : Int) (w : World), (∀ x, findI l b = some x → deepI x.nd ≤ d) → waysF l d b ≤ 500 → Items w a l →
    Calls Tryz.prog 16 #[.slice a l.length c, .int .u32 b] w fun x w' => PrsOut w' x (contF l d b) ∧ Below w.heap.size w w'
  | d, hd, b, w, hdeep, hw, hI => by
    cases hx : findI l b with
    | none =>
      have h := node16 (fun _ => []) zeroN a c l b w hln hI (by unfold foundN; rw [hx]; rfl) con16_nil (fun e he => by cases he) (fun m hm => by cases hm)
      have e : contF l d b = nodeC (fun _ => []) zeroN := by
        cases d with
        | zero => rfl
        | succ d => rw [contF, hx]; rfl
      rw [e]
      exact h
    | some x =>
      have h1 := deep_pos (right_may hr (find_in hx))
      have h2 := hdeep x hx
      match d, hd, hw, h2 with
      | 0, _, _, h2 => omega
      | d + 1, hd, hw, h2 =>
        have hw2 := hw
        rw [ways_some hx, targets_split] at hw2
        have e : contF l (d + 1) b = nodeC (contF l d) x.nd := by rw [contF, hx]
        rw [e]
        refine node16 (contF l d) x.nd a c l b w hln hI (by unfold foundN; rw [hx]; rfl) (con16_ok hr hx (by omega) hw) (fun e he wr hb => ?_) (fun m hm h3 wr hb => ?_)
        · refine content16 hr hln a c d (by omega) e.blk wr (fun y hy => ?_) ?_ (hI.later hb)
          · obtain ⟨y', hy', hlt⟩ := right_deep hr (find_in hx) (targ_kid he)
            rw [hy] at hy'
            obtain rfl := Option.some.inj hy'
            omega
          · have := sum_mem (fun e : E => waysF l d e.blk) he
            omega
        · refine content16 hr hln a c d (by omega) m.blk wr (fun y hy => ?_) ?_ (hI.later hb)
          · obtain ⟨y', hy', hlt⟩ := right_deep hr (find_in hx) (targ_goto hm h3)
            rw [hy] at hy'
            obtain rfl := Option.some.inj hy'
            omega
          · have := sum_mem (waysF l d) (goto_block hm h3)
            omega
end Go.Proofs.YtegmpfmhlpdmhaaGreat.Key

namespace Go.Proofs.YtegmpfmhlpdmhaaGreat.Key
open Go.RowKit Draw
open Go.Op (bytesLess)
set_option linter.unusedVariables false
set_option linter.unusedSimpArgs false

theorem first_snoc (most : Int) (L : List Pr) (x : Pr) : firstL most (L ++ [x]) = if most < 0 ∨ ((firstL most L).length : Int) < most then firstL most L ++ [x] else firstL most L := by
  unfold firstL
  by_cases h : most < 0
  · rw [if_pos h, if_pos h, if_pos (.inl h)]
  · rw [if_neg h, if_neg h, List.length_take]
    obtain ⟨m, rfl⟩ : ∃ m : Nat, most = m := ⟨most.toNat, by omega⟩
    rw [Int.toNat_natCast]
    by_cases hl : L.length < m
    · rw [if_pos (.inr (by omega)), List.take_of_length_le (by rw [List.length_append, List.length_singleton]; omega), List.take_of_length_le (by omega)]
    · rw [if_neg (by omega), List.take_append_of_le_length (by omega)]
theorem rest_at {l : List Pr} {r : Rng} {j : Nat} {x : Pr} (h : l[j]? = some x) : restL (l.take (j + 1)) r = if inR r (kOf x) then restL (l.take j) r ++ [x] else restL (l.take j) r := filt_at h
theorem row_len2 {w : World} {B : Nat} {e : TypeId} {sz : Nat} {a : Option Addr} {d c n : Nat} {xs : List Value} (h : w.ownsRow B e sz (.slice a d c) n xs) : d = n := by
  rcases h.2 with ⟨e1, h0⟩ | ⟨g, cap, cur, e1, _⟩
  · simp only [Value.slice.injEq] at e1
    omega
  · simp only [Value.slice.injEq] at e1
    exact e1.2.1
theorem firstL_le (most : Int) (L : List Pr) : (firstL most L).length ≤ L.length := by
  unfold firstL
  split
  · exact Nat.le_refl _
  · rw [List.length_take]; omega

theorem wpList_append_at {P : Program} {w : World} {ops : Array Oper} {rest : List Oper} {o : Oper} {a : Act} {Q : Exit → Act → World → Prop} (hgd : o.guard = none) (s x : Operand) (t : TypeId)
    (ho : o.op = .call { callee := .builtin .append, args := #[s, x], argTypes := #[t, t] })
    (base : Nat) (e : TypeId) (i : TypeInfo) (z : Value) (size bytes : Nat) (ht : P.underlying t = some (.slice e)) (hi : P.info? e = some i) (hz : i.zero = some z)
    (hsize : i.size = size) (hby : i.bytes = bytes) (hzs : z.cells.size = size) (hsz : 0 < size)
    (v : Value) (n : Nat) (xs : List Value) (hs : a.eval s = v) (hown : w.ownsRow base e size v n xs)
    (ad : Addr) (m c : Nat) (news : List Value) (hx : a.eval x = .slice (some ad) m c) (hl : news.length = m * size) (hnews : ∀ j u, news[j]? = some u → w.cell? (ad.add j) = some u) (h1 : ∀ u ∈ news, u.oneCell' = true)
    (h63 : n + m ≤ maxLen) (hbytes : (n + m) * bytes ≤ 140737488355328) (hbase : base ≤ w.heap.size)
    (h : ∀ v' w', w'.ownsRow base e size v' (n + m) (xs ++ news) → w.grownBy w' v.ownBlock → (v'.ownBlock = v.ownBlock ∨ v'.ownBlock = some w.heap.size) → wpList P ops Q rest (a.put o.dst v') w') : wpList P ops Q (o :: rest) a w := by
  refine wpList_plain hgd fun K hK => ?_
  obtain ⟨v', w', hr, h2, h3, h4, h5⟩ := run_append_own_at (P := P) w base t o.type e i z size bytes ht hi hz hsize hby hzs hsz v n xs hown ad m c news hl hnews h1 h63 hbytes hbase
  unfold Oper.wp
  simp [execOp, ho, resolve, invoke, builtin, hs, hx, hr, Result.andThen]
  exact hK _ _ (h v' w' h2 h3 h5)
theorem appPr {w : World} {ops : Array Oper} {rest : List Oper} {o : Oper} {a : Act} {Q : Exit → Act → World → Prop} (hgd : o.guard = none) (s x : Operand) (ho : o.op = .call { callee := .builtin .append, args := #[s, x], argTypes := #[30, 30] })
    (B : Nat) (v : Value) (l : List Pr) (hs : a.eval s = v) (hown : w.ownsRow B 50 2 v l.length (l.flatMap Pr.cells)) (ad : Addr) (y : Pr) (hx : a.eval x = .slice (some ad) 1 1) (hn : ∀ adr, some ad = some adr → ∀ j u, ([y].flatMap Pr.cells)[j]? = some u → w.cell? (adr.add j) = some u) (hsz : l.length ≤ 90000) (hB : B ≤ w.heap.size)
    (h : ∀ v' w', w'.ownsRow B 50 2 v' (l ++ [y]).length ((l ++ [y]).flatMap Pr.cells) → w.grownBy w' v.ownBlock → (v'.ownBlock = v.ownBlock ∨ v'.ownBlock = some w.heap.size) → wpList Tryz.prog ops Q rest (a.put o.dst v') w') : wpList Tryz.prog ops Q (o :: rest) a w := by
  obtain ⟨i0, hi, hz0, hz1, hz2⟩ := info_parts info50
  refine wpList_append_at hgd s x 30 ho B 50 i0 _ 2 32 Tryz.underlying30 hi hz0 hz1 hz2 rfl (by omega) v _ _ hs hown ad 1 1 ([y].flatMap Pr.cells) hx rfl (hn ad rfl) (by intro u hu; obtain ⟨z, hz, hy⟩ := List.mem_flatMap.1 hu; exact oneP z u hy) (by unfold maxLen; omega) (by omega) hB ?_
  intro v' w' h1 h2 h3
  refine h v' w' ?_ h2 h3
  rw [List.length_append, List.flatMap_append]
  exact h1
/-- pairs kept while a row elsewhere grows -/
theorem Prs.kept {w u : World} {row : Option Nat} {a : Option Addr} {l : List Pr} (h : Prs w a l) (hg : w.grownBy u row) (hne : ∀ b off, a = some ⟨b, off, none⟩ → l ≠ [] → some b ≠ row) : Prs u a l := by
  rcases h with rfl | ⟨b, off, rfl, hc⟩
  · exact .inl rfl
  · by_cases hl : l = []
    · exact .inl hl
    · refine .inr ⟨b, off, rfl, fun i hi => ?_⟩
      obtain ⟨c0, c1⟩ := hc i hi
      have hb := hg.block b (World.block_lt_of_cell? w _ c0) (hne b off rfl hl)
      exact ⟨(World.cell?_of_block (w := w) (w' := u) (a := ⟨b, off + i * 2, none⟩) hb).trans c0, (World.cell?_of_block (w := w) (w' := u) (a := ⟨b, off + i * 2 + 1, none⟩) hb).trans c1⟩
theorem no_cell {w : World} {k i : Nat} {e : TypeId} (h : w.heap[k]? = some (.cells #[] e (0, 0))) : w.cell? ⟨k, i, none⟩ = none := by
  simp [World.cell?, h]

set_option maxRecDepth 100000 in
set_option maxHeartbeats 4000000 in
theorem rpairs9 (a : Option Addr) (c : Nat) (l : List It) (root most : Int) (lo hi : ByteArray) (e : Bool) (w : World) (hl : Fine l) (hways : rightB l = true → waysF l 65535 root ≤ 500) (h : Items w a l) :
    Calls Tryz.prog 9 #[.slice a l.length c, .int .u32 root, av lo hi e, .int .i64 most] w fun x w' => PrsOut w' x (pairsL l root (rg lo hi e) most) ∧ Below w.heap.size w w' := by
  have HI := hid (fun (wr : World) (hb : Below w.heap.size w wr) => h.later hb)
  have HF := hid (fun (wr : World) (hb : Below w.heap.size w wr) => find10 a c l root wr hl.len (h.later hb))
  have HR := hid (fun (wr : World) (hb : Below w.heap.size w wr) => right12 a c l wr hl (h.later hb))
  have HIn := hid (fun (k : ByteArray) (wr : World) => in60 lo hi k e wr)
  have HP := hid (show pairsL l root (rg lo hi e) most = if rightB l then firstL most (restL (contF l 65535 root) (rg lo hi e)) else [] from rfl)
  have HN := hid (fun (hn : (findI l root).isSome = false) => (show pairsL l root (rg lo hi e) most = [] from by
    have hx : findI l root = none := by cases h : findI l root <;> simp_all
    unfold pairsL
    split
    · rw [(cont_out hx _).1]
      unfold firstL restL
      split <;> simp
    · rfl))
  have HC := hid (fun (hr : rightB l = true) (hs : (findI l root).isSome = true) (wr : World) (hb : Below w.heap.size w wr) => (show Calls Tryz.prog 16 #[.slice a l.length c, .int .u32 root] wr fun x w' => PrsOut w' x (contF l 65535 root) ∧ Below wr.heap.size wr w' from by
    obtain ⟨x, hx⟩ := Option.isSome_iff_exists.1 hs
    have h1 := right_len hr (find_in hx)
    have h2 := right_le hr (find_in hx)
    rw [cont_deep hr 65535 l.length root x hx (by omega) (by omega)]
    refine content16 hr hl.len a c l.length (by have := hl.len; omega) root wr (fun y hy => ?_) ?_ (h.later hb)
    · rw [hx] at hy
      obtain rfl := Option.some.inj hy
      omega
    · rw [ways_deep hr l.length 65535 root x hx (by omega) (by omega)]
      exact hways hr))
  have HCl := hid (fun (hr : rightB l = true) => (show (contF l 65535 root).length ≤ 8000 by have h1 := cont_len hr 65535 root; have := hways hr; omega))
  have hln := hl.len
  clear h hl hways
  generalize contF l 65535 root = CA at *
  have r0 := row_made (w.alloc (.cells #[.string lo, .string hi, .bool e] 25))
  have hE0 : ((w.alloc (.cells #[.string lo, .string hi, .bool e] 25)).alloc (.cells #[] 50)).heap[w.heap.size + 1]? = some (.cells #[] 50 (0, 0)) := by
    have := Go.heap_alloc_new (w.alloc (.cells #[.string lo, .string hi, .bool e] 25)) (.cells #[] 50)
    rw [World.size_alloc] at this
    exact this
  have R0 := Box.new w (.string lo) (.string hi) (.bool e)
  have b0 := below_box w (.cells #[.string lo, .string hi, .bool e] 25)
  have b1 := below_box (w.alloc (.cells #[.string lo, .string hi, .bool e] 25)) (.cells #[] 50)
  have hsz1 : (w.alloc (.cells #[.string lo, .string hi, .bool e] 25)).heap.size = w.heap.size + 1 := by rw [World.size_alloc]
  rw [World.size_alloc] at r0
  generalize hls : l.length = nl at *
  go_enter Tryz.func9, Tryz.ntmps9
  go_upto_region 2 with fail
  generalize w.alloc (.cells #[.string lo, .string hi, .bool e] 25) = w1 at *
  have R1 := R0.later b1
  have hb1 := b0.trans (b1.mono (by omega))
  have hs1 := b1.size
  generalize w1.alloc (.cells #[] 50) = w2 at *
  have hbw0 := b0
  have E1 : w2.heap[w.heap.size + 1]? = some (.cells #[] 50 (0, 0)) := hE0
  clear R0 b0 hE0
  go_wp2_with fail
  refine (HF.out _ hb1).mono ?_
  clear HF
  rintro x w3 ⟨⟨n, p, rfl, -, -⟩, hb3⟩
  have r1 := row_later r0 hb3
  have E2 := (hb3.block (w.heap.size + 1) (Array.getElem?_eq_some_iff.1 E1).1).trans E1
  have R2 := R1.later hb3
  have hs3 := hb3.size
  have hb2 := hb1.trans (hb3.mono (by omega))
  have b2 := b1.trans (hb3.mono (by omega))
  clear r0 R1 hb1 b1 hb3
  have bx := below_box w3 (.cells #[.bool n.leaf, .slice p.a1 n.ps.length p.c1, .slice p.a2 n.pv.length p.c2, .slice p.a3 n.ks.length p.c3, .slice p.a4 n.bf.length p.c4] 46)
  have r2 := row_later r1 bx
  have E3 := (bx.block (w.heap.size + 1) (Array.getElem?_eq_some_iff.1 E2).1).trans E2
  have R3 := R2.later bx
  have hb3 := hb2.trans (bx.mono (by omega))
  have b3 := b2.trans (bx.mono (by omega))
  clear r1 R2 hb2 b2
  obtain ⟨lB, ps, pv, ks, bf⟩ := n
  obtain ⟨a1, c1, a2, c2, a3, c3, a4, c4⟩ := p
  dsimp only [nv] at *
  generalize ps.length = n1 at *
  generalize pv.length = n2 at *
  generalize ks.length = n3 at *
  generalize bf.length = n4 at *
  go_upto_region 3 with fail
  have hs4 := bx.size
  clear bx
  generalize w3.alloc (.cells #[.bool lB, .slice a1 n1 c1, .slice a2 n2 c2, .slice a3 n3 c3, .slice a4 n4 c4] 46) = w4 at *
  cases hfs : (findI l root).isSome
  case false =>
    have HPe := hid (HN.out hfs)
    go_wp2_with fail
    go_ret
    exact ⟨by rw [HPe.out]; exact PrsOut.row r2, hb3⟩
  case true =>
    clear HN
    go_wp2_with fail
    refine (HR.out _ hb3).mono ?_
    clear HR
    rintro x w5 ⟨rfl, hb5⟩
    have r3 := row_later r2 hb5
    have E4 := (hb5.block (w.heap.size + 1) (Array.getElem?_eq_some_iff.1 E3).1).trans E3
    have R4 := R3.later hb5
    have hs5 := hb5.size
    have hb4 := hb3.trans (hb5.mono (by omega))
    have b4 := b3.trans (hb5.mono (by omega))
    clear r2 R3 hb3 b3 hb5
    cases hrb : rightB l
    case false =>
      have HPe := hid (HP.out.trans (if_neg (by rw [hrb]; simp)))
      go_wp2_with fail
      go_ret
      exact ⟨by rw [HPe.out]; exact PrsOut.row r3, hb4⟩
    case true =>
      have HPe := hid (HP.out.trans (if_pos hrb))
      have hca := HCl.out hrb
      go_wp2_with fail
      refine (HC.out hrb hfs _ hb4).mono ?_
      clear HC HP HCl
      rintro x w6 ⟨⟨a6, c6, rfl, hp6⟩, hb6⟩
      have r4 := row_later r3 hb6
      have E5 := (hb6.block (w.heap.size + 1) (Array.getElem?_eq_some_iff.1 E4).1).trans E4
      have R5 := R4.later hb6
      have hs6 := hb6.size
      have hb5 := hb4.trans (hb6.mono (by omega))
      have b5 := b4.trans (hb6.mono (by omega))
      clear r3 R4 hb4 b4 hb6
      have HX := hid (fun (u : World) (hb : Below w6.heap.size w6 u) => hp6.later hb)
      have HS1 := hid (fun j x (hx : CA[j]? = some x) => rest_at (r := rg lo hi e) hx)
      have HS2 := hid (fun L x => first_snoc most L x)
      have HFl := hid (fun j => (show (firstL most (restL (CA.take j) (rg lo hi e))).length ≤ j from Nat.le_trans (firstL_le _ _) (filter_le _ _ _)))
      have HF0 := hid (show firstL most (restL (CA.take 0) (rg lo hi e)) = [] from by unfold firstL restL; split <;> simp)
      have HFe := hid (show firstL most (restL (CA.take CA.length) (rg lo hi e)) = firstL most (restL CA (rg lo hi e)) by rw [List.take_length])
      have HB6 := hid (fun (b off : Nat) (ha : a6 = some ⟨b, off, none⟩) (hne : CA ≠ []) => (show b ≠ w.heap.size + 1 ∧ b < w6.heap.size from by
        obtain ⟨b', off', e', c0, _⟩ := hp6.at (List.length_pos_iff.2 hne)
        rw [ha] at e'
        simp only [Option.some.injEq, Addr.mk.injEq, and_true] at e'
        obtain ⟨rfl, rfl⟩ := e'
        refine ⟨?_, World.block_lt_of_cell? w6 _ c0⟩
        rintro rfl
        rw [no_cell E5] at c0
        cases c0))
      clear hp6
      obtain ⟨RT, hRT⟩ : ∃ f : Nat → List Pr, (fun j => restL (CA.take j) (rg lo hi e)) = f := ⟨_, rfl⟩
      simp only [show ∀ j, restL (CA.take j) (rg lo hi e) = RT j from fun j => congrFun hRT j] at HS1 HFl HF0 HFe
      clear hRT
      generalize hn : CA.length = nc at *
      have HNc := hid hn
      clear hn
      go_wp2_with fail
      go_loopw [9, 34] (fun v i wr => ∃ (j : Nat), j ≤ nc ∧ i = .int .i64 j ∧ wr.ownsRow (w.heap.size + 1) 50 2 v (firstL most (RT j)).length ((firstL most (RT j)).flatMap Pr.cells) ∧ Below w1.heap.size w1 wr ∧ (Prs wr a6 CA) ∧ Box wr w.heap.size (.string lo) (.string hi) (.bool e) ∧ Hid (∀ g, v.ownBlock = some g → g = w.heap.size + 1 ∨ w6.heap.size ≤ g) ∧ w6.heap.size ≤ wr.heap.size) (fun _ i _ => nc - (intOf i).toNat)
      case atStart => exact ⟨0, Nat.zero_le _, rfl, by rw [HF0.out]; exact r4, b5, HX.out _ (Below.refl _ _), R5, hid (fun g hg => by simp [Value.ownBlock] at hg; exact .inl hg.symm), Nat.le_refl _⟩
      case round =>
        clear r4
        obtain ⟨j, hj, rfl, ho, hb, hpX, RR, HOw, hw6⟩ := hrel
        have hsz := hb.size
        have hbw : Below w.heap.size w wr := hbw0.trans (hb.mono (by omega))
        by_cases hlt : j < nc
        · have hlt' : j < CA.length := by rw [HNc.out]; exact hlt
          obtain ⟨b, off, hA, -⟩ := hpX.at hlt'
          subst hA
          obtain ⟨x, hx⟩ : ∃ x, CA[j]? = some x := ⟨_, List.getElem?_eq_getElem hlt'⟩
          have hxe : CA[j] = x := by rw [List.getElem?_eq_getElem hlt'] at hx; exact Option.some.inj hx
          have HX2 := hid (fun u (hu : Below wr.heap.size wr u) => (show u.cell? ⟨b, off + j * 2, none⟩ = some (.string x.key) ∧ u.cell? ⟨b, off + j * 2 + 1, none⟩ = some (.string x.val) from by
            obtain ⟨b', off', e, hc0, hc1⟩ := (hpX.later hu).at hlt'
            simp only [Option.some.injEq, Addr.mk.injEq, and_true] at e
            obtain ⟨rfl, rfl⟩ := e
            rw [hxe] at hc0 hc1
            exact ⟨hc0, hc1⟩))
          have HSx := hid (HS1.out j x hx)
          have HFx := hid (HS2.out (RT j) x)
          have hfl := HFl.out j
          clear hx hxe
          obtain ⟨xk, xv⟩ := x
          dsimp only at HX2
          rw [show kOf ⟨xk, xv⟩ = xk.data.toList from rfl] at HSx
          have HIx := hid (fun wr => HIn.out xk wr)
          generalize inR (rg lo hi e) xk.data.toList = IB at *
          obtain ⟨FL, hFL⟩ : ∃ L, firstL most (RT j) = L := ⟨_, rfl⟩
          rw [hFL] at ho HFx hfl
          have HFL := hid hFL
          clear hFL
          obtain ⟨oa, on, oc, rfl⟩ := row_slice ho
          have hon : on = FL.length := row_len2 ho
          subst hon
          have key : ∀ (T : Bool), T = (IB && (decide (most < 0) || decide ((FL.length : Int) < most))) → Hid (firstL most (RT (j + 1)) = if T then FL ++ [⟨xk, xv⟩] else FL) := fun T hT => by
            cases IB
            · rw [hT, Bool.false_and, if_neg (by simp)]
              exact hid (by rw [HSx.out, if_neg (by simp)]; exact HFL.out)
            · rw [hT, Bool.true_and]
              refine hid ?_
              rw [HSx.out, if_pos rfl, HFx.out]
              by_cases h1 : most < 0
              · rw [if_pos (.inl h1), decide_eq_true h1, if_pos (by simp)]
              · by_cases h2 : (FL.length : Int) < most
                · rw [if_pos (.inr h2), decide_eq_true h2, if_pos (by simp)]
                · rw [if_neg (by omega), decide_eq_false h1, decide_eq_false h2, if_neg (by simp)]
          cases IB
          case false =>
            have HKy := hid ((key false (by simp)).out.trans (if_neg (by simp)))
            clear key
            go_upto_region 9 with fail
            refine wp_region_quiet (C := fun u => Below wr.heap.size wr u) (by kernel_rfl) (by kernel_rfl) (Below.refl _ wr).drew ?_
            change wpQuiet _ _ _ _ (_ :: _) _
            repeat
              first
                | go_big_quiet_skip
                | go_big_quiet_want
                  first
                    | refine quiet_c (.bool false) 17 #[.agg #[.string lo, .string hi, .bool e], .string xk] ?_ (fun u hu => (HIx.out u).mono fun x u' h => ⟨h.1, hu.trans (h.2.mono hu.size)⟩) ?_
                      · intro u hu
                        go_simp
                        done
                    | refine quiet_v ?_ ?_ ?_
                      rotate_left
                      · intro u hu
                        obtain ⟨r0, r1, r2⟩ := (RR.later hu).cells
                        obtain ⟨x0, x1⟩ := HX2.out u hu
                        go_simp
                        with_reducible rfl
                  go_simp
                  go_big_quiet_on
            refine wpQuiet_nil (fun u hu => ?_)
            have ho2 := row_later ho hu
            have hsu := hu.size
            obtain ⟨x0, x1⟩ := HX2.out u hu
            have hp2 := hpX.later hu
            have RU := RR.later hu
            have hb2 := hb.trans (hu.mono hsz)
            clear ho hpX RR hb HX2 hu HIx
            go_wp2_with fail
            go_roundw
            case rel => exact ⟨j + 1, by omega, by go_num, by rw [HKy.out]; exact ho2, hb2, hp2, RU, HOw, by omega⟩
            case measure => simp [intOf]; omega
          case true =>
            by_cases hm0 : most < 0
            · have HKy := hid ((key true (by simp [hm0])).out.trans (if_pos rfl))
              have hd0 : decide (most < 0) = true := by simp [hm0]
              clear key
              go_upto_region 9 with fail
              refine wp_region_quiet (C := fun u => Below wr.heap.size wr u) (by kernel_rfl) (by kernel_rfl) (Below.refl _ wr).drew ?_
              change wpQuiet _ _ _ _ (_ :: _) _
              repeat
                first
                  | go_big_quiet_skip
                  | go_big_quiet_want
                    first
                      | refine quiet_c (.bool true) 17 #[.agg #[.string lo, .string hi, .bool e], .string xk] ?_ (fun u hu => (HIx.out u).mono fun x u' h => ⟨h.1, hu.trans (h.2.mono hu.size)⟩) ?_
                        · intro u hu
                          go_simp
                          done
                      | refine quiet_v ?_ ?_ ?_
                        rotate_left
                        · intro u hu
                          obtain ⟨r0, r1, r2⟩ := (RR.later hu).cells
                          obtain ⟨x0, x1⟩ := HX2.out u hu
                          go_simp
                          with_reducible rfl
                    go_simp
                    go_big_quiet_on
              refine wpQuiet_nil (fun u hu => ?_)
              have ho2 := row_later ho hu
              have hsu := hu.size
              obtain ⟨x0, x1⟩ := HX2.out u hu
              have hp2 := hpX.later hu
              have RU := RR.later hu
              have hb2 := hb.trans (hu.mono hsz)
              clear ho hpX RR hb HX2 hu HIx
              have hCx := one_news u ⟨xk, xv⟩
              have by2 := below_box u (.cells #[.string xk, .string xv] 50)
              dsimp only at hCx
              have ho3 := row_later ho2 by2
              have hp3 := hp2.later by2
              have RV := RU.later by2
              have hb3 := hb2.trans (by2.mono (by omega))
              have hsv : u.heap.size ≤ (u.alloc (.cells #[.string xk, .string xv] 50)).heap.size := by2.size
              go_wp2_with (first | (at_builtin; refine appPr rfl _ _ rfl (w.heap.size + 1) _ FL rfl ho3 ⟨u.heap.size, 0, none⟩ ⟨xk, xv⟩ rfl hCx (by omega) (by omega) ?_; intro v' w9 h1 h2 h3) | fail)
              have hp4 := hp3.kept h2 (fun b' off' ha hne => by
                obtain ⟨q1, q2⟩ := HB6.out b' off' ha hne
                intro e'
                rcases HOw.out b' e'.symm with q | q <;> omega)
              have hrk : some w.heap.size ≠ (Value.slice oa FL.length oc).ownBlock := fun e' => by have := (World.ownsRow.lt ho3 w.heap.size e'.symm).1; omega
              have RW : Box w9 w.heap.size (.string lo) (.string hi) (.bool e) := (h2.block _ RV.lt hrk).trans RV
              have hb4 := hb3.grown h2 (by omega) (fun k hk => by have := (World.ownsRow.lt ho3 k hk).1; omega)
              have hs9 := h2.size
              have HOw2 := hid (fun g (hg : v'.ownBlock = some g) => (show g = w.heap.size + 1 ∨ w6.heap.size ≤ g from by
                rcases h3 with q | q
                · exact HOw.out g (q.symm.trans hg)
                · rw [hg] at q
                  have := Option.some.inj q
                  exact .inr (by omega)))
              go_roundw
              case rel => exact ⟨j + 1, by omega, by go_num, by rw [HKy.out]; exact h1, hb4, hp4, RW, HOw2, by omega⟩
              case measure => simp [intOf]; omega
            · have hd0 : decide (most < 0) = false := by simp [hm0]
              by_cases hm1 : (FL.length : Int) < most
              · have HKy := hid ((key true (by simp [hm1])).out.trans (if_pos rfl))
                have hd1 : decide ((FL.length : Int) < most) = true := by simp [hm1]
                clear key
                go_upto_region 9 with fail
                refine wp_region_quiet (C := fun u => Below wr.heap.size wr u) (by kernel_rfl) (by kernel_rfl) (Below.refl _ wr).drew ?_
                change wpQuiet _ _ _ _ (_ :: _) _
                repeat
                  first
                    | go_big_quiet_skip
                    | go_big_quiet_want
                      first
                        | refine quiet_c (.bool true) 17 #[.agg #[.string lo, .string hi, .bool e], .string xk] ?_ (fun u hu => (HIx.out u).mono fun x u' h => ⟨h.1, hu.trans (h.2.mono hu.size)⟩) ?_
                          · intro u hu
                            go_simp
                            done
                        | refine quiet_v ?_ ?_ ?_
                          rotate_left
                          · intro u hu
                            obtain ⟨r0, r1, r2⟩ := (RR.later hu).cells
                            obtain ⟨x0, x1⟩ := HX2.out u hu
                            go_simp
                            with_reducible rfl
                      go_simp
                      go_big_quiet_on
                refine wpQuiet_nil (fun u hu => ?_)
                have ho2 := row_later ho hu
                have hsu := hu.size
                obtain ⟨x0, x1⟩ := HX2.out u hu
                have hp2 := hpX.later hu
                have RU := RR.later hu
                have hb2 := hb.trans (hu.mono hsz)
                clear ho hpX RR hb HX2 hu HIx
                have hCx := one_news u ⟨xk, xv⟩
                have by2 := below_box u (.cells #[.string xk, .string xv] 50)
                dsimp only at hCx
                have ho3 := row_later ho2 by2
                have hp3 := hp2.later by2
                have RV := RU.later by2
                have hb3 := hb2.trans (by2.mono (by omega))
                have hsv : u.heap.size ≤ (u.alloc (.cells #[.string xk, .string xv] 50)).heap.size := by2.size
                go_wp2_with (first | (at_builtin; refine appPr rfl _ _ rfl (w.heap.size + 1) _ FL rfl ho3 ⟨u.heap.size, 0, none⟩ ⟨xk, xv⟩ rfl hCx (by omega) (by omega) ?_; intro v' w9 h1 h2 h3) | fail)
                have hp4 := hp3.kept h2 (fun b' off' ha hne => by
                  obtain ⟨q1, q2⟩ := HB6.out b' off' ha hne
                  intro e'
                  rcases HOw.out b' e'.symm with q | q <;> omega)
                have hrk : some w.heap.size ≠ (Value.slice oa FL.length oc).ownBlock := fun e' => by have := (World.ownsRow.lt ho3 w.heap.size e'.symm).1; omega
                have RW : Box w9 w.heap.size (.string lo) (.string hi) (.bool e) := (h2.block _ RV.lt hrk).trans RV
                have hb4 := hb3.grown h2 (by omega) (fun k hk => by have := (World.ownsRow.lt ho3 k hk).1; omega)
                have hs9 := h2.size
                have HOw2 := hid (fun g (hg : v'.ownBlock = some g) => (show g = w.heap.size + 1 ∨ w6.heap.size ≤ g from by
                  rcases h3 with q | q
                  · exact HOw.out g (q.symm.trans hg)
                  · rw [hg] at q
                    have := Option.some.inj q
                    exact .inr (by omega)))
                go_roundw
                case rel => exact ⟨j + 1, by omega, by go_num, by rw [HKy.out]; exact h1, hb4, hp4, RW, HOw2, by omega⟩
                case measure => simp [intOf]; omega
              · have HKy := hid ((key false (by simp [hm0, hm1])).out.trans (if_neg (by simp)))
                have hd1 : decide ((FL.length : Int) < most) = false := by simp [hm1]
                clear key
                go_upto_region 9 with fail
                refine wp_region_quiet (C := fun u => Below wr.heap.size wr u) (by kernel_rfl) (by kernel_rfl) (Below.refl _ wr).drew ?_
                change wpQuiet _ _ _ _ (_ :: _) _
                repeat
                  first
                    | go_big_quiet_skip
                    | go_big_quiet_want
                      first
                        | refine quiet_c (.bool true) 17 #[.agg #[.string lo, .string hi, .bool e], .string xk] ?_ (fun u hu => (HIx.out u).mono fun x u' h => ⟨h.1, hu.trans (h.2.mono hu.size)⟩) ?_
                          · intro u hu
                            go_simp
                            done
                        | refine quiet_v ?_ ?_ ?_
                          rotate_left
                          · intro u hu
                            obtain ⟨r0, r1, r2⟩ := (RR.later hu).cells
                            obtain ⟨x0, x1⟩ := HX2.out u hu
                            go_simp
                            with_reducible rfl
                      go_simp
                      go_big_quiet_on
                refine wpQuiet_nil (fun u hu => ?_)
                have ho2 := row_later ho hu
                have hsu := hu.size
                obtain ⟨x0, x1⟩ := HX2.out u hu
                have hp2 := hpX.later hu
                have RU := RR.later hu
                have hb2 := hb.trans (hu.mono hsz)
                clear ho hpX RR hb HX2 hu HIx
                go_wp2_with fail
                go_roundw
                case rel => exact ⟨j + 1, by omega, by go_num, by rw [HKy.out]; exact ho2, hb2, hp2, RU, HOw, by omega⟩
                case measure => simp [intOf]; omega
        · obtain rfl : j = nc := by omega
          rw [HFe.out] at ho
          go_wp2_with fail
          go_ret
          exact ⟨by rw [HPe.out]; exact PrsOut.row ho, hbw⟩
end Go.Proofs.YtegmpfmhlpdmhaaGreat.Key
