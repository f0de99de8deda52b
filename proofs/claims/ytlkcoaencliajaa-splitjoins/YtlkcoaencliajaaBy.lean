/-
  Contracts of byEdge, byMsg, byPairs, and of the document's on and Get.
-/
import Derived.Test.YtlkcoaencliajaaPiv
namespace Go.Proofs.Ytlkcoaencliajaa.Key
open Go.RowKit
open Go.Op (bytesLess)

theorem below_five {B k : Nat} {w w' : World} (h : Below B w w') (hk : B ≤ k) (v0 v1 v2 v3 v4 : Value) :
    Below B w (((((w'.setCell ⟨k, 0, none⟩ v0).setCell ⟨k, 1, none⟩ v1).setCell ⟨k, 2, none⟩ v2).setCell ⟨k, 3, none⟩ v3).setCell ⟨k, 4, none⟩ v4) :=
  ((((h.setCell (p := ⟨k, 0, none⟩) hk _).setCell (p := ⟨k, 1, none⟩) hk _).setCell (p := ⟨k, 2, none⟩) hk _).setCell (p := ⟨k, 3, none⟩) hk _).setCell (p := ⟨k, 4, none⟩) hk _
/-- where a key leads by an edge -/
def byE (e : E) (k : List UInt8) : Wy := if upB (lf e.strip e.add) k then ⟨2, ⟨#[]⟩, e.blk, e.deep, upS (lf e.strip e.add) k⟩ else noWay
/-- .. by a message -/
def byM (m : M) (k : List UInt8) : Wy := if m.kind = 1 then toVal m.val else if m.kind = 3 then byE ⟨m.blk, m.deep, m.key, m.add⟩ k else noWay

set_option maxRecDepth 100000 in
set_option maxHeartbeats 1000000 in
theorem on54 (e : E) (k : ByteArray) (w : World) (ha : e.add.size ≤ 1000000) (hk : k.size ≤ 1000000) :
    Calls Try.prog 69 #[.int .u32 e.blk, .int .u16 e.deep, lv e.strip e.add, .string k] w fun x w' => x = .returned (wv (byE e k.data.toList)) ∧ Below w.heap.size w w' := by
  have HU := fun w => up62 e.strip e.add k w ha hk
  have hE : byE e k.data.toList = if upB (lf e.strip e.add) k.data.toList then ⟨2, ⟨#[]⟩, e.blk, e.deep, upS (lf e.strip e.add) k.data.toList⟩ else noWay := rfl
  generalize upB (lf e.strip e.add) k.data.toList = B at *
  generalize upS (lf e.strip e.add) k.data.toList = S at *
  have W0 := WBox.new (w.alloc (.cells #[.string e.strip, .string e.add] 70)) (.int .u8 0) (.string ⟨#[]⟩) (.int .u32 0) (.int .u16 0) (.string ⟨#[]⟩)
  have hb0 : Below w.heap.size w ((w.alloc (.cells #[.string e.strip, .string e.add] 70)).alloc (.cells #[.int .u8 0, .string ⟨#[]⟩, .int .u32 0, .int .u16 0, .string ⟨#[]⟩] 56)) := (below_box w _).alloc (by simp) _
  simp only [World.size_alloc] at W0
  rw [hE]
  clear hE
  obtain ⟨bk, dp, st, ad⟩ := e
  dsimp only at *
  go_enter Try.func69, Try.ntmps69
  go_wp2_with fail
  refine (HU _).mono ?_
  clear HU
  rintro x w1 ⟨rfl, hb1⟩
  have hb2 := hb0.trans (hb1.mono hb0.size)
  have W1 := W0.later hb1
  obtain ⟨v0, v1, v2, v3, v4⟩ := W1.cells
  have f := W1.free
  have f0 := f 0
  have f1 := f 1
  have f2 := f 2
  have f3 := f 3
  have f4 := f 4
  clear f W0 W1 hb0 hb1 ha hk
  cases B
  · go_wp2_with fail
    exact bodyPost_ret (v := .agg #[.int .u8 0, .string ⟨#[]⟩, .int .u32 0, .int .u16 0, .string ⟨#[]⟩]) (by simp [results, Try.results69, go_sem, v0, v1, v2, v3, v4]) rfl ⟨rfl, below_five hb2 (by omega) _ _ _ _ _⟩
  · go_wp2_with fail
    exact bodyPost_ret (v := .agg #[.int .u8 2, .string ⟨#[]⟩, .int .u32 bk, .int .u16 dp, .string S]) (by simp [results, Try.results69, go_sem, v0, v1, v2, v3, v4]) rfl ⟨rfl, below_five hb2 (by omega) _ _ _ _ _⟩

/-- the pair of a key -/
def isK (k : List UInt8) (p : Pr) : Bool := p.key.data.toList == k
def getP (ps : List Pr) (k : List UInt8) : Option Pr := ps.find? (isK k)
def getV (ps : List Pr) (k : List UInt8) : ByteArray := ((getP ps k).map (·.val)).getD ⟨#[]⟩
def getB (ps : List Pr) (k : List UInt8) : Bool := (getP ps k).isSome
def pairW (ps : List Pr) (k : List UInt8) : Wy := if getB ps k then toVal (getV ps k) else noWay
theorem find_at {α : Type} (p : α → Bool) : ∀ (l : List α) (j : Nat) (h : j < l.length), (l.take j).any p = false → p l[j] = true → l.find? p = some l[j]
  | [], j, h, _, _ => by simp at h
  | x :: l, 0, _, _, hp => by simp at hp; simp [hp]
  | x :: l, j + 1, h, ha, hp => by
    rw [List.take_succ_cons, List.any_cons, Bool.or_eq_false_iff] at ha
    rw [List.find?_cons, ha.1]
    exact find_at p l j (by simpa using h) ha.2 (by simpa using hp)
theorem found_at {ps : List Pr} {k : List UInt8} {j : Nat} {x : Pr} (hx : ps[j]? = some x) (h1 : (ps.take j).any (isK k) = false) (h2 : isK k x = true) : ps.find? (isK k) = some x := by
  obtain ⟨hj, rfl⟩ := List.getElem?_eq_some_iff.1 hx
  exact find_at (isK k) ps j hj h1 h2
theorem find_no {α : Type} (p : α → Bool) (l : List α) (h : l.any p = false) : l.find? p = none := by
  rw [List.find?_eq_none]
  intro x hx hp
  rw [List.any_eq_true.2 ⟨x, hx, hp⟩] at h
  cases h
theorem isK_str (k : ByteArray) (p : Pr) : (p.key.toList == k.toList) = isK k.data.toList p := by rw [isK, Lib.toList_data, Lib.toList_data]

set_option maxRecDepth 100000 in
set_option maxHeartbeats 1000000 in
theorem get51 (a : Option Addr) (c : Nat) (ps : List Pr) (k : ByteArray) (w : World) (hl : ps.length ≤ 1000) (h : Prs w a ps) :
    Calls Try.prog 66 #[.slice a ps.length c, .string k] w fun x w' => x = .returned (.tuple #[.string (getV ps k.data.toList), .bool (getB ps k.data.toList)]) ∧ w' = w := by
  have HY := hid (fun (j : Nat) (x : Pr) (hx : ps[j]? = some x) (h1 : (ps.take j).any (isK k.data.toList) = false) (h2 : isK k.data.toList x = true) => show getV ps k.data.toList = x.val ∧ getB ps k.data.toList = true by unfold getB getV getP; rw [found_at hx h1 h2]; exact ⟨rfl, rfl⟩)
  have HN := hid (fun (h1 : ps.any (isK k.data.toList) = false) => show getV ps k.data.toList = ⟨#[]⟩ ∧ getB ps k.data.toList = false by unfold getV getB getP; rw [find_no (isK k.data.toList) ps h1]; exact ⟨rfl, rfl⟩)
  generalize getV ps k.data.toList = R at *
  generalize getB ps k.data.toList = B at *
  generalize hn : ps.length = n at *
  have HL := hid hn
  clear hn
  go_enter Try.func66, Try.ntmps66
  go_wp2_with fail
  go_loop [9] (fun i => ∃ j : Nat, j ≤ n ∧ i = .int .i64 j ∧ Hid ((ps.take j).any (isK k.data.toList) = false)) (fun i => n - (intOf i).toNat)
  case atStart => exact ⟨0, Nat.zero_le _, rfl, by simp [Hid]⟩
  case round =>
    obtain ⟨j, hj, rfl, hjn⟩ := hrel
    by_cases hlt : j < n
    · have hlt' : j < ps.length := by rw [HL.out]; exact hlt
      obtain ⟨b, off, rfl, h6⟩ := h.at hlt'
      have HV := hid (HY.out j ps[j] (List.getElem?_eq_getElem hlt') hjn.out)
      have hK := isK_str k ps[j]
      obtain ⟨x, HS⟩ : ∃ s, Hid (ps[j] = s) := ⟨_, hid rfl⟩
      rw [HS.out] at h6 HV hK
      have HK := hid hK
      clear hK
      obtain ⟨xk, xv⟩ := x
      obtain ⟨d0, d1⟩ := h6
      dsimp only at d0 d1 HV HK
      cases q : (xk.toList == k.toList)
      · have HF : Hid (isK k.data.toList ⟨xk, xv⟩ = false) := hid (by rw [← HK.out, q])
        go_wp2_with fail
        go_round
        case rel => exact ⟨j + 1, by omega, by go_num, by unfold Hid at *; rw [any_take_succ ps (isK k.data.toList) hlt', hjn, HS, HF]; rfl⟩
        case measure => simp [intOf]; omega
      · have HF : Hid (R = xv ∧ B = true) := hid (HV.out (by rw [← HK.out, q]))
        clear HV HK
        go_wp2_with fail
        exact bodyPost_ret (v := .tuple #[.string xv, .bool true]) (by simp [results, Try.results66, go_sem]) rfl ⟨ret_two HF.out.1.symm HF.out.2.symm, rfl⟩
    · obtain rfl : j = n := by omega
      have HF : Hid (R = ⟨#[]⟩ ∧ B = false) := hid (HN.out (by have := hjn.out; rw [← HL.out, List.take_length] at this; exact this))
      go_wp2_with fail
      exact bodyPost_ret (v := .tuple #[.string ⟨#[]⟩, .bool false]) (by simp [results, Try.results66, go_sem]) rfl ⟨ret_two HF.out.1.symm HF.out.2.symm, rfl⟩
end Go.Proofs.Ytlkcoaencliajaa.Key
