/-
  Contract of a map's Put.
-/
import Derived.Test.YtobbgndabmnbcaaMap
namespace Go.Proofs.Ytobbgndabmnbcaa.Key
open Go.RowKit Go.Lib
open Go.Op (bytesLess)

def putK (ks : List ByteArray) (x : ByteArray) : List ByteArray := if there ks x then ks else insertAt ks (pos ks x) x
def putV (ks vs : List ByteArray) (x v : ByteArray) : List ByteArray := if there ks x then vs.set (pos ks x) v else insertAt vs (pos ks x) v
theorem insertAt_mem {ss : List ByteArray} {i : Nat} {x y : ByteArray} (h : y ∈ insertAt ss i x) : y ∈ ss ∨ y = x := by
  unfold insertAt at h
  rcases List.mem_append.1 h with h | h
  · exact .inl (List.mem_of_mem_take h)
  · rcases List.mem_cons.1 h with h | h
    · exact .inr h
    · exact .inl (List.mem_of_mem_drop h)
theorem there_cons (k : ByteArray) (ks : List ByteArray) (x : ByteArray) : there (k :: ks) x = if lessS k x then there ks x else decide (k = x) := by
  unfold there
  rw [pos_cons]
  split
  · exact decide_eq_decide.2 (by simp [List.getD])
  · exact decide_eq_decide.2 (by simp [List.getD])
theorem OwnS.slice {w : World} {B : Nat} {v : Value} {ss : List ByteArray} (h : OwnS w B v ss) : ∃ a n c, v = .slice a n c := by
  rcases h.2 with ⟨rfl, _⟩ | ⟨g, cap, cur, rfl, _⟩
  · exact ⟨_, _, _, rfl⟩
  · exact ⟨_, _, _, rfl⟩
theorem rise_insert : ∀ (ks : List ByteArray) (x : ByteArray), Rising ks → there ks x = false → Rising (insertAt ks (pos ks x) x)
  | [], x, _, _ => by simp [insertAt, pos, Rising]
  | k :: ks, x, hr, ht => by
    obtain ⟨h1, h2⟩ := List.pairwise_cons.1 hr
    rw [there_cons] at ht
    rw [pos_cons]
    split
    · rename_i hk
      rw [if_pos hk] at ht
      have ih := rise_insert ks x h2 ht
      have e : insertAt (k :: ks) (pos ks x + 1) x = k :: insertAt ks (pos ks x) x := by simp [insertAt]
      rw [e]
      refine List.pairwise_cons.2 ⟨fun y hy => ?_, ih⟩
      rcases insertAt_mem hy with hy | rfl
      · exact h1 y hy
      · exact hk
    · rename_i hk
      rw [if_neg hk] at ht
      have hkx : lessS x k = true := by
        cases hl : lessS x k with
        | true => rfl
        | false => exact absurd (lessS_same (by simpa using hk) hl) (by simpa using ht)
      have e : insertAt (k :: ks) 0 x = x :: k :: ks := by simp [insertAt]
      rw [e]
      refine List.pairwise_cons.2 ⟨fun y hy => ?_, hr⟩
      rcases List.mem_cons.1 hy with rfl | hy
      · exact hkx
      · exact lessS_trans hkx (h1 y hy)
/-- a field of a map that is stored -/
theorem box_set0 {w : World} {k : Nat} {a b : Value} (h : w.heap[k]? = some (.cells #[a, b] 79 (0, 0))) (v : Value) : (w.setCell ⟨k, 0, none⟩ v).heap[k]? = some (.cells #[v, b] 79 (0, 0)) ∧ w.grownBy (w.setCell ⟨k, 0, none⟩ v) (some k) := by
  rw [setCell_eq_setRow w k 0 _ 79 (0, 0) _ h]
  refine ⟨?_, ⟨rfl, rfl, rfl, by simp [World.setRow], fun j hj hne => setRow_other w k j _ (fun e => hne (by rw [e]))⟩⟩
  rw [setRow_heap w k _ _ 79 _ h]
  rfl
theorem box_set1 {w : World} {k : Nat} {a b : Value} (h : w.heap[k]? = some (.cells #[a, b] 79 (0, 0))) (v : Value) : (w.setCell ⟨k, 1, none⟩ v).heap[k]? = some (.cells #[a, v] 79 (0, 0)) ∧ w.grownBy (w.setCell ⟨k, 1, none⟩ v) (some k) := by
  rw [setCell_eq_setRow w k 1 _ 79 (0, 0) _ h]
  refine ⟨?_, ⟨rfl, rfl, rfl, by simp [World.setRow], fun j hj hne => setRow_other w k j _ (fun e => hne (by rw [e]))⟩⟩
  rw [setRow_heap w k _ _ 79 _ h]
  rfl
theorem apart_swap {a b : Option Nat} (h : a = none ∨ a ≠ b) : b = none ∨ b ≠ a := by
  cases b with
  | none => exact .inl rfl
  | some b =>
    right
    rcases h with rfl | h
    · simp
    · exact fun e => h e.symm
theorem grown_below {B : Nat} {a w w' : World} {row : Option Nat} (h : Below B a w) (hB : B ≤ w.heap.size) (hg : w.grownBy w' row) (hr : ∀ k, row = some k → B ≤ k) : Below B a w' := h.grown hg hB hr

set_option maxHeartbeats 600000 in
theorem put45 (B k : Nat) (kv vv : Value) (ks vs : List ByteArray) (x v : ByteArray) (w0 w : World) (h : SMap w B k kv vv ks vs) (hl : ks.length ≤ 10000) (hbel : Below B w0 w) :
    Calls Try.prog 45 #[.pointer (some ⟨k, 0, none⟩), .string x, .string v] w fun e w' => (∃ b, e = .returned (.bool b)) ∧ (∃ kv' vv', SMap w' B k kv' vv' (putK ks x) (putV ks vs x v)) ∧ Below B w0 w' := by
  have HF := find54 B k kv vv ks vs x w h (by omega)
  have HK := hid (show putK ks x = if there ks x then ks else insertAt ks (pos ks x) x from rfl)
  have HV := hid (show putV ks vs x v = if there ks x then vs.set (pos ks x) v else insertAt vs (pos ks x) v from rfl)
  have hpl := pos_le ks x
  have hBk := h.above
  have hklt := h.lt
  generalize putK ks x = PK at *
  generalize putV ks vs x v = PV at *
  cases ht : there ks x
  · have hri := rise_insert ks x h.rise ht
    rw [ht] at HK HV HF
    replace HK : Hid (PK = insertAt ks (pos ks x) x) := HK.out.trans (if_neg (by simp))
    replace HV : Hid (PV = insertAt vs (pos ks x) v) := HV.out.trans (if_neg (by simp))
    have hpv : pos ks x ≤ vs.length := by rw [h.both]; exact hpl
    have HLN := hid (show (insertAt vs (pos ks x) v).length = (insertAt ks (pos ks x) x).length by rw [insertAt_length vs _ v hpv, insertAt_length ks _ x hpl, h.both])
    replace hri := hid hri
    generalize pos ks x = p at *
    go_enter Try.func45, Try.ntmps45
    go_wp2_with fail
    refine HF.mono ?_
    rintro e w1 ⟨rfl, hb1⟩
    have h1 := h.later hb1
    have hbe1 := hbel.trans (hb1.mono (by omega))
    have hs1 := hb1.size
    have c0 := cell_of_row _ _ 0 _ _ _ h1.box
    dsimp at c0
    have h2 := h1.later (below_box w1 (.cells #[.string x] 9))
    have I1 := insert55 B kv ks p x w1.heap.size _ h2.keys hpl (by omega) (Go.heap_alloc_new w1 _) (fun e => by
      have := (World.ownsRow.lt h1.keys _ e).2
      omega) (by simp; omega)
    have hbe2 := hbe1.alloc (by omega) (.cells #[.string x] 9)
    clear HF hb1
    go_wp2_with fail
    refine I1.mono ?_
    rintro e w3 ⟨kv', rfl, hk3, hg3, hor3⟩
    obtain ⟨sa, sn, sc, hkve⟩ := hk3.slice
    have hk2 : k < (w1.alloc (.cells #[.string x] 9)).heap.size := h2.lt
    have hbox3 := (hg3.block k hk2 (fun e => h1.apart.1 e.symm)).trans h2.box
    have hv3 := h2.vals.kept hg3 (apart_swap h1.apart.2.2)
    have hbe3 := grown_below hbe2 (by simp; omega) hg3 (fun j hj => (World.ownsRow.lt h1.keys j hj).1)
    have hs3 := hg3.size
    have hkk : kv'.ownBlock ≠ some k := by
      rcases hor3 with e | ⟨j, e, hj⟩
      · rw [e]; exact h1.apart.1
      · rw [e]; intro e2; cases e2; omega
    have hkvv : kv'.ownBlock = none ∨ kv'.ownBlock ≠ vv.ownBlock := by
      rcases hor3 with e | ⟨j, e, hj⟩
      · rw [e]; exact h1.apart.2.2
      · right
        rw [e]
        intro e2
        have := (World.ownsRow.lt h2.vals j e2.symm).2
        omega
    obtain ⟨hbox4, hg4⟩ := box_set0 hbox3 kv'
    have hv4 := hv3.kept hg4 (.inr h1.apart.2.1)
    have hk4 := hk3.kept hg4 (.inr hkk)
    have hbe4 := grown_below hbe3 (by omega) hg4 (fun j hj => by cases hj; exact hBk)
    have hs4 := hg4.size
    have e0 := cell_of_row _ _ 0 _ _ _ hbox3
    have e1 := cell_of_row _ _ 1 _ _ _ hbox3
    have f0 := frozen_of_row _ _ 0 _ _ hbox3
    dsimp at e0 e1
    have hbb := below_box (w3.setCell ⟨k, 0, none⟩ kv') (.cells #[.string v] 9)
    have hv5 := hv4.later hbb
    have hk5 := hk4.later hbb
    have hbox5 := (hbb.block k (by have := h2.lt; omega)).trans hbox4
    have I2 := insert55 B vv vs p v (w3.setCell ⟨k, 0, none⟩ kv').heap.size _ hv5 hpv (by rw [h.both]; omega) (Go.heap_alloc_new _ _) (fun e => by
      have := (World.ownsRow.lt hv4 _ e).2
      omega) (by simp; omega)
    have hbe5 := hbe4.alloc (by omega) (.cells #[.string v] 9)
    have hsz4 : (w3.setCell ⟨k, 0, none⟩ kv').heap.size = w3.heap.size := by simp
    rw [hsz4] at I2
    clear I1 c0 h2
    subst hkve
    go_wp2_with fail
    refine I2.mono ?_
    rintro e w6 ⟨vv', rfl, hv6, hg6, hor6⟩
    obtain ⟨ta, tn, tc, hvve⟩ := hv6.slice
    have hs5 : (w3.setCell ⟨k, 0, none⟩ (.slice sa sn sc)).heap.size + 1 = ((w3.setCell ⟨k, 0, none⟩ (.slice sa sn sc)).alloc (.cells #[.string v] 9)).heap.size := by simp
    have hs6 := hg6.size
    have hk3' : k < w3.heap.size := by omega
    have hbox6 := (hg6.block k (by omega) (fun e => h1.apart.2.1 e.symm)).trans hbox5
    have hk6 := hk5.kept hg6 hkvv
    have hbe6 := grown_below hbe5 (by omega) hg6 (fun j hj => (World.ownsRow.lt hv4 j hj).1)
    have hvk : vv'.ownBlock ≠ some k := by
      rcases hor6 with e | ⟨j, e, hj⟩
      · rw [e]; exact h1.apart.2.1
      · rw [e]; intro e2; cases e2; omega
    have hkv' : (Value.slice sa sn sc).ownBlock = none ∨ (Value.slice sa sn sc).ownBlock ≠ vv'.ownBlock := by
      rcases hor6 with e | ⟨j, e, hj⟩
      · rw [e]; exact hkvv
      · right
        rw [e]
        intro e2
        have := (World.ownsRow.lt hk5 j e2).2
        omega
    obtain ⟨hbox7, hg7⟩ := box_set1 hbox6 vv'
    have hv7 := hv6.kept hg7 (.inr hvk)
    have hk7 := hk6.kept hg7 (.inr hkk)
    have hbe7 := grown_below hbe6 (by omega) hg7 (fun j hj => by cases hj; exact hBk)
    have e6 := cell_of_row _ _ 1 _ _ _ hbox6
    have f6 := frozen_of_row _ _ 1 _ _ hbox6
    dsimp at e6
    have HS := hid (SMap.mk hbox7 hBk hk7 hv7 hri.out HLN.out ⟨hkk, hvk, hkv'⟩)
    replace hbe7 := hid hbe7
    subst hvve
    clear I2 e0 e1 f0 hbox5 hbox4 hbox3 hbox6 hbox7 hv7 hk7 hk6 hv6
    go_wp2_with fail
    go_ret
    exact ⟨⟨_, rfl⟩, ⟨_, _, by rw [HK.out, HV.out]; exact HS.out⟩, hbe7.out⟩
  · have hp : pos ks x < ks.length := by unfold there at ht; simp at ht; exact ht.1
    rw [ht] at HK HV HF
    replace HK : Hid (PK = ks) := HK.out.trans (if_pos rfl)
    replace HV : Hid (PV = vs.set (pos ks x) v) := HV.out.trans (if_pos rfl)
    generalize pos ks x = p at *
    go_enter Try.func45, Try.ntmps45
    go_wp2_with fail
    refine HF.mono ?_
    rintro e w1 ⟨rfl, hb1⟩
    have h1 := h.later hb1
    have c1 := cell_of_row _ _ 1 _ _ _ h1.box
    dsimp at c1
    rcases h1.vals.row with ⟨_, rfl⟩ | ⟨g, cap, cur, rfl, hBg, hg, hcap, hmax⟩
    · exact absurd h.both (by simp; omega)
    · obtain ⟨d1, d2, d3⟩ := cells_at hg
      have hpv : p < vs.length := by rw [h.both]; exact hp
      have e0 := d1 p (.string vs[p]) (by rw [List.getElem?_append_left (by simpa using hpv)]; simp [List.getElem?_eq_getElem hpv])
      rw [Nat.zero_add] at e0
      have f0 := d2 p
      obtain ⟨s1, s2⟩ := OwnS.stored h1.vals rfl hpv v
      replace s1 := hid s1
      replace s2 := hid s2
      clear d1 d2 d3 HF
      go_wp2_with fail
      go_ret
      have hap := h1.apart
      have hne : some k ≠ some g := fun e => hap.2.1 (by rw [e]; rfl)
      have hlt1 : k < w1.heap.size := h1.lt
      refine ⟨⟨_, rfl⟩, ⟨kv, _, ⟨(s2.out.block k hlt1 hne).trans h1.box, hBk, ?_, ?_, ?_, ?_, hap⟩⟩, ?_⟩
      · rw [HK.out]
        exact h1.keys.kept s2.out (hap.2.2.imp id fun hh => hh)
      · rw [HV.out]
        exact s1.out
      · rw [HK.out]
        exact h1.rise
      · rw [HV.out, HK.out, List.length_set]
        exact h.both
      · exact grown_below (hbel.trans (hb1.mono (by omega))) (by have := hb1.size; omega) s2.out (fun j hj => by cases hj; exact hBg)
end Go.Proofs.Ytobbgndabmnbcaa.Key
