/-
  Contract of a map's Delete.
-/
import Derived.Test.YtobbgndabmnbcaaPut
namespace Go.Proofs.Ytobbgndabmnbcaa.Key
open Go.RowKit Go.Lib
open Go.Op (bytesLess)

def delK (ks : List ByteArray) (x : ByteArray) : List ByteArray := if there ks x then ks.eraseIdx (pos ks x) else ks
def delV (ks vs : List ByteArray) (x : ByteArray) : List ByteArray := if there ks x then vs.eraseIdx (pos ks x) else vs
theorem rise_erase {ks : List ByteArray} (i : Nat) (h : Rising ks) : Rising (ks.eraseIdx i) := List.Pairwise.sublist (List.eraseIdx_sublist ..) h

set_option maxHeartbeats 600000 in
theorem del46 (B k : Nat) (kv vv : Value) (ks vs : List ByteArray) (x : ByteArray) (w0 w : World) (h : SMap w B k kv vv ks vs) (hl : ks.length ≤ 10000) (hbel : Below B w0 w) :
    Calls Try.prog 46 #[.pointer (some ⟨k, 0, none⟩), .string x] w fun e w' => (∃ b, e = .returned (.bool b)) ∧ (∃ kv' vv', SMap w' B k kv' vv' (delK ks x) (delV ks vs x)) ∧ Below B w0 w' := by
  have HF := find54 B k kv vv ks vs x w h (by omega)
  have HK := hid (show delK ks x = if there ks x then ks.eraseIdx (pos ks x) else ks from rfl)
  have HV := hid (show delV ks vs x = if there ks x then vs.eraseIdx (pos ks x) else vs from rfl)
  have hBk := h.above
  have hklt := h.lt
  generalize delK ks x = PK at *
  generalize delV ks vs x = PV at *
  cases ht : there ks x
  · rw [ht] at HK HV HF
    replace HK : Hid (PK = ks) := HK.out.trans (if_neg (by simp))
    replace HV : Hid (PV = vs) := HV.out.trans (if_neg (by simp))
    go_enter Try.func46, Try.ntmps46
    go_wp2_with fail
    refine HF.mono ?_
    rintro e w1 ⟨rfl, hb1⟩
    have h1 := h.later hb1
    go_wp2_with fail
    go_ret
    exact ⟨⟨_, rfl⟩, ⟨kv, vv, by rw [HK.out, HV.out]; exact h1⟩, hbel.trans (hb1.mono (by omega))⟩
  · have hp : pos ks x < ks.length := by unfold there at ht; simp at ht; exact ht.1
    rw [ht] at HK HV HF
    replace HK : Hid (PK = ks.eraseIdx (pos ks x)) := HK.out.trans (if_pos rfl)
    replace HV : Hid (PV = vs.eraseIdx (pos ks x)) := HV.out.trans (if_pos rfl)
    have hpv : pos ks x < vs.length := by rw [h.both]; exact hp
    have HLN := hid (show (vs.eraseIdx (pos ks x)).length = (ks.eraseIdx (pos ks x)).length by rw [erase_length _ _ hpv, erase_length _ _ hp, h.both])
    have hri := hid (rise_erase (pos ks x) h.rise)
    generalize pos ks x = p at *
    go_enter Try.func46, Try.ntmps46
    go_wp2_with fail
    refine HF.mono ?_
    rintro e w1 ⟨rfl, hb1⟩
    have h1 := h.later hb1
    have hbe1 := hbel.trans (hb1.mono (by omega))
    have hs1 := hb1.size
    have c0 := cell_of_row _ _ 0 _ _ _ h1.box
    dsimp at c0
    have I1 := delete56 B kv ks p w1 h1.keys hp
    clear HF hb1
    go_wp2_with fail
    refine I1.mono ?_
    rintro e w3 ⟨kv', rfl, hk3, hg3, hor3⟩
    obtain ⟨sa, sn, sc, hkve⟩ := hk3.slice
    have hbox3 := (hg3.block k h1.lt (fun e => h1.apart.1 e.symm)).trans h1.box
    have hv3 := h1.vals.kept hg3 (apart_swap h1.apart.2.2)
    have hbe3 := grown_below hbe1 (by omega) hg3 (fun j hj => (World.ownsRow.lt h1.keys j hj).1)
    have hs3 := hg3.size
    have hkk : kv'.ownBlock ≠ some k := by rw [hor3]; exact h1.apart.1
    have hkvv : kv'.ownBlock = none ∨ kv'.ownBlock ≠ vv.ownBlock := by rw [hor3]; exact h1.apart.2.2
    obtain ⟨hbox4, hg4⟩ := box_set0 hbox3 kv'
    have hv4 := hv3.kept hg4 (.inr h1.apart.2.1)
    have hk4 := hk3.kept hg4 (.inr hkk)
    have hbe4 := grown_below hbe3 (by omega) hg4 (fun j hj => by cases hj; exact hBk)
    have hs4 := hg4.size
    have e0 := cell_of_row _ _ 0 _ _ _ hbox3
    have e1 := cell_of_row _ _ 1 _ _ _ hbox3
    have f0 := frozen_of_row _ _ 0 _ _ hbox3
    dsimp at e0 e1
    have I2 := delete56 B vv vs p _ hv4 hpv
    clear I1 c0
    subst hkve
    go_wp2_with fail
    refine I2.mono ?_
    rintro e w6 ⟨vv', rfl, hv6, hg6, hor6⟩
    obtain ⟨ta, tn, tc, hvve⟩ := hv6.slice
    have hs6 := hg6.size
    have hk3' : k < (w3.setCell ⟨k, 0, none⟩ (.slice sa sn sc)).heap.size := by have := h1.lt; omega
    have hbox6 := (hg6.block k hk3' (fun e => h1.apart.2.1 e.symm)).trans hbox4
    have hk6 := hk4.kept hg6 hkvv
    have hbe6 := grown_below hbe4 (by omega) hg6 (fun j hj => (World.ownsRow.lt hv4 j hj).1)
    have hvk : vv'.ownBlock ≠ some k := by rw [hor6]; exact h1.apart.2.1
    have hkv' : (Value.slice sa sn sc).ownBlock = none ∨ (Value.slice sa sn sc).ownBlock ≠ vv'.ownBlock := by rw [hor6]; exact hkvv
    obtain ⟨hbox7, hg7⟩ := box_set1 hbox6 vv'
    have hv7 := hv6.kept hg7 (.inr hvk)
    have hk7 := hk6.kept hg7 (.inr hkk)
    have hbe7 := grown_below hbe6 (by omega) hg7 (fun j hj => by cases hj; exact hBk)
    have e6 := cell_of_row _ _ 1 _ _ _ hbox6
    have f6 := frozen_of_row _ _ 1 _ _ hbox6
    dsimp at e6
    have HS := hid (SMap.mk hbox7 hBk hk7 hv7 hri.out HLN.out ⟨hkk, hvk, hkv'⟩)
    replace hbe7 := hid hbe7
    subst hvve
    clear I2 e0 e1 f0 hbox4 hbox3 hbox6 hbox7 hv7 hk7 hk6 hv6
    go_wp2_with fail
    go_ret
    exact ⟨⟨_, rfl⟩, ⟨_, _, by rw [HK.out, HV.out]; exact HS.out⟩, hbe7.out⟩
end Go.Proofs.Ytobbgndabmnbcaa.Key
