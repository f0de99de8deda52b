/-
  Contracts of marcotref02.PutText and of awake.
-/
import Derived.Test.YtkefkjpacfgbdaaRef
namespace Go.Proofs.Ytkefkjpacfgbdaa.Pack
open Go.RowKit

set_option maxHeartbeats 4000000 in
theorem ref_putText (s : ByteArray) (hs : s.size ≤ maxLen) (a : Option Addr) (l cap : Nat) (zs : List Int) (w : World) (hl : zs.length = l) (hb : Bytes w a zs) (hnil : a = none → l = 0 ∧ cap = 0) (hm : l ≤ 100000) :
    Calls Try.prog 14 #[.slice a l cap, .string s] w fun e w' => ∃ v, e = .returned v ∧ Own w' w.heap.size v (zs ++ txt s) ∧ Below w.heap.size w w' := by
  unfold maxLen at hs
  by_cases h : s.size ≤ 255
  · rw [txt_short s h]
    have H := hid (ref_put_1 s.size (by omega) a l cap zs w hl hb hnil hm)
    have hd : decide ((255 : Int) < (s.size : Int)) = false := by simp; omega
    go_enter Try.func14, Try.ntmps14
    go_wp2_with fail
    refine H.out.mono ?_
    rintro e w1 ⟨v1, rfl, ho0, hb0⟩
    rw [← be_1 s.size (by omega)] at ho0
    clear hb H
    go_wp2_with (at_builtin; refine appS rfl (.tmp 16) (.tmp 17) rfl _ _ _ rfl ho0 s rfl (by simp; omega) (Nat.le_refl _) hb0 ?_; intro v3 w3 ho2 hb2; clear ho0 hb0)
    obtain ⟨a6, c6, rfl, _, _, _⟩ := ho2.form
    go_ret
    exact ⟨_, rfl, by simpa using ho2, hb2⟩
  · rw [txt_long s (by omega)]
    have H := hid (ref_put_1 255 (by omega) a l cap zs w hl hb hnil hm)
    have hz : (s.extract 0 255).size = 255 := by simp [ByteArray.size_extract]; omega
    have hd : decide ((255 : Int) < (s.size : Int)) = true := by simp; omega
    go_enter Try.func14, Try.ntmps14
    go_wp2_with fail
    refine H.out.mono ?_
    rintro e w1 ⟨v1, rfl, ho0, hb0⟩
    clear hb H
    go_wp2_with (at_builtin; refine appS rfl (.tmp 16) (.tmp 17) rfl _ _ _ rfl ho0 (s.extract 0 255) rfl (by rw [hz]; simp [be_length]; omega) (Nat.le_refl _) hb0 ?_; intro v3 w3 ho2 hb2; clear ho0 hb0)
    have hE : zs ++ be 1 255 ++ nums (s.extract 0 255) = zs ++ 255 :: nums (s.extract 0 255) := by rw [List.append_assoc]; rfl
    rw [hE] at ho2
    obtain ⟨a6, c6, rfl, _, _, _⟩ := ho2.form
    go_ret
    exact ⟨_, rfl, ho2, hb2⟩

theorem str_258 : strOfNums ([] ++ be 2 258) = ⟨#[1, 2]⟩ := by decide +kernel
theorem str_ab : strOfNums ([] ++ txt ⟨#[97, 98]⟩) = ⟨#[2, 97, 98]⟩ := by decide +kernel

set_option maxHeartbeats 4000000 in
theorem awake_any (w : World) : Calls Try.prog 7 #[] w fun e w' => e = .returned (.bool true) ∧ Below w.heap.size w w' := by
  go_enter Try.func7, Try.ntmps7
  go_wp2_with fail
  refine (Put_2 258 (by omega) none 0 0 [] _ rfl (.inl rfl) (fun _ => ⟨rfl, rfl⟩) (by omega)).mono ?_
  rintro e w1 ⟨v1, rfl, ho, hb⟩
  obtain ⟨g1, c1, rfl, _, _, _, _, hby⟩ := ho.rowAt (k := 2) (by simp [be_length]) (by omega)
  have hc := conv_str hby 2 c1 (by simp [be_length]) (fun h => by cases h)
  rw [str_258] at hc
  go_wp2_with fail
  refine (PutText_any ⟨#[97, 98]⟩ (by decide) none 0 0 [] _ rfl (.inl rfl) (fun _ => ⟨rfl, rfl⟩) (by omega)).mono ?_
  rintro e w2 ⟨v2, rfl, ho2, hb2⟩
  obtain ⟨g2, c2, rfl, _, _, _, _, hby2⟩ := ho2.rowAt (k := 3) (by decide +kernel) (by omega)
  have hc2 := conv_str hby2 3 c2 (by decide +kernel) (fun h => by cases h)
  rw [str_ab] at hc2
  go_wp2_with fail
  go_ret
  exact ⟨rfl, hb.trans (hb2.mono hb.size)⟩
end Go.Proofs.Ytkefkjpacfgbdaa.Pack
