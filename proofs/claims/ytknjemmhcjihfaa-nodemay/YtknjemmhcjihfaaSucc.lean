/-
  Contracts of Succ, the program's.
-/
import Derived.Test.YtknjemmhcjihfaaText
namespace Go.Proofs.Ytknjemmhcjihfaa.Key
open Go.RowKit
open Go.Op (bytesLess)

theorem top_byte {x : UInt8} (h : (((x.toNat : Nat) : Int) == 255) = true) : x = 255 := by
  rw [u8_top]
  have := eq_of_beq h
  omega
theorem low_byte {x : UInt8} (h : (((x.toNat : Nat) : Int) == 255) = false) : x ≠ 255 := by
  rintro rfl
  simp at h
theorem take_last (l : List UInt8) (m : Nat) (h : m < l.length) : l.take (m + 1) = l.take m ++ [l[m]] := List.take_succ_eq_append_getElem h

/-- what Succ answers -/
def sucS (l : List UInt8) : ByteArray := str ((succ l).getD [])
def sucO (l : List UInt8) : Bool := (succ l).isSome

theorem one_more (x : UInt8) (h : x ≠ 255) : UInt8.ofNat (((x.toNat : Nat) : Int) + 1).toNat = x + 1 := by
  rw [u8_eq, u8_succ x h]
  have := u8_lt256 x
  have : x.toNat ≠ 255 := fun e => h ((u8_top x).2 e)
  simp only [UInt8.toNat_ofNat']
  omega

set_option maxHeartbeats 1000000 in
/-- Succ, the program's -/
theorem succ67 (p : ByteArray) (w : World) (hp : p.size ≤ 1000000) :
    Calls Try.prog 67 #[.string p] w fun x w' => x = .returned (.tuple #[.string (sucS p.data.toList), .bool (sucO p.data.toList)]) ∧ Below w.heap.size w w' := by
  go_enter Try.func67, Try.ntmps67
  go_wp2_with fail
  go_loop [4] (fun n => ∃ j : Nat, j ≤ p.size ∧ n = .int .i64 ((j : Int) - 1) ∧ Hid (succ (p.data.toList.take j) = succ p.data.toList)) (fun n => (intOf n + 1).toNat)
  case atStart => exact ⟨p.size, Nat.le_refl _, rfl, hid (by rw [Lib.size_eq, List.take_length])⟩
  case round =>
    obtain ⟨j, hj, e, hs⟩ := hrel
    cases j with
    | zero =>
      have e' : (((0 : Nat) : Int) - 1) = -1 := rfl
      rw [e'] at e
      subst e
      clear e'
      go_wp2_with fail
      have := hs.out
      rw [List.take_zero] at this
      refine bodyPost_ret (v := .tuple #[.string ⟨#[]⟩, .bool false]) (by simp [results, Try.results67, go_sem]) rfl ⟨ret_two ?_ ?_, Below.refl _ _⟩
      · unfold sucS; rw [← this]; rfl
      · unfold sucO; rw [← this]; rfl
    | succ m =>
      have e' : (((m + 1 : Nat) : Int) - 1) = m := by omega
      rw [e'] at e
      subst e
      clear e'
      have h1 : (m : Int) < (p.size : Int) := by omega
      have hl : m < p.data.toList.length := by rw [← Lib.size_eq]; omega
      have hs' := hs.out
      rw [take_last _ _ hl, ← byte_at p m (by omega)] at hs'
      have HS := hid hs'
      clear hs'
      go_wp2_with fail
      · exact ⟨⟨m, by omega, by go_num, hid (by have ht : p[m] = 255 := top_byte ‹_›; rw [← HS.out, ht, succ_top])⟩, by simp [intOf]⟩
      · have hx : p[m] ≠ 255 := low_byte ‹_›
        have hb := u8_lt256 p[m]
        have hb' : p[m].toNat ≠ 255 := fun e => hx ((u8_top _).2 e)
        have hcv := conv_str (Bytes.drew (digits_lie w #[.int .u8 (((p[m].toNat : Nat) : Int) + 1)] (0, 0) [((p[m].toNat : Nat) : Int) + 1] rfl)) 1 1 rfl (fun h => by cases h)
        have hm : m ≤ p.size := by omega
        generalize hS : strOfNums [((p[m].toNat : Nat) : Int) + 1] = S at hcv
        have HR : succ p.data.toList = some ((p.extract 0 m).data.toList ++ S.data.toList) := by
          rw [← HS.out, succ_snoc _ _ hx, cut_data, ← hS, strOfNums_data]
          simp
        have hz : S.size = 1 := by rw [← hS, strOfNums_size]; rfl
        have H2 := hid HR
        clear HR hS
        go_region
        go_wp2_with fail
        refine bodyPost_ret (v := .tuple #[.string (p.extract 0 m ++ S), .bool true]) (by simp [results, Try.results67, go_sem]) rfl ⟨ret_two ?_ ?_, ((Below.refl _ _).alloc (Nat.le_refl _) _).drew⟩
        · unfold sucS; rw [H2.out, str_append]; rfl
        · unfold sucO; rw [H2.out]; rfl

theorem less_str (a b : ByteArray) : bytesLess a.toList b.toList = bytesLess a.data.toList b.data.toList := by rw [Lib.toList_data, Lib.toList_data]
end Go.Proofs.Ytknjemmhcjihfaa.Key
