/-
  Contract of Last, the document's.
-/
import Derived.Test.YtobbgndabmnbcaaAbout
namespace Go.Proofs.Ytobbgndabmnbcaa.Key
open Go.RowKit
open Go.Op (bytesLess)

/-- the place of the newest one of the first n that speaks of a key; -1 -/
def lastP (l : List M) (k : List UInt8) : Nat → Int
  | 0 => -1
  | n + 1 => if speaks (l[n]?.getD M.nil) k then (n : Int) else lastP l k n
def lastI (l : List M) (k : List UInt8) : Int := lastP l k l.length
theorem lastP_succ {l : List M} {k : List UInt8} {j : Nat} (h : j < l.length) : lastP l k (j + 1) = if speaks l[j] k then (j : Int) else lastP l k j := by
  rw [lastP, List.getElem?_eq_getElem h]
  rfl

set_option maxHeartbeats 1000000 in
theorem last17 (a : Option Addr) (c : Nat) (l : List M) (k : ByteArray) (w : World) (hl : l.length ≤ maxLen) (h : Msgs w a l) :
    Calls Try.prog 17 #[.slice a l.length c, .string k] w fun x w' => x = .returned (.int .i64 (lastI l k.data.toList)) ∧ Below w.heap.size w w' := by
  unfold maxLen at hl
  have HL := hid (show lastI l k.data.toList = lastP l k.data.toList l.length from rfl)
  generalize lastI l k.data.toList = R at *
  generalize hn : l.length = n at *
  have HN := hid hn
  clear hn
  go_enter Try.func17, Try.ntmps17
  go_wp2_with fail
  go_loopw [5, 9] (fun p i wr => ∃ j : Nat, j ≤ n ∧ i = .int .i64 j ∧ p = .int .i64 (lastP l k.data.toList j) ∧ Below w.heap.size w wr) (fun _ i _ => n - (intOf i).toNat)
  case atStart => exact ⟨0, Nat.zero_le _, rfl, rfl, Below.refl _ _⟩
  case round =>
    obtain ⟨j, hj, rfl, rfl, hb⟩ := hrel
    by_cases hlt : j < n
    · have hlt' : j < l.length := by rw [HN.out]; exact hlt
      obtain ⟨b, off, rfl, h6⟩ := (h.later hb).at hlt'
      have hL := hid (lastP_succ (k := k.data.toList) hlt')
      obtain ⟨m, HM⟩ : ∃ m, Hid (l[j] = m) := ⟨_, hid rfl⟩
      rw [HM.out] at h6 hL
      have hS := speaks13 m k
      generalize speaks m k.data.toList = s at *
      obtain ⟨kd, ky, vl, bk, dp, ad⟩ := m
      obtain ⟨c0, c1, c2, c3, c4, c5⟩ := h6
      dsimp only at c0 c1 c2 c3 c4 c5
      generalize lastP l k.data.toList j = p at *
      go_wp2_with fail
      refine (hS _).mono ?_
      clear hS
      rintro x w1 ⟨rfl, hb1⟩
      replace hb1 := hb.trans (hb1.mono hb.size)
      clear c0 c1 c2 c3 c4 c5
      cases s
      · go_wp2_with fail
        go_roundw
        case rel => exact ⟨j + 1, by omega, by go_num, by rw [hL.out]; rfl, hb1⟩
        case measure => simp [intOf]; omega
      · go_wp2_with fail
        go_roundw
        case rel => exact ⟨j + 1, by omega, by go_num, by rw [hL.out]; rfl, hb1⟩
        case measure => simp [intOf]; omega
    · obtain rfl : j = n := by omega
      go_wp2_with fail
      go_ret
      exact ⟨by rw [HL.out]; rfl, hb⟩
end Go.Proofs.Ytobbgndabmnbcaa.Key
