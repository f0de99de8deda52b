/-
  Contracts of the program's reader of nodes: pairs, buffer.
-/
import Derived.Test.YtjegpcmejlffhaaGetC
import Derived.Test.YtjegpcmejlffhaaGetD
namespace Go.Proofs.Ytjegpcmejlffhaa.Cod
set_option linter.unusedSimpArgs false
set_option linter.unusedVariables false
open Go.RowKit
open Key (M E Pr Nd Pl nv Lies mayI ev mv)

set_option maxRecDepth 100000 in
set_option maxHeartbeats 2000000 in
theorem pairs43 {w : World} {B k : Nat} {zs : List Int} {s : St} (h : Rdr w B k zs s) :
    Calls Try.prog 43 #[rdv k] w fun x w' => ∃ (l : List Pr) (s' : St), Hid (rPairs zs s = (l, s')) ∧ ∃ v, x = .returned v ∧ l.length ≤ 16 ∧ OwnL kP w' w.heap.size v l ∧ Rdr w' B k zs s' ∧ w.grownBy w' (some k) := by
  have hbW := one_box w (.cells #[.pointer (some ⟨k, 0, none⟩)] 64)
  have R0 := Row.new w #[.pointer (some ⟨k, 0, none⟩)] 64
  have hr := h.later hbW
  have hk := h.lt.1
  have HG := G.of (k := k) hbW
  have hsz : (w.alloc (.cells #[.pointer (some ⟨k, 0, none⟩)] 64)).heap.size = w.heap.size + 1 := by simp
  clear hbW h
  go_enter Try.func43, Try.ntmps43
  go_upto_region 1 with fail
  generalize hW : w.alloc (.cells #[.pointer (some ⟨k, 0, none⟩)] 64) = W at *
  clear hW
  generalize hk0 : w.heap.size = k0 at *
  have d0 : W.cell? ⟨k0, 0, none⟩ = some (.pointer (some ⟨k, 0, none⟩)) := R0.cell 0
  go_wp2_with fail
  refine (count54 hr 16 (by decide)).mono ?_
  rintro x W2 ⟨c, s1, hs1, hc, rfl, hrN, hg1⟩
  replace R0 := R0.grown hg1 (by simp; omega)
  replace HG := G.trans HG hg1
  have hsz1 := hg1.size
  clear hg1 d0
  go_wp2_with fail
  go_loopw [3, 4, 7] (fun v _ i wr => ∃ j : Nat, j ≤ c ∧ i = .int .i64 j ∧ ∃ (l : List Pr) (s' : St), Hid (rMany rP j zs s1 = (l, s')) ∧ OwnL kP wr W2.heap.size v l ∧ Rdr wr B k zs s' ∧ W2.grownBy wr (some k)) (fun _ _ i _ => c - (intOf i).toNat)
  case atStart => exact ⟨0, Nat.zero_le _, rfl, [], s1, rfl, OwnL.nil _ _ _, hrN, World.grownBy.refl _ _⟩
  case round =>
    obtain ⟨j, hj, rfl, l, s4, hl, hown, hr4, hg⟩ := hrel
    have hlj : l.length = j := by
      have h := many_len rP zs s1 j
      rw [hl.out] at h
      exact h
    by_cases hlt : j < c
    · have d0 : wr.cell? ⟨k0, 0, none⟩ = some (.pointer (some ⟨k, 0, none⟩)) := (R0.grown hg (by simp; omega)).cell 0
      go_wp2_with fail
      refine (key55 hr4).mono ?_
      rintro x w0 ⟨v1, s6, hs6, rfl, hr7, hg5⟩
      have hg' := G.trans hg hg5
      replace hown := hown.kept hg5 (by omega)
      clear d0 hr4 hg5 hg
      have d0 : w0.cell? ⟨k0, 0, none⟩ = some (.pointer (some ⟨k, 0, none⟩)) := (R0.grown hg' (by simp; omega)).cell 0
      go_wp2_with fail
      refine (getText hr7 32).mono ?_
      rintro x w1 ⟨v2, s5, hs5, rfl, hr5, hg2⟩
      have hrow : rP zs s4 = (⟨v1, v2⟩, s5) := by simp [rP, bnd, rPure, hs6.out, hs5.out]
      have hg := hg'
      have hr4 := hr7
      clear hr7 hg'
      have hown2 := (hown.kept hg2 (by omega)).alloc (.cells #[.string v1, .string v2] 53)
      have R2 := Row.new w1 #[.string v1, .string v2] 53
      have hr6 := hr5.alloc (.cells #[.string v1, .string v2] 53)
      have hg3 := G.alloc (G.trans hg hg2) (.cells #[.string v1, .string v2] 53)
      have hB : W2.heap.size ≤ (w1.alloc (.cells #[.string v1, .string v2] 53)).heap.size := hg3.size
      have hlj' : l.length ≤ 1000 := by omega
      have HROW := hid hrow
      clear d0 hown hr4 hg hg2 hr5 hrow
      go_wp2_with (at_builtin; refine appP rfl (.tmp 11) (.tmp 17) rfl W2.heap.size _ l rfl hown2 ⟨v1, v2⟩ w1.heap.size rfl R2 hlj' hB ?_; intro v' w' ho' hg' hB')
      go_roundw
      case rel => exact ⟨j + 1, by omega, by go_num, l ++ [⟨v1, v2⟩], s5, many_succ hl.out HROW.out, ho', hr6.own hg' (fun g hg => by have := hB' g hg; omega), G.own hg3 hg' hB'⟩
      case measure => simp [intOf]; omega
    · obtain rfl : j = c := by omega
      obtain ⟨a, cp, rfl, _, _, _⟩ := hown.prs
      go_wp2
      go_ret
      exact ⟨l, s4, by simp [Hid, rPairs, bnd, hs1.out, hl.out], _, rfl, by omega, hown.mono (by omega), hr4, G.trans HG hg⟩

set_option maxRecDepth 100000 in
set_option maxHeartbeats 2000000 in
theorem buffer59 {w : World} {B k : Nat} {zs : List Int} {s : St} (h : Rdr w B k zs s) :
    Calls Try.prog 59 #[rdv k] w fun x w' => ∃ (l : List M) (s' : St), Hid (rBuf rM zs s = (l, s')) ∧ ∃ v, x = .returned v ∧ l.length ≤ 16 ∧ OwnL kM w' w.heap.size v l ∧ Rdr w' B k zs s' ∧ w.grownBy w' (some k) := by
  have hbW := one_box w (.cells #[.pointer (some ⟨k, 0, none⟩)] 64)
  have R0 := Row.new w #[.pointer (some ⟨k, 0, none⟩)] 64
  have hr := h.later hbW
  have hk := h.lt.1
  have HG := G.of (k := k) hbW
  have hsz : (w.alloc (.cells #[.pointer (some ⟨k, 0, none⟩)] 64)).heap.size = w.heap.size + 1 := by simp
  clear hbW h
  go_enter Try.func59, Try.ntmps59
  go_upto_region 1 with fail
  generalize hW : w.alloc (.cells #[.pointer (some ⟨k, 0, none⟩)] 64) = W at *
  clear hW
  generalize hk0 : w.heap.size = k0 at *
  have d0 : W.cell? ⟨k0, 0, none⟩ = some (.pointer (some ⟨k, 0, none⟩)) := R0.cell 0
  go_wp2_with fail
  refine (count54 hr 16 (by decide)).mono ?_
  rintro x W2 ⟨c, s1, hs1, hc, rfl, hrN, hg1⟩
  replace R0 := R0.grown hg1 (by simp; omega)
  replace HG := G.trans HG hg1
  have hsz1 := hg1.size
  clear hg1 d0
  go_wp2_with fail
  go_loopw [3, 6] (fun v i wr => ∃ j : Nat, j ≤ c ∧ i = .int .i64 j ∧ ∃ (l : List M) (s' : St), Hid (rMany rM j zs s1 = (l, s')) ∧ OwnL kM wr W2.heap.size v l ∧ Rdr wr B k zs s' ∧ W2.grownBy wr (some k)) (fun _ i _ => c - (intOf i).toNat)
  case atStart => exact ⟨0, Nat.zero_le _, rfl, [], s1, rfl, OwnL.nil _ _ _, hrN, World.grownBy.refl _ _⟩
  case round =>
    obtain ⟨j, hj, rfl, l, s4, hl, hown, hr4, hg⟩ := hrel
    have hlj : l.length = j := by
      have h := many_len rM zs s1 j
      rw [hl.out] at h
      exact h
    by_cases hlt : j < c
    · have d0 : wr.cell? ⟨k0, 0, none⟩ = some (.pointer (some ⟨k, 0, none⟩)) := (R0.grown hg (by simp; omega)).cell 0
      go_wp2_with fail
      refine (msg65 hr4).mono ?_
      rintro x w1 ⟨v, s5, hs5, rfl, hr5, hg2⟩
      have hrow : rM zs s4 = (v, s5) := hs5.out
      have hown2 := (hown.kept hg2 (by omega)).alloc (.cells #[.int .u8 v.kind, .string v.key, .string v.val, .int .u32 v.blk, .int .u16 v.deep, .string v.add] 60)
      have R2 := Row.new w1 #[.int .u8 v.kind, .string v.key, .string v.val, .int .u32 v.blk, .int .u16 v.deep, .string v.add] 60
      have hr6 := hr5.alloc (.cells #[.int .u8 v.kind, .string v.key, .string v.val, .int .u32 v.blk, .int .u16 v.deep, .string v.add] 60)
      have hg3 := G.alloc (G.trans hg hg2) (.cells #[.int .u8 v.kind, .string v.key, .string v.val, .int .u32 v.blk, .int .u16 v.deep, .string v.add] 60)
      have hB : W2.heap.size ≤ (w1.alloc (.cells #[.int .u8 v.kind, .string v.key, .string v.val, .int .u32 v.blk, .int .u16 v.deep, .string v.add] 60)).heap.size := hg3.size
      have hlj' : l.length ≤ 1000 := by omega
      have HROW := hid hrow
      clear d0 hown hr4 hg hg2 hr5 hrow
      go_wp2_with (at_builtin; refine appM rfl (.tmp 8) (.tmp 11) rfl W2.heap.size _ l rfl hown2 v w1.heap.size rfl R2 hlj' hB ?_; intro v' w' ho' hg' hB')
      go_roundw
      case rel => exact ⟨j + 1, by omega, by go_num, l ++ [v], s5, many_succ hl.out HROW.out, ho', hr6.own hg' (fun g hg => by have := hB' g hg; omega), G.own hg3 hg' hB'⟩
      case measure => simp [intOf]; omega
    · obtain rfl : j = c := by omega
      obtain ⟨a, cp, rfl, _, _, _⟩ := hown.msgs
      go_wp2
      go_ret
      exact ⟨l, s4, by simp [Hid, rBuf, bnd, hs1.out, hl.out], _, rfl, by omega, hown.mono (by omega), hr4, G.trans HG hg⟩
end Go.Proofs.Ytjegpcmejlffhaa.Cod
