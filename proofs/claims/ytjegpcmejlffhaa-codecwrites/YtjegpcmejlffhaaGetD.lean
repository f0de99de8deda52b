/-
  Contracts of the program's reader of nodes: pivots, kids, pairs.
-/
import Derived.Test.YtjegpcmejlffhaaGetB
import Derived.Test.YtjegpcmejlffhaaRw
namespace Go.Proofs.Ytjegpcmejlffhaa.Cod
set_option linter.unusedSimpArgs false
set_option linter.unusedVariables false
open Go.RowKit
open Key (M E Pr Nd Pl nv Lies mayI ev mv)

theorem many_succ {α : Type} {f : List Int → St → α × St} {zs : List Int} {s s1 s2 : St} {j : Nat} {l : List α} {x : α} (h : rMany f j zs s = (l, s1)) (h' : f zs s1 = (x, s2)) : rMany f (j + 1) zs s = (l ++ [x], s2) := by
  show (_, _) = (_, _)
  rw [h, h']

set_option maxRecDepth 100000 in
set_option maxHeartbeats 1000000 in
theorem pivots58 {w : World} {B k : Nat} {zs : List Int} {s : St} (h : Rdr w B k zs s) (c : Int) (hc : c ≤ 100) :
    Calls Try.prog 58 #[rdv k, .int .i64 c] w fun x w' => ∃ (l : List ByteArray) (s' : St), Hid (rMany (rTxt 16) c.toNat zs s = (l, s')) ∧ ∃ v, x = .returned v ∧ OwnL kT w' w.heap.size v l ∧ Rdr w' B k zs s' ∧ w.grownBy w' (some k) := by
  have hbW := one_box w (.cells #[.pointer (some ⟨k, 0, none⟩)] 64)
  have R0 := Row.new w #[.pointer (some ⟨k, 0, none⟩)] 64
  have hr := h.later hbW
  have hk := h.lt.1
  have HG := G.of (k := k) hbW
  have hsz : (w.alloc (.cells #[.pointer (some ⟨k, 0, none⟩)] 64)).heap.size = w.heap.size + 1 := by simp
  clear hbW h
  go_enter Try.func58, Try.ntmps58
  go_upto_region 1 with fail
  generalize hW : w.alloc (.cells #[.pointer (some ⟨k, 0, none⟩)] 64) = W at *
  clear hW
  generalize hk0 : w.heap.size = k0 at *
  go_wp2_with fail
  go_loopw [5, 7] (fun v i wr => ∃ j : Nat, j ≤ c.toNat ∧ i = .int .i64 j ∧ ∃ (l : List ByteArray) (s' : St), Hid (rMany (rTxt 16) j zs s = (l, s')) ∧ OwnL kT wr W.heap.size v l ∧ Rdr wr B k zs s' ∧ W.grownBy wr (some k)) (fun _ i _ => c.toNat - (intOf i).toNat)
  case atStart => exact ⟨0, Nat.zero_le _, rfl, [], s, rfl, OwnL.nil _ _ _, hr, World.grownBy.refl _ _⟩
  case round =>
    obtain ⟨j, hj, rfl, l, s1, hl, hown, hr1, hg⟩ := hrel
    by_cases hlt : j < c.toNat
    · have hd : (j : Int) < c := by omega
      have d0 : wr.cell? ⟨k0, 0, none⟩ = some (.pointer (some ⟨k, 0, none⟩)) := (R0.grown hg (by simp; omega)).cell 0
      go_wp2_with fail
      refine (key55 hr1).mono ?_
      rintro x w1 ⟨v, s2, hs2, rfl, hr2, hg2⟩
      have hlj : l.length ≤ 1000 := by
        have h := many_len (rTxt 16) zs s j
        rw [hl.out] at h
        have h' : l.length = j := h
        omega
      have hown2 := (hown.kept hg2 (by omega)).alloc (.cells #[.string v] 9)
      have R2 := Row.new w1 #[.string v] 9
      have hr3 := hr2.alloc (.cells #[.string v] 9)
      have hg3 := G.alloc (G.trans hg hg2) (.cells #[.string v] 9)
      have hB : W.heap.size ≤ (w1.alloc (.cells #[.string v] 9)).heap.size := hg3.size
      clear d0 hown hr1 hg hg2 hr2
      go_wp2_with (at_builtin; refine appT rfl (.tmp 9) (.tmp 12) rfl W.heap.size _ l rfl hown2 v w1.heap.size rfl R2 hlj hB ?_; intro v' w' ho' hg' hB')
      go_roundw
      case rel => exact ⟨j + 1, by omega, by go_num, l ++ [v], s2, many_succ hl.out hs2.out, ho', hr3.own hg' (fun g hg => by have := hB' g hg; omega), G.own hg3 hg' hB'⟩
      case measure => simp [intOf]; omega
    · obtain rfl : j = c.toNat := by omega
      have hd : ¬ ((c.toNat : Nat) : Int) < c := by omega
      obtain ⟨a, cp, rfl, _, _, _⟩ := hown.txts
      go_wp2
      go_ret
      exact ⟨l, s1, hl, _, rfl, hown.mono (by omega), hr1, G.trans HG hg⟩

set_option maxRecDepth 100000 in
set_option maxHeartbeats 2000000 in
theorem kids57 {w : World} {B k : Nat} {zs : List Int} {s : St} (h : Rdr w B k zs s) :
    Calls Try.prog 57 #[rdv k] w fun x w' => ∃ (l : List E) (s' : St), Hid (rKids zs s = (l, s')) ∧ ∃ v, x = .returned v ∧ l.length ≤ 8 ∧ OwnL kE w' w.heap.size v l ∧ Rdr w' B k zs s' ∧ w.grownBy w' (some k) := by
  have hbW := one_box w (.cells #[.pointer (some ⟨k, 0, none⟩)] 64)
  have R0 := Row.new w #[.pointer (some ⟨k, 0, none⟩)] 64
  have hr := h.later hbW
  have hk := h.lt.1
  have HG := G.of (k := k) hbW
  have hsz : (w.alloc (.cells #[.pointer (some ⟨k, 0, none⟩)] 64)).heap.size = w.heap.size + 1 := by simp
  clear hbW h
  go_enter Try.func57, Try.ntmps57
  go_upto_region 1 with fail
  generalize hW : w.alloc (.cells #[.pointer (some ⟨k, 0, none⟩)] 64) = W at *
  clear hW
  generalize hk0 : w.heap.size = k0 at *
  have d0 : W.cell? ⟨k0, 0, none⟩ = some (.pointer (some ⟨k, 0, none⟩)) := R0.cell 0
  go_wp2_with fail
  refine (count54 hr 8 (by decide)).mono ?_
  rintro x w1 ⟨c, s1, hs1, hc, rfl, hr1, hg1⟩
  replace R0 := R0.grown hg1 (by simp; omega)
  replace HG := G.trans HG hg1
  have hsz1 := hg1.size
  clear hg1 d0
  by_cases hc0 : c = 0
  · subst hc0
    have d0 : w1.cell? ⟨k0, 0, none⟩ = some (.pointer (some ⟨k, 0, none⟩)) := R0.cell 0
    go_wp2_with fail
    refine (fail hr1 3).mono ?_
    rintro x W2 ⟨rfl, hrN, hg2⟩
    replace R0 := R0.grown hg2 (by simp; omega)
    replace HG := G.trans HG hg2
    have hsz2 := hg2.size
    clear hg2 d0
    go_wp2_with fail
    go_loopw [4, 13] (fun v i wr => ∃ j : Nat, j ≤ 0 ∧ i = .int .i64 j ∧ ∃ (l : List E) (s' : St), Hid (rMany rE j zs (failS 3 s1) = (l, s')) ∧ OwnL kE wr W2.heap.size v l ∧ Rdr wr B k zs s' ∧ W2.grownBy wr (some k)) (fun _ i _ => 0 - (intOf i).toNat)
    case atStart => exact ⟨0, Nat.zero_le _, rfl, [], (failS 3 s1), rfl, OwnL.nil _ _ _, hrN, World.grownBy.refl _ _⟩
    case round =>
      obtain ⟨j, hj, rfl, l, s4, hl, hown, hr4, hg⟩ := hrel
      have hlj : l.length = j := by
        have h := many_len rE zs (failS 3 s1) j
        rw [hl.out] at h
        exact h
      by_cases hlt : j < 0
      · exact absurd hlt (Nat.not_lt_zero _)
      · obtain rfl : j = 0 := by omega
        obtain ⟨a, cp, rfl, _, _, _⟩ := hown.eds
        go_wp2
        go_ret
        exact ⟨l, s4, by simp [Hid, rKids, bnd, hs1.out, rZero, rFail, hl.out], _, rfl, by omega, hown.mono (by omega), hr4, G.trans HG hg⟩
  · have hce : ((c : Int) == 0) = false := by simp; omega
    go_wp2_with fail
    go_loopw [4, 13] (fun v i wr => ∃ j : Nat, j ≤ c ∧ i = .int .i64 j ∧ ∃ (l : List E) (s' : St), Hid (rMany rE j zs s1 = (l, s')) ∧ OwnL kE wr w1.heap.size v l ∧ Rdr wr B k zs s' ∧ w1.grownBy wr (some k)) (fun _ i _ => c - (intOf i).toNat)
    case atStart => exact ⟨0, Nat.zero_le _, rfl, [], s1, rfl, OwnL.nil _ _ _, hr1, World.grownBy.refl _ _⟩
    case round =>
      obtain ⟨j, hj, rfl, l, s4, hl, hown, hr4, hg⟩ := hrel
      have hlj : l.length = j := by
        have h := many_len rE zs s1 j
        rw [hl.out] at h
        exact h
      by_cases hlt : j < c
      · have d0 : wr.cell? ⟨k0, 0, none⟩ = some (.pointer (some ⟨k, 0, none⟩)) := (R0.grown hg (by simp; omega)).cell 0
        go_wp2_with fail
        refine (edge64 hr4).mono ?_
        rintro x w3 ⟨v, s5, hs5, rfl, hr5, hg2⟩
        have hrow : rE zs s4 = (v, s5) := hs5.out
        have hown2 := (hown.kept hg2 (by omega)).alloc (.cells #[.int .u32 v.blk, .int .u16 v.deep, .string v.strip, .string v.add] 51)
        have R2 := Row.new w3 #[.int .u32 v.blk, .int .u16 v.deep, .string v.strip, .string v.add] 51
        have hr6 := hr5.alloc (.cells #[.int .u32 v.blk, .int .u16 v.deep, .string v.strip, .string v.add] 51)
        have hg3 := G.alloc (G.trans hg hg2) (.cells #[.int .u32 v.blk, .int .u16 v.deep, .string v.strip, .string v.add] 51)
        have hB : w1.heap.size ≤ (w3.alloc (.cells #[.int .u32 v.blk, .int .u16 v.deep, .string v.strip, .string v.add] 51)).heap.size := hg3.size
        have hlj' : l.length ≤ 1000 := by omega
        have HROW := hid hrow
        clear d0 hown hr4 hg hg2 hr5 hrow
        go_wp2_with (at_builtin; refine appE rfl (.tmp 15) (.tmp 18) rfl w1.heap.size _ l rfl hown2 v w3.heap.size rfl R2 hlj' hB ?_; intro v' w' ho' hg' hB')
        go_roundw
        case rel => exact ⟨j + 1, by omega, by go_num, l ++ [v], s5, many_succ hl.out HROW.out, ho', hr6.own hg' (fun g hg => by have := hB' g hg; omega), G.own hg3 hg' hB'⟩
        case measure => simp [intOf]; omega
      · obtain rfl : j = c := by omega
        obtain ⟨a, cp, rfl, _, _, _⟩ := hown.eds
        go_wp2
        go_ret
        exact ⟨l, s4, by simp [Hid, rKids, bnd, hs1.out, rZero, rPure, hc0, hl.out], _, rfl, by omega, hown.mono (by omega), hr4, G.trans HG hg⟩
end Go.Proofs.Ytjegpcmejlffhaa.Cod
