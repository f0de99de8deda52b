/-
  Where a key leads on, it is to a target, less deep than the node.
-/
import Derived.Test.YtknjemmhcjihfaaDeep
import Derived.Test.YtknjemmhcjihfaaTargets
namespace Go.Proofs.Ytknjemmhcjihfaa.Key
open Go.RowKit

theorem up2_left (a b : Int) : a ≤ up2 a b := by unfold up2; split <;> omega
theorem up2_right (a b : Int) : b ≤ up2 a b := by unfold up2; split <;> omega
theorem le_kidD {ks : List E} {j : Nat} (hj : j < ks.length) : ∀ m, j < m → m ≤ ks.length → ks[j].deep ≤ kidD ks m := by
  intro m
  induction m with
  | zero => intro h; omega
  | succ m ih =>
    intro h hm
    rw [kidD_at (by omega)]
    by_cases e : j = m
    · subst e; exact up2_right _ _
    · exact Int.le_trans (ih (by omega) (by omega)) (up2_left _ _)
theorem bufD_mono {s : Int} {bf : List M} : ∀ m, m ≤ bf.length → s ≤ bufD s bf m := by
  intro m
  induction m with
  | zero => intro _; exact Int.le_refl _
  | succ m ih =>
    intro hm
    rw [bufD_at (by omega)]
    split
    · exact Int.le_trans (ih (by omega)) (up2_left _ _)
    · exact ih (by omega)
theorem le_bufD {s : Int} {bf : List M} {j : Nat} (hj : j < bf.length) (h3 : bf[j].kind = 3) : ∀ m, j < m → m ≤ bf.length → bf[j].deep ≤ bufD s bf m := by
  intro m
  induction m with
  | zero => intro h; omega
  | succ m ih =>
    intro h hm
    rw [bufD_at (by omega)]
    by_cases e : j = m
    · subst e
      rw [if_pos h3]
      exact up2_right _ _
    · split
      · exact Int.le_trans (ih (by omega) (by omega)) (up2_left _ _)
      · exact ih (by omega) (by omega)
theorem deep_less {n : Nd} (hl : n.leaf = false) {d : Int} (h : d ≤ deepM n) : d < deepI n ∨ deepI n = 65535 := by
  unfold deepI
  rw [hl, if_neg (by simp)]
  by_cases e : deepM n = 65535
  · right; rw [if_pos e]
  · left; rw [if_neg e]; omega
theorem byE_cases (e : E) (k : List UInt8) : byE e k = noWay ∨ ∃ key, byE e k = ⟨2, ⟨#[]⟩, e.blk, e.deep, key⟩ := by
  unfold byE
  split
  · exact .inr ⟨_, rfl⟩
  · exact .inl rfl
theorem step_cases (n : Nd) (k : List UInt8) : stepW n k = noWay ∨ (∃ v, stepW n k = toVal v) ∨ ∃ b d key, stepW n k = ⟨2, ⟨#[]⟩, b, d, key⟩ ∧ b ∈ targetsL n ∧ (d < deepI n ∨ deepI n = 65535) := by
  unfold stepW
  by_cases hr : mayI n = 0
  · rw [if_pos hr]
    cases hl : n.leaf
    · rw [if_neg (by simp)]
      obtain ⟨hlen, hup⟩ := may_fork hr hl
      rcases lastI_cases n.bf k with ⟨i, hi, hil⟩ | hi
      · rw [hi, if_pos (by omega), Int.toNat_natCast, getD_at hil]
        unfold byM
        by_cases h1 : n.bf[i].kind = 1
        · rw [if_pos h1]; exact .inr (.inl ⟨_, rfl⟩)
        · rw [if_neg h1]
          by_cases h3 : n.bf[i].kind = 3
          · rw [if_pos h3]
            rcases byE_cases ⟨n.bf[i].blk, n.bf[i].deep, n.bf[i].key, n.bf[i].add⟩ k with h | ⟨key, h⟩
            · exact .inl h
            · refine .inr (.inr ⟨_, _, key, h, ?_, ?_⟩)
              · unfold targetsL blocksL
                exact List.mem_append_right _ (List.mem_map.2 ⟨n.bf[i], List.mem_filter.2 ⟨List.getElem_mem hil, by simp [h3]⟩, rfl⟩)
              · exact deep_less hl (le_bufD hil h3 _ hil (Nat.le_refl _))
          · rw [if_neg h3]; exact .inl rfl
      · rw [hi, if_neg (by omega)]
        obtain ⟨_, _, hk3⟩ := kid_same (k := k) hup hlen
        rw [getD_at hk3]
        rcases byE_cases (n.ks[kidC n.pv k]) k with h | ⟨key, h⟩
        · exact .inl h
        · refine .inr (.inr ⟨_, _, key, h, ?_, ?_⟩)
          · unfold targetsL
            exact List.mem_append_left _ (List.mem_map.2 ⟨_, List.getElem_mem hk3, rfl⟩)
          · exact deep_less hl (Int.le_trans (le_kidD hk3 _ hk3 (Nat.le_refl _)) (bufD_mono _ (Nat.le_refl _)))
    · rw [if_pos rfl]
      unfold pairW
      split
      · exact .inr (.inl ⟨_, rfl⟩)
      · exact .inl rfl
  · rw [if_neg hr]; exact .inl rfl
theorem deepI_in {n : Nd} (h : Small n) : 0 ≤ deepI n ∧ deepI n ≤ 65535 := by
  have hb := bufD_in (kidD_in h.de n.ks.length (Nat.le_refl _)) h.db n.bf.length (Nat.le_refl _)
  have hm : deepM n = bufD (kidD n.ks n.ks.length) n.bf n.bf.length := rfl
  unfold deepI
  split
  · omega
  · split <;> omega
end Go.Proofs.Ytknjemmhcjihfaa.Key
