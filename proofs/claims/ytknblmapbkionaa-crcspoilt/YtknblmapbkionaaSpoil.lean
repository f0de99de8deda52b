/-
  Bytes spoilt one behind the other, at k, k + 1, ..: what a row of the call's own holds behind each store.
-/
import Derived.Test.YtknblmapbkionaaFits
namespace Go.Proofs.Ytknblmapbkionaa.Crc
open Go.RowKit

def spl (zs : List Int) (k y : Nat) : Nat → List Int
  | 0 => zs
  | j + 1 => (spl zs k y j).set (k + j) ((((spl zs k y j).getD (k + j) 0).toNat ^^^ y / 256 ^ j % 256 : Nat) : Int)

theorem spl_length (zs : List Int) (k y j : Nat) : (spl zs k y j).length = zs.length := by
  induction j with
  | zero => rfl
  | succ j ih => simp [spl, ih]
theorem xor_u8_lt {a b : Nat} (ha : a < 256) (hb : b < 256) : a ^^^ b < 256 := Nat.xor_lt_two_pow (n := 8) ha hb
theorem spl_byt (zs : List Int) (k y j : Nat) (hz : Byt zs) : Byt (spl zs k y j) := by
  induction j with
  | zero => exact hz
  | succ j ih =>
    intro z h
    rcases List.mem_or_eq_of_mem_set h with h | h
    · exact ih z h
    · subst h
      have := byt_getD ih (k + j)
      have := xor_u8_lt (a := ((spl zs k y j).getD (k + j) 0).toNat) (b := y / 256 ^ j % 256) (by omega) (by omega)
      omega
theorem set_past (p r : List Int) (i : Nat) (v : Int) : (p ++ r).set (p.length + i) v = p ++ r.set i v := by
  rw [List.set_append_right _ _ (by omega), Nat.add_sub_cancel_left]
theorem get_past (p r : List Int) (i : Nat) : (p ++ r).getD (p.length + i) 0 = r.getD i 0 := by
  simp only [List.getD]
  rw [List.getElem?_append_right (by omega), Nat.add_sub_cancel_left]
theorem spl_four (p q : List Int) (x0 x1 x2 x3 : Int) (y : Nat) : spl (p ++ ([x0, x1, x2, x3] ++ q)) p.length y 4 = p ++ (spoilt x0 x1 x2 x3 y ++ q) := by
  simp only [spl, set_past, get_past]
  simp [spoilt]

theorem Own.at' {w : World} {base g cap n : Nat} {zs : List Int} (h : Own w base (.slice (some ⟨g, 0, none⟩) n cap) zs) (hn : zs.length = n) (j : Nat) (hj : j < n) : w.cell? ⟨g, j, none⟩ = some (.int .u8 (zs.getD j 0)) := by
  subst hn
  have := World.ownsRow.cellAt h j (by omega)
  rw [this]
  simp [List.getD, List.getElem?_eq_getElem hj]
theorem Own.bytes' {w : World} {base g cap n : Nat} {zs : List Int} (h : Own w base (.slice (some ⟨g, 0, none⟩) n cap) zs) (hn : zs.length = n) : Bytes w (some ⟨g, 0, none⟩) zs :=
  .inr ⟨g, 0, rfl, fun i hi => by rw [Nat.zero_add]; exact h.at' hn i (by omega)⟩
theorem Own.cap' {w : World} {base g cap n : Nat} {zs : List Int} (h : Own w base (.slice (some ⟨g, 0, none⟩) n cap) zs) (hn : zs.length = n) : n ≤ cap := by
  subst hn
  obtain ⟨a, c, he, _, _, _, hc⟩ := h.form
  simp only [Value.slice.injEq] at he
  omega
theorem Own.free {w : World} {base g cap n : Nat} {zs : List Int} (h : Own w base (.slice (some ⟨g, 0, none⟩) n cap) zs) (hn : zs.length = n) (j : Nat) : w.frozen? ⟨g, j, none⟩ = false := by
  subst hn
  exact World.ownsRow.frozenAt h j
theorem Own.stored' {w : World} {base g cap n : Nat} {zs : List Int} (h : Own w base (.slice (some ⟨g, 0, none⟩) n cap) zs) (hn : zs.length = n) (j : Nat) (u : Int) :
    Own (w.setCell ⟨g, j, none⟩ (.int .u8 u)) base (.slice (some ⟨g, 0, none⟩) n cap) (zs.set j u) := by
  subst hn
  have := (World.ownsRow.stored h j (.int .u8 u)).1
  unfold Own
  rw [List.length_set, List.map_set]
  exact this
theorem Own.spoil {w : World} {base g cap n : Nat} {xs : List Int} {k y j : Nat} (h : Own w base (.slice (some ⟨g, 0, none⟩) n cap) (spl xs k y j)) (hn : xs.length = n) {z : Int} (hz : (spl xs k y j).getD (k + j) 0 = z) :
    Own (w.setCell ⟨g, k + j, none⟩ (.int .u8 ((z.toNat ^^^ y / 256 ^ j % 256 : Nat) : Int))) base (.slice (some ⟨g, 0, none⟩) n cap) (spl xs k y (j + 1)) := by
  subst hz
  exact h.stored' (by rw [spl_length, hn]) (k + j) _
theorem xor_u8 (z : Int) (Y : Nat) (h0 : 0 ≤ z) (h1 : z ≤ 255) : bits .xor .u8 z ((Y : Int) % 256) = ((z.toNat ^^^ Y % 256 : Nat) : Int) := by
  have h := u8_xor z ((Y : Int) % 256) h0 (by omega) (by omega) (by omega)
  rw [h]
  congr 2
theorem parted (zs : List Int) (k : Nat) (h : k + 4 ≤ zs.length) : ∃ p x0 x1 x2 x3 q, zs = p ++ ([x0, x1, x2, x3] ++ q) ∧ p.length = k := by
  obtain ⟨p, x0, x1, x2, x3, e, hp⟩ := four (zs.take (k + 4)) k (by simp; omega)
  refine ⟨p, x0, x1, x2, x3, zs.drop (k + 4), ?_, hp⟩
  rw [← List.append_assoc, ← e, List.take_append_drop]
/-- spoilt bytes have another sum -/
theorem spl_sum (zs : List Int) (k y : Nat) (h : k + 4 ≤ zs.length) (hz : Byt zs) (hy : y < 4294967296) (hy0 : y ≠ 0) : more 0 (spl zs k y 4) ≠ more 0 zs := by
  obtain ⟨p, x0, x1, x2, x3, q, rfl, rfl⟩ := parted zs k h
  rw [spl_four, ← List.append_assoc, ← List.append_assoc]
  rw [← List.append_assoc] at hz
  exact spoils p q x0 x1 x2 x3 y hy hy0 hz.of_append.1.of_append.1 hz.of_append.2 hz.of_append.1.of_append.2
/-- spoilt within what is marked -/
theorem spl_append (zs ys : List Int) (k y j : Nat) (h : k + j ≤ zs.length) : spl (zs ++ ys) k y j = spl zs k y j ++ ys := by
  induction j with
  | zero => rfl
  | succ j ih =>
    have hl := spl_length zs k y j
    simp only [spl]
    rw [ih (by omega), List.set_append_left _ _ (by omega)]
    have e : (spl zs k y j ++ ys).getD (k + j) 0 = (spl zs k y j).getD (k + j) 0 := by
      simp only [List.getD]
      rw [List.getElem?_append_left (by omega)]
    rw [e]
/-- marked bytes spoilt so don't fit -/
theorem spl_fits (zs : List Int) (k y : Nat) (h : k + 4 ≤ zs.length) (hz : Byt zs) (hy : y < 4294967296) (hy0 : y ≠ 0) : fitsB (spl (zs ++ le (more 0 zs)) k y 4) = false := by
  rw [spl_append _ _ _ _ _ h]
  have hs := spl_sum zs k y h hz hy hy0
  have l1 := more_lt 0 (spl zs k y 4)
  have l2 := more_lt 0 zs
  generalize spl zs k y 4 = c at *
  generalize more 0 zs = s at *
  rw [show le s = [((s % 256 : Nat) : Int), ((s / 256 % 256 : Nat) : Int), ((s / 65536 % 256 : Nat) : Int), ((s / 16777216 % 256 : Nat) : Int)] from rfl, fitsB_four, decide_eq_false_iff_not]
  generalize more 0 c = r at *
  unfold le
  simp only [List.cons.injEq, and_true]
  omega
theorem pow_div (y j : Nat) : y / 256 ^ j / 256 = y / 256 ^ (j + 1) := by rw [Nat.div_div_eq_div_mul, Nat.pow_succ]
end Go.Proofs.Ytknblmapbkionaa.Crc
