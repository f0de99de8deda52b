/-
  Bytes spoilt one behind the other, at k, k + 1, ..: what a row of the call's own holds behind each store.
-/
import Derived.Test.YtcbigopfmiiadaaCFits
namespace Go.Proofs.Ytcbigopfmiiadaa.Crc
open Go.RowKit

theorem Own.at' {w : World} {base g cap n : Nat} {zs : List Int} (h : Own w base (.slice (some ⟨g, 0, none⟩) n cap) zs) (hn : zs.length = n) (j : Nat) (hj : j < n) : w.cell? ⟨g, j, none⟩ = some (.int .u8 (zs.getD j 0)) := by
  subst hn
  have := World.ownsRow.cellAt h j (by omega)
  rw [this]
  simp [List.getD, List.getElem?_eq_getElem hj]
theorem Own.bytes' {w : World} {base g cap n : Nat} {zs : List Int} (h : Own w base (.slice (some ⟨g, 0, none⟩) n cap) zs) (hn : zs.length = n) : Bytes w (some ⟨g, 0, none⟩) zs :=
  .inr ⟨g, 0, rfl, fun i hi => by rw [Nat.zero_add]; exact h.at' hn i (by omega)⟩
theorem Own.cap' {w : World} {base g cap n : Nat} {zs : List Int} (h : Own w base (.slice (some ⟨g, 0, none⟩) n cap) zs) (hn : zs.length = n) : n ≤ cap := by
  subst hn
  obtain ⟨a, c, he, _, _, _, hc⟩ := h.form
  simp only [Value.slice.injEq] at he
  omega
theorem Own.free {w : World} {base g cap n : Nat} {zs : List Int} (h : Own w base (.slice (some ⟨g, 0, none⟩) n cap) zs) (hn : zs.length = n) (j : Nat) : w.frozen? ⟨g, j, none⟩ = false := by
  subst hn
  exact World.ownsRow.frozenAt h j
theorem Own.stored' {w : World} {base g cap n : Nat} {zs : List Int} (h : Own w base (.slice (some ⟨g, 0, none⟩) n cap) zs) (hn : zs.length = n) (j : Nat) (u : Int) :
    Own (w.setCell ⟨g, j, none⟩ (.int .u8 u)) base (.slice (some ⟨g, 0, none⟩) n cap) (zs.set j u) := by
  subst hn
  have := (World.ownsRow.stored h j (.int .u8 u)).1
  unfold Own
  rw [List.length_set, List.map_set]
  exact this
theorem Own.spoil {w : World} {base g cap n : Nat} {xs : List Int} {k y j : Nat} (h : Own w base (.slice (some ⟨g, 0, none⟩) n cap) (spl xs k y j)) (hn : xs.length = n) {z : Int} (hz : (spl xs k y j).getD (k + j) 0 = z) :
    Own (w.setCell ⟨g, k + j, none⟩ (.int .u8 ((z.toNat ^^^ y / 256 ^ j % 256 : Nat) : Int))) base (.slice (some ⟨g, 0, none⟩) n cap) (spl xs k y (j + 1)) := by
  subst hz
  exact h.stored' (by rw [spl_length, hn]) (k + j) _
theorem xor_u8 (z : Int) (Y : Nat) (h0 : 0 ≤ z) (h1 : z ≤ 255) : bits .xor .u8 z ((Y : Int) % 256) = ((z.toNat ^^^ Y % 256 : Nat) : Int) := by
  have h := u8_xor z ((Y : Int) % 256) h0 (by omega) (by omega) (by omega)
  rw [h]
  congr 2
end Go.Proofs.Ytcbigopfmiiadaa.Crc
