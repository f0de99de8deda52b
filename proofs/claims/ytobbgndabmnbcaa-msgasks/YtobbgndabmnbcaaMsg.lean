/-
  Messages: as values, in blocks, in slices that came in, and in rows of the call's own.
-/
import Derived.Test.YtobbgndabmnbcaaCut
import Derived.Deep.Slices
import Derived.ChangeArms
namespace Go.Proofs.Ytobbgndabmnbcaa.Key
open Go.RowKit
open Go.Op (bytesLess)

/-- a message -/
structure M where
  kind : Int
  key : ByteArray
  val : ByteArray
  blk : Int
  deep : Int
  add : ByteArray
def M.nil : M := ⟨0, ⟨#[]⟩, ⟨#[]⟩, 0, 0, ⟨#[]⟩⟩
def M.cells (m : M) : List Value := [.int .u8 m.kind, .string m.key, .string m.val, .int .u32 m.blk, .int .u16 m.deep, .string m.add]
/-- .. as a value -/
abbrev mv (m : M) : Value := .agg #[.int .u8 m.kind, .string m.key, .string m.val, .int .u32 m.blk, .int .u16 m.deep, .string m.add]

/-- six cells that hold a message -/
structure Six (w : World) (b o : Nat) (m : M) : Prop where
  c0 : w.cell? ⟨b, o, none⟩ = some (.int .u8 m.kind)
  c1 : w.cell? ⟨b, o + 1, none⟩ = some (.string m.key)
  c2 : w.cell? ⟨b, o + 2, none⟩ = some (.string m.val)
  c3 : w.cell? ⟨b, o + 3, none⟩ = some (.int .u32 m.blk)
  c4 : w.cell? ⟨b, o + 4, none⟩ = some (.int .u16 m.deep)
  c5 : w.cell? ⟨b, o + 5, none⟩ = some (.string m.add)
theorem Six.lt {w : World} {b o : Nat} {m : M} (h : Six w b o m) : b < w.heap.size := World.block_lt_of_cell? w _ h.c0
theorem Six.below {w w' : World} {b o B : Nat} {m : M} (h : Six w b o m) (hb : Below B w w') (hB : b < B) : Six w' b o m :=
  ⟨(hb.cell (p := ⟨b, o, none⟩) hB).trans h.c0, (hb.cell (p := ⟨b, o + 1, none⟩) hB).trans h.c1, (hb.cell (p := ⟨b, o + 2, none⟩) hB).trans h.c2, (hb.cell (p := ⟨b, o + 3, none⟩) hB).trans h.c3, (hb.cell (p := ⟨b, o + 4, none⟩) hB).trans h.c4, (hb.cell (p := ⟨b, o + 5, none⟩) hB).trans h.c5⟩
theorem Six.later {w w' : World} {b o : Nat} {m : M} (h : Six w b o m) (hb : Below w.heap.size w w') : Six w' b o m := h.below hb h.lt

/-- a block that holds a message -/
def MBox (w : World) (k : Nat) (m : M) : Prop := w.heap[k]? = some (.cells #[.int .u8 m.kind, .string m.key, .string m.val, .int .u32 m.blk, .int .u16 m.deep, .string m.add] 26 (0, 0))
theorem MBox.new (w : World) (m : M) : MBox (w.alloc (.cells #[.int .u8 m.kind, .string m.key, .string m.val, .int .u32 m.blk, .int .u16 m.deep, .string m.add] 26)) w.heap.size m := Go.heap_alloc_new _ _
theorem MBox.lt {w : World} {k : Nat} {m : M} (h : MBox w k m) : k < w.heap.size := (Array.getElem?_eq_some_iff.1 h).1
theorem MBox.below {w w' : World} {k B : Nat} {m : M} (h : MBox w k m) (hb : Below B w w') (hB : k < B) : MBox w' k m := (hb.block k hB).trans h
theorem MBox.later {w w' : World} {k : Nat} {m : M} (h : MBox w k m) (hb : Below w.heap.size w w') : MBox w' k m := h.below hb h.lt
theorem MBox.alloc {w : World} {k : Nat} {m : M} (h : MBox w k m) (o : Obj) : MBox (w.alloc o) k m := h.later ((Below.refl _ _).alloc (Nat.le_refl _) o)
theorem MBox.six {w : World} {k : Nat} {m : M} (h : MBox w k m) : Six w k 0 m :=
  ⟨cell_of_row _ _ 0 _ _ _ h, cell_of_row _ _ 1 _ _ _ h, cell_of_row _ _ 2 _ _ _ h, cell_of_row _ _ 3 _ _ _ h, cell_of_row _ _ 4 _ _ _ h, cell_of_row _ _ 5 _ _ _ h⟩
theorem MBox.free {w : World} {k : Nat} {m : M} (h : MBox w k m) (i : Nat) : w.frozen? ⟨k, i, none⟩ = false := frozen_of_row _ _ i _ _ h

/-- a slice of messages -/
def Msgs (w : World) (a : Option Addr) (l : List M) : Prop :=
  l = [] ∨ ∃ b off, a = some ⟨b, off, none⟩ ∧ ∀ i (h : i < l.length), Six w b (off + i * 6) l[i]
theorem Msgs.at {w : World} {a : Option Addr} {l : List M} (h : Msgs w a l) {i : Nat} (hi : i < l.length) : ∃ b off, a = some ⟨b, off, none⟩ ∧ Six w b (off + i * 6) l[i] := by
  rcases h with rfl | ⟨b, off, rfl, hc⟩
  · simp at hi
  · exact ⟨b, off, rfl, hc i hi⟩
theorem Msgs.below {w w' : World} {B : Nat} {a : Option Addr} {l : List M} (h : Msgs w a l) (hb : Below B w w') (hB : ∀ ad, a = some ad → l ≠ [] → ad.block < B) : Msgs w' a l := by
  rcases h with rfl | ⟨b, off, rfl, hc⟩
  · exact .inl rfl
  · by_cases hl : l = []
    · exact .inl hl
    · exact .inr ⟨b, off, rfl, fun i hi => (hc i hi).below hb (hB _ rfl hl)⟩
theorem Msgs.lt {w : World} {a : Option Addr} {l : List M} (h : Msgs w a l) : ∀ ad, a = some ad → l ≠ [] → ad.block < w.heap.size := by
  rintro ad rfl hl
  obtain ⟨b, off, he, h6⟩ := h.at (List.length_pos_iff.2 hl)
  simp only [Option.some.injEq] at he
  subst he
  exact h6.lt
theorem Msgs.later {w w' : World} {a : Option Addr} {l : List M} (h : Msgs w a l) (hb : Below w.heap.size w w') : Msgs w' a l := h.below hb h.lt

/-- more than is gone through? -/
def greatM (m : M) : Bool := decide (100 < m.key.size) || (decide (100 < m.val.size) || decide (100 < m.add.size))
def greatL (l : List M) : Bool := decide (60 < l.length) || l.any greatM
theorem any_take_succ {α : Type} (l : List α) (p : α → Bool) {j : Nat} (h : j < l.length) : (l.take (j + 1)).any p = ((l.take j).any p || p l[j]) := by
  rw [List.take_succ_eq_append_getElem h, List.any_append]
  simp only [List.any_cons, List.any_nil, Bool.or_false]
theorem any_at {α : Type} (l : List α) (p : α → Bool) {j : Nat} (h : j < l.length) (hp : p l[j] = true) : l.any p = true := List.any_eq_true.2 ⟨l[j], List.getElem_mem h, hp⟩
theorem gr_int {n : Nat} {b : Bool} (h : decide (100 < n) = b) : decide ((100 : Int) < (n : Int)) = b := by rw [← h]; exact decide_eq_decide.2 (by omega)

set_option maxHeartbeats 1000000 in
theorem great7 (a : Option Addr) (c : Nat) (l : List M) (w : World) (hl : l.length ≤ maxLen) (h : Msgs w a l) :
    Calls Try.prog 7 #[.slice a l.length c] w fun x w' => x = .returned (.bool (greatL l)) ∧ w' = w := by
  unfold maxLen at hl
  by_cases h0 : 60 < l.length
  · have hr : greatL l = true := by simp [greatL, h0]
    have hd : decide ((60 : Int) < (l.length : Int)) = true := by simp; omega
    rw [hr]
    clear hr
    go_enter Try.func7, Try.ntmps7
    go_wp2_with fail
    go_ret
    exact ⟨rfl, rfl⟩
  · have hr : greatL l = l.any greatM := by simp [greatL, h0]
    have hd : decide ((60 : Int) < (l.length : Int)) = false := by simp; omega
    rw [hr]
    clear hr
    generalize hA : l.any greatM = A
    have HA := hid hA
    clear hA
    generalize hn : l.length = n at *
    have HN := hid hn
    clear hn
    go_enter Try.func7, Try.ntmps7
    go_wp2_with fail
    go_loop [9] (fun i => ∃ j : Nat, j ≤ n ∧ i = .int .i64 j ∧ Hid ((l.take j).any greatM = false)) (fun i => n - (intOf i).toNat)
    case atStart => exact ⟨0, Nat.zero_le _, rfl, by simp [Hid]⟩
    case round =>
      obtain ⟨j, hj, rfl, hjn⟩ := hrel
      by_cases hlt : j < n
      · have hlt' : j < l.length := by rw [HN.out]; exact hlt
        obtain ⟨b, off, rfl, h6⟩ := h.at hlt'
        obtain ⟨m, HM⟩ : ∃ m, Hid (l[j] = m) := ⟨_, hid rfl⟩
        rw [HM.out] at h6
        have hg : greatM m = (decide (100 < m.key.size) || (decide (100 < m.val.size) || decide (100 < m.add.size))) := rfl
        obtain ⟨kd, ky, vl, bk, dp, ad⟩ := m
        obtain ⟨c0, c1, c2, c3, c4, c5⟩ := h6
        dsimp only at c0 c1 c2 c3 c4 c5 hg
        cases k1 : decide (100 < ky.size)
        · have k1' := gr_int k1
          cases k2 : decide (100 < vl.size)
          · have k2' := gr_int k2
            cases k3 : decide (100 < ad.size)
            · have k3' := gr_int k3
              rw [k1, k2, k3] at hg
              have HG := hid hg
              clear hg k1 k2 k3
              go_wp2_with fail
              go_round
              case rel => exact ⟨j + 1, by omega, by go_num, by unfold Hid at *; rw [any_take_succ l greatM hlt', hjn, HM, HG]; rfl⟩
              case measure => simp [intOf]; omega
            · have k3' := gr_int k3
              rw [k1, k2, k3] at hg
              have HG := hid hg
              clear hg k1 k2 k3
              go_wp2_with fail
              go_ret
              exact ⟨ret_bool (by rw [← HA.out]; exact (any_at l greatM hlt' (by rw [HM.out]; exact HG.out)).symm), rfl⟩
          · have k2' := gr_int k2
            rw [k1, k2] at hg
            have HG := hid hg
            clear hg k1 k2
            go_wp2_with fail
            go_ret
            exact ⟨ret_bool (by rw [← HA.out]; exact (any_at l greatM hlt' (by rw [HM.out]; exact HG.out)).symm), rfl⟩
        · have k1' := gr_int k1
          rw [k1] at hg
          have HG := hid hg
          clear hg k1
          go_wp2_with fail
          go_ret
          exact ⟨ret_bool (by rw [← HA.out]; exact (any_at l greatM hlt' (by rw [HM.out]; exact HG.out)).symm), rfl⟩
      · obtain rfl : j = n := by omega
        go_wp2_with fail
        go_ret
        refine ⟨ret_bool ?_, rfl⟩
        rw [← HA.out, ← hjn.out, ← HN.out, List.take_length]
end Go.Proofs.Ytobbgndabmnbcaa.Key
