/-
  Pairs: in memory; GreatPairs, SamePairs, rise; a new map; is there a message of another Kind?
-/
import Derived.Test.YtobbgndabmnbcaaDel
import Derived.Test.YtobbgndabmnbcaaSame
namespace Go.Proofs.Ytobbgndabmnbcaa.Key
open Go.RowKit Draw
open Go.Op (bytesLess)

/-- a pair -/
structure Pr where
  key : ByteArray
  val : ByteArray
def Pr.nil : Pr := ⟨⟨#[]⟩, ⟨#[]⟩⟩
def Pr.cells (p : Pr) : List Value := [.string p.key, .string p.val]
abbrev pv (p : Pr) : Value := .agg #[.string p.key, .string p.val]
structure Two (w : World) (b o : Nat) (p : Pr) : Prop where
  c0 : w.cell? ⟨b, o, none⟩ = some (.string p.key)
  c1 : w.cell? ⟨b, o + 1, none⟩ = some (.string p.val)
theorem Two.lt {w : World} {b o : Nat} {p : Pr} (h : Two w b o p) : b < w.heap.size := World.block_lt_of_cell? w _ h.c0
theorem Two.below {w w' : World} {b o B : Nat} {p : Pr} (h : Two w b o p) (hb : Below B w w') (hB : b < B) : Two w' b o p := ⟨(hb.cell (p := ⟨b, o, none⟩) hB).trans h.c0, (hb.cell (p := ⟨b, o + 1, none⟩) hB).trans h.c1⟩
theorem Two.later {w w' : World} {b o : Nat} {p : Pr} (h : Two w b o p) (hb : Below w.heap.size w w') : Two w' b o p := h.below hb h.lt
/-- a slice of pairs -/
def Prs (w : World) (a : Option Addr) (l : List Pr) : Prop := l = [] ∨ ∃ b off, a = some ⟨b, off, none⟩ ∧ ∀ i (h : i < l.length), Two w b (off + i * 2) l[i]
theorem Prs.at {w : World} {a : Option Addr} {l : List Pr} (h : Prs w a l) {i : Nat} (hi : i < l.length) : ∃ b off, a = some ⟨b, off, none⟩ ∧ Two w b (off + i * 2) l[i] := by
  rcases h with rfl | ⟨b, off, rfl, hc⟩
  · simp at hi
  · exact ⟨b, off, rfl, hc i hi⟩
theorem Prs.at2 {w : World} {a : Option Addr} {l : List Pr} (h : Prs w a l) {i j : Nat} (hi : i < l.length) (hj : j < l.length) : ∃ b off, a = some ⟨b, off, none⟩ ∧ Two w b (off + i * 2) l[i] ∧ Two w b (off + j * 2) l[j] := by
  rcases h with rfl | ⟨b, off, rfl, hc⟩
  · simp at hi
  · exact ⟨b, off, rfl, hc i hi, hc j hj⟩
theorem Prs.later {w w' : World} {a : Option Addr} {l : List Pr} (h : Prs w a l) (hb : Below w.heap.size w w') : Prs w' a l := by
  rcases h with rfl | ⟨b, off, rfl, hc⟩
  · exact .inl rfl
  · exact .inr ⟨b, off, rfl, fun i hi => (hc i hi).later hb⟩

def greatP (p : Pr) : Bool := decide (100 < p.key.size) || decide (100 < p.val.size)
def greatPL (l : List Pr) : Bool := decide (60 < l.length) || l.any greatP

set_option maxHeartbeats 1000000 in
theorem great25 (a : Option Addr) (c : Nat) (l : List Pr) (w : World) (hl : l.length ≤ maxLen) (h : Prs w a l) :
    Calls Try.prog 25 #[.slice a l.length c] w fun x w' => x = .returned (.bool (greatPL l)) ∧ w' = w := by
  unfold maxLen at hl
  by_cases h0 : 60 < l.length
  · have hr : greatPL l = true := by simp [greatPL, h0]
    have hd : decide ((60 : Int) < (l.length : Int)) = true := by simp; omega
    rw [hr]
    clear hr
    go_enter Try.func25, Try.ntmps25
    go_wp2_with fail
    go_ret
    exact ⟨rfl, rfl⟩
  · have hr : greatPL l = l.any greatP := by simp [greatPL, h0]
    have hd : decide ((60 : Int) < (l.length : Int)) = false := by simp; omega
    rw [hr]
    clear hr
    generalize hA : l.any greatP = A
    have HA := hid hA
    clear hA
    generalize hn : l.length = n at *
    have HN := hid hn
    clear hn
    go_enter Try.func25, Try.ntmps25
    go_wp2_with fail
    go_loop [9] (fun i => ∃ j : Nat, j ≤ n ∧ i = .int .i64 j ∧ Hid ((l.take j).any greatP = false)) (fun i => n - (intOf i).toNat)
    case atStart => exact ⟨0, Nat.zero_le _, rfl, by simp [Hid]⟩
    case round =>
      obtain ⟨j, hj, rfl, hjn⟩ := hrel
      by_cases hlt : j < n
      · have hlt' : j < l.length := by rw [HN.out]; exact hlt
        obtain ⟨b, off, rfl, h6⟩ := h.at hlt'
        obtain ⟨m, HM⟩ : ∃ m, Hid (l[j] = m) := ⟨_, hid rfl⟩
        rw [HM.out] at h6
        have hg : greatP m = (decide (100 < m.key.size) || decide (100 < m.val.size)) := rfl
        obtain ⟨ky, vl⟩ := m
        obtain ⟨c0, c1⟩ := h6
        dsimp only at c0 c1 hg
        cases k1 : decide (100 < ky.size)
        · have k1' := gr_int k1
          cases k2 : decide (100 < vl.size)
          · have k2' := gr_int k2
            rw [k1, k2] at hg
            have HG := hid hg
            clear hg k1 k2
            go_wp2_with fail
            go_round
            case rel => exact ⟨j + 1, by omega, by go_num, by unfold Hid at *; rw [any_take_succ l greatP hlt', hjn, HM, HG]; rfl⟩
            case measure => simp [intOf]; omega
          · have k2' := gr_int k2
            rw [k1, k2] at hg
            have HG := hid hg
            clear hg k1 k2
            go_wp2_with fail
            go_ret
            exact ⟨ret_bool (by rw [← HA.out]; exact (any_at l greatP hlt' (by rw [HM.out]; exact HG.out)).symm), rfl⟩
        · have k1' := gr_int k1
          rw [k1] at hg
          have HG := hid hg
          clear hg k1
          go_wp2_with fail
          go_ret
          exact ⟨ret_bool (by rw [← HA.out]; exact (any_at l greatP hlt' (by rw [HM.out]; exact HG.out)).symm), rfl⟩
      · obtain rfl : j = n := by omega
        go_wp2_with fail
        go_ret
        refine ⟨ret_bool ?_, rfl⟩
        rw [← HA.out, ← hjn.out, ← HN.out, List.take_length]
/-- a message that neither puts nor deletes -/
def otherB (m : M) : Bool := !(m.kind == 1) && !(m.kind == 2)
set_option maxHeartbeats 1000000 in
theorem other41 (m : M) (w : World) : Calls Try.prog 41 #[mv m] w fun x w' => x = .returned (.bool (otherB m)) ∧ Below w.heap.size w w' := by
  have hb : Below w.heap.size w (w.alloc (.cells #[.int .u8 m.kind, .string m.key, .string m.val, .int .u32 m.blk, .int .u16 m.deep, .string m.add] 26)) := below_box _ _
  obtain ⟨kd, ky, vl, bk, dp, ad⟩ := m
  dsimp only at hb
  by_cases h1 : kd = 1
  · subst h1
    rw [show otherB ⟨1, ky, vl, bk, dp, ad⟩ = false from rfl]
    go_enter Try.func41, Try.ntmps41
    go_wp2_with fail
    go_ret
    exact ⟨rfl, hb⟩
  have h1' : (kd == 1) = false := by simp; omega
  by_cases h2 : kd = 2
  · subst h2
    rw [show otherB ⟨2, ky, vl, bk, dp, ad⟩ = false from rfl]
    go_enter Try.func41, Try.ntmps41
    go_wp2_with fail
    go_ret
    exact ⟨rfl, hb⟩
  have h2' : (kd == 2) = false := by simp; omega
  rw [show otherB ⟨kd, ky, vl, bk, dp, ad⟩ = true by simp [otherB, h1, h2]]
  go_enter Try.func41, Try.ntmps41
  go_wp2_with fail
  go_ret
  exact ⟨ret_bool (by simp [h1, h2]), hb⟩
set_option maxHeartbeats 1000000 in
theorem new44 (w : World) : Calls Try.prog 44 #[] w fun x w' => x = .returned (.pointer (some ⟨w.heap.size, 0, none⟩)) ∧ SMap w' w.heap.size w.heap.size (.slice none 0 0) (.slice none 0 0) [] [] ∧ Below w.heap.size w w' := by
  go_enter Try.func44, Try.ntmps44
  go_wp2_with fail
  go_ret
  exact ⟨rfl, ⟨Go.heap_alloc_new _ _, Nat.le_refl _, OwnS.nil _ _, OwnS.nil _ _, List.Pairwise.nil, rfl, by simp [Value.ownBlock]⟩, below_box _ _⟩
end Go.Proofs.Ytobbgndabmnbcaa.Key
