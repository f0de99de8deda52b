/-
  Maps in order: in memory; find, Put, Delete.
-/
import Derived.Test.YtobbgndabmnbcaaStrs2
namespace Go.Proofs.Ytobbgndabmnbcaa.Key
open Go.RowKit Go.Lib
open Go.Op (bytesLess)

/-- is a text ahead of another one? -/
def lessS (a b : ByteArray) : Bool := bytesLess a.toList b.toList
theorem lessS_self (a : ByteArray) : lessS a a = false := by unfold lessS; exact less_self _
theorem lessS_trans {a b c : ByteArray} (h1 : lessS a b = true) (h2 : lessS b c = true) : lessS a c = true := by unfold lessS at *; exact less_trans h1 h2
theorem lessS_same {a b : ByteArray} (h1 : lessS a b = false) (h2 : lessS b a = false) : a = b := by
  unfold lessS at *
  have := less_same h1 h2
  rw [Lib.toList_data, Lib.toList_data] at this
  rw [← str_eq a, ← str_eq b, this]
theorem lessS_asymm {a b : ByteArray} (h : lessS a b = true) : lessS b a = false := by unfold lessS at *; exact less_asymm h
/-- keys that rise -/
def Rising (ks : List ByteArray) : Prop := ks.Pairwise fun a b => lessS a b = true
/-- a key's place; is it there? -/
def pos (ks : List ByteArray) (x : ByteArray) : Nat := (ks.takeWhile fun k => lessS k x).length
def there (ks : List ByteArray) (x : ByteArray) : Bool := decide (pos ks x < ks.length ∧ ks.getD (pos ks x) x = x)
theorem pos_le (ks : List ByteArray) (x : ByteArray) : pos ks x ≤ ks.length := (List.takeWhile_prefix _).length_le
theorem pos_cons (k : ByteArray) (ks : List ByteArray) (x : ByteArray) : pos (k :: ks) x = if lessS k x then pos ks x + 1 else 0 := by
  unfold pos
  rw [List.takeWhile_cons]
  split <;> rfl
theorem pos_low : ∀ (ks : List ByteArray) (x : ByteArray) (t : Nat), t < pos ks x → lessS (ks.getD t x) x = true
  | [], x, t, h => by simp [pos] at h
  | k :: ks, x, t, h => by
    rw [pos_cons] at h
    split at h
    · rename_i hk
      cases t with
      | zero => simpa using hk
      | succ t => simpa using pos_low ks x t (by omega)
    · omega
theorem pos_high : ∀ (ks : List ByteArray) (x : ByteArray) (t : Nat), Rising ks → pos ks x ≤ t → lessS (ks.getD t x) x = false
  | [], x, t, _, _ => by simpa using lessS_self x
  | k :: ks, x, t, hr, h => by
    rw [pos_cons] at h
    obtain ⟨h1, h2⟩ := List.pairwise_cons.1 hr
    split at h
    · cases t with
      | zero => omega
      | succ t => simpa using pos_high ks x t h2 (by omega)
    · rename_i hk
      have hk : lessS k x = false := by simpa using hk
      cases t with
      | zero => simpa using hk
      | succ t =>
        by_cases ht : t < ks.length
        · have e : (k :: ks).getD (t + 1) x = ks[t] := by simp [List.getD, List.getElem?_eq_getElem ht]
          rw [e]
          cases hl : lessS ks[t] x with
          | false => rfl
          | true => rw [lessS_trans (h1 _ (List.getElem_mem ht)) hl] at hk; cases hk
        · have e : (k :: ks).getD (t + 1) x = x := by simp [List.getD, List.getElem?_eq_none (Nat.le_of_not_lt ht)]
          rw [e]
          exact lessS_self x
theorem bs_pos (ks : List ByteArray) (x : ByteArray) (hr : Rising ks) : Lib.bsGo (fun t => bytesLess (ks.getD t x).toList x.toList) ks.length 0 ks.length = pos ks x :=
  Lib.bsGo_spec (fun t => bytesLess (ks.getD t x).toList x.toList) (pos ks x) (fun t h => pos_low ks x t h) (fun t h => pos_high ks x t hr h) ks.length 0 ks.length (by omega) (Nat.zero_le _) (pos_le ks x)

/-- a map in memory -/
structure SMap (w : World) (B k : Nat) (kv vv : Value) (ks vs : List ByteArray) : Prop where
  box : w.heap[k]? = some (.cells #[kv, vv] 79 (0, 0))
  above : B ≤ k
  keys : OwnS w B kv ks
  vals : OwnS w B vv vs
  rise : Rising ks
  both : vs.length = ks.length
  apart : kv.ownBlock ≠ some k ∧ vv.ownBlock ≠ some k ∧ (kv.ownBlock = none ∨ kv.ownBlock ≠ vv.ownBlock)
theorem SMap.lt {w : World} {B k : Nat} {kv vv : Value} {ks vs : List ByteArray} (h : SMap w B k kv vv ks vs) : k < w.heap.size := (Array.getElem?_eq_some_iff.1 h.box).1
theorem SMap.later {w w' : World} {B k : Nat} {kv vv : Value} {ks vs : List ByteArray} (h : SMap w B k kv vv ks vs) (hb : Below w.heap.size w w') : SMap w' B k kv vv ks vs :=
  ⟨(hb.block k h.lt).trans h.box, h.above, h.keys.later hb, h.vals.later hb, h.rise, h.both, h.apart⟩

set_option maxHeartbeats 1000000 in
theorem find54 (B k : Nat) (kv vv : Value) (ks vs : List ByteArray) (x : ByteArray) (w : World) (h : SMap w B k kv vv ks vs) (hl : ks.length ≤ 100000) :
    Calls Try.prog 54 #[.pointer (some ⟨k, 0, none⟩), .string x] w fun e w' => e = .returned (.tuple #[.int .i64 (pos ks x : Nat), .bool (there ks x)]) ∧ Below w.heap.size w w' := by
  have c0 := cell_of_row _ _ 0 _ _ _ h.box
  dsimp at c0
  rcases h.keys.row with ⟨rfl, rfl⟩ | ⟨g, cap, cur, rfl, hBg, hg, hcap, hmax⟩
  · have hr : pos [] x = 0 ∧ there [] x = false := ⟨rfl, rfl⟩
    rw [hr.1, hr.2]
    have H := Any2.slices_BinarySearch_string_empty lays26 none 0 x
    have H : ∀ w, Calls Try.prog 60 #[.slice none 0 0, .string x] w fun e w' => e = .returned (.tuple #[.int .i64 0, .bool false]) ∧ w' = w := H
    go_enter Try.func54, Try.ntmps54
    go_wp2_with fail
    refine (H _).mono ?_
    rintro e w1 ⟨rfl, rfl⟩
    go_wp2_with fail
    go_ret2
    exact ⟨rfl, Below.refl _ _⟩
  · obtain ⟨c1, c2, c3⟩ := cells_at hg
    have hcs : ∀ j, j < ks.length → w.cell? ⟨g, 0 + j, none⟩ = some (.string (ks.getD j x)) := fun j hj => c1 j _ (by
      rw [List.getElem?_append_left (by simpa using hj), List.getElem?_map, List.getElem?_eq_getElem hj]
      simp [List.getD, List.getElem?_eq_getElem hj])
    have H := Any2.slices_BinarySearch_string lays26 g 0 ks.length cap (fun j => ks.getD j x) x w (by omega) hcs
    rw [bs_pos ks x h.rise] at H
    have H : Calls Try.prog 60 #[.slice (some ⟨g, 0, none⟩) ks.length cap, .string x] w fun e w' => e = .returned (.tuple #[.int .i64 (pos ks x : Nat), .bool (there ks x)]) ∧ ∃ q, w' = w.drewN q := H
    generalize pos ks x = p at *
    generalize there ks x = t at *
    clear hcs c1 c2 c3
    go_enter Try.func54, Try.ntmps54
    go_wp2_with fail
    refine H.mono ?_
    rintro e w1 ⟨rfl, q, rfl⟩
    go_wp2_with fail
    go_ret2
    exact ⟨rfl, ⟨rfl, rfl, rfl, Nat.le_refl _, fun _ _ => rfl⟩⟩
end Go.Proofs.Ytobbgndabmnbcaa.Key
