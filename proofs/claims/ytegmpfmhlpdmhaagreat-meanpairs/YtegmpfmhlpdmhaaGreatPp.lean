/-
  Pairs: in memory; contract of GreatPairs.
  Contract of SamePairs.
-/
import Derived.Test.YtegmpfmhlpdmhaaGreatSame
namespace Go.Proofs.YtegmpfmhlpdmhaaGreat.Key
open Go.RowKit Draw
open Go.Op (bytesLess)

/-- a pair -/
structure Pr where
  key : ByteArray
  val : ByteArray
def Pr.nil : Pr := ⟨⟨#[]⟩, ⟨#[]⟩⟩
def Pr.cells (p : Pr) : List Value := [.string p.key, .string p.val]
abbrev pv (p : Pr) : Value := .agg #[.string p.key, .string p.val]
structure Two (w : World) (b o : Nat) (p : Pr) : Prop where
  c0 : w.cell? ⟨b, o, none⟩ = some (.string p.key)
  c1 : w.cell? ⟨b, o + 1, none⟩ = some (.string p.val)
theorem Two.lt {w : World} {b o : Nat} {p : Pr} (h : Two w b o p) : b < w.heap.size := World.block_lt_of_cell? w _ h.c0
theorem Two.below {w w' : World} {b o B : Nat} {p : Pr} (h : Two w b o p) (hb : Below B w w') (hB : b < B) : Two w' b o p := ⟨(hb.cell (p := ⟨b, o, none⟩) hB).trans h.c0, (hb.cell (p := ⟨b, o + 1, none⟩) hB).trans h.c1⟩
theorem Two.later {w w' : World} {b o : Nat} {p : Pr} (h : Two w b o p) (hb : Below w.heap.size w w') : Two w' b o p := h.below hb h.lt
/-- a slice of pairs -/
def Prs (w : World) (a : Option Addr) (l : List Pr) : Prop := l = [] ∨ ∃ b off, a = some ⟨b, off, none⟩ ∧ ∀ i (h : i < l.length), Two w b (off + i * 2) l[i]
theorem Prs.at {w : World} {a : Option Addr} {l : List Pr} (h : Prs w a l) {i : Nat} (hi : i < l.length) : ∃ b off, a = some ⟨b, off, none⟩ ∧ Two w b (off + i * 2) l[i] := by
  rcases h with rfl | ⟨b, off, rfl, hc⟩
  · simp at hi
  · exact ⟨b, off, rfl, hc i hi⟩
theorem Prs.at2 {w : World} {a : Option Addr} {l : List Pr} (h : Prs w a l) {i j : Nat} (hi : i < l.length) (hj : j < l.length) : ∃ b off, a = some ⟨b, off, none⟩ ∧ Two w b (off + i * 2) l[i] ∧ Two w b (off + j * 2) l[j] := by
  rcases h with rfl | ⟨b, off, rfl, hc⟩
  · simp at hi
  · exact ⟨b, off, rfl, hc i hi, hc j hj⟩
theorem Prs.later {w w' : World} {a : Option Addr} {l : List Pr} (h : Prs w a l) (hb : Below w.heap.size w w') : Prs w' a l := by
  rcases h with rfl | ⟨b, off, rfl, hc⟩
  · exact .inl rfl
  · exact .inr ⟨b, off, rfl, fun i hi => (hc i hi).later hb⟩

def greatP (p : Pr) : Bool := decide (100 < p.key.size) || decide (100 < p.val.size)
def greatPL (l : List Pr) : Bool := decide (60 < l.length) || l.any greatP

set_option maxRecDepth 100000 in
set_option maxHeartbeats 1000000 in
theorem great21 (a : Option Addr) (c : Nat) (l : List Pr) (w : World) (hl : l.length ≤ maxLen) (h : Prs w a l) :
    Calls Tryz.prog 33 #[.slice a l.length c] w fun x w' => x = .returned (.bool (greatPL l)) ∧ w' = w := by
  unfold maxLen at hl
  by_cases h0 : 60 < l.length
  · have hr : greatPL l = true := by simp [greatPL, h0]
    have hd : decide ((60 : Int) < (l.length : Int)) = true := by simp; omega
    rw [hr]
    clear hr
    go_enter Tryz.func33, Tryz.ntmps33
    go_wp2_with fail
    go_ret
    exact ⟨rfl, rfl⟩
  · have hr : greatPL l = l.any greatP := by simp [greatPL, h0]
    have hd : decide ((60 : Int) < (l.length : Int)) = false := by simp; omega
    rw [hr]
    clear hr
    generalize hA : l.any greatP = A
    have HA := hid hA
    clear hA
    generalize hn : l.length = n at *
    have HN := hid hn
    clear hn
    go_enter Tryz.func33, Tryz.ntmps33
    go_wp2_with fail
    go_loop [9] (fun i => ∃ j : Nat, j ≤ n ∧ i = .int .i64 j ∧ Hid ((l.take j).any greatP = false)) (fun i => n - (intOf i).toNat)
    case atStart => exact ⟨0, Nat.zero_le _, rfl, by simp [Hid]⟩
    case round =>
      obtain ⟨j, hj, rfl, hjn⟩ := hrel
      by_cases hlt : j < n
      · have hlt' : j < l.length := by rw [HN.out]; exact hlt
        obtain ⟨b, off, rfl, h6⟩ := h.at hlt'
        obtain ⟨m, HM⟩ : ∃ m, Hid (l[j] = m) := ⟨_, hid rfl⟩
        rw [HM.out] at h6
        have hg : greatP m = (decide (100 < m.key.size) || decide (100 < m.val.size)) := rfl
        obtain ⟨ky, vl⟩ := m
        obtain ⟨c0, c1⟩ := h6
        dsimp only at c0 c1 hg
        cases k1 : decide (100 < ky.size)
        · have k1' := gr_int k1
          cases k2 : decide (100 < vl.size)
          · have k2' := gr_int k2
            rw [k1, k2] at hg
            have HG := hid hg
            clear hg k1 k2
            go_wp2_with fail
            go_round
            case rel => exact ⟨j + 1, by omega, by go_num, by unfold Hid at *; rw [any_take_succ l greatP hlt', hjn, HM, HG]; rfl⟩
            case measure => simp [intOf]; omega
          · have k2' := gr_int k2
            rw [k1, k2] at hg
            have HG := hid hg
            clear hg k1 k2
            go_wp2_with fail
            go_ret
            exact ⟨ret_bool (by rw [← HA.out]; exact (any_at l greatP hlt' (by rw [HM.out]; exact HG.out)).symm), rfl⟩
        · have k1' := gr_int k1
          rw [k1] at hg
          have HG := hid hg
          clear hg k1
          go_wp2_with fail
          go_ret
          exact ⟨ret_bool (by rw [← HA.out]; exact (any_at l greatP hlt' (by rw [HM.out]; exact HG.out)).symm), rfl⟩
      · obtain rfl : j = n := by omega
        go_wp2_with fail
        go_ret
        refine ⟨ret_bool ?_, rfl⟩
        rw [← HA.out, ← hjn.out, ← HN.out, List.take_length]
end Go.Proofs.YtegmpfmhlpdmhaaGreat.Key

namespace Go.Proofs.YtegmpfmhlpdmhaaGreat.Key
open Go.RowKit Draw
open Go.Op (bytesLess)

theorem not_sameP {m m' : Pr} (h : ((m.key.toList == m'.key.toList) && (m.val.toList == m'.val.toList)) = false) : m ≠ m' := by
  rintro rfl
  simp at h
theorem is_sameP {m m' : Pr} (h : ((m.key.toList == m'.key.toList) && (m.val.toList == m'.val.toList)) = true) : m = m' := by
  obtain ⟨b, c⟩ := m
  obtain ⟨b', c'⟩ := m'
  have key : ∀ x y : ByteArray, x.toList = y.toList → x = y := fun x y h => by
    rw [Lib.toList_data, Lib.toList_data] at h
    rw [← str_eq x, ← str_eq y, h]
  simp only [Bool.and_eq_true, beq_iff_eq] at h
  rw [key _ _ h.1, key _ _ h.2]
theorem take_bothP {l l' : List Pr} {j : Nat} (h1 : j < l.length) (h2 : j < l'.length) (h3 : l.take j = l'.take j) (h4 : l[j] = l'[j]) : l.take (j + 1) = l'.take (j + 1) := by
  rw [List.take_succ_eq_append_getElem h1, List.take_succ_eq_append_getElem h2, h3, h4]

set_option maxRecDepth 100000 in
set_option maxHeartbeats 1000000 in
theorem same28 (a a' : Option Addr) (c c' : Nat) (l l' : List Pr) (w : World) (hl : l.length ≤ maxLen) (hl' : l'.length ≤ maxLen) (h : Prs w a l) (h' : Prs w a' l') :
    Calls Tryz.prog 7 #[.slice a l.length c, .slice a' l'.length c'] w fun x w' => Tells x (l = l') ∧ Below w.heap.size w w' := by
  unfold maxLen at hl hl'
  by_cases h0 : l.length = l'.length
  · rw [← h0]
    have h00 := hid h0
    clear h0
    generalize hn : l.length = n at *
    have HN := hid hn
    clear hn
    go_enter Tryz.func7, Tryz.ntmps7
    go_wp2_with fail
    go_loopw [13] (fun i wr => ∃ j : Nat, j ≤ n ∧ i = .int .i64 j ∧ Hid (l.take j = l'.take j) ∧ Below w.heap.size w wr) (fun i _ => n - (intOf i).toNat)
    case atStart => exact ⟨0, Nat.zero_le _, rfl, by simp [Hid], Below.refl _ _⟩
    case round =>
      obtain ⟨j, hj, rfl, hjt, hb⟩ := hrel
      by_cases hlt : j < n
      · have hlt1 : j < l.length := by rw [HN.out]; exact hlt
        have hlt2 : j < l'.length := by rw [← h00.out]; exact hlt
        obtain ⟨b, off, rfl, h6⟩ := (h.later hb).at hlt1
        obtain ⟨b', off', rfl, h6'⟩ := (h'.later hb).at hlt2
        obtain ⟨m, HM⟩ : ∃ m, Hid (l[j] = m) := ⟨_, hid rfl⟩
        obtain ⟨m', HM'⟩ : ∃ m, Hid (l'[j] = m) := ⟨_, hid rfl⟩
        rw [HM.out] at h6
        rw [HM'.out] at h6'
        have HS := hid (@is_sameP m m')
        have HD := hid (@not_sameP m m')
        obtain ⟨ky, vl⟩ := m
        obtain ⟨ky', vl'⟩ := m'
        dsimp only at HS HD
        clear h h'
        obtain ⟨t, HT⟩ : ∃ t, Hid (((ky.toList == ky'.toList) && (vl.toList == vl'.toList)) = t) := ⟨_, hid rfl⟩
        rw [HT.out] at HS HD
        go_upto_region 6 with fail
        refine wp_region_each [(some 16, [], false), (some 17, [], false), (some 18, [(0, 16), (1, 17)], false), (some 19, [(2, 18)], false), (some 20, [], false), (some 21, [], false), (some 22, [(4, 20), (5, 21)], false), (some 23, [(6, 22)], false), (some 24, [(3, 19), (7, 23)], true)]
          (fun u => Below wr.heap.size wr u) (fun _ u u' => Below u.heap.size u u')
          (fun i v _ => v = match i with | 0 => .slice (some ⟨b, off, none⟩) n c | 1 => .int .i64 j | 2 => .pointer (some ⟨b, off + j * 2, none⟩) | 3 => pv ⟨ky, vl⟩ | 4 => .slice (some ⟨b', off', none⟩) n c' | 5 => .int .i64 j | 6 => .pointer (some ⟨b', off' + j * 2, none⟩) | 7 => pv ⟨ky', vl'⟩ | _ => .bool (!t))
          (by kernel_rfl) (by kernel_rfl) (Below.refl _ _).drew (fun _ u u' h h' => h.trans (h'.mono h.size)) (fun _ _ _ _ _ _ _ _ h => h) ⟨?_, ?_, ?_, ?_, ?_, ?_, ?_, ?_, ?_, trivial⟩ ?_
        · rintro u hu
          exact opYields_val _ (by kernel_rfl) (by go_simp) ⟨Below.refl _ _, rfl⟩
        · rintro u hu
          exact opYields_val _ (by kernel_rfl) (by go_simp) ⟨Below.refl _ _, rfl⟩
        · rintro u hu _ rfl _ rfl
          exact opYields_val _ (by kernel_rfl) (by go_simp) ⟨Below.refl _ _, rfl⟩
        · rintro u hu _ rfl
          obtain ⟨c0, c1⟩ := h6.later hu
          exact opYields_val (pv ⟨ky, vl⟩) (by kernel_rfl) (by go_simp) ⟨Below.refl _ _, rfl⟩
        · rintro u hu
          exact opYields_val _ (by kernel_rfl) (by go_simp) ⟨Below.refl _ _, rfl⟩
        · rintro u hu
          exact opYields_val _ (by kernel_rfl) (by go_simp) ⟨Below.refl _ _, rfl⟩
        · rintro u hu _ rfl _ rfl
          exact opYields_val _ (by kernel_rfl) (by go_simp) ⟨Below.refl _ _, rfl⟩
        · rintro u hu _ rfl
          obtain ⟨c0, c1⟩ := h6'.later hu
          exact opYields_val (pv ⟨ky', vl'⟩) (by kernel_rfl) (by go_simp) ⟨Below.refl _ _, rfl⟩
        · rintro u hu _ rfl _ rfl
          refine opYields_val (.bool (!t)) (by kernel_rfl) ?_ ⟨Below.refl _ _, rfl⟩
          rw [← HT.out]
          cases q1 : (ky.toList == ky'.toList)
          · go_simp
          cases q2 : (vl.toList == vl'.toList)
          · go_simp
          · go_simp
        · rintro u hu _ _ _ _ _ _ _ _ _ rfl
          have hb' := hb.trans (hu.mono hb.size)
          simp only [givingAll, Act.put, List.setIfInBounds_toArray, List.set_cons_zero, List.set_cons_succ]
          cases t
          · have hne := hid (HD.out rfl)
            clear HD HS HT
            go_wp2_with fail
            go_ret
            exact ⟨Tells.no fun e => absurd (by subst e; exact HM.out.symm.trans HM'.out) hne.out, hb'⟩
          · have heq := hid (HS.out rfl)
            clear HD HS HT
            go_wp2_with fail
            go_roundw
            case rel => exact ⟨j + 1, by omega, by go_num, hid (take_bothP hlt1 hlt2 hjt.out (HM.out.trans (heq.out.trans HM'.out.symm))), hb'⟩
            case measure => simp [intOf]; omega
      · obtain rfl : j = n := by omega
        go_wp2_with fail
        go_ret
        refine ⟨Tells.yes ?_, hb⟩
        have := hjt.out
        rw [← HN.out, List.take_length, HN.out, h00.out, List.take_length] at this
        exact this
  · have hd : ((l.length : Int) == (l'.length : Int)) = false := by simp; omega
    have hd2 : ¬ l = l' := fun e => h0 (by rw [e])
    go_enter Tryz.func7, Tryz.ntmps7
    go_wp2_with fail
    go_ret
    exact ⟨Tells.no hd2, Below.refl _ _⟩
end Go.Proofs.YtegmpfmhlpdmhaaGreat.Key
