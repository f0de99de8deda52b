/-
  Contracts of SamePairs, rise, and of the question whether there is a message of another Kind.
-/
import Derived.Test.YtobbgndabmnbcaaPairs
namespace Go.Proofs.Ytobbgndabmnbcaa.Key
open Go.RowKit Draw
open Go.Op (bytesLess)

theorem not_sameP {m m' : Pr} (h : ((m.key.toList == m'.key.toList) && (m.val.toList == m'.val.toList)) = false) : m ≠ m' := by
  rintro rfl
  simp at h
theorem is_sameP {m m' : Pr} (h : ((m.key.toList == m'.key.toList) && (m.val.toList == m'.val.toList)) = true) : m = m' := by
  obtain ⟨b, c⟩ := m
  obtain ⟨b', c'⟩ := m'
  have key : ∀ x y : ByteArray, x.toList = y.toList → x = y := fun x y h => by
    rw [Lib.toList_data, Lib.toList_data] at h
    rw [← str_eq x, ← str_eq y, h]
  simp only [Bool.and_eq_true, beq_iff_eq] at h
  rw [key _ _ h.1, key _ _ h.2]
theorem take_bothP {l l' : List Pr} {j : Nat} (h1 : j < l.length) (h2 : j < l'.length) (h3 : l.take j = l'.take j) (h4 : l[j] = l'[j]) : l.take (j + 1) = l'.take (j + 1) := by
  rw [List.take_succ_eq_append_getElem h1, List.take_succ_eq_append_getElem h2, h3, h4]

set_option maxHeartbeats 1000000 in
theorem same27 (a a' : Option Addr) (c c' : Nat) (l l' : List Pr) (w : World) (hl : l.length ≤ maxLen) (hl' : l'.length ≤ maxLen) (h : Prs w a l) (h' : Prs w a' l') :
    Calls Try.prog 27 #[.slice a l.length c, .slice a' l'.length c'] w fun x w' => Tells x (l = l') ∧ Below w.heap.size w w' := by
  unfold maxLen at hl hl'
  by_cases h0 : l.length = l'.length
  · rw [← h0]
    have h00 := hid h0
    clear h0
    generalize hn : l.length = n at *
    have HN := hid hn
    clear hn
    go_enter Try.func27, Try.ntmps27
    go_wp2_with fail
    go_loopw [13] (fun i wr => ∃ j : Nat, j ≤ n ∧ i = .int .i64 j ∧ Hid (l.take j = l'.take j) ∧ Below w.heap.size w wr) (fun i _ => n - (intOf i).toNat)
    case atStart => exact ⟨0, Nat.zero_le _, rfl, by simp [Hid], Below.refl _ _⟩
    case round =>
      obtain ⟨j, hj, rfl, hjt, hb⟩ := hrel
      by_cases hlt : j < n
      · have hlt1 : j < l.length := by rw [HN.out]; exact hlt
        have hlt2 : j < l'.length := by rw [← h00.out]; exact hlt
        obtain ⟨b, off, rfl, h6⟩ := (h.later hb).at hlt1
        obtain ⟨b', off', rfl, h6'⟩ := (h'.later hb).at hlt2
        obtain ⟨m, HM⟩ : ∃ m, Hid (l[j] = m) := ⟨_, hid rfl⟩
        obtain ⟨m', HM'⟩ : ∃ m, Hid (l'[j] = m) := ⟨_, hid rfl⟩
        rw [HM.out] at h6
        rw [HM'.out] at h6'
        have HS := hid (@is_sameP m m')
        have HD := hid (@not_sameP m m')
        obtain ⟨ky, vl⟩ := m
        obtain ⟨ky', vl'⟩ := m'
        dsimp only at HS HD
        clear h h'
        obtain ⟨t, HT⟩ : ∃ t, Hid (((ky.toList == ky'.toList) && (vl.toList == vl'.toList)) = t) := ⟨_, hid rfl⟩
        rw [HT.out] at HS HD
        go_upto_region 6 with fail
        refine wp_region_each [(some 16, [], false), (some 17, [], false), (some 18, [(0, 16), (1, 17)], false), (some 19, [(2, 18)], false), (some 20, [], false), (some 21, [], false), (some 22, [(4, 20), (5, 21)], false), (some 23, [(6, 22)], false), (some 24, [(3, 19), (7, 23)], true)]
          (fun u => Below wr.heap.size wr u) (fun _ u u' => Below u.heap.size u u')
          (fun i v _ => v = match i with | 0 => .slice (some ⟨b, off, none⟩) n c | 1 => .int .i64 j | 2 => .pointer (some ⟨b, off + j * 2, none⟩) | 3 => pv ⟨ky, vl⟩ | 4 => .slice (some ⟨b', off', none⟩) n c' | 5 => .int .i64 j | 6 => .pointer (some ⟨b', off' + j * 2, none⟩) | 7 => pv ⟨ky', vl'⟩ | _ => .bool (!t))
          (by kernel_rfl) (by kernel_rfl) (Below.refl _ _).drew (fun _ u u' h h' => h.trans (h'.mono h.size)) (fun _ _ _ _ _ _ _ _ h => h) ⟨?_, ?_, ?_, ?_, ?_, ?_, ?_, ?_, ?_, trivial⟩ ?_
        · rintro u hu
          exact opYields_val _ (by kernel_rfl) (by go_simp) ⟨Below.refl _ _, rfl⟩
        · rintro u hu
          exact opYields_val _ (by kernel_rfl) (by go_simp) ⟨Below.refl _ _, rfl⟩
        · rintro u hu _ rfl _ rfl
          exact opYields_val _ (by kernel_rfl) (by go_simp) ⟨Below.refl _ _, rfl⟩
        · rintro u hu _ rfl
          obtain ⟨c0, c1⟩ := h6.later hu
          exact opYields_val (pv ⟨ky, vl⟩) (by kernel_rfl) (by go_simp) ⟨Below.refl _ _, rfl⟩
        · rintro u hu
          exact opYields_val _ (by kernel_rfl) (by go_simp) ⟨Below.refl _ _, rfl⟩
        · rintro u hu
          exact opYields_val _ (by kernel_rfl) (by go_simp) ⟨Below.refl _ _, rfl⟩
        · rintro u hu _ rfl _ rfl
          exact opYields_val _ (by kernel_rfl) (by go_simp) ⟨Below.refl _ _, rfl⟩
        · rintro u hu _ rfl
          obtain ⟨c0, c1⟩ := h6'.later hu
          exact opYields_val (pv ⟨ky', vl'⟩) (by kernel_rfl) (by go_simp) ⟨Below.refl _ _, rfl⟩
        · rintro u hu _ rfl _ rfl
          refine opYields_val (.bool (!t)) (by kernel_rfl) ?_ ⟨Below.refl _ _, rfl⟩
          rw [← HT.out]
          cases q1 : (ky.toList == ky'.toList)
          · go_simp
          cases q2 : (vl.toList == vl'.toList)
          · go_simp
          · go_simp
        · rintro u hu _ _ _ _ _ _ _ _ _ rfl
          have hb' := hb.trans (hu.mono hb.size)
          simp only [givingAll, Act.put, List.setIfInBounds_toArray, List.set_cons_zero, List.set_cons_succ]
          cases t
          · have hne := hid (HD.out rfl)
            clear HD HS HT
            go_wp2_with fail
            go_ret
            exact ⟨Tells.no fun e => absurd (by subst e; exact HM.out.symm.trans HM'.out) hne.out, hb'⟩
          · have heq := hid (HS.out rfl)
            clear HD HS HT
            go_wp2_with fail
            go_roundw
            case rel => exact ⟨j + 1, by omega, by go_num, hid (take_bothP hlt1 hlt2 hjt.out (HM.out.trans (heq.out.trans HM'.out.symm))), hb'⟩
            case measure => simp [intOf]; omega
      · obtain rfl : j = n := by omega
        go_wp2_with fail
        go_ret
        refine ⟨Tells.yes ?_, hb⟩
        have := hjt.out
        rw [← HN.out, List.take_length, HN.out, h00.out, List.take_length] at this
        exact this
  · have hd : ((l.length : Int) == (l'.length : Int)) = false := by simp; omega
    have hd2 : ¬ l = l' := fun e => h0 (by rw [e])
    go_enter Try.func27, Try.ntmps27
    go_wp2_with fail
    go_ret
    exact ⟨Tells.no hd2, Below.refl _ _⟩
/-- is there a message of another Kind? -/
def anyOther (l : List M) : Bool := l.any otherB
set_option maxHeartbeats 1000000 in
theorem index53 (a : Option Addr) (c : Nat) (l : List M) (w : World) (hl : l.length ≤ maxLen) (hm : Msgs w a l) :
    Calls Try.prog 53 #[.slice a l.length c, .func (.func 41) #[] #[]] w fun x w' => ∃ i : Int, x = .returned (.int .i64 i) ∧ decide (0 ≤ i) = anyOther l ∧ Below w.heap.size w w' := by
  unfold maxLen at hl
  have HA := hid (show anyOther l = l.any otherB from rfl)
  generalize anyOther l = A at *
  have eg : ∀ args w, (callFunc 41 args).run Try.prog w = .ok (.enter 41 args) w := enters_of Try.func41 (by kernel_rfl) rfl
  generalize hn : l.length = n at *
  have HN := hid hn
  clear hn
  go_enter Try.func53, Try.ntmps53
  go_wp2_with fail
  go_loopw [8] (fun i wr => ∃ j : Nat, j ≤ n ∧ i = .int .i64 j ∧ Hid ((l.take j).any otherB = false) ∧ Below w.heap.size w wr) (fun i _ => n - (intOf i).toNat)
  case atStart => exact ⟨0, Nat.zero_le _, rfl, by simp [Hid], Below.refl _ _⟩
  case round =>
    obtain ⟨j, hj, rfl, hjn, hb⟩ := hrel
    by_cases hlt : j < n
    · have hlt' : j < l.length := by rw [HN.out]; exact hlt
      obtain ⟨b, off, rfl, h6⟩ := (hm.later hb).at hlt'
      obtain ⟨m, HM⟩ : ∃ m, Hid (l[j] = m) := ⟨_, hid rfl⟩
      rw [HM.out] at h6
      have HO := other41 m
      obtain ⟨t, HT⟩ : ∃ t, Hid (otherB m = t) := ⟨_, hid rfl⟩
      rw [HT.out] at HO
      obtain ⟨kd, ky, vl, bk, dp, ad⟩ := m
      obtain ⟨c0, c1, c2, c3, c4, c5⟩ := h6
      dsimp only at c0 c1 c2 c3 c4 c5
      go_wp2_with fail
      refine (HO _).mono ?_
      rintro x w1 ⟨rfl, hb1⟩
      replace hb1 := hb.trans (hb1.mono hb.size)
      clear c0 c1 c2 c3 c4 c5 HO
      cases t
      · go_wp2_with fail
        go_roundw
        case rel => exact ⟨j + 1, by omega, by go_num, by unfold Hid at *; rw [any_take_succ l otherB hlt', hjn, HM, HT]; rfl, hb1⟩
        case measure => simp [intOf]; omega
      · go_wp2_with fail
        go_ret
        exact ⟨_, rfl, by rw [HA.out, any_at l otherB hlt' (by rw [HM.out]; exact HT.out)]; simp, hb1⟩
    · obtain rfl : j = n := by omega
      go_wp2_with fail
      go_ret
      have hno := hjn.out
      rw [← HN.out, List.take_length] at hno
      exact ⟨_, rfl, by rw [HA.out, hno]; rfl, hb⟩
set_option maxHeartbeats 1000000 in
theorem contains42 (a : Option Addr) (c : Nat) (l : List M) (w : World) (hl : l.length ≤ maxLen) (hm : Msgs w a l) :
    Calls Try.prog 42 #[.slice a l.length c, .func (.func 41) #[] #[]] w fun x w' => x = .returned (.bool (anyOther l)) ∧ Below w.heap.size w w' := by
  have HI := index53 a c l w hl hm
  generalize anyOther l = A at *
  generalize l.length = n at *
  go_enter Try.func42, Try.ntmps42
  go_wp2_with fail
  refine HI.mono ?_
  rintro x w1 ⟨i, rfl, hi, hb1⟩
  go_wp2_with fail
  go_ret
  exact ⟨rfl, hb1⟩
/-- do the keys rise? -/
def riseB (l : List Pr) : Bool := (List.range (l.length - 1)).all fun i => lessS (l.getD i Pr.nil).key (l.getD (i + 1) Pr.nil).key
theorem riseB_step (l : List Pr) (j : Nat) (h : j + 1 < l.length) : (List.range (j + 1)).all (fun i => lessS (l.getD i Pr.nil).key (l.getD (i + 1) Pr.nil).key) = ((List.range j).all (fun i => lessS (l.getD i Pr.nil).key (l.getD (i + 1) Pr.nil).key) && lessS (l[j]'(by omega)).key l[j + 1].key) := by
  rw [List.range_succ, List.all_append]
  simp [List.getD, List.getElem?_eq_getElem h, List.getElem?_eq_getElem (show j < l.length by omega)]
theorem riseB_no (l : List Pr) (j : Nat) (h : j + 1 < l.length) (hn : lessS (l[j]'(by omega)).key l[j + 1].key = false) : riseB l = false := by
  unfold riseB
  rw [Bool.eq_false_iff]
  intro ha
  have := List.all_eq_true.1 ha j (List.mem_range.2 (by omega))
  simp [List.getD, List.getElem?_eq_getElem h, List.getElem?_eq_getElem (show j < l.length by omega)] at this
  rw [hn] at this
  cases this
theorem ge_no {a b : ByteArray} (h : lessS a b = true) : (bytesLess b.toList a.toList || a.toList == b.toList) = false := by
  have h2 := lessS_asymm h
  unfold lessS at h h2
  rw [h2]
  cases he : (a.toList == b.toList) with
  | false => rfl
  | true =>
    have : a.toList = b.toList := by simpa using he
    rw [this, less_self] at h
    cases h
end Go.Proofs.Ytobbgndabmnbcaa.Key
