/-
  Contract of Same, the document's: are two rows of messages the same?
-/
import Derived.Test.YtmnngfbcgpholaaMs
import Derived.Test.YtmnngfbcgpholaaKd
import Derived.Laws.StructEq
import Derived.Deep.CutRange
namespace Go.Proofs.Ytmnngfbcgpholaa.Key
open Go.RowKit Draw
open Go.Op (bytesLess)

theorem not_same {m m' : M} (h : ((m.kind == m'.kind) && ((m.key.toList == m'.key.toList) && ((m.val.toList == m'.val.toList) && ((m.blk == m'.blk) && ((m.deep == m'.deep) && (m.add.toList == m'.add.toList)))))) = false) : m ≠ m' := by
  rintro rfl
  simp at h
theorem is_same {m m' : M} (h : ((m.kind == m'.kind) && ((m.key.toList == m'.key.toList) && ((m.val.toList == m'.val.toList) && ((m.blk == m'.blk) && ((m.deep == m'.deep) && (m.add.toList == m'.add.toList)))))) = true) : m = m' := by
  obtain ⟨a, b, c, d, e, f⟩ := m
  obtain ⟨a', b', c', d', e', f'⟩ := m'
  have key : ∀ x y : ByteArray, x.toList = y.toList → x = y := fun x y h => by
    rw [Lib.toList_data, Lib.toList_data] at h
    rw [← str_eq x, ← str_eq y, h]
  simp only [Bool.and_eq_true, beq_iff_eq] at h
  obtain ⟨h1, h2, h3, h4, h5, h6⟩ := h
  rw [h1, key _ _ h2, key _ _ h3, h4, h5, key _ _ h6]

theorem take_both {l l' : List M} {j : Nat} (h1 : j < l.length) (h2 : j < l'.length) (h3 : l.take j = l'.take j) (h4 : l[j] = l'[j]) : l.take (j + 1) = l'.take (j + 1) := by
  rw [List.take_succ_eq_append_getElem h1, List.take_succ_eq_append_getElem h2, h3, h4]

/-- true is told just if p holds -/
def Tells (x : Ending) (p : Prop) : Prop := ∃ b, x = .returned (.bool b) ∧ (b = true ↔ p)
theorem Tells.no {p : Prop} (h : ¬ p) : Tells (.returned (.bool false)) p := ⟨false, rfl, ⟨fun h => absurd h (by decide), fun e => absurd e h⟩⟩
theorem Tells.yes {p : Prop} (h : p) : Tells (.returned (.bool true)) p := ⟨true, rfl, ⟨fun _ => h, fun _ => rfl⟩⟩

set_option maxRecDepth 100000 in
set_option maxHeartbeats 1000000 in
theorem same29 (a a' : Option Addr) (c c' : Nat) (l l' : List M) (w : World) (hl : l.length ≤ maxLen) (hl' : l'.length ≤ maxLen) (h : Msgs w a l) (h' : Msgs w a' l') :
    Calls Try.prog 26 #[.slice a l.length c, .slice a' l'.length c'] w fun x w' => Tells x (l = l') ∧ Below w.heap.size w w' := by
  unfold maxLen at hl hl'
  by_cases h0 : l.length = l'.length
  · rw [← h0]
    have h00 := hid h0
    clear h0
    generalize hn : l.length = n at *
    have HN := hid hn
    clear hn
    go_enter Try.func26, Try.ntmps26
    go_wp2_with fail
    go_loopw [13] (fun i wr => ∃ j : Nat, j ≤ n ∧ i = .int .i64 j ∧ Hid (l.take j = l'.take j) ∧ Below w.heap.size w wr) (fun i _ => n - (intOf i).toNat)
    case atStart => exact ⟨0, Nat.zero_le _, rfl, by simp [Hid], Below.refl _ _⟩
    case round =>
      obtain ⟨j, hj, rfl, hjt, hb⟩ := hrel
      by_cases hlt : j < n
      · have hlt1 : j < l.length := by rw [HN.out]; exact hlt
        have hlt2 : j < l'.length := by rw [← h00.out]; exact hlt
        obtain ⟨b, off, rfl, h6⟩ := (h.later hb).at hlt1
        obtain ⟨b', off', rfl, h6'⟩ := (h'.later hb).at hlt2
        obtain ⟨m, HM⟩ : ∃ m, Hid (l[j] = m) := ⟨_, hid rfl⟩
        obtain ⟨m', HM'⟩ : ∃ m, Hid (l'[j] = m) := ⟨_, hid rfl⟩
        rw [HM.out] at h6
        rw [HM'.out] at h6'
        have HS := hid (@is_same m m')
        have HD := hid (@not_same m m')
        obtain ⟨kd, ky, vl, bk, dp, ad⟩ := m
        obtain ⟨kd', ky', vl', bk', dp', ad'⟩ := m'
        dsimp only at HS HD
        clear h h'
        obtain ⟨t, HT⟩ : ∃ t, Hid (((kd == kd') && ((ky.toList == ky'.toList) && ((vl.toList == vl'.toList) && ((bk == bk') && ((dp == dp') && (ad.toList == ad'.toList)))))) = t) := ⟨_, hid rfl⟩
        rw [HT.out] at HS HD
        go_upto_region 6 with fail
        refine wp_region_each [(some 16, [], false), (some 17, [], false), (some 18, [(0, 16), (1, 17)], false), (some 19, [(2, 18)], false), (some 20, [], false), (some 21, [], false), (some 22, [(4, 20), (5, 21)], false), (some 23, [(6, 22)], false), (some 24, [(3, 19), (7, 23)], true)]
          (fun u => Below wr.heap.size wr u) (fun _ u u' => Below u.heap.size u u')
          (fun i v _ => v = match i with | 0 => .slice (some ⟨b, off, none⟩) n c | 1 => .int .i64 j | 2 => .pointer (some ⟨b, off + j * 6, none⟩) | 3 => mv ⟨kd, ky, vl, bk, dp, ad⟩ | 4 => .slice (some ⟨b', off', none⟩) n c' | 5 => .int .i64 j | 6 => .pointer (some ⟨b', off' + j * 6, none⟩) | 7 => mv ⟨kd', ky', vl', bk', dp', ad'⟩ | _ => .bool (!t))
          (by kernel_rfl) (by kernel_rfl) (Below.refl _ _).drew (fun _ u u' h h' => h.trans (h'.mono h.size)) (fun _ _ _ _ _ _ _ _ h => h) ⟨?_, ?_, ?_, ?_, ?_, ?_, ?_, ?_, ?_, trivial⟩ ?_
        · rintro u hu
          exact opYields_val _ (by kernel_rfl) (by go_simp) ⟨Below.refl _ _, rfl⟩
        · rintro u hu
          exact opYields_val _ (by kernel_rfl) (by go_simp) ⟨Below.refl _ _, rfl⟩
        · rintro u hu _ rfl _ rfl
          exact opYields_val _ (by kernel_rfl) (by go_simp) ⟨Below.refl _ _, rfl⟩
        · rintro u hu _ rfl
          obtain ⟨c0, c1, c2, c3, c4, c5⟩ := h6.later hu
          exact opYields_val (mv ⟨kd, ky, vl, bk, dp, ad⟩) (by kernel_rfl) (by go_simp) ⟨Below.refl _ _, rfl⟩
        · rintro u hu
          exact opYields_val _ (by kernel_rfl) (by go_simp) ⟨Below.refl _ _, rfl⟩
        · rintro u hu
          exact opYields_val _ (by kernel_rfl) (by go_simp) ⟨Below.refl _ _, rfl⟩
        · rintro u hu _ rfl _ rfl
          exact opYields_val _ (by kernel_rfl) (by go_simp) ⟨Below.refl _ _, rfl⟩
        · rintro u hu _ rfl
          obtain ⟨c0, c1, c2, c3, c4, c5⟩ := h6'.later hu
          exact opYields_val (mv ⟨kd', ky', vl', bk', dp', ad'⟩) (by kernel_rfl) (by go_simp) ⟨Below.refl _ _, rfl⟩
        · rintro u hu _ rfl _ rfl
          refine opYields_val (.bool (!t)) (by kernel_rfl) ?_ ⟨Below.refl _ _, rfl⟩
          rw [← HT.out]
          cases q0 : (kd == kd')
          · go_simp
          cases q1 : (ky.toList == ky'.toList)
          · go_simp
          cases q2 : (vl.toList == vl'.toList)
          · go_simp
          cases q3 : (bk == bk')
          · go_simp
          cases q4 : (dp == dp')
          · go_simp
          cases q5 : (ad.toList == ad'.toList)
          · go_simp
          · go_simp
        · rintro u hu _ _ _ _ _ _ _ _ _ rfl
          have hb' := hb.trans (hu.mono hb.size)
          simp only [givingAll, Act.put, List.setIfInBounds_toArray, List.set_cons_zero, List.set_cons_succ]
          cases t
          · have hne := hid (HD.out rfl)
            clear HD HS HT
            go_wp2_with fail
            go_ret
            exact ⟨Tells.no fun e => absurd (by subst e; exact HM.out.symm.trans HM'.out) hne.out, hb'⟩
          · have heq := hid (HS.out rfl)
            clear HD HS HT
            go_wp2_with fail
            go_roundw
            case rel => exact ⟨j + 1, by omega, by go_num, hid (take_both hlt1 hlt2 hjt.out (HM.out.trans (heq.out.trans HM'.out.symm))), hb'⟩
            case measure => simp [intOf]; omega
      · obtain rfl : j = n := by omega
        go_wp2_with fail
        go_ret
        refine ⟨Tells.yes ?_, hb⟩
        have := hjt.out
        rw [← HN.out, List.take_length, HN.out, h00.out, List.take_length] at this
        exact this
  · have hd : ((l.length : Int) == (l'.length : Int)) = false := by simp; omega
    have hd2 : ¬ l = l' := fun e => h0 (by rw [e])
    go_enter Try.func26, Try.ntmps26
    go_wp2_with fail
    go_ret
    exact ⟨Tells.no hd2, Below.refl _ _⟩
end Go.Proofs.Ytmnngfbcgpholaa.Key
