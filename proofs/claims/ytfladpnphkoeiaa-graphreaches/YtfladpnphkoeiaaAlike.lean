/-
  Contracts of alike at pairs, texts, edges and messages, and of SameBlocks: are two lists the same?
-/
import Derived.Test.YtfladpnphkoeiaaNode
import Derived.Test.YtfladpnphkoeiaaDraw
namespace Go.Proofs.Ytfladpnphkoeiaa.Key
open Go.RowKit Draw
open Go.Op (bytesLess)

theorem take_two {α : Type} {l l' : List α} {j : Nat} (h1 : j < l.length) (h2 : j < l'.length) (h3 : l.take j = l'.take j) (h4 : l[j] = l'[j]) : l.take (j + 1) = l'.take (j + 1) := by
  rw [List.take_succ_eq_append_getElem h1, List.take_succ_eq_append_getElem h2, h3, h4]
/-- a cell that holds a text -/
structure OneS (w : World) (b o : Nat) (s : ByteArray) : Prop where
  c0 : w.cell? ⟨b, o, none⟩ = some (.string s)
theorem OneS.later {w w' : World} {b o : Nat} {s : ByteArray} (h : OneS w b o s) (hb : Below w.heap.size w w') : OneS w' b o s := ⟨(hb.cell (p := ⟨b, o, none⟩) (World.block_lt_of_cell? w _ h.c0)).trans h.c0⟩
theorem Txts.one {w : World} {a : Option Addr} {l : List ByteArray} (h : Txts w a l) {i : Nat} (hi : i < l.length) : ∃ b off, a = some ⟨b, off, none⟩ ∧ OneS w b (off + i) l[i] := by
  obtain ⟨b, off, e, hc⟩ := h.at hi
  exact ⟨b, off, e, ⟨hc⟩⟩
/-- a cell that holds a number -/
structure OneU (w : World) (b o : Nat) (z : Int) : Prop where
  c0 : w.cell? ⟨b, o, none⟩ = some (.int .u32 z)
theorem OneU.later {w w' : World} {b o : Nat} {z : Int} (h : OneU w b o z) (hb : Below w.heap.size w w') : OneU w' b o z := ⟨(hb.cell (p := ⟨b, o, none⟩) (World.block_lt_of_cell? w _ h.c0)).trans h.c0⟩
/-- a slice of numbers -/
def Nums (w : World) (a : Option Addr) (l : List Int) : Prop := l = [] ∨ ∃ b off, a = some ⟨b, off, none⟩ ∧ ∀ i (h : i < l.length), OneU w b (off + i) l[i]
theorem Nums.one {w : World} {a : Option Addr} {l : List Int} (h : Nums w a l) {i : Nat} (hi : i < l.length) : ∃ b off, a = some ⟨b, off, none⟩ ∧ OneU w b (off + i) l[i] := by
  rcases h with rfl | ⟨b, off, rfl, hc⟩
  · simp at hi
  · exact ⟨b, off, rfl, hc i hi⟩
theorem Nums.later {w w' : World} {a : Option Addr} {l : List Int} (h : Nums w a l) (hb : Below w.heap.size w w') : Nums w' a l := by
  rcases h with rfl | ⟨b, off, rfl, hc⟩
  · exact .inl rfl
  · exact .inr ⟨b, off, rfl, fun i hi => (hc i hi).later hb⟩
theorem not_samePr {m m' : Pr} (h : ((m.key.toList == m'.key.toList) && (m.val.toList == m'.val.toList)) = false) : m ≠ m' := by
  rintro rfl
  simp at h
theorem is_samePr {m m' : Pr} (h : ((m.key.toList == m'.key.toList) && (m.val.toList == m'.val.toList)) = true) : m = m' := by
  have key : ∀ x y : ByteArray, x.toList = y.toList → x = y := fun x y h => by
    rw [Lib.toList_data, Lib.toList_data] at h
    rw [← str_eq x, ← str_eq y, h]
  obtain ⟨ky, vl⟩ := m
  obtain ⟨ky', vl'⟩ := m'
  simp only [Bool.and_eq_true, beq_iff_eq] at h
  obtain ⟨h0, h1⟩ := h
  rw [key _ _ h0, key _ _ h1]
theorem not_sameS {m m' : ByteArray} (h : (m.toList == m'.toList) = false) : m ≠ m' := by
  rintro rfl
  simp at h
theorem is_sameS {m m' : ByteArray} (h : (m.toList == m'.toList) = true) : m = m' := by
  have key : ∀ x y : ByteArray, x.toList = y.toList → x = y := fun x y h => by
    rw [Lib.toList_data, Lib.toList_data] at h
    rw [← str_eq x, ← str_eq y, h]
  exact key _ _ (eq_of_beq h)
theorem not_sameE {m m' : E} (h : ((m.blk == m'.blk) && ((m.deep == m'.deep) && ((m.strip.toList == m'.strip.toList) && (m.add.toList == m'.add.toList)))) = false) : m ≠ m' := by
  rintro rfl
  simp at h
theorem is_sameE {m m' : E} (h : ((m.blk == m'.blk) && ((m.deep == m'.deep) && ((m.strip.toList == m'.strip.toList) && (m.add.toList == m'.add.toList)))) = true) : m = m' := by
  have key : ∀ x y : ByteArray, x.toList = y.toList → x = y := fun x y h => by
    rw [Lib.toList_data, Lib.toList_data] at h
    rw [← str_eq x, ← str_eq y, h]
  obtain ⟨bk, dp, st, ad⟩ := m
  obtain ⟨bk', dp', st', ad'⟩ := m'
  simp only [Bool.and_eq_true, beq_iff_eq] at h
  obtain ⟨h0, h1, h2, h3⟩ := h
  rw [h0, h1, key _ _ h2, key _ _ h3]
theorem not_sameM {m m' : M} (h : ((m.kind == m'.kind) && ((m.key.toList == m'.key.toList) && ((m.val.toList == m'.val.toList) && ((m.blk == m'.blk) && ((m.deep == m'.deep) && (m.add.toList == m'.add.toList)))))) = false) : m ≠ m' := by
  rintro rfl
  simp at h
theorem is_sameM {m m' : M} (h : ((m.kind == m'.kind) && ((m.key.toList == m'.key.toList) && ((m.val.toList == m'.val.toList) && ((m.blk == m'.blk) && ((m.deep == m'.deep) && (m.add.toList == m'.add.toList)))))) = true) : m = m' := by
  have key : ∀ x y : ByteArray, x.toList = y.toList → x = y := fun x y h => by
    rw [Lib.toList_data, Lib.toList_data] at h
    rw [← str_eq x, ← str_eq y, h]
  obtain ⟨kd, ky, vl, bk, dp, ad⟩ := m
  obtain ⟨kd', ky', vl', bk', dp', ad'⟩ := m'
  simp only [Bool.and_eq_true, beq_iff_eq] at h
  obtain ⟨h0, h1, h2, h3, h4, h5⟩ := h
  rw [h0, key _ _ h1, key _ _ h2, h3, h4, key _ _ h5]
theorem not_sameU {m m' : Int} (h : (m == m') = false) : m ≠ m' := by
  rintro rfl
  simp at h
theorem is_sameU {m m' : Int} (h : (m == m') = true) : m = m' := by
  exact eq_of_beq h
set_option maxRecDepth 100000 in
set_option maxHeartbeats 1000000 in
theorem blocks16 (a a' : Option Addr) (c c' : Nat) (l l' : List Int) (w : World) (hl : l.length ≤ maxLen) (hl' : l'.length ≤ maxLen) (h : Nums w a l) (h' : Nums w a' l') :
    Calls Try.prog 18 #[.slice a l.length c, .slice a' l'.length c'] w fun x w' => Tells x (l = l') ∧ Below w.heap.size w w' := by
  unfold maxLen at hl hl'
  by_cases h0 : l.length = l'.length
  · rw [← h0]
    have h00 := hid h0
    clear h0
    generalize hn : l.length = n at *
    have HN := hid hn
    clear hn
    go_enter Try.func18, Try.ntmps18
    go_wp2_with fail
    go_loopw [13] (fun i wr => ∃ j : Nat, j ≤ n ∧ i = .int .i64 j ∧ Hid (l.take j = l'.take j) ∧ Below w.heap.size w wr) (fun i _ => n - (intOf i).toNat)
    case atStart => exact ⟨0, Nat.zero_le _, rfl, by simp [Hid], Below.refl _ _⟩
    case round =>
      obtain ⟨j, hj, rfl, hjt, hb⟩ := hrel
      by_cases hlt : j < n
      · have hlt1 : j < l.length := by rw [HN.out]; exact hlt
        have hlt2 : j < l'.length := by rw [← h00.out]; exact hlt
        obtain ⟨b, off, rfl, h6⟩ := (h.later hb).one hlt1
        obtain ⟨b', off', rfl, h6'⟩ := (h'.later hb).one hlt2
        obtain ⟨m, HM⟩ : ∃ m, Hid (l[j] = m) := ⟨_, hid rfl⟩
        obtain ⟨m', HM'⟩ : ∃ m, Hid (l'[j] = m) := ⟨_, hid rfl⟩
        rw [HM.out] at h6
        rw [HM'.out] at h6'
        have HS := hid (@is_sameU m m')
        have HD := hid (@not_sameU m m')
        clear h h'
        obtain ⟨t, HT⟩ : ∃ t, Hid ((m == m') = t) := ⟨_, hid rfl⟩
        rw [HT.out] at HS HD
        go_upto_region 6 with fail
        refine wp_region_each [(some 16, [], false), (some 17, [], false), (some 18, [(0, 16), (1, 17)], false), (some 19, [(2, 18)], false), (some 20, [], false), (some 21, [], false), (some 22, [(4, 20), (5, 21)], false), (some 23, [(6, 22)], false), (some 24, [(3, 19), (7, 23)], true)]
          (fun u => Below wr.heap.size wr u) (fun _ u u' => Below u.heap.size u u')
          (fun i v _ => v = match i with | 0 => .slice (some ⟨b, off, none⟩) n c | 1 => .int .i64 j | 2 => .pointer (some ⟨b, off + j, none⟩) | 3 => (.int .u32 m) | 4 => .slice (some ⟨b', off', none⟩) n c' | 5 => .int .i64 j | 6 => .pointer (some ⟨b', off' + j, none⟩) | 7 => (.int .u32 m') | _ => .bool (!t))
          (by kernel_rfl) (by kernel_rfl) (Below.refl _ _).drew (fun _ u u' h h' => h.trans (h'.mono h.size)) (fun _ _ _ _ _ _ _ _ h => h) ⟨?_, ?_, ?_, ?_, ?_, ?_, ?_, ?_, ?_, trivial⟩ ?_
        · rintro u hu
          exact opYields_val _ (by kernel_rfl) (by go_simp) ⟨Below.refl _ _, rfl⟩
        · rintro u hu
          exact opYields_val _ (by kernel_rfl) (by go_simp) ⟨Below.refl _ _, rfl⟩
        · rintro u hu _ rfl _ rfl
          exact opYields_val _ (by kernel_rfl) (by go_simp) ⟨Below.refl _ _, rfl⟩
        · rintro u hu _ rfl
          obtain ⟨c0⟩ := h6.later hu
          exact opYields_val (.int .u32 m) (by kernel_rfl) (by go_simp) ⟨Below.refl _ _, rfl⟩
        · rintro u hu
          exact opYields_val _ (by kernel_rfl) (by go_simp) ⟨Below.refl _ _, rfl⟩
        · rintro u hu
          exact opYields_val _ (by kernel_rfl) (by go_simp) ⟨Below.refl _ _, rfl⟩
        · rintro u hu _ rfl _ rfl
          exact opYields_val _ (by kernel_rfl) (by go_simp) ⟨Below.refl _ _, rfl⟩
        · rintro u hu _ rfl
          obtain ⟨c0⟩ := h6'.later hu
          exact opYields_val (.int .u32 m') (by kernel_rfl) (by go_simp) ⟨Below.refl _ _, rfl⟩
        · rintro u hu _ rfl _ rfl
          refine opYields_val (.bool (!t)) (by kernel_rfl) ?_ ⟨Below.refl _ _, rfl⟩
          rw [← HT.out]
          cases q0 : (m == m')
          · go_simp
            simpa using q0
          · go_simp
            simpa using q0
        · rintro u hu _ _ _ _ _ _ _ _ _ rfl
          have hb' := hb.trans (hu.mono hb.size)
          simp only [givingAll, Act.put, List.setIfInBounds_toArray, List.set_cons_zero, List.set_cons_succ]
          cases t
          · have hne := hid (HD.out rfl)
            clear HD HS HT
            go_wp2_with fail
            go_ret
            exact ⟨Tells.no fun e => absurd (by subst e; exact HM.out.symm.trans HM'.out) hne.out, hb'⟩
          · have heq := hid (HS.out rfl)
            clear HD HS HT
            go_wp2_with fail
            go_roundw
            case rel => exact ⟨j + 1, by omega, by go_num, hid (take_two hlt1 hlt2 hjt.out (HM.out.trans (heq.out.trans HM'.out.symm))), hb'⟩
            case measure => simp [intOf]; omega
      · obtain rfl : j = n := by omega
        go_wp2_with fail
        go_ret
        refine ⟨Tells.yes ?_, hb⟩
        have := hjt.out
        rw [← HN.out, List.take_length, HN.out, h00.out, List.take_length] at this
        exact this
  · have hd : ((l.length : Int) == (l'.length : Int)) = false := by simp; omega
    have hd2 : ¬ l = l' := fun e => h0 (by rw [e])
    go_enter Try.func18, Try.ntmps18
    go_wp2_with fail
    go_ret
    exact ⟨Tells.no hd2, Below.refl _ _⟩
end Go.Proofs.Ytfladpnphkoeiaa.Key
