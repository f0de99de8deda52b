/-
  Refs and volumes in memory; contract of SameRefs.
-/
import Derived.Test.YtfladpnphkoeiaaAlike
import Derived.Test.YtfladpnphkoeiaaTargets
import Derived.Test.YtfladpnphkoeiaaSameN
import Derived.Test.YtfladpnphkoeiaaOwn
namespace Go.Proofs.Ytfladpnphkoeiaa.Key
open Go.RowKit Draw
set_option linter.unusedVariables false
set_option linter.unusedSimpArgs false

/-- a block, so often -/
structure Rf where
  blk : Int
  n : Int
def Rf.cells (x : Rf) : List Value := [.int .u32 x.blk, .int .u32 x.n]
structure TwoU (w : World) (b o : Nat) (x : Rf) : Prop where
  c0 : w.cell? ⟨b, o, none⟩ = some (.int .u32 x.blk)
  c1 : w.cell? ⟨b, o + 1, none⟩ = some (.int .u32 x.n)
theorem TwoU.later {w w' : World} {b o : Nat} {x : Rf} (h : TwoU w b o x) (hb : Below w.heap.size w w') : TwoU w' b o x :=
  ⟨(hb.cell (p := ⟨b, o, none⟩) (World.block_lt_of_cell? w _ h.c0)).trans h.c0, (hb.cell (p := ⟨b, o + 1, none⟩) (World.block_lt_of_cell? w _ h.c1)).trans h.c1⟩
/-- a slice of refs -/
def Refs (w : World) (a : Option Addr) (l : List Rf) : Prop := l = [] ∨ ∃ b off, a = some ⟨b, off, none⟩ ∧ ∀ i (h : i < l.length), TwoU w b (off + i * 2) l[i]
theorem Refs.one {w : World} {a : Option Addr} {l : List Rf} (h : Refs w a l) {i : Nat} (hi : i < l.length) : ∃ b off, a = some ⟨b, off, none⟩ ∧ TwoU w b (off + i * 2) l[i] := by
  rcases h with rfl | ⟨b, off, rfl, hc⟩
  · simp at hi
  · exact ⟨b, off, rfl, hc i hi⟩
theorem Refs.later {w w' : World} {a : Option Addr} {l : List Rf} (h : Refs w a l) (hb : Below w.heap.size w w') : Refs w' a l := by
  rcases h with rfl | ⟨b, off, rfl, hc⟩
  · exact .inl rfl
  · exact .inr ⟨b, off, rfl, fun i hi => (hc i hi).later hb⟩
/-- a volume -/
structure Vo where
  name : ByteArray
  blk : Int
  deep : Int
def Vo.cells (x : Vo) : List Value := [.string x.name, .int .u32 x.blk, .int .u16 x.deep]
structure Three (w : World) (b o : Nat) (x : Vo) : Prop where
  c0 : w.cell? ⟨b, o, none⟩ = some (.string x.name)
  c1 : w.cell? ⟨b, o + 1, none⟩ = some (.int .u32 x.blk)
  c2 : w.cell? ⟨b, o + 2, none⟩ = some (.int .u16 x.deep)
theorem Three.later {w w' : World} {b o : Nat} {x : Vo} (h : Three w b o x) (hb : Below w.heap.size w w') : Three w' b o x :=
  ⟨(hb.cell (p := ⟨b, o, none⟩) (World.block_lt_of_cell? w _ h.c0)).trans h.c0, (hb.cell (p := ⟨b, o + 1, none⟩) (World.block_lt_of_cell? w _ h.c1)).trans h.c1, (hb.cell (p := ⟨b, o + 2, none⟩) (World.block_lt_of_cell? w _ h.c2)).trans h.c2⟩
/-- a slice of volumes -/
def Vols (w : World) (a : Option Addr) (l : List Vo) : Prop := l = [] ∨ ∃ b off, a = some ⟨b, off, none⟩ ∧ ∀ i (h : i < l.length), Three w b (off + i * 3) l[i]
theorem Vols.one {w : World} {a : Option Addr} {l : List Vo} (h : Vols w a l) {i : Nat} (hi : i < l.length) : ∃ b off, a = some ⟨b, off, none⟩ ∧ Three w b (off + i * 3) l[i] := by
  rcases h with rfl | ⟨b, off, rfl, hc⟩
  · simp at hi
  · exact ⟨b, off, rfl, hc i hi⟩
theorem Vols.later {w w' : World} {a : Option Addr} {l : List Vo} (h : Vols w a l) (hb : Below w.heap.size w w') : Vols w' a l := by
  rcases h with rfl | ⟨b, off, rfl, hc⟩
  · exact .inl rfl
  · exact .inr ⟨b, off, rfl, fun i hi => (hc i hi).later hb⟩
theorem not_sameR {m m' : Rf} (h : ((m.blk == m'.blk) && (m.n == m'.n)) = false) : m ≠ m' := by
  rintro rfl
  simp at h
theorem is_sameR {m m' : Rf} (h : ((m.blk == m'.blk) && (m.n == m'.n)) = true) : m = m' := by
  obtain ⟨a, b⟩ := m
  obtain ⟨a', b'⟩ := m'
  simp only [Bool.and_eq_true, beq_iff_eq] at h
  obtain ⟨rfl, rfl⟩ := h
  rfl
set_option maxRecDepth 100000 in
set_option maxHeartbeats 800000 in
theorem same14 (a a' : Option Addr) (c c' : Nat) (l l' : List Rf) (w : World) (hl : l.length ≤ maxLen) (hl' : l'.length ≤ maxLen) (h : Refs w a l) (h' : Refs w a' l') :
    Calls Try.prog 14 #[.slice a l.length c, .slice a' l'.length c'] w fun x w' => Tells x (l = l') ∧ Below w.heap.size w w' := by
  unfold maxLen at hl hl'
  by_cases h0 : l.length = l'.length
  · rw [← h0]
    have h00 := hid h0
    clear h0
    generalize hn : l.length = n at *
    have HN := hid hn
    clear hn
    go_enter Try.func14, Try.ntmps14
    go_wp2_with fail
    go_loopw [13] (fun i wr => ∃ j : Nat, j ≤ n ∧ i = .int .i64 j ∧ Hid (l.take j = l'.take j) ∧ Below w.heap.size w wr) (fun i _ => n - (intOf i).toNat)
    case atStart => exact ⟨0, Nat.zero_le _, rfl, by simp [Hid], Below.refl _ _⟩
    case round =>
      obtain ⟨j, hj, rfl, hjt, hb⟩ := hrel
      by_cases hlt : j < n
      · have hlt1 : j < l.length := by rw [HN.out]; exact hlt
        have hlt2 : j < l'.length := by rw [← h00.out]; exact hlt
        obtain ⟨b, off, rfl, h6⟩ := (h.later hb).one hlt1
        obtain ⟨b', off', rfl, h6'⟩ := (h'.later hb).one hlt2
        obtain ⟨m, HM⟩ : ∃ m, Hid (l[j] = m) := ⟨_, hid rfl⟩
        obtain ⟨m', HM'⟩ : ∃ m, Hid (l'[j] = m) := ⟨_, hid rfl⟩
        rw [HM.out] at h6
        rw [HM'.out] at h6'
        have HS := hid (@is_sameR m m')
        have HD := hid (@not_sameR m m')
        clear h h'
        obtain ⟨t, HT⟩ : ∃ t, Hid (((m.blk == m'.blk) && (m.n == m'.n)) = t) := ⟨_, hid rfl⟩
        rw [HT.out] at HS HD
        go_upto_region 6 with fail
        refine wp_region_each [(some 16, [], false), (some 17, [], false), (some 18, [(0, 16), (1, 17)], false), (some 19, [(2, 18)], false), (some 20, [], false), (some 21, [], false), (some 22, [(4, 20), (5, 21)], false), (some 23, [(6, 22)], false), (some 24, [(3, 19), (7, 23)], true)]
          (fun u => Below wr.heap.size wr u) (fun _ u u' => Below u.heap.size u u')
          (fun i v _ => v = match i with | 0 => .slice (some ⟨b, off, none⟩) n c | 1 => .int .i64 j | 2 => .pointer (some ⟨b, off + j * 2, none⟩) | 3 => (.agg #[.int .u32 m.blk, .int .u32 m.n]) | 4 => .slice (some ⟨b', off', none⟩) n c' | 5 => .int .i64 j | 6 => .pointer (some ⟨b', off' + j * 2, none⟩) | 7 => (.agg #[.int .u32 m'.blk, .int .u32 m'.n]) | _ => .bool (!t))
          (by kernel_rfl) (by kernel_rfl) (Below.refl _ _).drew (fun _ u u' h h' => h.trans (h'.mono h.size)) (fun _ _ _ _ _ _ _ _ h => h) ⟨?_, ?_, ?_, ?_, ?_, ?_, ?_, ?_, ?_, trivial⟩ ?_
        · rintro u hu
          exact opYields_val _ (by kernel_rfl) (by go_simp) ⟨Below.refl _ _, rfl⟩
        · rintro u hu
          exact opYields_val _ (by kernel_rfl) (by go_simp) ⟨Below.refl _ _, rfl⟩
        · rintro u hu _ rfl _ rfl
          exact opYields_val _ (by kernel_rfl) (by go_simp) ⟨Below.refl _ _, rfl⟩
        · rintro u hu _ rfl
          obtain ⟨c0, c1⟩ := h6.later hu
          exact opYields_val (.agg #[.int .u32 m.blk, .int .u32 m.n]) (by kernel_rfl) (by go_simp) ⟨Below.refl _ _, rfl⟩
        · rintro u hu
          exact opYields_val _ (by kernel_rfl) (by go_simp) ⟨Below.refl _ _, rfl⟩
        · rintro u hu
          exact opYields_val _ (by kernel_rfl) (by go_simp) ⟨Below.refl _ _, rfl⟩
        · rintro u hu _ rfl _ rfl
          exact opYields_val _ (by kernel_rfl) (by go_simp) ⟨Below.refl _ _, rfl⟩
        · rintro u hu _ rfl
          obtain ⟨c0, c1⟩ := h6'.later hu
          exact opYields_val (.agg #[.int .u32 m'.blk, .int .u32 m'.n]) (by kernel_rfl) (by go_simp) ⟨Below.refl _ _, rfl⟩
        · rintro u hu _ rfl _ rfl
          refine opYields_val (.bool (!t)) (by kernel_rfl) ?_ ⟨Below.refl _ _, rfl⟩
          rw [← HT.out]
          cases q0 : (m.blk == m'.blk)
          · cases q1 : (m.n == m'.n)
            · go_simp
              first | done | simp [q0, q1] | simpa using q0
            · go_simp
              first | done | simp [q0, q1] | simpa using q0
          · cases q1 : (m.n == m'.n)
            · go_simp
              first | done | simp [q0, q1] | simpa using q1
            · go_simp
              first | done | simp [q0, q1] | simpa using q1
        · rintro u hu _ _ _ _ _ _ _ _ _ rfl
          have hb' := hb.trans (hu.mono hb.size)
          simp only [givingAll, Act.put, List.setIfInBounds_toArray, List.set_cons_zero, List.set_cons_succ]
          cases t
          · have hne := hid (HD.out rfl)
            clear HD HS HT
            go_wp2_with fail
            go_ret
            exact ⟨Tells.no fun e => absurd (by subst e; exact HM.out.symm.trans HM'.out) hne.out, hb'⟩
          · have heq := hid (HS.out rfl)
            clear HD HS HT
            go_wp2_with fail
            go_roundw
            case rel => exact ⟨j + 1, by omega, by go_num, hid (take_two hlt1 hlt2 hjt.out (HM.out.trans (heq.out.trans HM'.out.symm))), hb'⟩
            case measure => simp [intOf]; omega
      · obtain rfl : j = n := by omega
        go_wp2_with fail
        go_ret
        refine ⟨Tells.yes ?_, hb⟩
        have := hjt.out
        rw [← HN.out, List.take_length, HN.out, h00.out, List.take_length] at this
        exact this
  · have hd : ((l.length : Int) == (l'.length : Int)) = false := by simp; omega
    have hd2 : ¬ l = l' := fun e => h0 (by rw [e])
    go_enter Try.func14, Try.ntmps14
    go_wp2_with fail
    go_ret
    exact ⟨Tells.no hd2, Below.refl _ _⟩
end Go.Proofs.Ytfladpnphkoeiaa.Key
