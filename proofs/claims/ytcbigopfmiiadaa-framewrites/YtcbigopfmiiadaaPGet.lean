/-
  Contracts of the document's reader: marcotref02's R.Get, R.GetText and R.End.
-/
import Derived.Test.YtcbigopfmiiadaaPText
import Derived.BigRegion
namespace Go.Proofs.Ytcbigopfmiiadaa.Pack
open Go.RowKit

/-- a reader of the document's, as a value -/
def rv (a : Option Addr) (n c : Nat) (p : Nat) (e : Int) : Value := .agg #[.slice a n c, .int .i64 (p : Int), .int .i64 e]

theorem below2 (w : World) (o1 o2 : Obj) : Below w.heap.size w ((w.alloc o1).alloc o2).drew := (((Below.refl _ _).alloc (Nat.le_refl _) o1).alloc (by simp) o2).drew
set_option maxRecDepth 100000 in
set_option maxHeartbeats 1000000 in
theorem ref_get_bad {w : World} {a : Option Addr} {n c p s : Nat} {e : Int} (he : e ≠ 0) :
    Calls Try.prog 25 #[.agg #[.slice a n c, .int .i64 (p : Int), .int .i64 e], .int .i64 (s : Int)] w fun x w' => x = .returned (.tuple #[.int .u64 0, .agg #[.slice a n c, .int .i64 (p : Int), .int .i64 e]]) ∧ Below w.heap.size w w' := by
  have hd : (e == 0) = false := by simpa using he
  have hd' : (e != 0) = true := by simpa using he
  go_enter Try.func25, Try.ntmps25
  go_wp2
  go_region
  all_goals go_wp2
  exact bodyPost_ret (v := .tuple #[.int .u64 0, .agg #[.slice a n c, .int .i64 (p : Int), .int .i64 e]]) (by simp [results, Try.results25, go_sem]) rfl ⟨rfl, below2 _ _ _⟩

set_option maxRecDepth 100000 in
set_option maxHeartbeats 1000000 in
theorem ref_get_short {w : World} {a : Option Addr} {n c p s : Nat} (hp : p ≤ n) (hn : n ≤ 100000) (hs : n < p + s) :
    Calls Try.prog 25 #[.agg #[.slice a n c, .int .i64 (p : Int), .int .i64 0], .int .i64 (s : Int)] w fun x w' => x = .returned (.tuple #[.int .u64 0, .agg #[.slice a n c, .int .i64 (p : Int), .int .i64 2]]) ∧ Below w.heap.size w w' := by
  have hd : (n : Int) - (p : Int) < (s : Int) := by omega
  go_enter Try.func25, Try.ntmps25
  go_wp2
  go_region
  all_goals go_wp2
  exact bodyPost_ret (v := .tuple #[.int .u64 0, .agg #[.slice a n c, .int .i64 (p : Int), .int .i64 2]]) (by simp [results, Try.results25, go_sem]) rfl ⟨rfl, below2 _ _ _⟩

set_option maxRecDepth 100000 in
set_option maxHeartbeats 1000000 in
theorem ref_get_ok {w : World} {a : Option Addr} {n c p s : Nat} {zs : List Int} (hz : Byt zs) (hb : Bytes w a zs) (hl : zs.length = n) (hn : n ≤ 100000) (hs : p + s ≤ n) (hs8 : s ≤ 8) (hs1 : 1 ≤ s) :
    Calls Try.prog 25 #[.agg #[.slice a n c, .int .i64 (p : Int), .int .i64 0], .int .i64 (s : Int)] w fun x w' => x = .returned (.tuple #[.int .u64 ((val ((zs.drop p).take s) : Nat) : Int), .agg #[.slice a n c, .int .i64 ((p + s : Nat) : Int), .int .i64 0]]) ∧ Below w.heap.size w w' := by
  have hd : ¬ (n : Int) - (p : Int) < (s : Int) := by omega
  obtain ⟨b, off, rfl, hc⟩ : ∃ b off, a = some ⟨b, off, none⟩ ∧ ∀ i, i < zs.length → w.cell? ⟨b, off + i, none⟩ = some (.int .u8 (zs.getD i 0)) := by
    rcases hb with rfl | h
    · simp at hl; omega
    · exact h
  have hyz : Byt ((zs.drop p).take s) := (hz.drop p).take s
  have hyl : ((zs.drop p).take s).length = s := by simp; omega
  have hcy : ∀ j, j < s → w.cell? ⟨b, off + (p + j), none⟩ = some (.int .u8 (((zs.drop p).take s).getD j 0)) := fun j hj => by
    rw [hc (p + j) (by omega)]
    simp [List.getD, hj]
  generalize hY : (zs.drop p).take s = ys at *
  have HY := hid hY
  clear hY
  have hbl : b < w.heap.size := World.block_lt_of_cell? w _ (hcy 0 (by omega))
  go_enter Try.func25, Try.ntmps25
  go_wp2
  go_loop [6, 7] (fun v i => ∃ j : Nat, j ≤ s ∧ i = .int .i64 j ∧ v = .int .u64 ((val (ys.take j) : Nat) : Int)) (fun _ i => s - (intOf i).toNat)
  case atStart => exact ⟨0, Nat.zero_le _, rfl, rfl⟩
  case round =>
    obtain ⟨j, hj, rfl, rfl⟩ := hrel
    by_cases hlt : j < s
    · have hy := val_take_lt hyz j
      have hg := byt_getD hyz j
      have hck : ∀ o1 o2, ((w.alloc o1).alloc o2).cell? ⟨b, off + (p + j), none⟩ = some (.int .u8 (ys.getD j 0)) := fun o1 o2 =>
        cell_later (((Below.refl _ _).alloc (Nat.le_refl _) o1).alloc (by simp) o2) (hcy j hlt)
      have HT := hid (val_take ys j (by omega))
      have hy8 : val (ys.take j) < 256 ^ 7 := Nat.lt_of_lt_of_le hy (Nat.pow_le_pow_right (by omega) (by omega))
      clear hy hcy hc
      generalize ys.getD j 0 = x at *
      generalize val (ys.take j) = y at *
      go_wp2
      go_round
      case rel => exact ⟨j + 1, by omega, by go_num, val_u64 (by rw [HT.out]; omega)⟩
      case measure => simp [intOf]; omega
    · obtain rfl : j = s := by omega
      rw [List.take_of_length_le (by omega)]
      generalize hV : val ys = V at *
      have HV := hid hV
      clear hV hcy hc
      go_wp2
      go_region
      all_goals go_wp2
      exact bodyPost_ret (v := .tuple #[.int .u64 (V : Int), .agg #[.slice (some ⟨b, off, none⟩) n c, .int .i64 ((p : Int) + (j : Int)), .int .i64 0]]) (by simp [results, Try.results25, go_sem]) rfl ⟨by rw [HV.out, Int.natCast_add], below2 _ _ _⟩

theorem ref_get {w : World} {a : Option Addr} {n c p : Nat} {zs : List Int} {e : Int} (s : Nat) (hz : Byt zs) (hb : Bytes w a zs) (hl : zs.length = n) (hn : n ≤ 100000) (hp : p ≤ n) (hs8 : s ≤ 8) (hs1 : 1 ≤ s) :
    Calls Try.prog 25 #[.agg #[.slice a n c, .int .i64 (p : Int), .int .i64 e], .int .i64 (s : Int)] w fun x w' => x = .returned (.tuple #[.int .u64 ((gV zs p e s : Nat) : Int), .agg #[.slice a n c, .int .i64 ((gP zs p e s : Nat) : Int), .int .i64 (gE zs p e s)]]) ∧ Below w.heap.size w w' := by
  subst hl
  by_cases he : e = 0
  · subst he
    by_cases hs : p + s ≤ zs.length
    · obtain ⟨g1, g2, g3⟩ := g_ok hs
      rw [g1, g2, g3]
      exact ref_get_ok hz hb rfl hn hs hs8 hs1
    · obtain ⟨g1, g2, g3⟩ := g_short (zs := zs) (p := p) (s := s) (by omega)
      rw [g1, g2, g3]
      exact ref_get_short hp hn (by omega)
  · obtain ⟨g1, g2, g3⟩ := g_bad (zs := zs) (p := p) (s := s) he
    rw [g1, g2, g3]
    exact ref_get_bad he

end Go.Proofs.Ytcbigopfmiiadaa.Pack
