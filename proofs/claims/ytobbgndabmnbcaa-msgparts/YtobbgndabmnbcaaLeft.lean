/-
  Contract of the function that Add hands on: is something left of what a message says? Appending in a region that draws.
-/
import Derived.Test.YtobbgndabmnbcaaTrim
import Derived.Test.YtobbgndabmnbcaaDraw
import Derived.Laws.StructEq
namespace Go.Proofs.Ytobbgndabmnbcaa.Key
open Go.RowKit Draw
open Go.Op (bytesLess)

/-- are two ranges the same? -/
def sameV (a0 a1 : ByteArray) (a2 : Bool) (b0 b1 : ByteArray) (b2 : Bool) : Bool := (a0.toList == b0.toList) && ((a1.toList == b1.toList) && (a2 == b2))
def sameR (r s : Rng) : Bool := sameV (str r.lo) (str r.hi) r.e (str s.lo) (str s.hi) s.e
theorem sameR_iff (r s : Rng) : sameR r s = true ↔ r = s := by
  obtain ⟨a, b, c⟩ := r
  obtain ⟨a', b', c'⟩ := s
  simp [sameR, sameV, Lib.toList_data, str_data]
/-- is something left of what a message says? -/
def left' (m : M) (r : Rng) : Bool := !sameR (cutR (aboutR m) r) (aboutR m)

set_option maxHeartbeats 1000000 in
theorem left35 (m : M) (k : Nat) (lo hi : ByteArray) (e : Bool) (w : World) (hk : m.key.size ≤ 1000) (hB : Box w k (.string lo) (.string hi) (.bool e)) :
    Calls Try.prog 35 #[mv m, .pointer (some ⟨k, 0, none⟩)] w fun x w' => x = .returned (.bool (left' m (rg lo hi e))) ∧ Below w.heap.size w w' := by
  have HT := hid (show left' m (rg lo hi e) = !sameV (str (cutR (aboutR m) (rg lo hi e)).lo) (str (cutR (aboutR m) (rg lo hi e)).hi) (cutR (aboutR m) (rg lo hi e)).e (str (aboutR m).lo) (str (aboutR m).hi) (aboutR m).e from rfl)
  have HA := hid (fun w => about14 m w hk)
  have HC := hid (cut36 (str (aboutR m).lo) (str (aboutR m).hi) (aboutR m).e lo hi e)
  rw [show rg (str (aboutR m).lo) (str (aboutR m).hi) (aboutR m).e = aboutR m from rfl] at HC
  unfold rv at HA HC
  generalize left' m (rg lo hi e) = t at *
  generalize str (cutR (aboutR m) (rg lo hi e)).lo = C0 at *
  generalize str (cutR (aboutR m) (rg lo hi e)).hi = C1 at *
  generalize (cutR (aboutR m) (rg lo hi e)).e = C2 at *
  generalize str (aboutR m).lo = A0 at *
  generalize str (aboutR m).hi = A1 at *
  generalize (aboutR m).e = A2 at *
  clear hk
  have M1 := MBox.new w m
  obtain ⟨kd, ky, vl, bk, dp, ad⟩ := m
  have R1 := hB.alloc (.cells #[.int .u8 kd, .string ky, .string vl, .int .u32 bk, .int .u16 dp, .string ad] 26)
  dsimp only at M1
  have hb1 : Below w.heap.size w (w.alloc (.cells #[.int .u8 kd, .string ky, .string vl, .int .u32 bk, .int .u16 dp, .string ad] 26)) := below_box w _
  unfold sameV at HT
  cases q0 : (C0.toList == A0.toList) <;> cases q1 : (C1.toList == A1.toList) <;> cases q2 : (C2 == A2)
  all_goals
    rw [q0, q1, q2] at HT
    go_enter Try.func35, Try.ntmps35
    go_wp2_with fail
    generalize w.heap.size = k1 at M1 ⊢
    generalize w.alloc (.cells #[.int .u8 kd, .string ky, .string vl, .int .u32 bk, .int .u16 dp, .string ad] 26) = w1 at *
    refine wp_region_each [(some 4, [], false), (some 5, [(0, 4)], false), (some 6, [], false), (some 7, [(1, 5), (2, 6)], false), (some 8, [], false), (some 9, [(4, 8)], false), (some 10, [(3, 7), (5, 9)], false), (some 3, [(6, 10)], true)]
      (fun u => Below w1.heap.size w1 u) (fun _ u u' => Below u.heap.size u u')
      (fun i v _ => v = match i with | 0 => mv ⟨kd, ky, vl, bk, dp, ad⟩ | 1 => av A0 A1 A2 | 2 => av lo hi e | 3 => av C0 C1 C2 | 4 => mv ⟨kd, ky, vl, bk, dp, ad⟩ | 5 => av A0 A1 A2 | _ => .bool t)
      (by kernel_rfl) (by kernel_rfl) (Below.refl _ _).drew (fun _ u u' h h' => h.trans (h'.mono h.size)) (fun _ _ _ _ _ _ _ _ h => h) ⟨?_, ?_, ?_, ?_, ?_, ?_, ?_, ?_, trivial⟩ ?_
    · intro u hu
      obtain ⟨c0, c1, c2, c3, c4, c5⟩ := (M1.later hu).six
      exact opYields_val (mv ⟨kd, ky, vl, bk, dp, ad⟩) (by kernel_rfl) (by go_simp) ⟨Below.refl _ _, rfl⟩
    · rintro u hu _ rfl
      exact opYields_call 14 #[mv ⟨kd, ky, vl, bk, dp, ad⟩] (by kernel_rfl) (by go_simp) ((HA.out u).mono fun x u' h => ⟨_, h.1, h.2, rfl⟩)
    · intro u hu
      obtain ⟨c0, c1, c2⟩ := (R1.later hu).cells
      exact opYields_val (av lo hi e) (by kernel_rfl) (by go_simp) ⟨Below.refl _ _, rfl⟩
    · rintro u hu _ rfl _ rfl
      exact opYields_call 36 #[av A0 A1 A2, av lo hi e] (by kernel_rfl) (by go_simp) ((HC.out u).mono fun x u' h => ⟨_, h.1, h.2, rfl⟩)
    · intro u hu
      obtain ⟨c0, c1, c2, c3, c4, c5⟩ := (M1.later hu).six
      exact opYields_val (mv ⟨kd, ky, vl, bk, dp, ad⟩) (by kernel_rfl) (by go_simp) ⟨Below.refl _ _, rfl⟩
    · rintro u hu _ rfl
      exact opYields_call 14 #[mv ⟨kd, ky, vl, bk, dp, ad⟩] (by kernel_rfl) (by go_simp) ((HA.out u).mono fun x u' h => ⟨_, h.1, h.2, rfl⟩)
    · rintro u hu _ rfl _ rfl
      exact opYields_val (.bool t) (by kernel_rfl) (by rw [HT.out]; go_simp) ⟨Below.refl _ _, rfl⟩
    · rintro u hu _ rfl
      exact opYields_val (.bool t) (by kernel_rfl) (by go_simp) ⟨Below.refl _ _, rfl⟩
    · rintro u hu _ _ _ _ _ _ _ _ rfl
      simp only [givingAll, Act.put, List.setIfInBounds_toArray, List.set_cons_zero, List.set_cons_succ]
      go_wp2_with fail
      go_ret
      exact ⟨rfl, hb1.trans (hu.mono hb1.size)⟩
/-- in a region that draws: 'append(out, m)', out of the call's own -/
theorem yAppM {ops : Array Oper} {o : Oper} {a : Act} {w : World} {K : Value → World → Prop} (hw : Region.wanted o (yielded ops a.tmps) = true) (s x : Operand)
    (ho : o.op = .call { callee := .builtin .append, args := #[s, x], argTypes := #[22, 22] })
    (B : Nat) (v : Value) (l : List M) (hs : a.eval s = v) (hown : OwnM w B v l) (m : M) (k : Nat) (hx : a.eval x = .slice (some ⟨k, 0, none⟩) 1 1) (hk : MBox w k m) (hsz : l.length ≤ 900000) (hB : B ≤ w.heap.size)
    (h : ∀ v' w', OwnM w' B v' (l ++ [m]) → Below B w w' → K v' w') : opYields Try.prog ops o a w K := by
  obtain ⟨i0, hi, hz0, hz1, hz2⟩ := info_parts info26
  refine opYields_append hw s x 22 ho B 26 i0 _ 6 64 Try.underlying22 hi hz0 hz1 hz2 rfl (by decide) v _ _ hs hown ⟨k, 0, none⟩ 1 1 m.cells hx rfl hk.news (one_cell m) (by unfold maxLen; omega) (by omega) hB ?_
  intro v' w' h1 h2
  refine h v' w' ?_ ((Below.refl B w).grown h2 hB fun j hj => (World.ownsRow.lt hown j hj).1)
  unfold OwnM
  rw [cellsM_append, cellsM_one, List.length_append]
  exact h1
theorem OwnM.mono {w : World} {B B' : Nat} {v : Value} {l : List M} (h : OwnM w B v l) (hB : B' ≤ B) : OwnM w B' v l := by
  refine ⟨h.1, ?_⟩
  rcases h.2 with h | ⟨g, cap, cur, h1, h2, h3⟩
  · exact .inl h
  · exact .inr ⟨g, cap, cur, h1, by omega, h3⟩

end Go.Proofs.Ytobbgndabmnbcaa.Key
