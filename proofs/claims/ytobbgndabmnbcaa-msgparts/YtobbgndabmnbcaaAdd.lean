/-
  Contract of Add, the program's.
-/
import Derived.Test.YtobbgndabmnbcaaLeft
namespace Go.Proofs.Ytobbgndabmnbcaa.Key
open Go.RowKit Draw
open Go.Op (bytesLess)

/-- messages with another one behind -/
def addL (l : List M) (m : M) : List M := l.filter (fun x => left' x (aboutR m)) ++ [m]

set_option maxHeartbeats 2000000 in
/-- Add, the program's -/
theorem add18 (a : Option Addr) (c : Nat) (l : List M) (m : M) (w : World) (hl : l.length ≤ 1000) (hm : Msgs w a l) (hk : ∀ m ∈ l, m.key.size ≤ 1000) (hk' : m.key.size ≤ 1000) :
    Calls Try.prog 18 #[.slice a l.length c, mv m] w fun x w' => ∃ v, x = .returned v ∧ OwnM w' w.heap.size v (addL l m) ∧ Below w.heap.size w w' := by
  have HL := hid (show addL l m = l.filter (fun x => left' x (rg (str (aboutR m).lo) (str (aboutR m).hi) (aboutR m).e)) ++ [m] from rfl)
  have HA := fun w => about14 m w hk'
  unfold rv at HA
  have HC := hid (fun k w0 (h0 : Msgs w0 a l) (hB : Box w0 k (.string (str (aboutR m).lo)) (.string (str (aboutR m).hi)) (.bool (aboutR m).e)) =>
    choose29 35 #[.pointer (some ⟨k, 0, none⟩)] (fun x => left' x (rg (str (aboutR m).lo) (str (aboutR m).hi) (aboutR m).e)) a c l w0 hl h0 (enters_of Try.func35 (by kernel_rfl) rfl) (fun x hx w2 h2 => left35 x k _ _ _ w2 (hk x hx) (hB.later h2)))
  have hfl : (l.filter (fun x => left' x (rg (str (aboutR m).lo) (str (aboutR m).hi) (aboutR m).e))).length ≤ 1000 := Nat.le_trans (List.length_filter_le _ _) hl
  generalize addL l m = L at *
  generalize (fun x => left' x (rg (str (aboutR m).lo) (str (aboutR m).hi) (aboutR m).e)) = p at *
  generalize str (aboutR m).lo = A0 at *
  generalize str (aboutR m).hi = A1 at *
  generalize (aboutR m).e = A2 at *
  generalize l.filter p = f at *
  clear hk hk' hl
  have M1 := MBox.new w m
  obtain ⟨kd, ky, vl, bk, dp, ad⟩ := m
  dsimp only at M1
  have hb1 : Below w.heap.size w (w.alloc (.cells #[.int .u8 kd, .string ky, .string vl, .int .u32 bk, .int .u16 dp, .string ad] 26)) := below_box w _
  generalize l.length = n at *
  go_enter Try.func18, Try.ntmps18
  go_wp2_with fail
  refine (HA _).mono ?_
  clear HA
  rintro x w1 ⟨rfl, hb2⟩
  have M2 := M1.later hb2
  have hb3 := hb1.trans (hb2.mono hb1.size)
  clear M1 hb1 hb2
  have M3 := M2.alloc (.cells #[.string A0, .string A1, .bool A2] 34)
  have B3 := Box.new w1 (.string A0) (.string A1) (.bool A2)
  have hb4 := hb3.alloc hb3.size (.cells #[.string A0, .string A1, .bool A2] 34)
  clear M2
  have hm4 := hm.later hb4
  go_wp2_with fail
  generalize w1.alloc (.cells #[.string A0, .string A1, .bool A2] 34) = w2 at *
  generalize w1.heap.size = k1 at *
  have hs4 := hb4.size
  generalize hk0 : w.heap.size = k0 at *
  refine wp_region_each [(some 10, [], false), (some 11, [], false), (some 12, [(0, 10), (1, 11)], false), (some 13, [], false), (some 14, [(3, 13)], false), (some 15, [(2, 12), (4, 14)], false), (some 4, [(5, 15)], true)]
    (fun u => Below w2.heap.size w2 u) (fun i u u' => if i = 5 then Below w2.heap.size u u' else Below u.heap.size u u')
    (fun i v u => match i with | 0 => v = .slice a n c | 1 => v = .func (.func 35) #[] #[.pointer (some ⟨k1, 0, none⟩)] | 2 => OwnM u w2.heap.size v f | 3 => v = mv ⟨kd, ky, vl, bk, dp, ad⟩ | 4 => ∃ g, v = .slice (some ⟨g, 0, none⟩) 1 1 ∧ MBox u g ⟨kd, ky, vl, bk, dp, ad⟩ | 5 => OwnM u w2.heap.size v L | 6 => OwnM u w2.heap.size v L | _ => True)
    (by kernel_rfl) (by kernel_rfl) (Below.refl _ _).drew (fun i u u' h h' => ?_) (fun i j v u u' hn h h' hv => ?_) ⟨?_, ?_, ?_, ?_, ?_, ?_, ?_, trivial⟩ ?_
  · split at h'
    · exact h.trans h'
    · exact h.trans (h'.mono h.size)
  · by_cases hi5 : i = 5
    · subst hi5
      match j with
      | 0 => exact absurd hn (by decide)
      | 1 => exact absurd hn (by decide)
      | 2 => exact absurd hn (by decide)
      | 3 => exact absurd hn (by decide)
      | 4 => exact absurd hn (by decide)
      | 5 => exact absurd hn (by decide)
      | 6 => exact absurd hn (by decide)
      | _ + 7 => trivial
    · rw [if_neg hi5] at h'
      match j with
      | 0 => exact hv
      | 1 => exact hv
      | 2 => exact OwnM.later hv h'
      | 3 => exact hv
      | 4 => obtain ⟨g, e, hx⟩ := hv; exact ⟨g, e, hx.later h'⟩
      | 5 => exact OwnM.later hv h'
      | 6 => exact OwnM.later hv h'
      | _ + 7 => trivial
  · rintro u hu
    exact opYields_val _ (by kernel_rfl) (by go_simp) ⟨Below.refl _ _, rfl⟩
  · rintro u hu
    exact opYields_val _ (by kernel_rfl) (by go_simp) ⟨Below.refl _ _, rfl⟩
  · rintro u hu _ rfl _ rfl
    exact opYields_call 29 #[.slice a n c, .func (.func 35) #[] #[.pointer (some ⟨k1, 0, none⟩)]] (by kernel_rfl) (by go_simp) ((HC.out k1 u (hm4.later hu) (B3.later hu)).mono fun x u' ⟨v, h1, h2, h3⟩ => ⟨v, h1, h3, h2.mono hu.size⟩)
  · rintro u hu
    obtain ⟨c0, c1, c2, c3, c4, c5⟩ := (M3.later hu).six
    exact opYields_val (mv ⟨kd, ky, vl, bk, dp, ad⟩) (by kernel_rfl) (by go_simp) ⟨Below.refl _ _, rfl⟩
  · rintro u hu _ rfl
    exact opYields_val (.slice (some ⟨u.heap.size, 0, none⟩) 1 1) (u' := u.alloc (.cells #[.int .u8 kd, .string ky, .string vl, .int .u32 bk, .int .u16 dp, .string ad] 26)) (by kernel_rfl) (by go_simp) ⟨below_box _ _, _, rfl, MBox.new u ⟨kd, ky, vl, bk, dp, ad⟩⟩
  · rintro u hu v1 h1 _ ⟨g, rfl, hg⟩
    exact yAppM (by kernel_rfl) (.tmp 12) (.tmp 14) rfl w2.heap.size v1 f rfl h1 ⟨kd, ky, vl, bk, dp, ad⟩ g rfl hg (by omega) hu.size fun v' w' h2 h3 => ⟨h3, by rw [HL.out]; exact h2⟩
  · rintro u hu v hv
    exact opYields_val v (by kernel_rfl) (by go_simp) ⟨Below.refl _ _, hv⟩
  · rintro u hu _ _ _ _ _ _ v hv
    simp only [givingAll, Act.put, List.setIfInBounds_toArray, List.set_cons_zero, List.set_cons_succ]
    go_wp2_with fail
    go_ret
    exact ⟨v, rfl, hv.mono hs4, hb4.trans (hu.mono hs4)⟩
end Go.Proofs.Ytobbgndabmnbcaa.Key
