/-
  Contracts of About and Add, the document's.
-/
import Derived.Test.YtobbgndabmnbcaaAdd
namespace Go.Proofs.Ytobbgndabmnbcaa.Key
open Go.RowKit Draw
open Go.Op (bytesLess)

set_option maxHeartbeats 1000000 in
/-- About, the document's -/
theorem about15 (m : M) (w : World) (hk : m.key.size ≤ 1000) :
    Calls Try.prog 15 #[mv m] w fun x w' => x = .returned (rv (aboutR m)) ∧ Below w.heap.size w w' := by
  have HB := MBox.new w m
  obtain ⟨kd, ky, vl, bk, dp, ad⟩ := m
  dsimp only at hk
  have H0 := Box.new (w.alloc (.cells #[.int .u8 kd, .string ky, .string vl, .int .u32 bk, .int .u16 dp, .string ad] 26)) (.string ⟨#[]⟩) (.string ⟨#[]⟩) (.bool false)
  have hO := fun w => of28 ky w (by omega)
  by_cases h3 : kd = 3
  · have h12 : ¬ (kd = 1 ∨ kd = 2) := by omega
    have hr : rv (aboutR ⟨kd, ky, vl, bk, dp, ad⟩) = .agg #[.string ky, .string (sucS ky.data.toList), .bool (sucO ky.data.toList)] := by
      unfold aboutR; rw [if_neg h12, if_pos h3]; simp [rv, str_eq, ofR, sucS, sucO]
    rw [hr]
    clear hr h12
    subst h3
    generalize sucS ky.data.toList = S at *
    generalize sucO ky.data.toList = o at *
    go_enter Try.func15, Try.ntmps15
    go_wp2_with fail
    refine (hO _).mono ?_
    clear hO
    rintro x w' ⟨rfl, hb⟩
    have H1 := H0.later hb
    obtain ⟨a0, a1, a2⟩ := H1.cells
    obtain ⟨f0, f1, f2⟩ := H1.free
    have hb' : Below w.heap.size w w' := ((below_box w _).alloc (by simp) _).trans (hb.mono (by simp; omega))
    simp only [World.size_alloc] at a0 a1 a2 f0 f1 f2
    clear hb H1 H0
    go_wp2_with fail
    exact bodyPost_ret (v := .agg #[.string ky, .string S, .bool o]) (by simp [results, Try.results15, go_sem, a0, a1, a2]) rfl ⟨rfl, ((hb'.setCell (by simp) _).setCell (by simp) _).setCell (by simp) _⟩
  · have h3' : (kd == 3) = false := by simp; omega
    clear hO
    by_cases h12 : kd = 1 ∨ kd = 2
    · have hr : rv (aboutR ⟨kd, ky, vl, bk, dp, ad⟩) = .agg #[.string ky, .string (ky ++ ⟨#[0]⟩), .bool true] := by
        unfold aboutR; rw [if_pos h12]; simp [rv, str_eq, str_append]
      rw [hr]
      clear hr h3
      rcases h12 with rfl | rfl
      all_goals
        go_enter Try.func15, Try.ntmps15
        go_wp2_with fail
        exact bodyPost_ret (v := .agg #[.string ky, .string (ky ++ ⟨#[0]⟩), .bool true]) (by simp [results, Try.results15, go_sem]) rfl ⟨rfl, ((below_box _ _).alloc (by simp) _)⟩
    · have hr : rv (aboutR ⟨kd, ky, vl, bk, dp, ad⟩) = .agg #[.string ⟨#[]⟩, .string ⟨#[]⟩, .bool true] := by
        unfold aboutR; rw [if_neg h12, if_neg h3]; rfl
      have h1 : (kd == 1) = false := by simp; omega
      have h2 : (kd == 2) = false := by simp; omega
      rw [hr]
      clear hr h12 h3
      go_enter Try.func15, Try.ntmps15
      go_wp2_with fail
      exact bodyPost_ret (v := .agg #[.string ⟨#[]⟩, .string ⟨#[]⟩, .bool true]) (by simp [results, Try.results15, go_sem]) rfl ⟨rfl, ((below_box _ _).alloc (by simp) _)⟩
theorem OwnM.made (w : World) : OwnM (w.alloc (.cells #[] 26)) w.heap.size (.slice (some ⟨w.heap.size, 0, none⟩) 0 0) [] :=
  World.ownsRow_made (size := 6) w #[] 0 (Nat.le_refl _) (Nat.zero_le _) (by simp)
/-- messages with another one behind, as the document has them -/
def addD (l : List M) (m : M) : List M := l.filter (fun x => !insideR (aboutR x) (aboutR m)) ++ [m]

set_option maxHeartbeats 2000000 in
/-- Add, the document's -/
theorem add20 (a : Option Addr) (c : Nat) (l : List M) (m : M) (w : World) (hl : l.length ≤ 1000) (hm : Msgs w a l) (hk : ∀ m ∈ l, m.key.size ≤ 1000) (hk' : m.key.size ≤ 1000) :
    Calls Try.prog 20 #[.slice a l.length c, mv m] w fun x w' => ∃ v, x = .returned v ∧ OwnM w' w.heap.size v (addD l m) ∧ Below w.heap.size w w' := by
  have HD := hid (show addD l m = l.filter (fun x => !insideR (aboutR x) (aboutR m)) ++ [m] from rfl)
  have HI := hid (fun (x : M) => inside37 (str (aboutR x).lo) (str (aboutR x).hi) (str (aboutR m).lo) (str (aboutR m).hi) (aboutR x).e (aboutR m).e)
  have HA := hid (fun w => about15 m w hk')
  have HX := hid (fun x hx w => about15 x w (hk x hx))
  simp only [show ∀ x : M, rg (str (aboutR x).lo) (str (aboutR x).hi) (aboutR x).e = aboutR x from fun _ => rfl] at HI
  unfold rv at HA HX
  obtain ⟨q, hq⟩ : ∃ q : M → Bool, (fun x => !insideR (aboutR x) (aboutR m)) = q := ⟨_, rfl⟩
  have HQ := hid (fun x => congrFun hq x)
  rw [hq] at HD
  clear hq
  have hlen : ∀ j, ((l.take j).filter q).length ≤ 1000 := fun j => by
    have := List.length_filter_le q (l.take j)
    rw [List.length_take] at this
    omega
  generalize addD l m = D at *
  generalize str (aboutR m).lo = A0 at *
  generalize str (aboutR m).hi = A1 at *
  generalize (aboutR m).e = A2 at *
  clear hk hk'
  have M1 := (MBox.new w m).alloc (.cells #[] 26)
  obtain ⟨kd, ky, vl, bk, dp, ad⟩ := m
  dsimp only at M1 HQ HI
  have hb1 : Below w.heap.size w ((w.alloc (.cells #[.int .u8 kd, .string ky, .string vl, .int .u32 bk, .int .u16 dp, .string ad] 26)).alloc (.cells #[] 26)) := (below_box w _).alloc (by simp) _
  have ho1 := (OwnM.made (w.alloc (.cells #[.int .u8 kd, .string ky, .string vl, .int .u32 bk, .int .u16 dp, .string ad] 26))).mono (B' := w.heap.size + 1) (by simp)
  simp only [World.size_alloc] at ho1
  generalize hn : l.length = n at *
  have HN := hid hn
  clear hn
  go_enter Try.func20, Try.ntmps20
  go_wp2_with fail
  generalize ((w.alloc (.cells #[.int .u8 kd, .string ky, .string vl, .int .u32 bk, .int .u16 dp, .string ad] 26)).alloc (.cells #[] 26)) = w1 at *
  go_loopw [5, 10] (fun v i wr => ∃ j : Nat, j ≤ n ∧ i = .int .i64 j ∧ OwnM wr (w.heap.size + 1) v ((l.take j).filter q) ∧ Below (w.heap.size + 1) w1 wr) (fun _ i _ => n - (intOf i).toNat)
  case atStart => exact ⟨0, Nat.zero_le _, rfl, by simpa using ho1, Below.refl _ _⟩
  case round =>
    obtain ⟨j, hj, rfl, hown, hb2⟩ := hrel
    have hM := M1.below hb2 (Nat.lt_succ_self _)
    have hb := hb1.trans (hb2.mono (Nat.le_succ _))
    by_cases hlt : j < n
    · have hlt' : j < l.length := by rw [HN.out]; exact hlt
      obtain ⟨b, off, rfl, h6⟩ := (hm.later hb).at hlt'
      have HXj := HX.out l[j] (List.getElem_mem hlt')
      have HT := hid (List.take_succ_eq_append_getElem hlt')
      have hlj := hlen j
      obtain ⟨x, HM⟩ : ∃ m, Hid (l[j] = m) := ⟨_, hid rfl⟩
      rw [HM.out] at h6 HXj HT
      have HIx := HI.out x
      have HQx := HQ.out x
      generalize insideR (aboutR x) (aboutR ⟨kd, ky, vl, bk, dp, ad⟩) = t at *
      generalize str (aboutR x).lo = X0 at *
      generalize str (aboutR x).hi = X1 at *
      generalize (aboutR x).e = X2 at *
      obtain ⟨xd, xy, xl, xk, xp, xa⟩ := x
      have HQx := hid HQx
      have HIx := hid HIx
      have HXj := hid HXj
      clear HI HX HQ hlen
      go_upto_region 5 with fail
      refine wp_region_each [(some 13, [], false), (some 14, [], false), (some 15, [(0, 13), (1, 14)], false), (some 16, [(2, 15)], false), (some 17, [(3, 16)], false), (some 18, [], false), (some 19, [(5, 18)], false), (some 20, [(4, 17), (6, 19)], false), (some 21, [(7, 20)], true)]
        (fun u => Below wr.heap.size wr u) (fun _ u u' => Below u.heap.size u u')
        (fun i v _ => v = match i with | 0 => .slice (some ⟨b, off, none⟩) n c | 1 => .int .i64 j | 2 => .pointer (some ⟨b, off + j * 6, none⟩) | 3 => mv ⟨xd, xy, xl, xk, xp, xa⟩ | 4 => av X0 X1 X2 | 5 => mv ⟨kd, ky, vl, bk, dp, ad⟩ | 6 => av A0 A1 A2 | 7 => .bool t | _ => .bool (!t))
        (by kernel_rfl) (by kernel_rfl) (Below.refl _ _).drew (fun _ u u' h h' => h.trans (h'.mono h.size)) (fun _ _ _ _ _ _ _ _ h => h) ⟨?_, ?_, ?_, ?_, ?_, ?_, ?_, ?_, ?_, trivial⟩ ?_
      · rintro u hu
        exact opYields_val _ (by kernel_rfl) (by go_simp) ⟨Below.refl _ _, rfl⟩
      · rintro u hu
        exact opYields_val _ (by kernel_rfl) (by go_simp) ⟨Below.refl _ _, rfl⟩
      · rintro u hu _ rfl _ rfl
        exact opYields_val _ (by kernel_rfl) (by go_simp) ⟨Below.refl _ _, rfl⟩
      · rintro u hu _ rfl
        obtain ⟨c0, c1, c2, c3, c4, c5⟩ := h6.later hu
        exact opYields_val (mv ⟨xd, xy, xl, xk, xp, xa⟩) (by kernel_rfl) (by go_simp) ⟨Below.refl _ _, rfl⟩
      · rintro u hu _ rfl
        exact opYields_call 15 #[mv ⟨xd, xy, xl, xk, xp, xa⟩] (by kernel_rfl) (by go_simp) ((HXj.out u).mono fun x u' h => ⟨_, h.1, h.2, rfl⟩)
      · rintro u hu
        obtain ⟨c0, c1, c2, c3, c4, c5⟩ := (hM.later hu).six
        exact opYields_val (mv ⟨kd, ky, vl, bk, dp, ad⟩) (by kernel_rfl) (by go_simp) ⟨Below.refl _ _, rfl⟩
      · rintro u hu _ rfl
        exact opYields_call 15 #[mv ⟨kd, ky, vl, bk, dp, ad⟩] (by kernel_rfl) (by go_simp) ((HA.out u).mono fun x u' h => ⟨_, h.1, h.2, rfl⟩)
      · rintro u hu _ rfl _ rfl
        exact opYields_call 37 #[av X0 X1 X2, av A0 A1 A2] (by kernel_rfl) (by go_simp) ((HIx.out u).mono fun x u' h => ⟨_, h.1, h.2, rfl⟩)
      · rintro u hu _ rfl
        exact opYields_val (.bool (!t)) (by kernel_rfl) (by go_simp) ⟨Below.refl _ _, rfl⟩
      · rintro u hu _ _ _ _ _ _ _ _ _ rfl
        have hw1 : w.heap.size + 1 ≤ wr.heap.size := by have := hM.lt; omega
        have hb' := hb2.trans (hu.mono hw1)
        have hu1 := hu.size
        have ho' := OwnM.later hown hu
        have hM' := hM.later hu
        have h6' := h6.later hu
        clear hb hb2 hown hM h6 hu
        simp only [givingAll, Act.put, List.setIfInBounds_toArray, List.set_cons_zero, List.set_cons_succ]
        cases t
        · have hq : Hid (q ⟨xd, xy, xl, xk, xp, xa⟩ = true) := HQx.out.symm
          have hnew := MBox.new u ⟨xd, xy, xl, xk, xp, xa⟩
          obtain ⟨c0, c1, c2, c3, c4, c5⟩ := h6'
          dsimp only at c0 c1 c2 c3 c4 c5 hnew
          go_wp2_with (first | (at_builtin; refine appM (w0 := w1) rfl _ _ rfl (w.heap.size + 1) _ _ rfl (World.ownsRow.alloc ho' _) ⟨xd, xy, xl, xk, xp, xa⟩ u.heap.size rfl hnew (by omega) (by simp; omega) (hb'.alloc (by omega) _) ?_; intro v' w2 ho2 hb2 _; clear ho' hb' c0 c1 c2 c3 c4 c5 hnew hM') | fail)
          go_roundw
          case rel => exact ⟨j + 1, by omega, by go_num, by rw [HT.out, List.filter_append]; simpa [hq.out] using ho2, hb2⟩
          case measure => simp [intOf]; omega
        · have hq : Hid (q ⟨xd, xy, xl, xk, xp, xa⟩ = false) := HQx.out.symm
          go_wp2_with fail
          go_roundw
          case rel => exact ⟨j + 1, by omega, by go_num, by rw [HT.out, List.filter_append]; simpa [hq.out] using ho', hb'⟩
          case measure => simp [intOf]; omega
    · obtain rfl : j = n := by omega
      have hnew := MBox.new wr ⟨kd, ky, vl, bk, dp, ad⟩
      obtain ⟨c0, c1, c2, c3, c4, c5⟩ := hM.six
      have hlj := hlen j
      have hMl := hM.lt
      rw [← HN.out, List.take_length] at hown hlj
      dsimp only at c0 c1 c2 c3 c4 c5 hnew
      clear hM hb HA HI HX HQ hlen
      go_wp2_with (first | (at_builtin; refine appM (w0 := w1) rfl _ _ rfl (w.heap.size + 1) _ _ rfl (World.ownsRow.alloc hown _) ⟨kd, ky, vl, bk, dp, ad⟩ wr.heap.size rfl hnew (by omega) (by simp; omega) (hb2.alloc (by omega) _) ?_; intro v' w2 ho3 hb3 _) | fail)
      go_ret
      exact ⟨v', rfl, by rw [HD.out]; exact ho3.mono (Nat.le_succ _), hb1.trans (hb3.mono (Nat.le_succ _))⟩
end Go.Proofs.Ytobbgndabmnbcaa.Key
