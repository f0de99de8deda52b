/-
  The walk of the statement MsgAdds.
-/
import Derived.Test.YtobbgndabmnbcaaKeepsWalk
import Derived.Test.YtobbgndabmnbcaaAddSay
import Derived.Test.YtobbgndabmnbcaaCopy
namespace Go.Proofs.Ytobbgndabmnbcaa.Key
open Go.RowKit Draw
open Go.Op (bytesLess)

theorem great_one (m : M) : greatL [m] = greatM m := by simp [greatL]
theorem not_greatM {m : M} (h : greatM m = false) : m.key.size ≤ 100 ∧ m.val.size ≤ 100 ∧ m.add.size ≤ 100 := by
  simp [greatM] at h
  omega
theorem add_length (l : List M) (m : M) : (addL l m).length ≤ l.length + 1 := by
  unfold addL
  rw [List.length_append]
  have := List.length_filter_le (fun x => left' x (aboutR m)) l
  simp
  omega
theorem add_sizes {l : List M} {m : M} {n : Nat} (h : ∀ m ∈ l, m.key.size ≤ n) (hm : m.key.size ≤ n) : ∀ x ∈ addL l m, x.key.size ≤ n := by
  intro x hx
  rcases List.mem_append.1 hx with hx | hx
  · exact h x (List.mem_filter.1 hx).1
  · rw [List.mem_singleton.1 hx]; exact hm
theorem zero_behind {w : World} {g n : Nat} (h : ∀ q v, ((madeCells (mv M.nil).cells ((n + 5) * 6)).toList.drop (n * 6))[q]? = some v → w.cell? ⟨g, n * 6 + q, none⟩ = some v) : Six w g (n * 6) ⟨0, ⟨#[]⟩, ⟨#[]⟩, 0, 0, ⟨#[]⟩⟩ := by
  have e : ∀ q, q < 6 → ∀ u, M.nil.cells[q]? = some u → w.cell? ⟨g, n * 6 + q, none⟩ = some u := fun q hq u hu => h q u ((made_at n q hq).trans hu)
  exact ⟨e 0 (by omega) _ rfl, e 1 (by omega) _ rfl, e 2 (by omega) _ rfl, e 3 (by omega) _ rfl, e 4 (by omega) _ rfl, e 5 (by omega) _ rfl⟩

set_option maxRecDepth 100000 in
set_option maxHeartbeats 1000000 in
theorem adds4 (a0 : Option Addr) (c0 : Nat) (l : List M) (m : M) (k : ByteArray) (w : World) (hl : l.length ≤ maxLen) (hm : Msgs w a0 l) (_hk : k.size ≤ maxLen) :
    Calls Try.prog 4 #[.slice a0 l.length c0, mv m, .string k] w fun e w' => e = .returned (.bool true) ∧ Below w.heap.size w w' := by
  have M0 := MBox.new w m
  have hb0 : Below w.heap.size w (w.alloc (.cells #[.int .u8 m.kind, .string m.key, .string m.val, .int .u32 m.blk, .int .u16 m.deep, .string m.add] 26)) := below_box w _
  have hm0 := hm.later hb0
  have G1 := great7 a0 c0 l _ hl hm0
  have G2 := great7 _ 1 [m] _ (by simp [maxLen]) (Msgs.new (w.alloc (.cells #[.int .u8 m.kind, .string m.key, .string m.val, .int .u32 m.blk, .int .u16 m.deep, .string m.add] 26)) [m] _ (by rw [cellsM_one, M.cells]))
  rw [great_one, World.size_alloc, List.length_singleton] at G2
  have hb1 : Below w.heap.size w ((w.alloc (.cells #[.int .u8 m.kind, .string m.key, .string m.val, .int .u32 m.blk, .int .u16 m.deep, .string m.add] 26)).alloc (.cells #[.int .u8 m.kind, .string m.key, .string m.val, .int .u32 m.blk, .int .u16 m.deep, .string m.add] 26)) := hb0.alloc (by simp) _
  have M1 := M0.alloc (.cells #[.int .u8 m.kind, .string m.key, .string m.val, .int .u32 m.blk, .int .u16 m.deep, .string m.add] 26)
  have hm1 := hm.later hb1
  have hk := _hk
  unfold maxLen at hk
  cases g1 : greatL l
  case true =>
    rw [g1] at G1
    obtain ⟨kd, ky, vl, bk, dp, ad⟩ := m
    go_enter Try.func4, Try.ntmps4
    go_wp2_with fail
    refine G1.mono ?_
    rintro x w1 ⟨rfl, rfl⟩
    go_wp2_with fail
    refine (awake8 _).mono ?_
    rintro x w2 ⟨rfl, hb2⟩
    go_wp2_with fail
    go_ret
    exact ⟨rfl, hb0.trans (hb2.mono hb0.size)⟩
  case false =>
  rw [g1] at G1
  obtain ⟨hn, hms⟩ := not_great g1
  cases g2 : greatM m
  case true =>
    rw [g2] at G2
    obtain ⟨kd, ky, vl, bk, dp, ad⟩ := m
    go_enter Try.func4, Try.ntmps4
    go_wp2_with fail
    refine G1.mono ?_
    rintro x w1 ⟨rfl, rfl⟩
    go_wp2_with fail
    refine G2.mono ?_
    rintro x w1 ⟨rfl, rfl⟩
    go_wp2_with fail
    refine (awake8 _).mono ?_
    rintro x w2 ⟨rfl, hb2⟩
    go_wp2_with fail
    go_ret
    exact ⟨rfl, hb1.trans (hb2.mono hb1.size)⟩
  case false =>
  rw [g2] at G2
  have hmm := not_greatM g2
  cases g4 : decide ((100 : Int) < (k.size : Int))
  case true =>
    obtain ⟨kd, ky, vl, bk, dp, ad⟩ := m
    go_enter Try.func4, Try.ntmps4
    go_wp2_with fail
    refine G1.mono ?_
    rintro x w1 ⟨rfl, rfl⟩
    go_wp2_with fail
    refine G2.mono ?_
    rintro x w1 ⟨rfl, rfl⟩
    go_wp2_with fail
    refine (awake8 _).mono ?_
    rintro x w2 ⟨rfl, hb2⟩
    go_wp2_with fail
    go_ret
    exact ⟨rfl, hb1.trans (hb2.mono hb1.size)⟩
  case false =>
  have hmk := makeM l.length (by omega)
  have AD := hid (fun g w' (h : Msgs w' (some ⟨g, 0, none⟩) l) => add18 (some ⟨g, 0, none⟩) (l.length + 5) l m w' (by omega) h (fun m h => by have := hms m h; omega) (by omega))
  have AR := hid (fun w' (h : Msgs w' a0 l) => add20 a0 c0 l m w' (by omega) h (fun m h => by have := hms m h; omega) (by omega))
  rw [← add_same] at AR
  have S1 := hid (fun g w' (h1 : Msgs w' (some ⟨g, 0, none⟩) l) (h2 : Msgs w' a0 l) => same19 (some ⟨g, 0, none⟩) a0 (l.length + 5) c0 l l w' hl hl h1 h2)
  have ALl := add_length l m
  have S2 := hid (fun a a' c c' w' (h1 : Msgs w' a (addL l m)) (h2 : Msgs w' a' (addL l m)) => same19 a a' c c' (addL l m) (addL l m) w' (by unfold maxLen; omega) (by unfold maxLen; omega) h1 h2)
  have LR := hid (fun w' (h : Msgs w' a0 l) => last17 a0 c0 l k w' hl h)
  have SP := hid (speaks13 m k)
  have AS := hid (adds' l m k.data.toList)
  obtain ⟨xk, HX⟩ := msOf_of _ (add_sizes (l := l) (m := m) (n := 1000) (fun m h => by have := hms m h; omega) (by omega))
  have LP := hid (fun a c w' (h : Msgs w' a (msOf xk)) => last16 a c xk k w' (by rw [← msOf_length, ← HX]; unfold maxLen; omega) h)
  have HXl : (addL l m).length = xk.length := by rw [HX, msOf_length]
  rw [← HX] at LP
  clear HX g1 g2 hms hmm
  generalize addL l m = out at *
  rw [HXl] at ALl S2
  have HXl := hid HXl
  generalize xk.length = nx at *
  obtain ⟨kd, ky, vl, bk, dp, ad⟩ := m
  dsimp only at M1 hb1 hm1 G1 G2
  generalize hln : l.length = n at *
  have HLN := hid hln
  clear hln
  go_enter Try.func4, Try.ntmps4
  go_wp2_with fail
  refine G1.mono ?_
  rintro x w1 ⟨rfl, rfl⟩
  go_wp2_with fail
  refine G2.mono ?_
  rintro x w1 ⟨rfl, rfl⟩
  clear G1 G2 M0 hb0 hm0
  generalize ((w.alloc (.cells #[.int .u8 kd, .string ky, .string vl, .int .u32 bk, .int .u16 dp, .string ad] 26)).alloc (.cells #[.int .u8 kd, .string ky, .string vl, .int .u32 bk, .int .u16 dp, .string ad] 26)) = w2 at *
  generalize hk0 : w.heap.size = k0 at *
  have hb3 : Below w2.heap.size w2 (w2.alloc (.cells (madeCells (mv M.nil).cells ((n + 5) * 6)) 26)) := below_box _ _
  have hg3 : (w2.alloc (.cells (madeCells (mv M.nil).cells ((n + 5) * 6)) 26)).heap[w2.heap.size]? = some (.cells (madeCells (mv M.nil).cells ((n + 5) * 6)).toList.toArray 26 (0, 0)) := by
    rw [Array.toArray_toList]; exact Go.heap_alloc_new _ _
  have hm3 := hm1.later hb3
  have hfit : n * 6 ≤ (madeCells (mv M.nil).cells ((n + 5) * 6)).toList.length := by rw [Array.length_toList, size_madeCells]; omega
  go_wp2_with (first | (refine copyM rfl (.tmp 30) (.tmp 31) rfl w2.heap.size n (n + 5) rfl a0 c0 l HLN.out rfl hm3 _ hg3 hfit w2.heap.size hb3 (Nat.le_refl _) ?_; intro w4 HG4 hb4; obtain ⟨e0, e1, e2, e3, e4, e5⟩ := (M1.later hb4).six; dsimp only at e0 e1 e2 e3 e4 e5) | fail)
  obtain ⟨ho4, hz4⟩ := copiedM HG4.out
  rw [HLN.out] at hz4
  have z6 := zero_behind hz4
  have hm4 := hm1.later hb4
  have M4 := M1.later hb4
  clear HG4 hz4 hg3 hfit hm3 hb3 hmk
  have hw2 := hb1.size
  have hb4' := hb1.trans (hb4.mono (by omega))
  generalize w2.heap.size = g at *
  clear e0 e1 e2 e3 e4 e5 hb4 hm1 M1
  refine (AD.out g w4 ho4).mono ?_
  rintro x w5 ⟨v, rfl, hv, hb5⟩
  have M5 := M4.later hb5
  have ho5 := ho4.later hb5
  have hm5 := hm4.later hb5
  have z65 := z6.later hb5
  have hb5' := hb4'.trans (hb5.mono (by have := hb4'.size; omega))
  clear AD M4 ho4 hm4 z6 hb4' hb5
  go_wp2_with fail
  refine (S1.out g w5 ho5 hm5).mono ?_
  rintro x w6 ⟨⟨b, rfl, hb⟩, hb6⟩
  obtain rfl : b = true := hb.2 (by first | trivial | rfl)
  have M6 := M5.later hb6
  have hm6 := hm5.later hb6
  have z66 := z65.later hb6
  have hv6 := OwnM.later hv hb6
  have hb6' := hb5'.trans (hb6.mono (by have := hb5'.size; omega))
  clear S1 M5 ho5 hm5 z65 hv hb5' hb6 hb
  obtain ⟨e0, e1, e2, e3, e4, e5⟩ := M6.six
  obtain ⟨z0, z1, z2, z3, z4, z5⟩ := z66
  dsimp only at e0 e1 e2 e3 e4 e5 z0 z1 z2 z3 z4 z5
  go_wp2_with fail
  refine (AR.out w6 hm6).mono ?_
  rintro x w7 ⟨v', rfl, hv', hb7⟩
  have M7 := M6.later hb7
  have hm7 := hm6.later hb7
  have hv7 := OwnM.later hv6 hb7
  have hb7' := hb6'.trans (hb7.mono (by have := hb6'.size; omega))
  obtain ⟨oa, oc, rfl, hom, _⟩ := hv7.form
  obtain ⟨ra, rc, rfl, hrm, _⟩ := hv'.form
  rw [HXl.out]
  clear AR M6 hm6 hv6 hv7 hv' hb6' hb7 e0 e1 e2 e3 e4 e5 z0 z1 z2 z3 z4 z5
  go_wp2_with fail
  refine (S2.out oa ra oc rc w7 hom hrm).mono ?_
  rintro x w8 ⟨⟨b, rfl, hb⟩, hb8⟩
  obtain rfl : b = true := hb.2 (by first | trivial | rfl)
  have M8 := M7.later hb8
  have hm8 := hm7.later hb8
  have hom8 := hom.later hb8
  have hb8' := hb7'.trans (hb8.mono (by have := hb7'.size; omega))
  clear S2 M7 hm7 hom hrm hb7' hb8 hb
  go_wp2_with fail
  refine (LP.out oa oc w8 hom8).mono ?_
  rintro x w9 ⟨rfl, hb9⟩
  have M9 := M8.later hb9
  have hm9 := hm8.later hb9
  have hom9 := hom8.later hb9
  have hb9' := hb8'.trans (hb9.mono (by have := hb8'.size; omega))
  clear LP M8 hm8 hom8 hb8' hb9
  obtain ⟨e0, e1, e2, e3, e4, e5⟩ := M9.six
  dsimp only at e0 e1 e2 e3 e4 e5
  go_wp2_with fail
  refine (SP.out w9).mono ?_
  rintro x wa ⟨rfl, hba⟩
  have hma := hm9.later hba
  have homa := hom9.later hba
  have hba' := hb9'.trans (hba.mono (by have := hb9'.size; omega))
  clear SP M9 hm9 hom9 hb9' hba e0 e1 e2 e3 e4 e5
  have HI := hid (lastI_is out k.data.toList)
  generalize speaks ⟨kd, ky, vl, bk, dp, ad⟩ k.data.toList = s at *
  cases s
  · have A2 := AS.out.2 rfl
    clear AS
    generalize lastI out k.data.toList = I at *
    generalize lastI l k.data.toList = J at *
    go_wp2_with fail
    refine (LR.out wa hma).mono ?_
    rintro x wb ⟨rfl, hbb⟩
    have hmb := hma.later hbb
    have homb := homa.later hbb
    have hbb' := hba'.trans (hbb.mono (by have := hba'.size; omega))
    clear LR hma homa hba' hbb
    rcases A2 with ⟨rfl, rfl⟩ | ⟨i, j, x, rfl, rfl, ho, hx⟩
    · go_wp2_with fail
      refine (awake8 _).mono ?_
      rintro x wc ⟨rfl, hbc⟩
      go_wp2_with fail
      go_ret
      exact ⟨rfl, by rw [hk0]; exact hbb'.trans (hbc.mono (by have := hbb'.size; omega))⟩
    · obtain ⟨b, off, rfl, h6⟩ := hmb.place hx
      obtain ⟨g', goff, rfl, x6⟩ := homb.place ho
      have hi' : i < nx := by rw [← HXl.out]; exact (List.getElem?_eq_some_iff.1 ho).1
      have hj' : j < n := by rw [← HLN.out]; exact (List.getElem?_eq_some_iff.1 hx).1
      have hdx : decide ((i : Int) < (nx : Int)) = true := by simp; omega
      clear ho hx HI hmb homb
      obtain ⟨xd, xy, xl, xk', xp, xa⟩ := x
      go_upto_region 14 with fail
      refine wp_region_quiet (C := fun u => Below wb.heap.size wb u) (by kernel_rfl) (by kernel_rfl) ⟨rfl, rfl, rfl, Nat.le_refl _, fun _ _ => rfl⟩ ?_
      change wpQuiet _ _ _ _ (_ :: _) _
      repeat
        refine wpQuiet_step (fun K hK => ?_)
        first
          | refine quiet_val ?_ (by kernel_rfl) ?_ ?_
            rotate_left
            · intro u hu
              obtain ⟨c0, c1, c2, c3, c4, c5⟩ := h6.later hu
              obtain ⟨x0, x1, x2, x3, x4, x5⟩ := x6.later hu
              dsimp only at c0 c1 c2 c3 c4 c5 x0 x1 x2 x3 x4 x5
              go_simp
              with_reducible rfl
          | refine quiet_call (.bool true) 8 #[] (by kernel_rfl) ?_ (fun u hu => (awake8 u).mono fun x u' h => ⟨h.1, hu.trans (h.2.mono hu.size)⟩) ?_
            · intro u hu
              go_simp
              done
        go_simp
        refine hK _ ?_
        clear hK K
      refine wpQuiet_nil (fun u hu => ?_)
      go_wp2_with fail
      go_ret
      exact ⟨rfl, by rw [hk0]; exact hbb'.trans (hu.mono (by have := hbb'.size; omega))⟩
  · have A1 := AS.out.1 rfl
    rw [A1, HXl.out]
    clear AS
    go_wp2_with fail
    refine (awake8 _).mono ?_
    rintro x wb ⟨rfl, hbb⟩
    go_wp2_with fail
    go_ret
    exact ⟨rfl, by rw [hk0]; exact hba'.trans (hbb.mono (by have := hba'.size; omega))⟩
end Go.Proofs.Ytobbgndabmnbcaa.Key
