/-
  Proved: the call of the statement CrcSpoilt returns true for every slice of bytes, every place and every word (bytes of which just some in a row of four are other ones have another sum; marked bytes spoilt so don't fit), and the slice reads afterwards as it read before. No condition.
  The frame of the row's step was written by the guide's proof-skeleton.mjs; the walk is this text's own.
-/
import Derived.Test.YtknblmapbkionaaSpoil
import Derived.Deep.AppendLies
import Derived.WalkKit
import Derived.ProofKit
import Derived.OpenShut
import Derived.ShutString
import Derived.ChangeOld
import Derived.Below
namespace Go.Proofs.Ytknblmapbkionaa.crcSpoilt
open Go.ChangeShapes Go.WideShapes Go.ChangeAt Go.RowKit
open Go.ChangeMaps (open_string shut_string)
set_option linter.unusedVariables false

theorem own : ownKnob Try.prog.godebug = none := by kernel_rfl
theorem laidOut : laidOutB Try.prog = true := by kernel_rfl

/-- WHAT THE WALK IS TOLD OF A SLICE OF INTEGERS THAT CAME IN: it is nil; or it leads to a row of 'cap' cells, the numbers 'zs' (the first 'len' are its elements, the rest its spare room), each fitting its kind. -/
def IsRow (k : IntKind) (w : World) (a : Option Addr) (len cap : Nat) (zs : List Int) : Prop :=
  (a = none ∧ len = 0 ∧ cap = 0 ∧ zs = []) ∨
  ∃ x, a = some x ∧ len ≤ cap ∧ cap ≤ maxLen ∧ zs.length = cap ∧ (∀ i, i < zs.length → w.cell? (x.add i) = some (.int k (zs.getD i 0))) ∧ ∀ n ∈ zs, (Lit.int k n).wf = true

/-! ### STEP 1: THE WALK: the Go text returns true, AND WRITES NOTHING THAT WAS THERE: 'Below w.heap.size w w'' (Derived/Below.lean: '.refl', '.alloc', '.drew', '.setCell' at a new block, '.trans'). Open each 'IsRow' by 'rcases' AHEAD of 'go_enter'; part every test ahead of the walk. -/
theorem walk (a0 : Option Addr) (len0 cap0 : Nat) (z0 : List Int) (a1 : Int) (a2 : Int) (w : World) (w0 : IsRow .u8 w a0 len0 cap0 z0) (w1 : (Lit.int .i64 a1).wf = true) (w2 : (Lit.int .u32 a2).wf = true) :
    Calls Try.prog 6 #[.slice a0 len0 cap0, .int .i64 a1, .int .u32 a2] w fun e w' => e = .returned (.bool true) ∧ Below w.heap.size w w' := by
  obtain ⟨xs, hx1, hx2, hx3, hx4, hx5⟩ := Crc.opened w0
  clear w0
  unfold maxLen at hx5
  obtain ⟨hat0, hat1⟩ : -9223372036854775808 ≤ a1 ∧ a1 ≤ 9223372036854775807 := by simpa [Lit.wf, IntKind.min, IntKind.max, IntKind.signed, IntKind.bits] using w1
  obtain ⟨hs0, hs1⟩ : 0 ≤ a2 ∧ a2 ≤ 4294967295 := by simpa [Lit.wf, IntKind.min, IntKind.max, IntKind.signed, IntKind.bits] using w2
  clear w1 w2
  by_cases h0 : 5000 < len0
  · have hd0 : decide ((5000 : Int) < (len0 : Int)) = true := by simp; omega
    go_enter Try.func6, Try.ntmps6
    go_wp2_with (go_at_call 8; refine (Crc.awake_any _).mono ?_; rintro e w' ⟨rfl, hb⟩)
    go_ret
    exact ⟨rfl, hb⟩
  have hd0 : decide ((5000 : Int) < (len0 : Int)) = false := by simp; omega
  by_cases h1 : len0 < 4
  · have hd1 : decide ((len0 : Int) < 4) = true := by simp; omega
    go_enter Try.func6, Try.ntmps6
    go_wp2_with (go_at_call 8; refine (Crc.awake_any _).mono ?_; rintro e w' ⟨rfl, hb⟩)
    go_ret
    exact ⟨rfl, hb⟩
  have hd1 : decide ((len0 : Int) < 4) = false := by simp; omega
  by_cases h2 : a1 < 0
  · have hd2 : decide (a1 < 0) = true := by simp; omega
    go_enter Try.func6, Try.ntmps6
    go_wp2_with (go_at_call 8; refine (Crc.awake_any _).mono ?_; rintro e w' ⟨rfl, hb⟩)
    go_ret
    exact ⟨rfl, hb⟩
  have hd2 : decide (a1 < 0) = false := by simp; omega
  by_cases h3 : (len0 : Int) - 4 < a1
  · have hd3 : decide ((len0 : Int) - 4 < a1) = true := by simp; omega
    go_enter Try.func6, Try.ntmps6
    go_wp2_with (go_at_call 8; refine (Crc.awake_any _).mono ?_; rintro e w' ⟨rfl, hb⟩)
    go_ret
    exact ⟨rfl, hb⟩
  have hd3 : decide ((len0 : Int) - 4 < a1) = false := by simp; omega
  by_cases h4 : a2 = 0
  · have hd4 : (a2 == 0) = true := by simp [h4]
    have H4 := Crc.hid h4
    clear h4
    go_enter Try.func6, Try.ntmps6
    go_wp2_with (go_at_call 8; refine (Crc.awake_any _).mono ?_; rintro e w' ⟨rfl, hb⟩)
    go_ret
    exact ⟨rfl, hb⟩
  have hd4 : (a2 == 0) = false := by simp [h4]
  obtain ⟨k, rfl⟩ := Int.eq_ofNat_of_zero_le (show 0 ≤ a1 by omega)
  obtain ⟨y, rfl⟩ := Int.eq_ofNat_of_zero_le hs0
  have hy : y < 4294967296 := by omega
  have hy0 : y ≠ 0 := by omega
  clear h4
  have hk : k + 4 ≤ len0 := by omega
  have hb0 : Below w.heap.size w (w.alloc (.cells #[] 5)) := (Below.refl _ _).alloc (Nat.le_refl _) _
  go_enter Try.func6, Try.ntmps6
  go_wp2_with (first | (at_builtin; refine Crc.app rfl (.tmp 38) (.tmp 39) rfl w.heap.size _ [] rfl (Crc.Own.made w) a0 len0 cap0 xs rfl hx4 hx1 (hx2.later hb0) (by simp; omega) (by simp) ?_; intro v1 w1 ho1 hg1; have hb1 := (Crc.Own.made w).below hb0 (Nat.le_refl _) (by simp) hg1; clear hg1) | fail)
  rw [List.nil_append] at ho1
  obtain ⟨g, c1, rfl, hg0, hg1⟩ := World.ownsRow.form ho1 (by omega)
  have HS := Crc.hid (Crc.spl_sum xs k y (by omega) hx3 hy hy0)
  have HF := Crc.hid (Crc.spl_fits xs k y (by omega) hx3 hy hy0)
  rw [hx1] at ho1 ⊢
  go_wp2_with fail
  go_loopw [8, 9] (fun x i wr => ∃ j : Nat, j ≤ 4 ∧ i = .int .i64 j ∧ x = .int .u32 ((y / 256 ^ j : Nat) : Int) ∧ Crc.Own wr w.heap.size (.slice (some ⟨g, 0, none⟩) len0 c1) (Crc.spl xs k y j) ∧ Below w.heap.size w wr) (fun _ i _ => 4 - (intOf i).toNat)
  case atStart => exact ⟨0, by omega, rfl, by simp, ho1, hb1⟩
  case round =>
    obtain ⟨j, hj, rfl, rfl, ho, hb⟩ := hrel
    have hlj := Crc.spl_length xs k y j
    by_cases hj4 : j < 4
    · have hcj := ho.at' (hlj.trans hx1) (k + j) (by omega)
      have hfj := ho.free (hlj.trans hx1) (k + j)
      have hzb := Crc.byt_getD (Crc.spl_byt xs k y j hx3) (k + j)
      have HO := fun (z : Int) (hz : (Crc.spl xs k y j).getD (k + j) 0 = z) => ho.spoil hx1 hz
      generalize hz : (Crc.spl xs k y j).getD (k + j) 0 = z at *
      have HO' := Crc.hid (HO z rfl)
      have hxo := Crc.xor_u8 z (y / 256 ^ j) hzb.1 hzb.2
      have hpd := Crc.hid (Crc.pow_div y j)
      have hyl : y / 256 ^ j < 4294967296 := Nat.lt_of_le_of_lt (Nat.div_le_self _ _) hy
      clear HO hz hlj ho
      generalize y / 256 ^ j = Y at *
      go_wp2
      go_roundw
      case rel => exact ⟨j + 1, by omega, by go_num, Crc.val_u32 (by rw [← hpd.out]; omega), HO'.out, hb.setCell hg0 _⟩
      case measure => simp [intOf]; omega
    · obtain rfl : j = 4 := by omega
      have hbv := ho.bytes' (hlj.trans hx1)
      have hzv := Crc.spl_byt xs k y 4 hx3
      have hlv : (Crc.spl xs k y 4).length = len0 := hlj.trans hx1
      clear hj4 hlj ho
      go_wp2_with fail
      refine (Crc.sum_any _ _ _ _ _ hlv hbv hzv (by omega)).mono ?_
      rintro e w' ⟨rfl, rfl⟩
      go_wp2_with fail
      refine (Crc.sum_any _ _ _ xs _ hx1 (hx2.later hb) hx3 (by omega)).mono ?_
      rintro e w' ⟨rfl, rfl⟩
      have hne : (((Crc.more 0 (Crc.spl xs k y 4) : Nat) : Int) == ((Crc.more 0 xs : Nat) : Int)) = false := by
        have := HS.out
        simp; omega
      clear hbv hzv hlv HS
      generalize Crc.more 0 (Crc.spl xs k y 4) = s1 at *
      go_wp2_with fail
      refine (Crc.mark_any _ _ _ xs _ hx1 (hx2.later hb) hx3 hx4 (by omega)).mono ?_
      rintro e w2 ⟨v2, rfl, ho2, hb2⟩
      have hz2 := hx3.append (Crc.byt_le (Crc.more 0 xs))
      have hl2 : (xs ++ Crc.le (Crc.more 0 xs)).length = len0 + 4 := by simp [Crc.le]; omega
      generalize xs ++ Crc.le (Crc.more 0 xs) = ms at *
      generalize Crc.more 0 xs = s2 at *
      obtain ⟨g2, c2, rfl, hg20, hg21⟩ := World.ownsRow.form ho2 (by omega)
      have hsz := hb.size
      have hb3 := hb.trans (hb2.mono hsz)
      have hg2 : w.heap.size ≤ g2 := by omega
      rw [hl2] at ho2 ⊢
      clear hb2 hg20 hg21 hsz hb hb1 hb0 ho1 hg0 hg1 hx2 hx3
      have hcap := ho2.cap' hl2
      go_wp2_with fail
      go_loopw [11, 12] (fun x i wr => ∃ j : Nat, j ≤ 4 ∧ i = .int .i64 j ∧ x = .int .u32 ((y / 256 ^ j : Nat) : Int) ∧ Crc.Own wr w'.heap.size (.slice (some ⟨g2, 0, none⟩) (len0 + 4) c2) (Crc.spl ms k y j) ∧ Below w.heap.size w wr) (fun _ i _ => 4 - (intOf i).toNat)
      case atStart => exact ⟨0, by omega, rfl, by simp, ho2, hb3⟩
      case round =>
        obtain ⟨j, hj, rfl, rfl, ho, hb⟩ := hrel
        have hlj := Crc.spl_length ms k y j
        by_cases hj4 : j < 4
        · have hcj := ho.at' (hlj.trans hl2) (k + j) (by omega)
          have hfj := ho.free (hlj.trans hl2) (k + j)
          have hzb := Crc.byt_getD (Crc.spl_byt ms k y j hz2) (k + j)
          have HO := fun (z : Int) (hz : (Crc.spl ms k y j).getD (k + j) 0 = z) => ho.spoil hl2 hz
          generalize hz : (Crc.spl ms k y j).getD (k + j) 0 = z at *
          have HO' := Crc.hid (HO z rfl)
          have hxo := Crc.xor_u8 z (y / 256 ^ j) hzb.1 hzb.2
          have hpd := Crc.hid (Crc.pow_div y j)
          have hyl : y / 256 ^ j < 4294967296 := Nat.lt_of_le_of_lt (Nat.div_le_self _ _) hy
          clear HO hz hlj ho
          generalize y / 256 ^ j = Y at *
          go_wp2
          go_roundw
          case rel => exact ⟨j + 1, by omega, by go_num, Crc.val_u32 (by rw [← hpd.out]; omega), HO'.out, hb.setCell hg2 _⟩
          case measure => simp [intOf]; omega
        · obtain rfl : j = 4 := by omega
          have hbv := ho.bytes' (hlj.trans hl2)
          have hzv := Crc.spl_byt ms k y 4 hz2
          have hlv : (Crc.spl ms k y 4).length = len0 + 4 := hlj.trans hl2
          clear hj4 hlj ho
          go_wp2_with fail
          refine (Crc.fits_any _ _ _ _ _ hlv hbv hzv hcap (by omega)).mono ?_
          rintro e w4 ⟨rfl, hb4⟩
          rw [HF.out]
          have hb5 := hb.trans (hb4.mono hb.size)
          clear hbv hzv hlv
          go_wp2_with (go_at_call 8; refine (Crc.awake_any _).mono ?_; rintro e w' ⟨rfl, hb6⟩)
          go_ret
          exact ⟨rfl, hb5.trans (hb6.mono hb5.size)⟩

/-! ### THE ROW's STEP: WRITTEN OUT: LEAVE IT -/
set_option maxRecDepth 100000 in
theorem lifted (os : Os) (started : os.Started) (H : Type) (enc : TypeId × Value → H) :
    ReturnsInHanded {} Try.checked os 6 .any (Rows.crcSpoiltSpec.pre6 enc Try.prog Try.f6 Rows.crcSpoiltRow.domain false) (Rows.crcSpoiltSpec.post enc Try.prog Try.f6 false true false false) := by
  refine returnsInHanded_of_change (C := Try.checked) own started (by kernel_rfl) Try.func6
    (ChangeSpec.witness6 (enc := enc) (C := Try.checked) false ⟨#[], #[.slice none 0 0, .int .i64 0, .int .u32 0], []⟩ 8 (by kernel_rfl) (by kernel_rfl) (by kernel_rfl) (by kernel_rfl)) ?_
  intro W base args ds gs before hval0 hW hcnd _
  have hval : ∀ (j : Nat) t v, Try.f6.params[j]? = some t → args[j]? = some v → Value.okWide Try.prog W .any base t v := hval0
  have hW' := hW
  obtain ⟨p, q, hA0, hV, rfl, hfz, hnd⟩ := hW
  have hA : DataW.TrodAll enc Try.prog W 0 (fun _ => true) true Try.f6.params.toList args.toList ds p := hA0
  rw [Try.params6] at hA hval
  obtain ⟨v0, vs0, d0, ds0, p0, q0, hargs, rfl, rfl, h0, r0⟩ := trodAll_cons hA
  obtain ⟨v1, vs1, d1, ds1, p1, q1, rfl, rfl, rfl, h1, r1⟩ := trodAll_cons r0
  obtain ⟨v2, vs2, d2, ds2, p2, q2, rfl, rfl, rfl, h2, r2⟩ := trodAll_cons r1
  obtain ⟨rfl, rfl, rfl⟩ := trodAll_nil r2
  obtain rfl : args = #[v0, v1, v2] := by cases args; simp_all
  obtain ⟨rfl, rfl⟩ := trodVars_none hV
  obtain ⟨a0, len0, cap0, rfl⟩ := okWide_slice Try.underlying22 (hval 0 22 v0 rfl rfl)
  have k0 := h0
  have lt0 : ∀ x ∈ p0, x.block < W.heap.size := by obtain ⟨m, hm⟩ := k0; exact DataW.trod_lt m _ _ _ hm
  obtain ⟨z0, w0⟩ : ∃ zs, IsRow .u8 W a0 len0 cap0 zs := by
    obtain ⟨fuel, hf⟩ := h0
    rcases open_ints Try.underlying22 Try.underlying5 (by kernel_rfl) hf with ⟨hcs, _⟩ | ⟨x, l, c, zs, hcs, _, hl, hm, hz, _, hcell, hwz⟩
    · simp [Value.cells] at hcs
      obtain ⟨rfl, rfl, rfl⟩ := hcs
      exact ⟨[], .inl ⟨rfl, rfl, rfl, rfl⟩⟩
    · simp [Value.cells] at hcs
      obtain ⟨rfl, rfl, rfl⟩ := hcs
      exact ⟨zs, .inr ⟨_, rfl, hl, hm, by simpa using hz, hcell, hwz⟩⟩
  obtain ⟨a1, rfl, rfl, rfl, w1⟩ := open_int Try.underlying3 (hval 1 3 v1 rfl rfl) h1
  obtain ⟨a2, rfl, rfl, rfl, w2⟩ := open_int Try.underlying23 (hval 2 23 v2 rfl rfl) h2
  clear hA0 hval0
  refine (walk a0 len0 cap0 z0 a1 a2 W w0 w1 w2).mono fun e W' ⟨he, bel⟩ => ?_
  subst he
  exact ⟨_, rfl, _, _, _, [], _, [], hW', trodAll_mk1 (shut_bool Try.underlying4 _), (trodAll_cons_mk (Below.trod laidOut (by kernel_rfl) (of_decide_eq_true (by kernel_rfl)) k0 bel lt0) (trodAll_cons_mk (shut_int Try.underlying3 w1) (trodAll_cons_mk (shut_int Try.underlying23 w2) trodAll_mk0))), rfl, bel.frame _, fun h => by cases h⟩

theorem over : Rows.crcSpoiltRow.holds Try.pinned (OpenSpec.ofChange Rows.crcSpoiltSpec) :=
  OpenClaim.holds_of_wide 6 Try.f6 rfl rfl rfl rfl rfl rfl rfl ⟨rfl, rfl, rfl, rfl, rfl⟩ rfl rfl rfl rfl rfl (by kernel_rfl) Try.func6 (by kernel_rfl)
    (of_decide_eq_true (by kernel_rfl)) (by unfold Func.isWrapper; first | (rw [if_pos (by decide +kernel)]; kernel_rfl) | (rw [if_neg (by decide +kernel)]; exact ⟨rfl, rfl⟩))
    (fun os started H enc _ => lifted os started H enc)

/-- ████ THE STATEMENT ████ -/
theorem proved : Rows.CrcSpoiltSaid := over
#print axioms proved
end Go.Proofs.Ytknblmapbkionaa.crcSpoilt
