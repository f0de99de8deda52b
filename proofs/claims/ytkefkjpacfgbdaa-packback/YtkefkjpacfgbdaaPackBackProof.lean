/-
  Proved: the call of the statement PackBack returns true for every slice of bytes, every number and every text (what is put behind any bytes is taken as it was), and the slice reads afterwards as it read before. No condition.
  The frame of the row's step was written by the guide's proof-skeleton.mjs; the walk is this text's own.
-/
import Derived.Test.YtkefkjpacfgbdaaBack
import Derived.WalkKit
import Derived.ProofKit
import Derived.OpenShut
import Derived.ShutString
import Derived.ChangeOld
import Derived.Below
namespace Go.Proofs.Ytkefkjpacfgbdaa.packBack
open Go.ChangeShapes Go.WideShapes Go.ChangeAt Go.RowKit
open Go.ChangeMaps (open_string shut_string)
set_option linter.unusedVariables false

theorem own : ownKnob Try.prog.godebug = none := by kernel_rfl
theorem laidOut : laidOutB Try.prog = true := by kernel_rfl

/-- WHAT THE WALK IS TOLD OF A SLICE OF INTEGERS THAT CAME IN: it is nil; or it leads to a row of 'cap' cells, the numbers 'zs' (the first 'len' are its elements, the rest its spare room), each fitting its kind. -/
def IsRow (k : IntKind) (w : World) (a : Option Addr) (len cap : Nat) (zs : List Int) : Prop :=
  (a = none ∧ len = 0 ∧ cap = 0 ∧ zs = []) ∨
  ∃ x, a = some x ∧ len ≤ cap ∧ cap ≤ maxLen ∧ zs.length = cap ∧ (∀ i, i < zs.length → w.cell? (x.add i) = some (.int k (zs.getD i 0))) ∧ ∀ n ∈ zs, (Lit.int k n).wf = true

/-! ### STEP 1: THE WALK: the Go text returns true, AND WRITES NOTHING THAT WAS THERE: 'Below w.heap.size w w'' (Derived/Below.lean: '.refl', '.alloc', '.drew', '.setCell' at a new block, '.trans'). Open each 'IsRow' by 'rcases' AHEAD of 'go_enter'; part every test ahead of the walk. -/
set_option maxHeartbeats 4000000 in
theorem walk (a0 : Option Addr) (len0 cap0 : Nat) (z0 : List Int) (a1 : Int) (a2 : ByteArray) (w : World) (w0 : IsRow .u8 w a0 len0 cap0 z0) (w1 : (Lit.int .u64 a1).wf = true) (w2 : a2.size ≤ maxLen) :
    Calls Try.prog 5 #[.slice a0 len0 cap0, .int .u64 a1, .string a2] w fun e w' => e = .returned (.bool true) ∧ Below w.heap.size w w' := by
  obtain ⟨xs, hx1, hx2, hx3, hx4, hx5⟩ := Pack.opened w0
  clear w0
  unfold maxLen at hx5 w2
  obtain ⟨hs0, hs1⟩ : 0 ≤ a1 ∧ a1 ≤ 18446744073709551615 := by simpa [Lit.wf, IntKind.min, IntKind.max, IntKind.signed, IntKind.bits] using w1
  obtain ⟨n, rfl⟩ := Int.eq_ofNat_of_zero_le hs0
  clear w1
  have hn : n < 18446744073709551616 := by omega
  by_cases h0 : 2000 < len0 ∨ 255 < a2.size
  · have hd : (decide ((2000 : Int) < (len0 : Int)) || decide ((255 : Int) < (a2.size : Int))) = true := by simp; omega
    go_enter Try.func5, Try.ntmps5
    go_wp2_with (go_at_call 7; refine (Pack.awake_any _).mono ?_; rintro e w' ⟨rfl, hb⟩)
    all_goals (go_ret; exact ⟨rfl, hb⟩)
  · have hd0 : decide ((2000 : Int) < (len0 : Int)) = false := by simp; omega
    have hd1 : decide ((255 : Int) < (a2.size : Int)) = false := by simp; omega
    go_enter Try.func5, Try.ntmps5
    go_wp2_with fail
    refine (Pack.Put_1m n a0 len0 cap0 xs w hx1 hx2 hx4 (by omega)).mono ?_
    rintro e w1 ⟨v1, rfl, ho1, hb1⟩
    obtain ⟨g1, c1, rfl, _, _, _, _, hy1⟩ := ho1.rowAt (k := len0 + 1) (by simp [Pack.be_length, hx1]) (by omega)
    go_wp2_with fail
    refine (Pack.Put_2m n _ _ _ _ w1 (by simp [Pack.be_length, hx1]) hy1 (fun h => by cases h) (by omega)).mono ?_
    rintro e w2 ⟨v2, rfl, ho2, hb2⟩
    obtain ⟨g2, c2, rfl, _, _, _, _, hy2⟩ := ho2.rowAt (k := len0 + 3) (by simp [Pack.be_length, hx1]) (by omega)
    clear hy1 ho1
    go_wp2_with fail
    refine (Pack.Put_4m n _ _ _ _ w2 (by simp [Pack.be_length, hx1]) hy2 (fun h => by cases h) (by omega)).mono ?_
    rintro e w3 ⟨v3, rfl, ho3, hb3⟩
    obtain ⟨g3, c3, rfl, _, _, _, _, hy3⟩ := ho3.rowAt (k := len0 + 7) (by simp [Pack.be_length, hx1]) (by omega)
    clear hy2 ho2
    go_wp2_with fail
    refine (Pack.Put_8 n hn _ _ _ _ w3 (by simp [Pack.be_length, hx1]) hy3 (fun h => by cases h) (by omega)).mono ?_
    rintro e w4 ⟨v4, rfl, ho4, hb4⟩
    obtain ⟨g4, c4, rfl, _, _, _, _, hy4⟩ := ho4.rowAt (k := len0 + 15) (by simp [Pack.be_length, hx1]) (by omega)
    clear hy3 ho3
    go_wp2_with fail
    refine (Pack.PutText_any a2 (by unfold maxLen; omega) _ _ _ _ w4 (by simp [Pack.be_length, hx1]) hy4 (fun h => by cases h) (by omega)).mono ?_
    rintro e w5 ⟨v5, rfl, ho5, hb5⟩
    have hlt : (Pack.txt a2).length = 1 + a2.size := by rw [Pack.txt_short a2 (by omega)]; simp [Pack.nums_length]; omega
    obtain ⟨g5, c5, rfl, _, _, hc5, hm5, hy5⟩ := ho5.rowAt (k := len0 + 16 + a2.size) (by simp [Pack.be_length, hx1, hlt]; omega) (by omega)
    clear hy4 ho4 ho5
    unfold maxLen at hm5
    obtain ⟨Y, hY⟩ : ∃ Y, Y = Pack.be 1 n ++ (Pack.be 2 n ++ (Pack.be 4 n ++ (Pack.be 8 n ++ Pack.txt a2))) := ⟨_, rfl⟩
    have hy6 := hy5.drop len0
    simp only [Nat.zero_add, List.append_assoc] at hy6
    rw [← hx1, List.drop_left, ← hY, hx1] at hy6
    have hYb : Pack.Byt Y := by
      rw [hY]
      refine (Pack.byt_be _ _).append ((Pack.byt_be _ _).append ((Pack.byt_be _ _).append ((Pack.byt_be _ _).append ?_)))
      rw [Pack.txt_short a2 (by omega)]
      intro z hz
      rcases List.mem_cons.1 hz with rfl | hz
      · omega
      · exact Pack.byt_nums a2 z hz
    have hYl : Y.length = len0 + 16 + a2.size - len0 := by rw [hY]; simp [Pack.be_length, hlt]; omega
    have F1 := Pack.g_at [] (Pack.be 2 n ++ (Pack.be 4 n ++ (Pack.be 8 n ++ Pack.txt a2))) 1 n 0 rfl
    have F2 := Pack.g_at (Pack.be 1 n) (Pack.be 4 n ++ (Pack.be 8 n ++ Pack.txt a2)) 2 n 1 (Pack.be_length 1 n)
    have F4 := Pack.g_at (Pack.be 1 n ++ Pack.be 2 n) (Pack.be 8 n ++ Pack.txt a2) 4 n 3 (by simp [Pack.be_length])
    have F8 := Pack.g_at (Pack.be 1 n ++ Pack.be 2 n ++ Pack.be 4 n) (Pack.txt a2) 8 n 7 (by simp [Pack.be_length])
    have FT := Pack.t_at (Pack.be 1 n ++ Pack.be 2 n ++ Pack.be 4 n ++ Pack.be 8 n) a2 (by omega) 15 (by simp [Pack.be_length])
    rw [List.nil_append, ← hY] at F1
    rw [← hY] at F2
    simp only [List.append_assoc] at F4 F8 FT
    rw [← hY] at F4 F8 FT
    have HF := Pack.hid (And.intro F1 (And.intro F2 (And.intro F4 (And.intro F8 FT))))
    have HYl := Pack.hid hYl
    have e1 : ((n % 256 ^ 1 : Nat) : Int) = (n : Int) % 256 := by omega
    have e2 : ((n % 256 ^ 2 : Nat) : Int) = IntKind.u16.wrap (n : Int) := by show _ = (n : Int) % 65536; omega
    have e4 : ((n % 256 ^ 4 : Nat) : Int) = (n : Int) % 4294967296 := by omega
    have e8 : n % 256 ^ 8 = n := Nat.mod_eq_of_lt hn
    have HE := Pack.hid (And.intro e1 (And.intro e2 (And.intro e4 e8)))
    clear F1 F2 F4 F8 FT e1 e2 e4 e8 hy5
    clear hY
    have hbw : Below w.heap.size w w5 := by
      have k2 := hb1.trans (hb2.mono hb1.size)
      have k3 := k2.trans (hb3.mono k2.size)
      have k4 := k3.trans (hb4.mono k3.size)
      exact k4.trans (hb5.mono k4.size)
    clear hb1 hb2 hb3 hb4 hb5
    have hle : ¬ (len0 : Int) + 16 + (a2.size : Int) < (len0 : Int) := by omega
    go_wp2_with fail
    refine (Pack.New_any _ _ _ Y w5 hYl hy6 hYb (fun h => by cases h) (by omega)).mono ?_
    rintro e w6 ⟨k, rfl, hr6, hb6⟩
    clear hYl
    have hb6' := hbw.trans (hb6.mono hbw.size)
    have hk := hr6.lt
    have hkw : w.heap.size ≤ k := Nat.le_trans hbw.size hk.2
    go_wp2_with fail
    refine (Pack.Get_1 hr6).mono ?_
    rintro e w7 ⟨rfl, hr7, hg7⟩
    rw [HF.out.1.1, HE.out.1]
    rw [HF.out.1.2.1, HF.out.1.2.2] at hr7
    have hb7 := hb6'.grown hg7 (by exact hb6'.size) (fun j hj => by cases hj; exact hkw)
    clear hr6 hg7
    go_wp2_with fail
    refine (Pack.Get_2 hr7).mono ?_
    rintro e w8 ⟨rfl, hr8, hg8⟩
    rw [HF.out.2.1.1, HE.out.2.1]
    rw [HF.out.2.1.2.1, HF.out.2.1.2.2] at hr8
    have hb8 := hb7.grown hg8 (by exact hb7.size) (fun j hj => by cases hj; exact hkw)
    clear hr7 hg8
    go_wp2_with fail
    refine (Pack.Get_4 hr8).mono ?_
    rintro e w9 ⟨rfl, hr9, hg9⟩
    rw [HF.out.2.2.1.1, HE.out.2.2.1]
    rw [HF.out.2.2.1.2.1, HF.out.2.2.1.2.2] at hr9
    have hb9 := hb8.grown hg9 (by exact hb8.size) (fun j hj => by cases hj; exact hkw)
    clear hr8 hg9
    go_wp2_with fail
    refine (Pack.Get_8 hr9).mono ?_
    rintro e w10 ⟨rfl, hr10, hg10⟩
    rw [HF.out.2.2.2.1.1, HE.out.2.2.2]
    rw [HF.out.2.2.2.1.2.1, HF.out.2.2.2.1.2.2] at hr10
    have hb10 := hb9.grown hg10 (by exact hb9.size) (fun j hj => by cases hj; exact hkw)
    clear hr9 hg10
    go_wp2_with fail
    refine (Pack.GetText_any hr10 255).mono ?_
    rintro e w11 ⟨rfl, hr11, hg11⟩
    rw [HF.out.2.2.2.2.1]
    rw [HF.out.2.2.2.2.2.1, HF.out.2.2.2.2.2.2] at hr11
    have hb11 := hb10.grown hg11 (by exact hb10.size) (fun j hj => by cases hj; exact hkw)
    clear hr10 hg11
    go_wp2_with fail
    refine (Pack.End_any hr11).mono ?_
    rintro e w12 ⟨rfl, hb12⟩
    rw [show Pack.endE Y.length Y.length 0 = 0 from if_neg (fun x => Nat.lt_irrefl _ x.2)]
    have hr12 := hr11.later hb12
    have hb12' := hb11.trans (hb12.mono hb11.size)
    clear hr11
    go_wp2_with fail
    refine (Pack.left_any hr12).mono ?_
    rintro e w13 ⟨rfl, hb13⟩
    rw [Nat.sub_self]
    have hb13' := hb12'.trans (hb13.mono hb12'.size)
    go_wp2_with fail
    refine (Pack.awake_any _).mono ?_
    rintro e w14 ⟨rfl, hb14⟩
    go_wp2
    go_ret
    exact ⟨rfl, hb13'.trans (hb14.mono hb13'.size)⟩

/-! ### THE ROW's STEP: WRITTEN OUT: LEAVE IT -/
set_option maxRecDepth 100000 in
theorem lifted (os : Os) (started : os.Started) (H : Type) (enc : TypeId × Value → H) :
    ReturnsInHanded {} Try.checked os 5 .any (Rows.packBackSpec.pre6 enc Try.prog Try.f5 Rows.packBackRow.domain false) (Rows.packBackSpec.post enc Try.prog Try.f5 false true false false) := by
  refine returnsInHanded_of_change (C := Try.checked) own started (by kernel_rfl) Try.func5
    (ChangeSpec.witness6 (enc := enc) (C := Try.checked) false ⟨#[], #[.slice none 0 0, .int .u64 0, .string ByteArray.empty], []⟩ 8 (by kernel_rfl) (by kernel_rfl) (by kernel_rfl) (by kernel_rfl)) ?_
  intro W base args ds gs before hval0 hW hcnd _
  have hval : ∀ (j : Nat) t v, Try.f5.params[j]? = some t → args[j]? = some v → Value.okWide Try.prog W .any base t v := hval0
  have hW' := hW
  obtain ⟨p, q, hA0, hV, rfl, hfz, hnd⟩ := hW
  have hA : DataW.TrodAll enc Try.prog W 0 (fun _ => true) true Try.f5.params.toList args.toList ds p := hA0
  rw [Try.params5] at hA hval
  obtain ⟨v0, vs0, d0, ds0, p0, q0, hargs, rfl, rfl, h0, r0⟩ := trodAll_cons hA
  obtain ⟨v1, vs1, d1, ds1, p1, q1, rfl, rfl, rfl, h1, r1⟩ := trodAll_cons r0
  obtain ⟨v2, vs2, d2, ds2, p2, q2, rfl, rfl, rfl, h2, r2⟩ := trodAll_cons r1
  obtain ⟨rfl, rfl, rfl⟩ := trodAll_nil r2
  obtain rfl : args = #[v0, v1, v2] := by cases args; simp_all
  obtain ⟨rfl, rfl⟩ := trodVars_none hV
  obtain ⟨a0, len0, cap0, rfl⟩ := okWide_slice Try.underlying22 (hval 0 22 v0 rfl rfl)
  have k0 := h0
  have lt0 : ∀ x ∈ p0, x.block < W.heap.size := by obtain ⟨m, hm⟩ := k0; exact DataW.trod_lt m _ _ _ hm
  obtain ⟨z0, w0⟩ : ∃ zs, IsRow .u8 W a0 len0 cap0 zs := by
    obtain ⟨fuel, hf⟩ := h0
    rcases open_ints Try.underlying22 Try.underlying5 (by kernel_rfl) hf with ⟨hcs, _⟩ | ⟨x, l, c, zs, hcs, _, hl, hm, hz, _, hcell, hwz⟩
    · simp [Value.cells] at hcs
      obtain ⟨rfl, rfl, rfl⟩ := hcs
      exact ⟨[], .inl ⟨rfl, rfl, rfl, rfl⟩⟩
    · simp [Value.cells] at hcs
      obtain ⟨rfl, rfl, rfl⟩ := hcs
      exact ⟨zs, .inr ⟨_, rfl, hl, hm, by simpa using hz, hcell, hwz⟩⟩
  obtain ⟨a1, rfl, rfl, rfl, w1⟩ := open_int Try.underlying23 (hval 1 23 v1 rfl rfl) h1
  obtain ⟨a2, rfl, rfl, rfl, w2⟩ := open_string Try.underlying9 (hval 2 9 v2 rfl rfl) h2
  clear hA0 hval0
  refine (walk a0 len0 cap0 z0 a1 a2 W w0 w1 w2).mono fun e W' ⟨he, bel⟩ => ?_
  subst he
  exact ⟨_, rfl, _, _, _, [], _, [], hW', trodAll_mk1 (shut_bool Try.underlying4 _), (trodAll_cons_mk (Below.trod laidOut (by kernel_rfl) (of_decide_eq_true (by kernel_rfl)) k0 bel lt0) (trodAll_cons_mk (shut_int Try.underlying23 w1) (trodAll_cons_mk (shut_string Try.underlying9 w2) trodAll_mk0))), rfl, bel.frame _, fun h => by cases h⟩

theorem over : Rows.packBackRow.holds Try.pinned (OpenSpec.ofChange Rows.packBackSpec) :=
  OpenClaim.holds_of_wide 5 Try.f5 rfl rfl rfl rfl rfl rfl rfl ⟨rfl, rfl, rfl, rfl, rfl⟩ rfl rfl rfl rfl rfl (by kernel_rfl) Try.func5 (by kernel_rfl)
    (of_decide_eq_true (by kernel_rfl)) (by unfold Func.isWrapper; first | (rw [if_pos (by decide +kernel)]; kernel_rfl) | (rw [if_neg (by decide +kernel)]; exact ⟨rfl, rfl⟩))
    (fun os started H enc _ => lifted os started H enc)

/-- ████ THE STATEMENT ████ -/
theorem proved : Rows.PackBackSaid := over
#print axioms proved
end Go.Proofs.Ytkefkjpacfgbdaa.packBack
