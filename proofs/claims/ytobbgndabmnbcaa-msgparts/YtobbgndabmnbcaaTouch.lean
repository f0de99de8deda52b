/-
  Contract of the function that Trim hands on: does a message speak of a key of a range? Steps through a region that draws.
-/
import Derived.Test.YtobbgndabmnbcaaChoose
import Derived.Deep.Quiet
namespace Go.Proofs.Ytobbgndabmnbcaa.Key
open Go.RowKit
open Go.Op (bytesLess)

/-- in a region that draws: an operation that yields v in every world of the class -/
theorem quiet_val {P : Program} {ops : Array Oper} {C : World → Prop} {K : Act → Prop} {a : Act} {o : Oper} (v : Value) (hw : Region.wanted o (yielded ops a.tmps) = true)
    (hv : ∀ u, C u → (execOp a.eval o).run P u = .ok (.value v) u) (h : K (a.put o.dst v)) : if Region.wanted o (yielded ops a.tmps) then o.quiet P a C K else K (a.put o.dst undef) := by
  rw [if_pos hw]
  refine ⟨v, fun u hu => ?_, h⟩
  unfold Oper.quietAt
  rw [hv u hu]
  exact ⟨rfl, rfl⟩
/-- .. a call that hands back v and leaves a world of the class -/
theorem quiet_call {P : Program} {ops : Array Oper} {C : World → Prop} {K : Act → Prop} {a : Act} {o : Oper} (v : Value) (f : FuncId) (args : Array Value) (hw : Region.wanted o (yielded ops a.tmps) = true)
    (hv : ∀ u, C u → (execOp a.eval o).run P u = .ok (.enter f args) u) (hc : ∀ u, C u → Calls P f args u fun e u' => e = .returned v ∧ C u') (h : K (a.put o.dst v)) : if Region.wanted o (yielded ops a.tmps) then o.quiet P a C K else K (a.put o.dst undef) := by
  rw [if_pos hw]
  refine ⟨v, fun u hu => ?_, h⟩
  unfold Oper.quietAt
  rw [hv u hu]
  exact ⟨rfl, hc u hu⟩
/-- .. one that isn't wanted -/
theorem quiet_skip {P : Program} {ops : Array Oper} {C : World → Prop} {K : Act → Prop} {a : Act} {o : Oper} (hw : Region.wanted o (yielded ops a.tmps) = false)
    (h : K (a.put o.dst undef)) : if Region.wanted o (yielded ops a.tmps) then o.quiet P a C K else K (a.put o.dst undef) := by
  rw [if_neg (by rw [hw]; simp)]
  exact h

/-- does a message speak of a key of a range? -/
def touch (m : M) (r : Rng) : Bool := !emptyR (cutR (aboutR m) r)

set_option maxHeartbeats 1000000 in
theorem touch38 (m : M) (k : Nat) (lo hi : ByteArray) (e : Bool) (w : World) (hk : m.key.size ≤ 1000) (hB : Box w k (.string lo) (.string hi) (.bool e)) :
    Calls Try.prog 38 #[mv m, .pointer (some ⟨k, 0, none⟩)] w fun x w' => x = .returned (.bool (touch m (rg lo hi e))) ∧ Below w.heap.size w w' := by
  have HT := hid (show touch m (rg lo hi e) = !emptyR (cutR (aboutR m) (rg lo hi e)) from rfl)
  have HA := hid (fun w => about14 m w hk)
  have HC := hid (cut36 (str (aboutR m).lo) (str (aboutR m).hi) (aboutR m).e lo hi e)
  rw [show rg (str (aboutR m).lo) (str (aboutR m).hi) (aboutR m).e = aboutR m from rfl] at HC
  have HE := hid (empty39 (str (cutR (aboutR m) (rg lo hi e)).lo) (str (cutR (aboutR m) (rg lo hi e)).hi) (cutR (aboutR m) (rg lo hi e)).e)
  rw [show rg (str (cutR (aboutR m) (rg lo hi e)).lo) (str (cutR (aboutR m) (rg lo hi e)).hi) (cutR (aboutR m) (rg lo hi e)).e = cutR (aboutR m) (rg lo hi e) from rfl] at HE
  unfold rv at HA HC
  generalize touch m (rg lo hi e) = t at *
  generalize emptyR (cutR (aboutR m) (rg lo hi e)) = b at *
  generalize str (cutR (aboutR m) (rg lo hi e)).lo = C0 at *
  generalize str (cutR (aboutR m) (rg lo hi e)).hi = C1 at *
  generalize (cutR (aboutR m) (rg lo hi e)).e = C2 at *
  generalize str (aboutR m).lo = A0 at *
  generalize str (aboutR m).hi = A1 at *
  generalize (aboutR m).e = A2 at *
  clear hk
  have M1 := MBox.new w m
  obtain ⟨kd, ky, vl, bk, dp, ad⟩ := m
  have R1 := hB.alloc (.cells #[.int .u8 kd, .string ky, .string vl, .int .u32 bk, .int .u16 dp, .string ad] 26)
  dsimp only at M1
  have hb1 : Below w.heap.size w (w.alloc (.cells #[.int .u8 kd, .string ky, .string vl, .int .u32 bk, .int .u16 dp, .string ad] 26)) := below_box w _
  go_enter Try.func38, Try.ntmps38
  go_wp2_with fail
  generalize w.heap.size = k1 at M1 ⊢
  generalize w.alloc (.cells #[.int .u8 kd, .string ky, .string vl, .int .u32 bk, .int .u16 dp, .string ad] 26) = w1 at *
  refine wp_region_quiet (C := fun u => Below w1.heap.size w1 u) (by kernel_rfl) (by kernel_rfl) ((Below.refl _ w1).drew) ?_
  change wpQuiet _ _ _ _ (_ :: _) _
  refine wpQuiet_step (fun K hK => ?_)
  refine quiet_val (.agg #[.int .u8 kd, .string ky, .string vl, .int .u32 bk, .int .u16 dp, .string ad]) (by kernel_rfl) (fun u hu => by obtain ⟨c0, c1, c2, c3, c4, c5⟩ := (M1.later hu).six; go_simp) ?_
  go_simp
  refine hK _ ?_
  clear hK K
  refine wpQuiet_step (fun K hK => ?_)
  refine quiet_call (.agg #[.string A0, .string A1, .bool A2]) 14 #[.agg #[.int .u8 kd, .string ky, .string vl, .int .u32 bk, .int .u16 dp, .string ad]] (by kernel_rfl) (fun u hu => by go_simp) (fun u hu => (HA.out u).mono fun x u' h => ⟨h.1, hu.trans (h.2.mono hu.size)⟩) ?_
  go_simp
  refine hK _ ?_
  clear hK K
  refine wpQuiet_step (fun K hK => ?_)
  refine quiet_val (.agg #[.string lo, .string hi, .bool e]) (by kernel_rfl) (fun u hu => by obtain ⟨c0, c1, c2⟩ := (R1.later hu).cells; go_simp) ?_
  go_simp
  refine hK _ ?_
  clear hK K
  refine wpQuiet_step (fun K hK => ?_)
  refine quiet_call (.agg #[.string C0, .string C1, .bool C2]) 36 #[.agg #[.string A0, .string A1, .bool A2], .agg #[.string lo, .string hi, .bool e]] (by kernel_rfl) (fun u hu => by go_simp) (fun u hu => (HC.out u).mono fun x u' h => ⟨h.1, hu.trans (h.2.mono hu.size)⟩) ?_
  go_simp
  refine hK _ ?_
  clear hK K
  refine wpQuiet_step (fun K hK => ?_)
  refine quiet_call (.bool b) 39 #[.agg #[.string C0, .string C1, .bool C2]] (by kernel_rfl) (fun u hu => by go_simp) (fun u hu => (HE.out u).mono fun x u' h => ⟨h.1, hu.trans (h.2.mono hu.size)⟩) ?_
  go_simp
  refine hK _ ?_
  clear hK K
  refine wpQuiet_step (fun K hK => ?_)
  refine quiet_val (.bool (!b)) (by kernel_rfl) (fun u hu => by go_simp) ?_
  go_simp
  refine hK _ ?_
  clear hK K
  refine wpQuiet_step (fun K hK => ?_)
  refine quiet_val (.bool (!b)) (by kernel_rfl) (fun u hu => by go_simp) ?_
  go_simp
  refine hK _ ?_
  clear hK K
  refine wpQuiet_nil (fun u hu => ?_)
  go_wp2_with fail
  go_ret
  exact ⟨ret_bool HT.out.symm, hb1.trans (hu.mono hb1.size)⟩
end Go.Proofs.Ytobbgndabmnbcaa.Key
