/-
  Contract of the program's Ways, of any items.
-/
import Derived.Test.YtegmpfmhlpdmhaaWays
import Derived.Shelf.SlSortCmp.NoneTotal
namespace Go.Proofs.Ytegmpfmhlpdmhaa.Key
open Go.RowKit
set_option linter.unusedVariables false
set_option linter.unusedSimpArgs false

def noF : Int → Option Value := fun _ => none
theorem noF_at (z : Int) : (noF z).getD (.int .i64 0) = .int .i64 0 := rfl
theorem fine_nil : Fine [] := ⟨by simp, fun x hx => by simp at hx, fun x hx => by simp at hx⟩
theorem ways_nil (root : Int) : waysR [] root = 0 := by
  unfold waysR
  split
  · exact ways_out rfl
  · rfl
set_option maxRecDepth 100000 in
set_option maxHeartbeats 1600000 in
theorem ways10z (a : Option Addr) (c : Nat) (root : Int) (w : World) (hr : (Lit.int .u32 root).wf = true) (hz : a = none → c = 0) :
    Calls Try.prog 10 #[.slice a 0 c, .int .u32 root] w fun x w' => x = .returned (.int .i64 0) ∧ Below w.heap.size w w' := by
  have hmm := @run_makeMap Try.prog
  have HR := hid (right11 a c [] w fine_nil (.inl rfl))
  have hG : rightB [] = true := rfl
  rw [hG] at HR
  have HS := hid (fun (u : World) p cap => AnyF.slices_SortFunc_none sortIt p cap (.func (.func 29) #[] #[]) u)
  cases a with
  | none =>
    obtain rfl := hz rfl
    have hE := fun (w : World) => Lib.run_eql_slice_nil (P := Try.prog) w 22 52 none 0 0 0 0 Try.underlying22
    go_enter Try.func10, Try.ntmps10
    go_wp2_with fail
    refine HR.out.mono ?_
    clear HR
    rintro x w1 ⟨rfl, hb1⟩
    have hM : VMap (w1.alloc (.map #[] 0)) w1.heap.size 0 noF := VMap.made w1
    have hb2 := hb1.trans ((below_box w1 (.map #[] 0)).mono hb1.size)
    go_wp2_with (first | (go_at_call 28; refine (HS.out _ _ _).mono ?_; rintro x w9 ⟨rfl, e⟩; obtain rfl := e.symm) | (go_at_call 27; go_in) | fail)
    refine wp_loop_rounds 1 ?_
    rw [rounds_succ]
    go_wp2_with (first | (at_lookup; refine lookV rfl _ _ 72 rfl 3 Try.underlying72 (zero3 _) w1.heap.size 0 noF rfl hM root rfl hr ?_; rw [noF_at]) | fail)
    go_ret
    exact ⟨rfl, hb2⟩
  | some ad =>
    have HC := hid (fun u => clone27 (some ad) c [] u (by simp) (by simp) (.inl rfl))
    go_enter Try.func10, Try.ntmps10
    go_wp2_with fail
    refine HR.out.mono ?_
    clear HR
    rintro x w1 ⟨rfl, hb1⟩
    go_wp2_with fail
    refine (HC.out _).mono ?_
    clear HC
    rintro x w2 ⟨v, rfl, ho, hb2⟩
    obtain ⟨p, cap, rfl, _⟩ := row_cells (l := []) It.cells 6 (fun _ => rfl) ho
    have hb3 := hb1.trans (hb2.mono hb1.size)
    have hM : VMap (w2.alloc (.map #[] 0)) w2.heap.size 0 noF := VMap.made w2
    have hb4 := hb3.trans ((below_box w2 (.map #[] 0)).mono hb3.size)
    go_wp2_with (first | (go_at_call 28; refine (HS.out _ _ _).mono ?_; rintro x w9 ⟨rfl, e⟩; obtain rfl := e.symm) | fail)
    refine wp_loop_rounds 1 ?_
    rw [rounds_succ]
    go_wp2_with (first | (at_lookup; refine lookV rfl _ _ 72 rfl 3 Try.underlying72 (zero3 _) w2.heap.size 0 noF rfl hM root rfl hr ?_; rw [noF_at]) | fail)
    go_ret
    exact ⟨rfl, hb4⟩
set_option maxRecDepth 100000 in
theorem ways10a (a : Option Addr) (c : Nat) (l : List It) (root : Int) (w : World) (hl : Fine l) (hr : (Lit.int .u32 root).wf = true) (hz : a = none → l.length = 0 ∧ c = 0) (h : Items w a l) :
    Calls Try.prog 10 #[.slice a l.length c, .int .u32 root] w fun x w' => x = .returned (.int .i64 ((waysR l root : Nat) : Int)) ∧ Below w.heap.size w w' := by
  by_cases hp : 0 < l.length
  · exact ways10 a c l root w hl hr (fun e => by have := (hz e).1; omega) hp h
  · have : l = [] := List.eq_nil_of_length_eq_zero (by omega)
    subst this
    rw [ways_nil]
    exact ways10z a c root w hr fun e => (hz e).2
end Go.Proofs.Ytegmpfmhlpdmhaa.Key
