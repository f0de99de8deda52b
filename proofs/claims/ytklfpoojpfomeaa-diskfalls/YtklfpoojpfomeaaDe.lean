/-
  The document's disk by value: 'Read', 'Fall'.
-/
import Derived.Test.YtklfpoojpfomeaaDw
import Derived.BigQuiet
namespace Go.Proofs.Ytklfpoojpfomeaa.Key
open Go.RowKit
set_option linter.unusedVariables false
set_option linter.unusedSimpArgs false

/-- the document's disk by value -/
abbrev dv (d : Dk) (ka wa : Option Addr) (kc wc : Nat) : Value := .agg #[.int .i64 d.n, .slice ka d.kept.length kc, .slice wa d.waits.length wc, .bool d.down, .int .i64 d.falls, .int .i64 d.fuse]
abbrev dcs (n : Int) (k wv : Value) (dn : Bool) (fl fu : Int) : Array Value := #[.int .i64 n, k, wv, .bool dn, .int .i64 fl, .int .i64 fu]
/-- its lists lie in memory -/
def DLies (w : World) (d : Dk) (ka wa : Option Addr) : Prop := Wrs w ka d.kept ∧ Wrs w wa d.waits
theorem DLies.later {w w' : World} {d : Dk} {ka wa : Option Addr} (h : DLies w d ka wa) (hb : Below w.heap.size w w') : DLies w' d ka wa := ⟨h.1.later hb, h.2.later hb⟩
/-- a disk handed back, its lists somewhere in memory -/
def DkOut (w' : World) (x : Ending) (d : Dk) : Prop := ∃ ka wa kc wc, x = .returned (dv d ka wa kc wc) ∧ DLies w' d ka wa

set_option maxRecDepth 100000 in
set_option maxHeartbeats 1000000 in
theorem fall25 (d : Dk) (ka wa : Option Addr) (kc wc : Nat) (w : World) (hf : 0 ≤ d.falls ∧ d.falls < 1000000) (h : DLies w d ka wa) :
    Calls Try.prog 25 #[dv d ka wa kc wc] w fun x w' => x = .returned (dv (fallD d) ka wa kc wc) ∧ Below w.heap.size w w' := by
  obtain ⟨n, kp, wt, dn, fl, fu⟩ := d
  dsimp only [dv, fallD] at *
  have hfw : IntKind.i64.wrap (fl + 1) = fl + 1 := by rw [IntKind.wrap_i64]; omega
  have hbl : ∀ c c', Below w.heap.size w ((w.alloc (.cells c 31)).alloc (.cells c' 31)) := fun c c' => (below_box w (.cells c 31)).trans ((below_box _ (.cells c' 31)).mono (by simp [World.size_alloc]))
  cases dn
  · go_enter Try.func25, Try.ntmps25
    go_wp2_with fail
    exact bodyPost_ret (v := .agg #[.int .i64 n, .slice ka kp.length kc, .slice wa wt.length wc, .bool true, .int .i64 (fl + 1), .int .i64 fu]) (by simp [results, Try.results25, go_sem]) rfl ⟨rfl, hbl _ _⟩
  · go_enter Try.func25, Try.ntmps25
    go_wp2_with fail
    exact bodyPost_ret (v := .agg #[.int .i64 n, .slice ka kp.length kc, .slice wa wt.length wc, .bool true, .int .i64 fl, .int .i64 fu]) (by simp [results, Try.results25, go_sem]) rfl ⟨rfl, hbl _ _⟩

theorem quiet_v {P : Program} {C : World → Prop} {K : Act → Prop} {a : Act} {o : Oper} (v : Value) (hv : ∀ u, C u → (execOp a.eval o).run P u = .ok (.value v) u) (h : K (a.put o.dst v)) : o.quiet P a C K := by
  refine ⟨v, fun u hu => ?_, h⟩
  unfold Oper.quietAt
  rw [hv u hu]
  exact ⟨rfl, rfl⟩
theorem quiet_c {P : Program} {C : World → Prop} {K : Act → Prop} {a : Act} {o : Oper} (v : Value) (f : FuncId) (args : Array Value)
    (hv : ∀ u, C u → (execOp a.eval o).run P u = .ok (.enter f args) u) (hc : ∀ u, C u → Calls P f args u fun e u' => e = .returned v ∧ C u') (h : K (a.put o.dst v)) : o.quiet P a C K := by
  refine ⟨v, fun u hu => ?_, h⟩
  unfold Oper.quietAt
  rw [hv u hu]
  exact ⟨rfl, hc u hu⟩

/-- a block that holds a disk -/
structure DBox (w : World) (b : Nat) (n : Int) (k wv : Value) (dn : Bool) (fl fu : Int) : Prop where
  c0 : w.cell? ⟨b, 0, none⟩ = some (.int .i64 n)
  c1 : w.cell? ⟨b, 1, none⟩ = some k
  c2 : w.cell? ⟨b, 2, none⟩ = some wv
  c3 : w.cell? ⟨b, 3, none⟩ = some (.bool dn)
  c4 : w.cell? ⟨b, 4, none⟩ = some (.int .i64 fl)
  c5 : w.cell? ⟨b, 5, none⟩ = some (.int .i64 fu)
theorem DBox.new (w : World) (n : Int) (k wv : Value) (dn : Bool) (fl fu : Int) : DBox (w.alloc (.cells (dcs n k wv dn fl fu) 31)) w.heap.size n k wv dn fl fu := by
  have hn : (w.alloc (.cells (dcs n k wv dn fl fu) 31)).heap[w.heap.size]? = some (.cells (dcs n k wv dn fl fu) 31 (0, 0)) := Go.heap_alloc_new _ _
  exact ⟨cell_of_row _ _ 0 _ _ _ hn, cell_of_row _ _ 1 _ _ _ hn, cell_of_row _ _ 2 _ _ _ hn, cell_of_row _ _ 3 _ _ _ hn, cell_of_row _ _ 4 _ _ _ hn, cell_of_row _ _ 5 _ _ _ hn⟩
theorem DBox.later {w w' : World} {b : Nat} {n : Int} {k wv : Value} {dn : Bool} {fl fu : Int} (h : DBox w b n k wv dn fl fu) (hb : Below w.heap.size w w') : DBox w' b n k wv dn fl fu := by
  have hlt : b < w.heap.size := World.block_lt_of_cell? w _ h.c0
  exact ⟨(hb.cell (p := ⟨b, 0, none⟩) hlt).trans h.c0, (hb.cell (p := ⟨b, 1, none⟩) hlt).trans h.c1, (hb.cell (p := ⟨b, 2, none⟩) hlt).trans h.c2, (hb.cell (p := ⟨b, 3, none⟩) hlt).trans h.c3, (hb.cell (p := ⟨b, 4, none⟩) hlt).trans h.c4, (hb.cell (p := ⟨b, 5, none⟩) hlt).trans h.c5⟩

set_option maxRecDepth 100000 in
set_option maxHeartbeats 1000000 in
theorem read16 (d : Dk) (k : Int) (ka wa : Option Addr) (kc wc : Nat) (w : World) (hl : d.kept.length ≤ maxLen ∧ d.waits.length ≤ maxLen) (h : DLies w d ka wa) :
    Calls Try.prog 16 #[dv d ka wa kc wc, .int .i64 k] w fun x w' => x = .returned (.tuple #[.string (str (readD d k).1), .int .i64 (readD d k).2]) ∧ Below w.heap.size w w' := by
  obtain ⟨n, kp, wt, dn, fl, fu⟩ := d
  dsimp only [dv] at *
  have B0 := DBox.new w n (.slice ka kp.length kc) (.slice wa wt.length wc) dn fl fu
  have b0 := below_box w (.cells (dcs n (.slice ka kp.length kc) (.slice wa wt.length wc) dn fl fu) 31)
  unfold dcs at B0 b0
  have HZ := hid (fun (u : World) => whole22 [] u (by simp))
  have HK := hid (fun (u : World) (hu : Below w.heap.size w u) => last29 ka kc kp k (wholeD []) u hl.1 (h.1.later hu))
  have HW := hid (fun (u : World) (hu : Below w.heap.size w u) => last29 wa wc wt k (lastD kp k (wholeD [])) u hl.2 (h.2.later hu))
  have HR := hid (show readD ⟨n, kp, wt, dn, fl, fu⟩ k = if dn = true then ([], 17) else if k < 0 ∨ n ≤ k then ([], 6) else (lastD wt k (lastD kp k (wholeD [])), 0) from rfl)
  generalize readD ⟨n, kp, wt, dn, fl, fu⟩ k = RD at *
  generalize lastD wt k (lastD kp k (wholeD [])) = L2 at *
  generalize lastD kp k (wholeD []) = L1 at *
  generalize wholeD [] = Z at *
  clear h
  generalize kp.length = kn at *
  generalize wt.length = wn at *
  cases dn
  case true =>
    have HR1 := hid (HR.out.trans (if_pos rfl))
    go_enter Try.func16, Try.ntmps16
    go_upto_region 1 with fail
    generalize w.alloc (.cells #[.int .i64 n, .slice ka kn kc, .slice wa wn wc, .bool true, .int .i64 fl, .int .i64 fu] 31) = w1 at *
    obtain ⟨c0, c1, c2, c3, c4, c5⟩ := B0
    go_wp2_with fail
    exact bodyPost_ret (v := .tuple #[.string ⟨#[]⟩, .int .i64 17]) (by simp [results, Try.results16, go_sem]) rfl ⟨by rw [HR1.out]; rfl, b0⟩
  case false =>
    have HR0 := hid (HR.out.trans (if_neg (by decide)))
    by_cases hr : k < 0 ∨ n ≤ k
    · have HR1 := hid (HR0.out.trans (if_pos hr))
      by_cases h0 : k < 0
      · have hd : decide (k < 0) = true := decide_eq_true h0
        go_enter Try.func16, Try.ntmps16
        go_upto_region 1 with fail
        generalize w.alloc (.cells #[.int .i64 n, .slice ka kn kc, .slice wa wn wc, .bool false, .int .i64 fl, .int .i64 fu] 31) = w1 at *
        obtain ⟨c0, c1, c2, c3, c4, c5⟩ := B0
        go_wp2_with fail
        exact bodyPost_ret (v := .tuple #[.string ⟨#[]⟩, .int .i64 6]) (by simp [results, Try.results16, go_sem]) rfl ⟨by rw [HR1.out]; rfl, b0⟩
      · have h1 : n ≤ k := by omega
        have hd : decide (k < 0) = false := decide_eq_false h0
        have hd1 : decide (n ≤ k) = true := decide_eq_true h1
        have hd2 : decide (k < n) = false := decide_eq_false (by omega)
        go_enter Try.func16, Try.ntmps16
        go_upto_region 1 with fail
        generalize w.alloc (.cells #[.int .i64 n, .slice ka kn kc, .slice wa wn wc, .bool false, .int .i64 fl, .int .i64 fu] 31) = w1 at *
        obtain ⟨c0, c1, c2, c3, c4, c5⟩ := B0
        go_wp2_with fail
        exact bodyPost_ret (v := .tuple #[.string ⟨#[]⟩, .int .i64 6]) (by simp [results, Try.results16, go_sem]) rfl ⟨by rw [HR1.out]; rfl, b0⟩
    · have HR1 := hid (HR0.out.trans (if_neg hr))
      have h0 : ¬ k < 0 := by omega
      have h1 : ¬ n ≤ k := by omega
      have hd : decide (k < 0) = false := decide_eq_false h0
      have hd1 : decide (n ≤ k) = false := decide_eq_false h1
      have hd2 : decide (k < n) = true := decide_eq_true (by omega)
      clear hr
      go_enter Try.func16, Try.ntmps16
      go_upto_region 1 with fail
      generalize w.alloc (.cells #[.int .i64 n, .slice ka kn kc, .slice wa wn wc, .bool false, .int .i64 fl, .int .i64 fu] 31) = w1 at *
      have hs := b0.size
      obtain ⟨c0, c1, c2, c3, c4, c5⟩ := B0
      go_upto_region 5 with fail
      have B1 : DBox w1 w.heap.size n (.slice ka kn kc) (.slice wa wn wc) false fl fu := ⟨c0, c1, c2, c3, c4, c5⟩
      clear c0 c1 c2 c3 c4 c5
      refine wp_region_quiet (C := fun u => Below w1.heap.size w1 u) (by kernel_rfl) (by kernel_rfl) (Below.refl _ w1).drew ?_
      change wpQuiet _ _ _ _ (_ :: _) _
      repeat
        first
          | go_big_quiet_skip
          | go_big_quiet_want
            first
              | refine quiet_c (.string (str Z)) 22 #[.string ⟨#[]⟩] ?_ (fun u hu => (HZ.out u).mono fun x u' h => ⟨h.1, hu.trans (h.2.mono hu.size)⟩) ?_
                · intro u hu
                  go_simp
                  done
              | refine quiet_c (.string (str L1)) 29 #[.slice ka kn kc, .int .i64 k, .string (str Z)] ?_ (fun u hu => (HK.out u (b0.trans (hu.mono hs))).mono fun x u' h => ⟨h.1, hu.trans (h.2.mono hu.size)⟩) ?_
                · intro u hu
                  go_simp
                  done
              | refine quiet_c (.string (str L2)) 29 #[.slice wa wn wc, .int .i64 k, .string (str L1)] ?_ (fun u hu => (HW.out u (b0.trans (hu.mono hs))).mono fun x u' h => ⟨h.1, hu.trans (h.2.mono hu.size)⟩) ?_
                · intro u hu
                  go_simp
                  done
              | refine quiet_v ?_ ?_ ?_
                rotate_left
                · intro u hu
                  obtain ⟨c0, c1, c2, c3, c4, c5⟩ := B1.later hu
                  go_simp
                  with_reducible rfl
            go_simp
            go_big_quiet_on
      refine wpQuiet_nil (fun u hu => ?_)
      go_wp2_with fail
      exact bodyPost_ret (v := .tuple #[.string (str L2), .int .i64 0]) (by simp [results, Try.results16, go_sem]) rfl ⟨by rw [HR1.out], b0.trans (hu.mono hs)⟩
end Go.Proofs.Ytklfpoojpfomeaa.Key
