/-
  Two items compared by how deep their nodes are, as a closure; items cloned.
-/
import Derived.Test.YtegmpfmhlpdmhaaDeepG
import Derived.Test.YtegmpfmhlpdmhaaRight
namespace Go.Proofs.Ytegmpfmhlpdmhaa.Key
open Go.RowKit
set_option linter.unusedVariables false
set_option linter.unusedSimpArgs false

def cmpI (x y : Int) : Int := if x < y then -1 else if y < x then 1 else 0
set_option maxRecDepth 100000 in
set_option maxHeartbeats 800000 in
theorem cmp30 (x y : Int) (w : World) : Calls Try.prog 30 #[.int .u16 x, .int .u16 y] w fun e w' => e = .returned (.int .i64 (cmpI x y)) ∧ Gr w w' := by
  rcases Int.lt_trichotomy x y with h | h | h
  · have hr : cmpI x y = -1 := by unfold cmpI; rw [if_pos h]
    rw [hr]
    go_enter Try.func30, Try.ntmps30
    go_wp2_with go_in
    go_ret
    exact ⟨rfl, Gr.refl _⟩
  · subst h
    have hr : cmpI x x = 0 := by unfold cmpI; rw [if_neg (by omega), if_neg (by omega)]
    have h1 : ¬ x < x := by omega
    rw [hr]
    go_enter Try.func30, Try.ntmps30
    go_wp2_with go_in
    go_ret
    exact ⟨rfl, Gr.refl _⟩
  · have hr : cmpI x y = 1 := by unfold cmpI; rw [if_neg (by omega), if_pos h]
    have h1 : ¬ x < y := by omega
    rw [hr]
    go_enter Try.func30, Try.ntmps30
    go_wp2_with go_in
    go_ret
    exact ⟨rfl, Gr.refl _⟩
set_option maxRecDepth 100000 in
set_option maxHeartbeats 1600000 in
theorem clos29 (x y : It) (w : World) (hx : Small x.nd) (hy : Small y.nd) (lx : Lies w x.nd x.pl) (ly : Lies w y.nd y.pl) :
    Calls Try.prog 29 #[.agg x.cells.toArray, .agg y.cells.toArray] w fun e w' => e = .returned (.int .i64 (cmpI (deepI x.nd) (deepI y.nd))) ∧ Gr w w' := by
  have HX := hid (fun u (hu : Gr w u) => deep14g x.nd x.pl u hx (lx.later hu.below))
  have HY := hid (fun u (hu : Gr w u) => deep14g y.nd y.pl u hy (ly.later hu.below))
  have HC := hid (fun u => cmp30 (deepI x.nd) (deepI y.nd) u)
  generalize cmpI (deepI x.nd) (deepI y.nd) = R at *
  generalize deepI x.nd = DX at *
  generalize deepI y.nd = DY at *
  have X0 := I6.new w (.int .u32 x.blk) (.bool x.nd.leaf) (.slice x.pl.a1 x.nd.ps.length x.pl.c1) (.slice x.pl.a2 x.nd.pv.length x.pl.c2) (.slice x.pl.a3 x.nd.ks.length x.pl.c3) (.slice x.pl.a4 x.nd.bf.length x.pl.c4)
  have Y0 := I6.new (w.alloc (.cells #[.int .u32 x.blk, .bool x.nd.leaf, .slice x.pl.a1 x.nd.ps.length x.pl.c1, .slice x.pl.a2 x.nd.pv.length x.pl.c2, .slice x.pl.a3 x.nd.ks.length x.pl.c3, .slice x.pl.a4 x.nd.bf.length x.pl.c4] 52)) (.int .u32 y.blk) (.bool y.nd.leaf) (.slice y.pl.a1 y.nd.ps.length y.pl.c1) (.slice y.pl.a2 y.nd.pv.length y.pl.c2) (.slice y.pl.a3 y.nd.ks.length y.pl.c3) (.slice y.pl.a4 y.nd.bf.length y.pl.c4)
  have hg := ((Gr.refl w).alloc (.cells #[.int .u32 x.blk, .bool x.nd.leaf, .slice x.pl.a1 x.nd.ps.length x.pl.c1, .slice x.pl.a2 x.nd.pv.length x.pl.c2, .slice x.pl.a3 x.nd.ks.length x.pl.c3, .slice x.pl.a4 x.nd.bf.length x.pl.c4] 52)).alloc (.cells #[.int .u32 y.blk, .bool y.nd.leaf, .slice y.pl.a1 y.nd.ps.length y.pl.c1, .slice y.pl.a2 y.nd.pv.length y.pl.c2, .slice y.pl.a3 y.nd.ks.length y.pl.c3, .slice y.pl.a4 y.nd.bf.length y.pl.c4] 52)
  simp only [World.size_alloc] at Y0
  clear hx hy lx ly
  unfold It.cells
  obtain ⟨bx, ⟨lf, ps, pv, ks, bf⟩, ⟨a1, c1, a2, c2, a3, c3, a4, c4⟩⟩ := x
  obtain ⟨by', ⟨lf', ps', pv', ks', bf'⟩, ⟨a1', c1', a2', c2', a3', c3', a4', c4'⟩⟩ := y
  dsimp only [nv] at *
  generalize ps.length = n1 at *
  generalize pv.length = n2 at *
  generalize ks.length = n3 at *
  generalize bf.length = n4 at *
  generalize ps'.length = m1 at *
  generalize pv'.length = m2 at *
  generalize ks'.length = m3 at *
  generalize bf'.length = m4 at *
  have X1 := X0.later (below_box _ (.cells #[.int .u32 by', .bool lf', .slice a1' m1 c1', .slice a2' m2 c2', .slice a3' m3 c3', .slice a4' m4 c4'] 52))
  clear X0
  go_enter Try.func29, Try.ntmps29
  go_upto_region 1 with fail
  generalize hw2 : ((w.alloc (.cells #[.int .u32 bx, .bool lf, .slice a1 n1 c1, .slice a2 n2 c2, .slice a3 n3 c3, .slice a4 n4 c4] 52)).alloc (.cells #[.int .u32 by', .bool lf', .slice a1' m1 c1', .slice a2' m2 c2', .slice a3' m3 c3', .slice a4' m4 c4'] 52)) = w2 at *
  refine wp_region_quiet (C := fun u => Gr w2 u) (by kernel_rfl) (by kernel_rfl) ((Gr.refl w2).drewN 1) ?_
  change wpQuiet _ _ _ _ (_ :: _) _
  repeat
    first
      | go_big_quiet_skip
      | go_big_quiet_want
        first
          | refine quiet_v ?_ ?_ ?_
            rotate_left
            · intro u hu
              obtain ⟨x0, x1, x2, x3, x4, x5⟩ := (X1.later hu.below).c
              obtain ⟨y0, y1, y2, y3, y4, y5⟩ := (Y0.later hu.below).c
              go_simp
              with_reducible rfl
          | refine quiet_c (.int .u16 DX) 31 #[.agg #[.bool lf, .slice a1 n1 c1, .slice a2 n2 c2, .slice a3 n3 c3, .slice a4 n4 c4]] ?_ (fun u hu => (HX.out u (hg.trans hu)).mono fun x u' h => ⟨h.1, hu.trans h.2⟩) ?_
            · intro u hu
              obtain ⟨x0, x1, x2, x3, x4, x5⟩ := (X1.later hu.below).c
              go_simp
              done
          | refine quiet_c (.int .u16 DY) 31 #[.agg #[.bool lf', .slice a1' m1 c1', .slice a2' m2 c2', .slice a3' m3 c3', .slice a4' m4 c4']] ?_ (fun u hu => (HY.out u (hg.trans hu)).mono fun x u' h => ⟨h.1, hu.trans h.2⟩) ?_
            · intro u hu
              go_simp
              done
          | refine quiet_c (.int .i64 R) 30 #[.int .u16 DX, .int .u16 DY] ?_ (fun u hu => (HC.out u).mono fun x u' h => ⟨h.1, hu.trans h.2⟩) ?_
            · intro u hu
              go_simp
              done
        go_simp
        go_big_quiet_on
  refine wpQuiet_nil (fun u hu => ?_)
  go_wp2_with fail
  go_ret
  exact ⟨rfl, hg.trans hu⟩
end Go.Proofs.Ytegmpfmhlpdmhaa.Key
