/-
  Contracts of the program's reader of nodes: edge, msg.
-/
import Derived.Test.YtjegpcmejlffhaaRw
namespace Go.Proofs.Ytjegpcmejlffhaa.Cod
set_option linter.unusedSimpArgs false
set_option linter.unusedVariables false
open Go.RowKit
open Key (M E Pr Nd Pl nv Lies mayI ev mv)

theorem two_boxes (w : World) (C0 C1 : Array Value) (t0 t1 : TypeId) :
    Row ((w.alloc (.cells C0 t0)).alloc (.cells C1 t1)) w.heap.size C0 t0 ∧ Row ((w.alloc (.cells C0 t0)).alloc (.cells C1 t1)) (w.heap.size + 1) C1 t1 ∧ Below w.heap.size w ((w.alloc (.cells C0 t0)).alloc (.cells C1 t1)) ∧ ((w.alloc (.cells C0 t0)).alloc (.cells C1 t1)).heap.size = w.heap.size + 2 := by
  have e1 : (w.alloc (.cells C0 t0)).heap.size = w.heap.size + 1 := by simp
  refine ⟨(Row.new w C0 t0).alloc _, ?_, ((Below.refl _ _).alloc (Nat.le_refl _) _).alloc (by simp) _, by simp⟩
  have := Row.new (w.alloc (.cells C0 t0)) C1 t1
  rwa [e1] at this
theorem three_boxes (w : World) (C0 C1 C2 : Array Value) (t0 t1 t2 : TypeId) :
    Row (((w.alloc (.cells C0 t0)).alloc (.cells C1 t1)).alloc (.cells C2 t2)) w.heap.size C0 t0 ∧ Row (((w.alloc (.cells C0 t0)).alloc (.cells C1 t1)).alloc (.cells C2 t2)) (w.heap.size + 1) C1 t1 ∧ Row (((w.alloc (.cells C0 t0)).alloc (.cells C1 t1)).alloc (.cells C2 t2)) (w.heap.size + 1 + 1) C2 t2 ∧
      Below w.heap.size w (((w.alloc (.cells C0 t0)).alloc (.cells C1 t1)).alloc (.cells C2 t2)) ∧ (((w.alloc (.cells C0 t0)).alloc (.cells C1 t1)).alloc (.cells C2 t2)).heap.size = w.heap.size + 3 := by
  obtain ⟨h0, h1, h2, h3⟩ := two_boxes w C0 C1 t0 t1
  refine ⟨h0.alloc _, h1.alloc _, ?_, h2.alloc (by rw [h3]; omega) _, by simp⟩
  have := Row.new ((w.alloc (.cells C0 t0)).alloc (.cells C1 t1)) C2 t2
  rw [h3] at this
  exact this

set_option maxRecDepth 100000 in
set_option maxHeartbeats 1000000 in
theorem edge64 {w : World} {B k : Nat} {zs : List Int} {s : St} (h : Rdr w B k zs s) :
    Calls Try.prog 64 #[rdv k] w fun x w' => ∃ (e : E) (s' : St), Hid (rE zs s = (e, s')) ∧ x = .returned (ev e) ∧ Rdr w' B k zs s' ∧ w.grownBy w' (some k) := by
  obtain ⟨R0, R1, R2, hbW, hsz⟩ := three_boxes w #[.pointer (some ⟨k, 0, none⟩)] #[.int .u32 0, .int .u16 0, .string ⟨#[]⟩, .string ⟨#[]⟩] #[.int .u32 0, .int .u16 0, .string ⟨#[]⟩, .string ⟨#[]⟩] 64 51 51
  have hr := h.later hbW
  have hk := h.lt.1
  have HG := G.of (k := k) hbW
  clear hbW h
  go_enter Try.func64, Try.ntmps64
  go_upto_region 2 with fail
  generalize hW : ((w.alloc (.cells #[.pointer (some ⟨k, 0, none⟩)] 64)).alloc (.cells #[.int .u32 0, .int .u16 0, .string ⟨#[]⟩, .string ⟨#[]⟩] 51)).alloc (.cells #[.int .u32 0, .int .u16 0, .string ⟨#[]⟩, .string ⟨#[]⟩] 51) = W0 at *
  clear hW hsz
  generalize hk0 : w.heap.size = k0 at *
  generalize hk1 : k0 + 1 = k1 at *
  generalize hk2 : k1 + 1 = k2 at *
  have l1 : w.heap.size ≤ k1 := by omega
  have l2 : w.heap.size ≤ k2 := by omega
  have n12 : k1 ≠ k2 := by omega
  have n02 : k0 ≠ k2 := by omega
  have n01 : k0 ≠ k1 := by omega
  have n1 : k < k1 := by omega
  have n2 : k < k2 := by omega
  clear hk1 hk2
  rename Rdr W0 B k zs s => hr0
  have d0 : W0.cell? ⟨k0, 0, none⟩ = some (.pointer (some ⟨k, 0, none⟩)) := R0.cell 0
  go_wp2_with fail
  refine (get32 hr0).mono ?_
  rintro x w1 ⟨v1, s1, hs1, _, rfl, hr1, hg⟩
  clear d0
  replace R0 := R0.grown hg (by simp; omega)
  replace R1 := R1.grown hg (by simp; omega)
  replace R2 := R2.grown hg (by simp; omega)
  have f2 := R2.free 0
  have c2 := R2.cell 0
  simp only [List.getElem?_toArray, List.getElem?_cons_zero, List.getElem?_cons_succ, Array.setIfInBounds, List.size_toArray, List.length_cons, List.length_nil] at c2
  replace R0 := R0.beside (k' := k2) 0 (.int .u32 (v1 : Int)) n02
  replace R1 := R1.beside (k' := k2) 0 (.int .u32 (v1 : Int)) n12
  replace R2 := R2.set 0 (.int .u32 (v1 : Int))
  replace hr1 := hr1.set n2 0 (.int .u32 (v1 : Int))
  replace HG := G.set (G.trans HG hg) l2 0 (.int .u32 (v1 : Int))
  clear hg
  go_upto_region 3 with fail
  clear f2 c2
  generalize hW : w1.setCell ⟨k2, 0, none⟩ (.int .u32 (v1 : Int)) = W1 at *
  clear hW
  have d0 : W1.cell? ⟨k0, 0, none⟩ = some (.pointer (some ⟨k, 0, none⟩)) := R0.cell 0
  go_wp2_with fail
  refine (get16 hr1).mono ?_
  rintro x w2 ⟨v2, s2, hs2, _, rfl, hr2, hg⟩
  clear d0
  replace R0 := R0.grown hg (by simp; omega)
  replace R1 := R1.grown hg (by simp; omega)
  replace R2 := R2.grown hg (by simp; omega)
  have f2 := R2.free 1
  have c2 := R2.cell 1
  simp only [List.getElem?_toArray, List.getElem?_cons_zero, List.getElem?_cons_succ, Array.setIfInBounds, List.size_toArray, List.length_cons, List.length_nil] at c2
  replace R0 := R0.beside (k' := k2) 1 (.int .u16 (v2 : Int)) n02
  replace R1 := R1.beside (k' := k2) 1 (.int .u16 (v2 : Int)) n12
  replace R2 := R2.set 1 (.int .u16 (v2 : Int))
  replace hr2 := hr2.set n2 1 (.int .u16 (v2 : Int))
  replace HG := G.set (G.trans HG hg) l2 1 (.int .u16 (v2 : Int))
  clear hg
  go_upto_region 4 with fail
  clear f2 c2
  generalize hW : w2.setCell ⟨k2, 1, none⟩ (.int .u16 (v2 : Int)) = W2 at *
  clear hW
  have d0 : W2.cell? ⟨k0, 0, none⟩ = some (.pointer (some ⟨k, 0, none⟩)) := R0.cell 0
  go_wp2_with fail
  refine (key55 hr2).mono ?_
  rintro x w3 ⟨v3, s3, hs3, rfl, hr3, hg⟩
  clear d0
  replace R0 := R0.grown hg (by simp; omega)
  replace R1 := R1.grown hg (by simp; omega)
  replace R2 := R2.grown hg (by simp; omega)
  have f2 := R2.free 2
  have c2 := R2.cell 2
  simp only [List.getElem?_toArray, List.getElem?_cons_zero, List.getElem?_cons_succ, Array.setIfInBounds, List.size_toArray, List.length_cons, List.length_nil] at c2
  replace R0 := R0.beside (k' := k2) 2 (.string v3) n02
  replace R1 := R1.beside (k' := k2) 2 (.string v3) n12
  replace R2 := R2.set 2 (.string v3)
  replace hr3 := hr3.set n2 2 (.string v3)
  replace HG := G.set (G.trans HG hg) l2 2 (.string v3)
  clear hg
  go_upto_region 5 with fail
  clear f2 c2
  generalize hW : w3.setCell ⟨k2, 2, none⟩ (.string v3) = W3 at *
  clear hW
  have d0 : W3.cell? ⟨k0, 0, none⟩ = some (.pointer (some ⟨k, 0, none⟩)) := R0.cell 0
  go_wp2_with fail
  refine (key55 hr3).mono ?_
  rintro x w4 ⟨v4, s4, hs4, rfl, hr4, hg⟩
  clear d0
  replace R0 := R0.grown hg (by simp; omega)
  replace R1 := R1.grown hg (by simp; omega)
  replace R2 := R2.grown hg (by simp; omega)
  have f2 := R2.free 3
  have c2 := R2.cell 3
  simp only [List.getElem?_toArray, List.getElem?_cons_zero, List.getElem?_cons_succ, Array.setIfInBounds, List.size_toArray, List.length_cons, List.length_nil] at c2
  replace R0 := R0.beside (k' := k2) 3 (.string v4) n02
  replace R1 := R1.beside (k' := k2) 3 (.string v4) n12
  replace R2 := R2.set 3 (.string v4)
  replace hr4 := hr4.set n2 3 (.string v4)
  replace HG := G.set (G.trans HG hg) l2 3 (.string v4)
  clear hg
  go_upto_region 6 with fail
  clear f2 c2
  generalize hW : w4.setCell ⟨k2, 3, none⟩ (.string v4) = W4 at *
  clear hW
  have e0 : W4.cell? ⟨k2, 0, none⟩ = some (.int .u32 (v1 : Int)) := R2.cell 0
  have g0 := R1.free 0
  have z0 : W4.cell? ⟨k1, 0, none⟩ = some (.int .u32 0) := R1.cell 0
  have e1 : W4.cell? ⟨k2, 1, none⟩ = some (.int .u16 (v2 : Int)) := R2.cell 1
  have g1 := R1.free 1
  have z1 : W4.cell? ⟨k1, 1, none⟩ = some (.int .u16 0) := R1.cell 1
  have e2 : W4.cell? ⟨k2, 2, none⟩ = some (.string v3) := R2.cell 2
  have g2 := R1.free 2
  have z2 : W4.cell? ⟨k1, 2, none⟩ = some (.string ⟨#[]⟩) := R1.cell 2
  have e3 : W4.cell? ⟨k2, 3, none⟩ = some (.string v4) := R2.cell 3
  have g3 := R1.free 3
  have z3 : W4.cell? ⟨k1, 3, none⟩ = some (.string ⟨#[]⟩) := R1.cell 3
  have HR := hid (And.intro ((((hr4.set n1 0 (.int .u32 (v1 : Int))).set n1 1 (.int .u16 (v2 : Int))).set n1 2 (.string v3)).set n1 3 (.string v4)) (G.set (G.set (G.set (G.set HG l1 0 (.int .u32 (v1 : Int))) l1 1 (.int .u16 (v2 : Int))) l1 2 (.string v3)) l1 3 (.string v4)))
  clear HG R0 R1 R2 hr4
  go_wp2
  exact bodyPost_ret (v := ev ⟨v1, v2, v3, v4⟩) (by simp [results, Try.results64, go_sem, z0, z1, z2, z3]) rfl ⟨⟨v1, v2, v3, v4⟩, s4, by simp [Hid, rE, bnd, rPure, hs1.out, hs2.out, hs3.out, hs4.out], rfl, HR.out⟩
end Go.Proofs.Ytjegpcmejlffhaa.Cod
