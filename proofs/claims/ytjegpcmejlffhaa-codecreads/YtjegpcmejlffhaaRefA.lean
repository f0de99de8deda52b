/-
  Contracts of the document's reader of nodes: Get, GetText, fail, count.
-/
import Derived.Test.YtjegpcmejlffhaaGetB
import Derived.BigRegion
namespace Go.Proofs.Ytjegpcmejlffhaa.Cod
set_option linter.unusedSimpArgs false
set_option linter.unusedVariables false
open Go.RowKit
open Key (M E Pr Nd Pl nv Lies mayI ev mv)

/-- a reader of the document's, as a value -/
abbrev rrv (a : Option Addr) (n c : Nat) (s : St) : Value := .agg #[.slice a n c, .int .i64 (s.p : Int), .int .i64 s.e]
/-- the bytes that it reads -/
structure Doc (w : World) (a : Option Addr) (n c : Nat) (zs : List Int) : Prop where
  by' : Pack.Bytes w a zs
  len : zs.length = n
  le : n ≤ 100000
  cap : n ≤ c
  max : c ≤ 9223372036854775807
  byt : Pack.Byt zs
theorem Doc.later {w w' : World} {a : Option Addr} {n c : Nat} {zs : List Int} (h : Doc w a n c zs) (hb : Below w.heap.size w w') : Doc w' a n c zs := ⟨h.by'.later hb, h.len, h.le, h.cap, h.max, h.byt⟩
theorem Doc.alloc {w : World} {a : Option Addr} {n c : Nat} {zs : List Int} (h : Doc w a n c zs) (o : Obj) : Doc (w.alloc o) a n c zs := h.later (one_box w o)
theorem Doc.below {w w' : World} {B : Nat} {a : Option Addr} {n c : Nat} {zs : List Int} (h : Doc w a n c zs) (hlt : ∀ ad, a = some ad → zs ≠ [] → ad.block < B) (hb : Below B w w') : Doc w' a n c zs := ⟨h.by'.below hlt hb, h.len, h.le, h.cap, h.max, h.byt⟩
theorem gP_le {zs : List Int} {p k : Nat} {e : Int} (h : p ≤ zs.length) : Pack.gP zs p e k ≤ zs.length := by
  unfold Pack.gP
  split
  · rename_i h; exact h.2
  · exact h
theorem tP_le {zs : List Int} {p : Nat} {e m : Int} (h : p ≤ zs.length) : Pack.tP zs p e m ≤ zs.length := by
  unfold Pack.tP
  split
  · rename_i h; exact h.2.2.2
  · exact h
theorem rget {w : World} {a : Option Addr} {n c : Nat} {zs : List Int} {s : St} (h : Doc w a n c zs) (hp : s.p ≤ n) (k : Nat) (hk1 : 1 ≤ k) (hk8 : k ≤ 8) :
    Calls Try.prog 26 #[rrv a n c s, .int .i64 (k : Int)] w fun x w' => ∃ (v : Nat) (s' : St), Hid (rNum k zs s = (v, s')) ∧ v < 256 ^ k ∧ s'.p ≤ n ∧ x = .returned (.tuple #[.int .u64 (v : Int), rrv a n c s']) ∧ Below w.heap.size w w' :=
  (Pack.ref_get k h.byt h.by' h.len h.le hp hk8 hk1).mono fun _ _ ⟨h1, h2⟩ => ⟨_, ⟨_, _⟩, rfl, gV_lt h.byt _ _ k, by have := h.len; subst this; exact gP_le hp, h1, h2⟩
theorem rtext {w : World} {a : Option Addr} {n c : Nat} {zs : List Int} {s : St} (h : Doc w a n c zs) (hp : s.p ≤ n) (m : Int) :
    Calls Try.prog 28 #[rrv a n c s, .int .i64 m] w fun x w' => ∃ (v : ByteArray) (s' : St), Hid (rTxt m zs s = (v, s')) ∧ s'.p ≤ n ∧ x = .returned (.tuple #[.string v, rrv a n c s']) ∧ Below w.heap.size w w' :=
  (Pack.ref_text m h.byt h.by' h.len h.le h.cap h.max hp).mono fun _ _ ⟨h1, h2⟩ => ⟨_, ⟨_, _⟩, rfl, by have := h.len; subst this; exact tP_le hp, h1, h2⟩

set_option maxRecDepth 100000 in
set_option maxHeartbeats 1000000 in
theorem rfail29 {w : World} {a : Option Addr} {n c : Nat} (s : St) (x : Int) :
    Calls Try.prog 29 #[rrv a n c s, .int .i64 x] w fun y w' => y = .returned (rrv a n c (failS x s)) ∧ Below w.heap.size w w' := by
  obtain ⟨p, e⟩ := s
  obtain ⟨R0, R1, HB, hsz⟩ := two_boxes w #[.slice a n c, .int .i64 (p : Int), .int .i64 e] #[.slice none 0 0, .int .i64 0, .int .i64 0] 70 70
  dsimp only [rrv]
  have HF : Hid (failS x ⟨p, e⟩ = ⟨p, if e = 0 then x else e⟩) := rfl
  go_enter Try.func29, Try.ntmps29
  go_upto_region 1 with fail
  generalize hW : (w.alloc (.cells #[.slice a n c, .int .i64 (p : Int), .int .i64 e] 70)).alloc (.cells #[.slice none 0 0, .int .i64 0, .int .i64 0] 70) = W at *
  clear hW
  generalize hk0 : w.heap.size = k0 at *
  generalize hk1 : k0 + 1 = k1 at *
  have l0 : k0 ≤ k0 := Nat.le_refl _
  have l1 : k0 ≤ k1 := by omega
  have n01 : k0 ≠ k1 := by omega
  have c0 : W.cell? ⟨k0, 0, none⟩ = some (.slice a n c) := R0.cell 0
  have c1 : W.cell? ⟨k0, 1, none⟩ = some (.int .i64 (p : Int)) := R0.cell 1
  have c2 : W.cell? ⟨k0, 2, none⟩ = some (.int .i64 e) := R0.cell 2
  by_cases he : e = 0
  · subst he
    have f2 := R0.free 2
    have Q0 := R0.set 2 (.int .i64 x)
    have Q1 := R1.beside (k' := k0) 2 (.int .i64 x) n01.symm
    simp only [List.setIfInBounds_toArray, List.set_cons_zero, List.set_cons_succ] at Q0
    have HB2 := Below.setCell HB (p := ⟨k0, 2, none⟩) (by exact l0) (.int .i64 x)
    go_upto_region 3 with fail
    clear c0 c1 c2 f2 R0 R1 HB
    generalize hW : W.setCell ⟨k0, 2, none⟩ (.int .i64 x) = W2 at *
    clear hW
    have c0 : W2.cell? ⟨k0, 0, none⟩ = some (.slice a n c) := Q0.cell 0
    have c1 : W2.cell? ⟨k0, 1, none⟩ = some (.int .i64 (p : Int)) := Q0.cell 1
    have c2 : W2.cell? ⟨k0, 2, none⟩ = some (.int .i64 x) := Q0.cell 2
    have z0 : W2.cell? ⟨k1, 0, none⟩ = some (.slice none 0 0) := Q1.cell 0
    have z1 : W2.cell? ⟨k1, 1, none⟩ = some (.int .i64 0) := Q1.cell 1
    have z2 : W2.cell? ⟨k1, 2, none⟩ = some (.int .i64 0) := Q1.cell 2
    have g0 := Q1.free 0
    have g1 := Q1.free 1
    have g2 := Q1.free 2
    have HR := hid (Below.setCell (Below.setCell (Below.setCell HB2 (p := ⟨k1, 0, none⟩) (by exact l1) (.slice a n c)) (p := ⟨k1, 1, none⟩) (by exact l1) (.int .i64 (p : Int))) (p := ⟨k1, 2, none⟩) (by exact l1) (.int .i64 x))
    clear HB2
    go_wp2
    exact bodyPost_ret (v := .agg #[.slice a n c, .int .i64 (p : Int), .int .i64 x]) (by simp [results, Try.results29, go_sem, z0, z1, z2]) rfl ⟨by rw [HF.out]; rfl, by first | exact HR.out | (rw [hk0]; exact HR.out)⟩
  · have hed : (e == 0) = false := by simpa using he
    have hef : (if e = 0 then x else e) = e := if_neg he
    rw [hef] at HF
    clear he hef
    have z0 : W.cell? ⟨k1, 0, none⟩ = some (.slice none 0 0) := R1.cell 0
    have z1 : W.cell? ⟨k1, 1, none⟩ = some (.int .i64 0) := R1.cell 1
    have z2 : W.cell? ⟨k1, 2, none⟩ = some (.int .i64 0) := R1.cell 2
    have g0 := R1.free 0
    have g1 := R1.free 1
    have g2 := R1.free 2
    have HR := hid (Below.setCell (Below.setCell (Below.setCell HB (p := ⟨k1, 0, none⟩) (by exact l1) (.slice a n c)) (p := ⟨k1, 1, none⟩) (by exact l1) (.int .i64 (p : Int))) (p := ⟨k1, 2, none⟩) (by exact l1) (.int .i64 e))
    clear HB
    go_wp2
    exact bodyPost_ret (v := .agg #[.slice a n c, .int .i64 (p : Int), .int .i64 e]) (by simp [results, Try.results29, go_sem, z0, z1, z2]) rfl ⟨by rw [HF.out], by first | exact HR.out | (rw [hk0]; exact HR.out)⟩

/- a reader stored into a block -/
theorem Row.put3 {w : World} {k : Nat} {x0 y0 z0 : Value} {t : TypeId} (h : Row w k #[x0, y0, z0] t) (x y z : Value) : Row (((w.setCell ⟨k, 0, none⟩ x).setCell ⟨k, 1, none⟩ y).setCell ⟨k, 2, none⟩ z) k #[x, y, z] t := ((h.set 0 x).set 1 y).set 2 z
theorem Row.beside3 {w : World} {k k' : Nat} {C : Array Value} {t : TypeId} (h : Row w k C t) (x y z : Value) (hne : k ≠ k') : Row (((w.setCell ⟨k', 0, none⟩ x).setCell ⟨k', 1, none⟩ y).setCell ⟨k', 2, none⟩ z) k C t := ((h.beside 0 x hne).beside 1 y hne).beside 2 z hne
theorem below3 {B : Nat} {w u : World} {k : Nat} (h : Below B w u) (hk : B ≤ k) (x y z : Value) : Below B w (((u.setCell ⟨k, 0, none⟩ x).setCell ⟨k, 1, none⟩ y).setCell ⟨k, 2, none⟩ z) :=
  Below.setCell (Below.setCell (Below.setCell h (p := ⟨k, 0, none⟩) (by exact hk) x) (p := ⟨k, 1, none⟩) (by exact hk) y) (p := ⟨k, 2, none⟩) (by exact hk) z
/-- the bytes that came in aren't the call's own blocks -/
theorem Doc.put3 {w : World} {a : Option Addr} {n c k : Nat} {zs : List Int} (h : Doc w a n c zs) (hk : ∀ ad, a = some ad → zs ≠ [] → ad.block ≠ k) (x y z : Value) : Doc (((w.setCell ⟨k, 0, none⟩ x).setCell ⟨k, 1, none⟩ y).setCell ⟨k, 2, none⟩ z) a n c zs := by
  refine ⟨?_, h.len, h.le, h.cap, h.max, h.byt⟩
  refine h.by'.grown (row := some k) ⟨rfl, rfl, rfl, by simp, fun j _ hj => ?_⟩ fun ad h1 h2 e => hk ad h1 h2 (by simpa using e)
  have hj' : j ≠ k := fun e => hj (by rw [e])
  rw [heap_setCell_other _ ⟨k, 2, none⟩ j _ hj', heap_setCell_other _ ⟨k, 1, none⟩ j _ hj', heap_setCell_other _ ⟨k, 0, none⟩ j _ hj']
theorem Doc.lt {w : World} {a : Option Addr} {n c : Nat} {zs : List Int} (h : Doc w a n c zs) : ∀ ad, a = some ad → zs ≠ [] → ad.block < w.heap.size := h.by'.lt

set_option maxRecDepth 100000 in
set_option maxHeartbeats 1000000 in
theorem rcount27 {w : World} {a : Option Addr} {n c : Nat} {zs : List Int} {s : St} (h : Doc w a n c zs) (hp : s.p ≤ n) (most : Nat) (hm : most ≤ 100) :
    Calls Try.prog 27 #[rrv a n c s, .int .u64 (most : Int)] w fun x w' => ∃ (v : Nat) (s' : St), Hid (rCount most zs s = (v, s')) ∧ v ≤ most ∧ s'.p ≤ n ∧ x = .returned (.tuple #[.int .i64 (v : Int), rrv a n c s']) ∧ Below w.heap.size w w' := by
  obtain ⟨R0, R1, HB, hsz⟩ := two_boxes w #[.slice a n c, .int .i64 (s.p : Int), .int .i64 s.e] #[.slice none 0 0, .int .i64 0, .int .i64 0] 70 70
  replace h := h.later HB
  go_enter Try.func27, Try.ntmps27
  go_upto_region 1 with fail
  generalize hW : (w.alloc (.cells #[.slice a n c, .int .i64 (s.p : Int), .int .i64 s.e] 70)).alloc (.cells #[.slice none 0 0, .int .i64 0, .int .i64 0] 70) = W at *
  clear hW
  generalize hk0 : w.heap.size = k0 at *
  generalize hk1 : k0 + 1 = k1 at *
  have l0 : k0 ≤ k0 := Nat.le_refl _
  have l1 : k0 ≤ k1 := by omega
  have n01 : k0 ≠ k1 := by omega
  have c0 : W.cell? ⟨k0, 0, none⟩ = some (.slice a n c) := R0.cell 0
  have c1 : W.cell? ⟨k0, 1, none⟩ = some (.int .i64 (s.p : Int)) := R0.cell 1
  have c2 : W.cell? ⟨k0, 2, none⟩ = some (.int .i64 s.e) := R0.cell 2
  go_wp2_with fail
  refine (rget h hp 1 (by decide) (by decide)).mono ?_
  rintro x w1 ⟨v, s1, hs1, hv, hp1, rfl, hb1⟩
  clear c0 c1 c2
  replace R0 := R0.later hb1
  replace R1 := R1.later hb1
  replace HB := HB.trans (hb1.mono (by omega))
  have f0 := R0.free 0
  have f1 := R0.free 1
  have f2 := R0.free 2
  have c0 : w1.cell? ⟨k0, 0, none⟩ = some (.slice a n c) := R0.cell 0
  have c1 : w1.cell? ⟨k0, 1, none⟩ = some (.int .i64 (s.p : Int)) := R0.cell 1
  have c2 : w1.cell? ⟨k0, 2, none⟩ = some (.int .i64 s.e) := R0.cell 2
  replace R0 := R0.put3 (.slice a n c) (.int .i64 (s1.p : Int)) (.int .i64 s1.e)
  replace R1 := R1.beside3 (.slice a n c) (.int .i64 (s1.p : Int)) (.int .i64 s1.e) n01.symm
  replace HB := below3 HB l0 (.slice a n c) (.int .i64 (s1.p : Int)) (.int .i64 s1.e)
  go_upto_region 2 with fail
  clear c0 c1 c2 f0 f1 f2
  generalize hW : ((w1.setCell ⟨k0, 0, none⟩ (.slice a n c)).setCell ⟨k0, 1, none⟩ (.int .i64 (s1.p : Int))).setCell ⟨k0, 2, none⟩ (.int .i64 s1.e) = W2 at *
  clear hW
  have c0 : W2.cell? ⟨k0, 0, none⟩ = some (.slice a n c) := R0.cell 0
  have c1 : W2.cell? ⟨k0, 1, none⟩ = some (.int .i64 (s1.p : Int)) := R0.cell 1
  have c2 : W2.cell? ⟨k0, 2, none⟩ = some (.int .i64 s1.e) := R0.cell 2
  replace hv : v < 256 := hv
  by_cases hlt : most < v
  · have hd : decide ((most : Int) < (v : Int)) = true := by simp; omega
    have HC : Hid (rCount most zs s = (0, failS 13 s1)) := by simp [Hid, rCount, bnd, hs1.out, hlt, rFail]
    go_wp2_with fail
    refine (rfail29 s1 13).mono ?_
    rintro x w3 ⟨rfl, hb3⟩
    replace R1 := R1.later hb3
    replace HB := HB.trans (hb3.mono (by have := HB.size; omega))
    have z0 : w3.cell? ⟨k1, 0, none⟩ = some (.slice none 0 0) := R1.cell 0
    have z1 : w3.cell? ⟨k1, 1, none⟩ = some (.int .i64 0) := R1.cell 1
    have z2 : w3.cell? ⟨k1, 2, none⟩ = some (.int .i64 0) := R1.cell 2
    have g0 := R1.free 0
    have g1 := R1.free 1
    have g2 := R1.free 2
    have HR := hid (below3 HB l1 (.slice a n c) (.int .i64 ((failS 13 s1).p : Int)) (.int .i64 (failS 13 s1).e))
    have hpf : (failS 13 s1).p ≤ n := hp1
    generalize failS 13 s1 = s2 at *
    clear HB
    go_wp2
    exact bodyPost_ret (v := .tuple #[.int .i64 0, rrv a n c s2]) (by simp [results, Try.results27, go_sem, z0, z1, z2]) rfl ⟨0, s2, HC, Nat.zero_le _, hpf, rfl, by first | exact HR.out | (rw [hk0]; exact HR.out)⟩
  · have hd : decide ((most : Int) < (v : Int)) = false := by simp; omega
    have HC : Hid (rCount most zs s = (v, s1)) := by simp [Hid, rCount, bnd, hs1.out, hlt, rPure]
    have z0 : W2.cell? ⟨k1, 0, none⟩ = some (.slice none 0 0) := R1.cell 0
    have z1 : W2.cell? ⟨k1, 1, none⟩ = some (.int .i64 0) := R1.cell 1
    have z2 : W2.cell? ⟨k1, 2, none⟩ = some (.int .i64 0) := R1.cell 2
    have g0 := R1.free 0
    have g1 := R1.free 1
    have g2 := R1.free 2
    have HR := hid (below3 HB l1 (.slice a n c) (.int .i64 (s1.p : Int)) (.int .i64 s1.e))
    clear HB
    go_wp2
    go_region
    all_goals go_wp2
    all_goals exact bodyPost_ret (v := .tuple #[.int .i64 (v : Int), rrv a n c s1]) (by simp [results, Try.results27, go_sem, z0, z1, z2]) rfl ⟨v, s1, HC, by omega, hp1, rfl, by first | exact HR.out.drew | (rw [hk0]; exact HR.out.drew)⟩
end Go.Proofs.Ytjegpcmejlffhaa.Cod
