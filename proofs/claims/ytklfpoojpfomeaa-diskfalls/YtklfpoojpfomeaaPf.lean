/-
  Contracts of the program's disk: 'Back'.
-/
import Derived.Test.YtklfpoojpfomeaaPe
namespace Go.Proofs.Ytklfpoojpfomeaa.Draw
open Go Go.RowKit
/-- an operation that looks up in a map -/
theorem opYields_look {P : Program} {ops : Array Oper} {o : Oper} {a : Act} {u : World} {K : Value → World → Prop} (m k : Operand) {mv kv v : Value} (hw : Region.wanted o (yielded ops a.tmps) = true) (hop : o.op = .lookup 54 m k false)
    (em : a.eval m = mv) (ek : a.eval k = kv) (h : (Instr.lookup 54 mv kv false).run P u = .ok v u) (hK : K v u) : opYields P ops o a u K := by
  refine opYields_val v hw ?_ hK
  unfold execOp
  simp [hop, em, ek, h, Result.andThen]
end Go.Proofs.Ytklfpoojpfomeaa.Draw
namespace Go.Proofs.Ytklfpoojpfomeaa.Key
open Go.RowKit Draw Go.Maps
set_option linter.unusedVariables false
set_option linter.unusedSimpArgs false
/-- a row of bools in memory -/
def Bools (w : World) (a : Option Addr) (l : List Bool) : Prop := l = [] ∨ ∃ b off, a = some ⟨b, off, none⟩ ∧ ∀ i (h : i < l.length), w.cell? ⟨b, off + i, none⟩ = some (.bool l[i])
/-- one write that waits, as it comes back -/
def comeB (keep : List Bool) (torn : Int) (n : Nat) (f : Int → List UInt8) (i : Nat) (x : Int × Pb) : Int → List UInt8 :=
  if (i : Int) = torn then (fun y => if x.1 = y then x.2.b.take n ++ (f x.1).drop n else f y) else if keep[i]?.getD false = true then (fun y => if x.1 = y then x.2.b else f y) else f
/-- the first j writes -/
def KB (keep : List Bool) (torn : Int) (n : Nat) (f : Int → List UInt8) (l : List (Int × Pb)) : Nat → Int → List UInt8
  | 0 => f
  | j + 1 => match l[j]? with
    | some x => comeB keep torn n (KB keep torn n f l j) j x
    | none => KB keep torn n f l j
theorem KB_succ (keep : List Bool) (torn : Int) (n : Nat) (f : Int → List UInt8) (l : List (Int × Pb)) {j : Nat} {x : Int × Pb} (h : l[j]? = some x) : KB keep torn n f l (j + 1) = comeB keep torn n (KB keep torn n f l j) j x := by
  rw [KB, h]
theorem thereB_put (f : Int → Option Pb) (k : Int) (q : Pb) (z : Int) : thereB (putV f k q z) = if k = z then q.b else thereB (f z) := by
  unfold putV
  by_cases e : k = z
  · rw [if_pos e, if_pos e]; rfl
  · rw [if_neg e, if_neg e]
theorem row_at {w : World} {B : Nat} {a : Option Addr} {n c : Nat} {l : List (Int × Pb)} (h : w.ownsRow B 67 2 (.slice a n c) l.length (l.flatMap wcells)) {j : Nat} {x : Int × Pb} (hx : l[j]? = some x) :
    ∃ b off, a = some ⟨b, off, none⟩ ∧ w.cell? ⟨b, off + j * 2, none⟩ = some (.int .i64 x.1) ∧ w.cell? ⟨b, off + j * 2 + 1, none⟩ = some (bval x.2.k) := by
  obtain ⟨a', c', e, h1⟩ := row_cells wcells 2 (fun _ => rfl) h
  obtain ⟨hj, hxe⟩ := List.getElem?_eq_some_iff.1 hx
  cases e
  rcases h1 with h1 | ⟨gg, e, _, _, hc⟩
  · subst h1; simp at hj
  · have h2 := hc j hj 0 _ (by omega) rfl
    have h3 := hc j hj 1 _ (by omega) rfl
    rw [hxe] at h2 h3
    exact ⟨gg, 0, e, h2, h3⟩
set_option maxRecDepth 100000 in
set_option maxHeartbeats 4000000 in
theorem back21 {w : World} {B Z p : Nat} {g : Pg} {mk ml : Nat} {wv : Value} {nk nl : Nat} (h : Raw w B Z p g mk ml wv nk nl) (hf : 0 ≤ g.falls ∧ g.falls < 1000000) (hn : nk + g.waits.length < maxLen) (hZ : Z < w.heap.size) (keep : List Bool) (ka : Option Addr) (kc : Nat) (hkeep : ∀ u, Soft B w u → Bools u ka keep) (hkl : keep.length ≤ maxLen) (torn at_ : Int) :
    Calls Try.prog 21 #[ptr p, .slice ka keep.length kc, .int .i64 torn, .int .i64 at_] w fun x w' => x = .returned (.tuple #[]) ∧ (∃ kp ml' nk', nk' ≤ nk + g.waits.length ∧ Raw w' B Z p { forgetP { fallP g with kept := kp } with fuse := -1, up := true } mk ml' (.slice none 0 0) nk' 0 ∧ ∀ z, thereB (kp z) = KB keep torn (byD at_) (fun z => thereB (g.kept z)) g.waits g.waits.length z) ∧ Soft B w w' := by
  have HD := down20 h hf
  have hB := h.size
  have hnl := h.hnl
  clear h
  have hw1 : (fallP g).waits = g.waits := by unfold fallP; split <;> rfl
  have hk1 : (fallP g).kept = g.kept := by unfold fallP; split <;> rfl
  rw [← hk1, ← hw1]
  rw [← hw1] at hn hnl
  generalize fallP g = g1 at *
  clear hw1 hk1 hf
  have HKB := hid (fun j x hx => KB_succ keep torn (byD at_) (fun z => thereB (g1.kept z)) g1.waits (j := j) (x := x) hx)
  have HK0 := hid (show KB keep torn (byD at_) (fun z => thereB (g1.kept z)) g1.waits 0 = fun z => thereB (g1.kept z) from rfl)
  generalize KB keep torn (byD at_) (fun z => thereB (g1.kept z)) g1.waits = FT at *
  obtain ⟨n, hnn⟩ : ∃ n, g1.waits.length = n := ⟨_, rfl⟩
  rw [hnn] at hn hnl ⊢
  have HN := hid hnn
  obtain ⟨kl, hkk⟩ : ∃ kl, keep.length = kl := ⟨_, rfl⟩
  rw [hkk] at hkl ⊢
  have HKL := hid hkk
  have HBO := hid hkeep
  clear hkk hkeep hnn
  unfold maxLen at hkl hn
  go_enter Try.func21, Try.ntmps21
  go_wp2_with fail
  refine HD.mono ?_
  rintro e w1 ⟨rfl, R1, S1⟩
  obtain ⟨a7, n7, c7, hwv⟩ := row_slice R1.row
  subst hwv
  obtain rfl : n7 = n := by
    have := row_cells wcells 2 (fun _ => rfl) R1.row
    obtain ⟨a', c', e, _⟩ := this
    cases e
    exact HN.out
  obtain ⟨c0, c1, c2, c3, c4, c5, c6⟩ := R1.cells
  have HR1 := hid R1
  have HS1 := hid S1
  clear R1 S1 HD
  go_wp2_with fail
  clear c0 c1 c2 c3 c4 c5 c6
  go_loopw [19] (fun i wr => ∃ (j : Nat), j ≤ n7 ∧ i = .int .i64 j ∧ ∃ (kp : Int → Option Pb) (nk' : Nat), Raw wr B Z p { g1 with kept := kp } mk ml (.slice a7 n7 c7) nk' nl ∧ (∀ z, thereB (kp z) = FT j z) ∧ nk' ≤ nk + j ∧ Soft B w wr) (fun i _ => n7 - (intOf i).toNat)
  case atStart => exact ⟨0, Nat.zero_le _, rfl, g1.kept, nk, HR1.out, fun z => by rw [HK0.out], Nat.le_refl _, HS1.out⟩
  case round =>
    obtain ⟨j, hj, rfl, kp, nk', R, hkp, hnk, S⟩ := hrel
    clear HR1 HS1 HK0
    by_cases hlt : j < n7
    · have hlt' : j < g1.waits.length := by rw [HN.out]; exact hlt
      obtain ⟨x, hx⟩ : ∃ x, g1.waits[j]? = some x := ⟨_, List.getElem?_eq_getElem hlt'⟩
      obtain ⟨b7, o7, hA, x0, x1⟩ := row_at R.row hx
      subst hA
      have hxq := R.wb x (List.mem_of_getElem? hx)
      have hxw := R.ix x (List.mem_of_getElem? hx)
      have HKj := hid (HKB.out j x hx)
      clear hx
      obtain ⟨xi, xq⟩ := x
      dsimp only at *
      have Bx := below_box wr (.cells #[.int .i64 xi, bval xq.k] 67)
      have TN : (wr.alloc (.cells #[.int .i64 xi, bval xq.k] 67)).heap[wr.heap.size]? = some (.cells #[.int .i64 xi, bval xq.k] 67 (0, 0)) := Go.heap_alloc_new _ _
      have T0 := cell_of_row _ wr.heap.size 0 _ 67 _ TN
      have T1 := cell_of_row _ wr.heap.size 1 _ 67 _ TN
      simp only [List.getElem?_toArray, List.getElem?_cons_zero, List.getElem?_cons_succ] at T0 T1
      have ht9 : wr.heap.size < (wr.alloc (.cells #[.int .i64 xi, bval xq.k] 67)).heap.size := by rw [World.size_alloc]; omega
      have RB := R.later Bx
      have hxq := hxq.later Bx
      have HSB := hid (S.trans (Soft.new Bx R.size))
      have hZb : Z < (wr.alloc (.cells #[.int .i64 xi, bval xq.k] 67)).heap.size := by have := S.below.size; omega
      have HBj := hid (HBO.out _ HSB.out)
      have hnm : nk' < maxLen := by unfold maxLen; omega
      have HRB := hid RB
      have HT := hid (And.intro T0 T1)
      clear TN Bx R S RB T0 T1
      by_cases ht : (j : Int) = torn
      · have hd : decide ((j : Int) = torn) = true := decide_eq_true ht
        have HKt := hid (fun z => show FT (j + 1) z = if xi = z then xq.b.take (byD at_) ++ (FT j xi).drop (byD at_) else FT j z by rw [HKj.out]; unfold comeB; rw [if_pos ht])
        obtain ⟨TB, hTB⟩ : ∃ TB, xq.b.take (byD at_) ++ (thereB (kp xi)).drop (byD at_) = TB := ⟨_, rfl⟩
        have hTBe := hid hTB
        have hTBl := hid (show TB.length = 2048 by
          have h1 := hxq.2.1
          have h2 := thereB_len (kp xi) (fun q hq => HRB.out.kb xi q hq)
          have h3 : byD at_ ≤ 2048 := by unfold byD; omega
          rw [← hTB, List.length_append, List.length_take, List.length_drop, h1, h2]; omega)
        rw [← hkp xi, hTB] at HKt
        clear hTB HKj hd HKB HBj
        subst ht
        go_upto_region 6 with fail
        obtain ⟨T0, T1⟩ := HT.out
        have RB := HRB.out
        clear HT HRB x0 x1
        generalize (wr.alloc (.cells #[.int .i64 xi, bval xq.k] 67)) = wb at *
        generalize wr.heap.size = t9 at *
        refine region_new [(some 27, [], true), (some 28, [(0, 27)], true), (some 29, [(1, 28)], true), (some 30, [(2, 29)], true), (some 31, [], true), (some 32, [(4, 31)], true), (some 33, [], true), (some 34, [(6, 33)], true), (some 35, [], true), (some 36, [(8, 35)], true), (some 37, [(9, 36)], true), (some 38, [(10, 37)], true), (some 39, [], true), (some 40, [(12, 39)], true), (some 41, [(11, 38), (13, 40)], true), (some 42, [], true), (some 43, [(7, 34), (14, 41), (15, 42)], true), (none, [(3, 30), (5, 32), (16, 43)], true)]
          (fun i Y u => match i with | 0 => Y = ptr p | 1 => Y = ptr p | 2 => Y = .pointer (some ⟨p, 1, none⟩) | 3 => Y = .map (some mk) | 4 => Y = .pointer (some ⟨t9, 0, none⟩) | 5 => Y = .int .i64 xi | 6 => Y = .pointer (some ⟨t9, 1, none⟩) | 7 => Y = bval xq.k | 8 => Y = ptr p | 9 => Y = ptr p | 10 => Y = .pointer (some ⟨p, 1, none⟩) | 11 => Y = .map (some mk) | 12 => Y = .pointer (some ⟨t9, 0, none⟩) | 13 => Y = .int .i64 xi | 14 => Y = thereV (kp xi) | 15 => Y = .int .i64 at_ | 16 => ∃ K, Y = bval K ∧ Blk u Z ⟨K, TB⟩ | _ => True)
          (fun j v u u' hb hv => ?_) (by kernel_rfl) 17 (by kernel_rfl) [(some 27, [], true), (some 28, [(0, 27)], true), (some 29, [(1, 28)], true), (some 30, [(2, 29)], true), (some 31, [], true), (some 32, [(4, 31)], true), (some 33, [], true), (some 34, [(6, 33)], true), (some 35, [], true), (some 36, [(8, 35)], true), (some 37, [(9, 36)], true), (some 38, [(10, 37)], true), (some 39, [], true), (some 40, [(12, 39)], true), (some 41, [(11, 38), (13, 40)], true), (some 42, [], true), (some 43, [(7, 34), (14, 41), (15, 42)], true)] rfl _ rfl rfl rfl (by kernel_rfl) ⟨?_, ?_, ?_, ?_, ?_, ?_, ?_, ?_, ?_, ?_, ?_, ?_, ?_, ?_, ?_, ?_, ?_, trivial⟩ ?_
        · match j with
          | 0 => exact hv
          | 1 => exact hv
          | 2 => exact hv
          | 3 => exact hv
          | 4 => exact hv
          | 5 => exact hv
          | 6 => exact hv
          | 7 => exact hv
          | 8 => exact hv
          | 9 => exact hv
          | 10 => exact hv
          | 11 => exact hv
          | 12 => exact hv
          | 13 => exact hv
          | 14 => exact hv
          | 15 => exact hv
          | 16 => obtain ⟨K, e1, e2⟩ := hv; exact ⟨K, e1, e2.later hb⟩
          | _ + 17 => trivial
        · rintro u hu
          replace hu : Below wb.heap.size wb u := hu
          exact opYields_val (ptr p) (by kernel_rfl) (by go_simp) ⟨Below.refl _ _, rfl⟩
        · rintro u hu _ rfl
          replace hu : Below wb.heap.size wb u := hu
          exact opYields_val (ptr p) (by kernel_rfl) (by go_simp) ⟨Below.refl _ _, rfl⟩
        · rintro u hu _ rfl
          replace hu : Below wb.heap.size wb u := hu
          exact opYields_val (.pointer (some ⟨p, 1, none⟩)) (by kernel_rfl) (by go_simp) ⟨Below.refl _ _, rfl⟩
        · rintro u hu _ rfl
          replace hu : Below wb.heap.size wb u := hu
          obtain ⟨c0, c1, c2, c3, c4, c5, c6⟩ := (RB.later hu).cells
          exact opYields_val (.map (some mk)) (by kernel_rfl) (by go_simp) ⟨Below.refl _ _, rfl⟩
        · rintro u hu
          replace hu : Below wb.heap.size wb u := hu
          exact opYields_val (.pointer (some ⟨t9, 0, none⟩)) (by kernel_rfl) (by go_simp) ⟨Below.refl _ _, rfl⟩
        · rintro u hu _ rfl
          replace hu : Below wb.heap.size wb u := hu
          have t0 : u.cell? ⟨t9, 0, none⟩ = some (.int .i64 xi) := (hu.cell (p := ⟨t9, 0, none⟩) ht9).trans T0
          exact opYields_val (.int .i64 xi) (by kernel_rfl) (by go_simp) ⟨Below.refl _ _, rfl⟩
        · rintro u hu
          replace hu : Below wb.heap.size wb u := hu
          exact opYields_val (.pointer (some ⟨t9, 1, none⟩)) (by kernel_rfl) (by go_simp) ⟨Below.refl _ _, rfl⟩
        · rintro u hu _ rfl
          replace hu : Below wb.heap.size wb u := hu
          have t1 : u.cell? ⟨t9, 1, none⟩ = some (bval xq.k) := (hu.cell (p := ⟨t9, 1, none⟩) ht9).trans T1
          exact opYields_val (bval xq.k) (by kernel_rfl) (by go_simp) ⟨Below.refl _ _, rfl⟩
        · rintro u hu
          replace hu : Below wb.heap.size wb u := hu
          exact opYields_val (ptr p) (by kernel_rfl) (by go_simp) ⟨Below.refl _ _, rfl⟩
        · rintro u hu _ rfl
          replace hu : Below wb.heap.size wb u := hu
          exact opYields_val (ptr p) (by kernel_rfl) (by go_simp) ⟨Below.refl _ _, rfl⟩
        · rintro u hu _ rfl
          replace hu : Below wb.heap.size wb u := hu
          exact opYields_val (.pointer (some ⟨p, 1, none⟩)) (by kernel_rfl) (by go_simp) ⟨Below.refl _ _, rfl⟩
        · rintro u hu _ rfl
          replace hu : Below wb.heap.size wb u := hu
          obtain ⟨c0, c1, c2, c3, c4, c5, c6⟩ := (RB.later hu).cells
          exact opYields_val (.map (some mk)) (by kernel_rfl) (by go_simp) ⟨Below.refl _ _, rfl⟩
        · rintro u hu
          replace hu : Below wb.heap.size wb u := hu
          exact opYields_val (.pointer (some ⟨t9, 0, none⟩)) (by kernel_rfl) (by go_simp) ⟨Below.refl _ _, rfl⟩
        · rintro u hu _ rfl
          replace hu : Below wb.heap.size wb u := hu
          have t0 : u.cell? ⟨t9, 0, none⟩ = some (.int .i64 xi) := (hu.cell (p := ⟨t9, 0, none⟩) ht9).trans T0
          exact opYields_val (.int .i64 xi) (by kernel_rfl) (by go_simp) ⟨Below.refl _ _, rfl⟩
        · rintro u hu _ rfl _ rfl
          replace hu : Below wb.heap.size wb u := hu
          exact opYields_look (mv := .map (some mk)) (kv := .int .i64 xi) (.tmp 38) (.tmp 40) (by kernel_rfl) rfl (by kernel_rfl) (by kernel_rfl) ((RB.later hu).km.lookup xi hxw) ⟨Below.refl _ _, rfl⟩
        · rintro u hu
          replace hu : Below wb.heap.size wb u := hu
          exact opYields_val (.int .i64 at_) (by kernel_rfl) (by go_simp) ⟨Below.refl _ _, rfl⟩
        · rintro u hu _ rfl _ rfl _ rfl
          replace hu : Below wb.heap.size wb u := hu
          have hTe := tear32 u xq (hxq.later hu) (kp xi) (fun q hq => ((RB.kb xi q hq).later hu)) at_
          refine opYields_call 32 #[bval xq.k, thereV (kp xi), .int .i64 at_] (by kernel_rfl) (by go_simp) (hTe.mono ?_)
          rintro e u1 ⟨rfl, rfl⟩
          refine ⟨_, rfl, below_box _ _, u.heap.size, rfl, ?_⟩
          rw [hTBe.out]
          exact ⟨Go.heap_alloc_new _ _, hTBl.out, (by have := hu.size; show u.heap.size ≠ Z; omega)⟩
        · intro u hu x0 e0 x1 e1 x2 e2 x3 e3 x4 e4 x5 e5 x6 e6 x7 e7 x8 e8 x9 e9 x10 e10 x11 e11 x12 e12 x13 e13 x14 e14 x15 e15 x16 e16
          change opYields Try.prog _ _ _ u _
          simp only [Act.put, List.setIfInBounds_toArray, List.set_cons_zero, List.set_cons_succ]
          obtain rfl : x0 = ptr p := e0
          obtain rfl : x1 = ptr p := e1
          obtain rfl : x2 = .pointer (some ⟨p, 1, none⟩) := e2
          obtain rfl : x3 = .map (some mk) := e3
          obtain rfl : x4 = .pointer (some ⟨t9, 0, none⟩) := e4
          obtain rfl : x5 = .int .i64 xi := e5
          obtain rfl : x6 = .pointer (some ⟨t9, 1, none⟩) := e6
          obtain rfl : x7 = bval xq.k := e7
          obtain rfl : x8 = ptr p := e8
          obtain rfl : x9 = ptr p := e9
          obtain rfl : x10 = .pointer (some ⟨p, 1, none⟩) := e10
          obtain rfl : x11 = .map (some mk) := e11
          obtain rfl : x12 = .pointer (some ⟨t9, 0, none⟩) := e12
          obtain rfl : x13 = .int .i64 xi := e13
          obtain rfl : x14 = thereV (kp xi) := e14
          obtain rfl : x15 = .int .i64 at_ := e15
          obtain ⟨K16, rfl, h16⟩ : ∃ K, x16 = bval K ∧ Blk u Z ⟨K, TB⟩ := e16
          replace hu : Below wb.heap.size wb u := hu
          have R16 := RB.later hu
          have HU := Raw.storeK R16 ⟨K16, TB⟩ h16 hnm xi hxw
          refine opYields_map (mv := .map (some mk)) (kv := .int .i64 xi) (vv := bval K16) (.tmp 30) (.tmp 32) (.tmp 43) (by kernel_rfl) rfl (by kernel_rfl) (by kernel_rfl) (by kernel_rfl) HU ?_
          rintro w9 ⟨R9, s9⟩
          have HR9 := hid R9
          have HS9 := hid ((Soft.new hu RB.size).trans s9)
          clear R9 s9 R16 h16 RB T0 T1
          go_wp2_with fail
          go_roundw
          case rel => exact ⟨j + 1, by omega, by go_num, _, nk' + 1, HR9.out, fun z => (thereB_put kp xi ⟨K16, TB⟩ z).trans (by rw [HKt.out z, hkp z]), by omega, HSB.out.trans HS9.out⟩
          case measure => simp [intOf]; omega
      · have hd : decide ((j : Int) = torn) = false := decide_eq_false ht
        have HKs := hid (show FT (j + 1) = if keep[j]?.getD false = true then (fun y => if xi = y then xq.b else FT j y) else FT j by rw [HKj.out]; unfold comeB; rw [if_neg ht])
        clear HKj
        by_cases hjk : j < kl
        · have hdk : decide ((j : Int) < (kl : Int)) = true := decide_eq_true (by omega)
          have hjk' : j < keep.length := by rw [HKL.out]; exact hjk
          obtain ⟨kv, hkv⟩ : ∃ kv, keep[j]? = some kv := ⟨_, List.getElem?_eq_getElem hjk'⟩
          obtain ⟨kb, ko, hKA, kc0⟩ : ∃ kb ko, ka = some ⟨kb, ko, none⟩ ∧ (wr.alloc (.cells #[.int .i64 xi, bval xq.k] 67)).cell? ⟨kb, ko + j, none⟩ = some (.bool kv) := by
            rcases HBj.out with h0 | ⟨b, o, e, hc⟩
            · rw [h0] at hjk'; simp at hjk'
            · have := hc j hjk'
              rw [List.getElem?_eq_getElem hjk'] at hkv
              rw [Option.some.inj hkv] at this
              exact ⟨b, o, e, this⟩
          subst hKA
          rw [hkv] at HKs
          clear hkv HBj
          cases kv
          · have HKn := hid (HKs.out.trans (if_neg (by simp)))
            clear HKs
            go_wp2_with fail
            go_roundw
            case rel => exact ⟨j + 1, by omega, by go_num, kp, nk', HRB.out, fun z => by rw [HKn.out]; exact hkp z, by omega, HSB.out⟩
            case measure => simp [intOf]; omega
          · have HKt := hid (fun z => show FT (j + 1) z = if xi = z then xq.b else FT j z by rw [HKs.out.trans (if_pos (by simp))])
            clear HKs
            go_upto_region 8 with fail
            obtain ⟨T0, T1⟩ := HT.out
            have RB := HRB.out
            clear HT HRB x0 x1 kc0
            generalize (wr.alloc (.cells #[.int .i64 xi, bval xq.k] 67)) = wb at *
            generalize wr.heap.size = t9 at *
            refine region_new [(some 54, [], true), (some 55, [(0, 54)], true), (some 56, [(1, 55)], true), (some 57, [(2, 56)], true), (some 58, [], true), (some 59, [(4, 58)], true), (some 60, [], true), (some 61, [(6, 60)], true), (none, [(3, 57), (5, 59), (7, 61)], true)]
              (fun i Y u => match i with | 0 => Y = ptr p | 1 => Y = ptr p | 2 => Y = .pointer (some ⟨p, 1, none⟩) | 3 => Y = .map (some mk) | 4 => Y = .pointer (some ⟨t9, 0, none⟩) | 5 => Y = .int .i64 xi | 6 => Y = .pointer (some ⟨t9, 1, none⟩) | 7 => Y = bval xq.k | _ => True)
              (fun j v u u' hb hv => ?_) (by kernel_rfl) 8 (by kernel_rfl) [(some 54, [], true), (some 55, [(0, 54)], true), (some 56, [(1, 55)], true), (some 57, [(2, 56)], true), (some 58, [], true), (some 59, [(4, 58)], true), (some 60, [], true), (some 61, [(6, 60)], true)] rfl _ rfl rfl rfl (by kernel_rfl) ⟨?_, ?_, ?_, ?_, ?_, ?_, ?_, ?_, trivial⟩ ?_
            · match j with
              | 0 => exact hv
              | 1 => exact hv
              | 2 => exact hv
              | 3 => exact hv
              | 4 => exact hv
              | 5 => exact hv
              | 6 => exact hv
              | 7 => exact hv
              | _ + 8 => trivial
            · rintro u hu
              replace hu : Below wb.heap.size wb u := hu
              exact opYields_val (ptr p) (by kernel_rfl) (by go_simp) ⟨Below.refl _ _, rfl⟩
            · rintro u hu _ rfl
              replace hu : Below wb.heap.size wb u := hu
              exact opYields_val (ptr p) (by kernel_rfl) (by go_simp) ⟨Below.refl _ _, rfl⟩
            · rintro u hu _ rfl
              replace hu : Below wb.heap.size wb u := hu
              exact opYields_val (.pointer (some ⟨p, 1, none⟩)) (by kernel_rfl) (by go_simp) ⟨Below.refl _ _, rfl⟩
            · rintro u hu _ rfl
              replace hu : Below wb.heap.size wb u := hu
              obtain ⟨c0, c1, c2, c3, c4, c5, c6⟩ := (RB.later hu).cells
              exact opYields_val (.map (some mk)) (by kernel_rfl) (by go_simp) ⟨Below.refl _ _, rfl⟩
            · rintro u hu
              replace hu : Below wb.heap.size wb u := hu
              exact opYields_val (.pointer (some ⟨t9, 0, none⟩)) (by kernel_rfl) (by go_simp) ⟨Below.refl _ _, rfl⟩
            · rintro u hu _ rfl
              replace hu : Below wb.heap.size wb u := hu
              have t0 : u.cell? ⟨t9, 0, none⟩ = some (.int .i64 xi) := (hu.cell (p := ⟨t9, 0, none⟩) ht9).trans T0
              exact opYields_val (.int .i64 xi) (by kernel_rfl) (by go_simp) ⟨Below.refl _ _, rfl⟩
            · rintro u hu
              replace hu : Below wb.heap.size wb u := hu
              exact opYields_val (.pointer (some ⟨t9, 1, none⟩)) (by kernel_rfl) (by go_simp) ⟨Below.refl _ _, rfl⟩
            · rintro u hu _ rfl
              replace hu : Below wb.heap.size wb u := hu
              have t1 : u.cell? ⟨t9, 1, none⟩ = some (bval xq.k) := (hu.cell (p := ⟨t9, 1, none⟩) ht9).trans T1
              exact opYields_val (bval xq.k) (by kernel_rfl) (by go_simp) ⟨Below.refl _ _, rfl⟩
            · intro u hu x0 e0 x1 e1 x2 e2 x3 e3 x4 e4 x5 e5 x6 e6 x7 e7
              change opYields Try.prog _ _ _ u _
              simp only [Act.put, List.setIfInBounds_toArray, List.set_cons_zero, List.set_cons_succ]
              obtain rfl : x0 = ptr p := e0
              obtain rfl : x1 = ptr p := e1
              obtain rfl : x2 = .pointer (some ⟨p, 1, none⟩) := e2
              obtain rfl : x3 = .map (some mk) := e3
              obtain rfl : x4 = .pointer (some ⟨t9, 0, none⟩) := e4
              obtain rfl : x5 = .int .i64 xi := e5
              obtain rfl : x6 = .pointer (some ⟨t9, 1, none⟩) := e6
              obtain rfl : x7 = bval xq.k := e7
              replace hu : Below wb.heap.size wb u := hu
              have HU := Raw.storeK (RB.later hu) xq (hxq.later hu) hnm xi hxw
              refine opYields_map (mv := .map (some mk)) (kv := .int .i64 xi) (vv := bval xq.k) (.tmp 57) (.tmp 59) (.tmp 61) (by kernel_rfl) rfl (by kernel_rfl) (by kernel_rfl) (by kernel_rfl) HU ?_
              rintro w9 ⟨R9, s9⟩
              have HR9 := hid R9
              have HS9 := hid ((Soft.new hu RB.size).trans s9)
              clear R9 s9 RB T0 T1
              go_wp2_with fail
              go_roundw
              case rel => exact ⟨j + 1, by omega, by go_num, _, nk' + 1, HR9.out, fun z => (thereB_put kp xi xq z).trans (by rw [HKt.out z, hkp z]), by omega, HSB.out.trans HS9.out⟩
              case measure => simp [intOf]; omega
        · have hdk : decide ((j : Int) < (kl : Int)) = false := decide_eq_false (by omega)
          have hkn : keep[j]? = none := List.getElem?_eq_none (by rw [HKL.out]; omega)
          rw [hkn] at HKs
          have HKn := hid (HKs.out.trans (if_neg (by simp)))
          clear HKs hkn HBj
          go_wp2_with fail
          go_roundw
          case rel => exact ⟨j + 1, by omega, by go_num, kp, nk', HRB.out, fun z => by rw [HKn.out]; exact hkp z, by omega, HSB.out⟩
          case measure => simp [intOf]; omega
    · obtain rfl : j = n7 := by omega
      have HFO := forget31 R
      have HS := hid S
      have HKP := hid hkp
      clear R S hkp
      go_wp2_with fail
      refine HFO.mono ?_
      rintro e w2 ⟨rfl, ⟨ml', r2⟩, s2⟩
      obtain ⟨r3, s3⟩ := r2.setFuse (-1) (by omega)
      obtain ⟨r4, s4⟩ := r3.setUp true
      have HE := hid (And.intro r4 (HS.out.trans (s2.trans (s3.trans s4))))
      obtain ⟨c0, c1, c2, c3, c4, c5, c6⟩ := r2.cells
      have f4 := r2.free 4
      have f5 := r2.free 5
      clear r2 r3 r4 s2 s3 s4 HFO HS
      go_wp2_with fail
      go_end0
      exact ⟨rfl, ⟨kp, ml', nk', hnk, HE.out.1, HKP.out⟩, HE.out.2⟩
end Go.Proofs.Ytklfpoojpfomeaa.Key
