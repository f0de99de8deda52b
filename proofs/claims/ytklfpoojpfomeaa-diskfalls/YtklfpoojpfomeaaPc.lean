/-
  Contracts of the program's disk: 'Write'.
-/
import Derived.Test.YtklfpoojpfomeaaPb
import Derived.Test.YtklfpoojpfomeaaKd2
import Derived.Deep.Cut
namespace Go.Proofs.Ytklfpoojpfomeaa.Draw
open Go Go.RowKit
set_option linter.unusedVariables false
set_option linter.unusedSimpArgs false
/-- 'wp_region_put2', of a last operation that leaves no value -/
theorem region_put3 {P : Program} {ops : Array Oper} {id : Nat} {Q : Exit → Act → World → Prop} {a0 : Act} {w : World}
    (tab : List Row) (C : Nat → World → Prop) (R : Nat → World → World → Prop) (V : Nat → Value → World → Prop)
    (hm : P.follows .mixedOrders = true) (L : Nat) (hB : tabC ops tab L = true) (hC0 : ∀ j, C j { w with drawn := w.drawn + 1 }) (hCR : ∀ i j u u', laterB tab i j = true → C i u → C j u → R i u u' → C j u') (hVR : ∀ i j v u u', needB tab i j = true → C i u → R i u u' → V j v u → V j v u')
    (tabI : List Row) (hI : tab.take L = tabI) (oL : Oper) (hoL : ops[L]? = some oL) (hd : oL.dst = none) (hLs : ops.size = L + 1) (hLa : ((List.range L).all fun j => (oL.after.any fun e => Region.binds .any e && (e.on == j)) || (ancs tab tab.length L).contains j) = true)
    (hops : eachOpI P ops C R V a0 (ops.toList.take L) (tab.take L) 0) (hend : ∀ u, C L u → givingAll V u (fun a => opYields P ops oL a u fun _ u' => Q .normal a u') tabI 0 a0) : (Code.region id ops true).wp P Q a0 w :=
  wp_region_put2 tab C R V hm L hB hC0 hCR hVR tabI hI oL hoL hLs hLa hops (fun u hu => by
    have h := hend u hu
    rw [hd]
    exact h)
/-- whatever order is drawn, of a region whose last operation waits for all others, which leave what was there -/
theorem region_new {P : Program} {ops : Array Oper} {id : Nat} {Q : Exit → Act → World → Prop} {a0 : Act} {w : World} (tab : List Row) (V : Nat → Value → World → Prop) (hV : ∀ j v u u', Below u.heap.size u u' → V j v u → V j v u')
    (hm : P.follows .mixedOrders = true) (L : Nat) (hB : tabC ops tab L = true) (tabI : List Row) (hI : tab.take L = tabI) (oL : Oper) (hoL : ops[L]? = some oL) (hd : oL.dst = none) (hLs : ops.size = L + 1) (hLa : ((List.range L).all fun j => (oL.after.any fun e => Region.binds .any e && (e.on == j)) || (ancs tab tab.length L).contains j) = true)
    (hops : eachOpI P ops (fun _ u => Below w.heap.size w u) (fun _ u u' => Below u.heap.size u u') V a0 (ops.toList.take L) (tab.take L) 0) (hend : ∀ u, Below w.heap.size w u → givingAll V u (fun a => opYields P ops oL a u fun _ u' => Q .normal a u') tabI 0 a0) : (Code.region id ops true).wp P Q a0 w :=
  region_put3 tab (fun _ u => Below w.heap.size w u) (fun _ u u' => Below u.heap.size u u') V hm L hB (fun j => (Below.refl _ _).drew) (fun i j u u' _ _ hj hr => hj.trans (hr.mono hj.size)) (fun i j v u u' _ _ hr hv => hV j v u u' hr hv) tabI hI oL hoL hd hLs hLa hops hend
/-- an operation that stores into a map -/
theorem opYields_map {P : Program} {ops : Array Oper} {o : Oper} {a : Act} {u : World} {K : Value → World → Prop} {X : World → Prop} (m k v : Operand) {mv kv vv : Value} (hw : Region.wanted o (yielded ops a.tmps) = true) (hop : o.op = .mapUpdate 54 m k v)
    (em : a.eval m = mv) (ek : a.eval k = kv) (ev : a.eval v = vv) (h : ∃ u', (Instr.mapUpdate 54 mv kv vv).run P u = .ok () u' ∧ X u') (hK : ∀ u', X u' → K undef u') : opYields P ops o a u K := by
  obtain ⟨u', hr, hx⟩ := h
  refine opYields_put hw ?_ (hK u' hx)
  unfold execOp
  simp [hop, em, ek, ev, hr, Result.andThen]
end Go.Proofs.Ytklfpoojpfomeaa.Draw

namespace Go.Proofs.Ytklfpoojpfomeaa.Key
open Go.RowKit Draw
set_option linter.unusedVariables false
set_option linter.unusedSimpArgs false

/-- a write -/
def writeP (g : Pg) (k : Int) (K : Nat) (b : List UInt8) : Int × Pg :=
  if refP g k = 0 then (if 2048 < b.length then (4, g) else burnP { g with waits := g.waits ++ [(k, ⟨K, wholeD b⟩)], last := putV g.last k ⟨K, wholeD b⟩ }) else (refP g k, g)
theorem Raw.storeL {w : World} {B Z p : Nat} {g : Pg} {mk ml : Nat} {wv : Value} {nk nl : Nat} (h : Raw w B Z p g mk ml wv nk nl) (q : Pb) (hq : Blk w Z q) (hn : nl < g.waits.length) (hn' : nl < maxLen) (k : Int) (hk : (Lit.int .i64 k).wf = true) :
    ∃ w', (Instr.mapUpdate 54 (.map (some ml)) (.int .i64 k) (bval q.k)).run Try.prog w = .ok () w' ∧ Raw w' B Z p { g with last := putV g.last k q } mk ml wv nk (nl + 1) ∧ Soft B w w' := by
  obtain ⟨w', r1, r2, r3⟩ := h.lm.store hn' k (bval q.k) hk
  exact ⟨w', r1, h.putL hq hn r2 r3⟩
theorem Raw.storeK {w : World} {B Z p : Nat} {g : Pg} {mk ml : Nat} {wv : Value} {nk nl : Nat} (h : Raw w B Z p g mk ml wv nk nl) (q : Pb) (hq : Blk w Z q) (hn' : nk < maxLen) (k : Int) (hk : (Lit.int .i64 k).wf = true) :
    ∃ w', (Instr.mapUpdate 54 (.map (some mk)) (.int .i64 k) (bval q.k)).run Try.prog w = .ok () w' ∧ Raw w' B Z p { g with kept := putV g.kept k q } mk ml wv (nk + 1) nl ∧ Soft B w w' := by
  obtain ⟨w', r1, r2, r3⟩ := h.km.store hn' k (bval q.k) hk
  exact ⟨w', r1, h.putK hq r2 r3⟩
theorem info67 : (Try.prog.info? 67).map (fun i => (i.zero, i.size, i.bytes)) = some (some (.agg #[.int .i64 0, .slice none 0 0]), 2, 32) := by kernel_rfl
set_option maxRecDepth 100000 in
set_option maxHeartbeats 2000000 in
theorem write17 {w : World} {B Z p : Nat} {g : Pg} {mk ml : Nat} {wv : Value} {nk nl : Nat} (h : Raw w B Z p g mk ml wv nk nl) (k : Int) (hkw : (Lit.int .i64 k).wf = true) (b : List UInt8) (a : Option Addr) (c : Nat) (hb : Bytes w a (nums (str b))) (ha : a = none → b.length = 0 ∧ c = 0) (hb1 : b.length ≤ maxLen) (hZ : Z < w.heap.size) (hf : 0 ≤ g.falls ∧ g.falls < 1000000) (hwt : g.waits.length < 90000) :
    Calls Try.prog 17 #[ptr p, .int .i64 k, .slice a b.length c] w fun x w' => ∃ K wv' nl', x = .returned (.int .i64 (writeP g k K b).1) ∧ Raw w' B Z p (writeP g k K b).2 mk ml wv' nk nl' ∧ Soft B w w' := by
  have HREF := refuses27 h k
  have hB := h.size
  have HP := hid (fun K => show writeP g k K b = if refP g k = 0 then (if 2048 < b.length then (4, g) else burnP { g with waits := g.waits ++ [(k, ⟨K, wholeD b⟩)], last := putV g.last k ⟨K, wholeD b⟩ }) else (refP g k, g) from rfl)
  obtain ⟨a7, n7, c7, hwv⟩ := row_slice h.row
  subst hwv
  have HH := hid h
  clear h
  by_cases hr : refP g k = 0
  case neg =>
    have HP1 := hid (fun K => (HP.out K).trans (if_neg hr))
    clear HP
    generalize writeP g k = WP at *
    generalize refP g k = r at *
    have hd : decide (r = 0) = false := decide_eq_false hr
    unfold maxLen at hb1
    go_enter Try.func17, Try.ntmps17
    go_wp2_with fail
    refine HREF.mono ?_
    rintro e w1 ⟨rfl, hb2⟩
    go_wp2_with fail
    go_ret
    exact ⟨0, _, nl, by rw [HP1.out]; rfl, by rw [HP1.out]; exact HH.out.later hb2, Soft.new hb2 hB⟩
  case pos =>
    have HPx := hid (fun K => (HP.out K).trans (if_pos hr))
    clear HP
    rw [hr] at HREF
    generalize writeP g k = WP at *
    by_cases hlen : 2048 < b.length
    · have HP1 := hid (fun K => (HPx.out K).trans (if_pos hlen))
      have hl1 : (2048 : Int) < (b.length : Int) := by omega
      have hld : decide ((2048 : Int) < (b.length : Int)) = true := decide_eq_true hl1
      unfold maxLen at hb1
      go_enter Try.func17, Try.ntmps17
      go_wp2_with fail
      refine HREF.mono ?_
      rintro e w1 ⟨rfl, hb2⟩
      go_wp2_with fail
      go_ret
      exact ⟨0, _, nl, by rw [HP1.out]; rfl, by rw [HP1.out]; exact HH.out.later hb2, Soft.new hb2 hB⟩
    · have HP1 := hid (fun K => (HPx.out K).trans (if_neg hlen))
      have hlen' : b.length ≤ 2048 := by omega
      have hld : decide ((2048 : Int) < (b.length : Int)) = false := decide_eq_false (by omega)
      have HWH := hid (fun (u : World) (hu : Below w.heap.size w u) => whole28 b a c u hlen' (hb.later hu) ha)
      have hS : (wholeD b).length = 2048 := wholeD_len b
      clear hlen HPx hb
      generalize wholeD b = S at *
      generalize b.length = n at *
      obtain ⟨i0, hi0, hz0, hz1, hz2⟩ := info_parts info67
      go_enter Try.func17, Try.ntmps17
      go_wp2_with fail
      refine HREF.mono ?_
      rintro e w1 ⟨rfl, hb2⟩
      have HW1 := HWH.out w1 hb2
      go_wp2_with fail
      refine HW1.mono ?_
      rintro e w2 ⟨rfl, hw2⟩
      generalize hK : w1.heap.size = K at *
      have hb3 : Below w1.heap.size w1 w2 := by rw [hw2]; exact below_box _ _
      have hKb : w2.heap[K]? = some (.cells (bytesC S) 5 (0, 0)) := by rw [hw2, ← hK]; exact Go.heap_alloc_new _ _
      have hs2 : K < w2.heap.size := (Array.getElem?_eq_some_iff.1 hKb).1
      clear hw2 HW1 HWH
      go_upto_region 7 with fail
      have Bx := below_box w2 (.cells #[.int .i64 k, bval K] 67)
      have TN : (w2.alloc (.cells #[.int .i64 k, bval K] 67)).heap[w2.heap.size]? = some (.cells #[.int .i64 k, bval K] 67 (0, 0)) := Go.heap_alloc_new _ _
      have T0 := cell_of_row _ w2.heap.size 0 _ 67 _ TN
      have T1 := cell_of_row _ w2.heap.size 1 _ 67 _ TN
      have ht8 : w2.heap.size < (w2.alloc (.cells #[.int .i64 k, bval K] 67)).heap.size := by rw [World.size_alloc]; omega
      have h21 := hb2.size
      have h32 := hb3.size
      have R2 := (HH.out.later hb2).later hb3
      have hT9 : w2.heap.size ≠ p := by have := R2.lt; omega
      have hT8 : (Value.slice a7 n7 c7).ownBlock ≠ some w2.heap.size := fun e => by have := (R2.row.lt _ e).2; omega
      have BK : Blk (w2.alloc (.cells #[.int .i64 k, bval K] 67)) Z ⟨K, S⟩ := Blk.later ⟨hKb, hS, by show K ≠ Z; omega⟩ Bx
      have R7 := R2.later Bx
      have HS7 := hid ((Soft.new (hb2.trans (hb3.mono hb2.size)) hB).trans (Soft.new Bx R2.size))
      have hBw := R7.size
      have hnl : nl < maxLen := by have := R7.hnl; unfold maxLen; omega
      have hlen : nl < (g.waits ++ [(k, (⟨K, S⟩ : Pb))]).length := by have := R7.hnl; simp; omega
      simp only [List.getElem?_toArray, List.getElem?_cons_zero, List.getElem?_cons_succ] at T0 T1
      generalize (w2.alloc (.cells #[.int .i64 k, bval K] 67)) = wr at *
      generalize w2.heap.size = t8 at *
      clear TN Bx R2 HREF HH hb2 hb3 hKb h21 h32
      refine region_put3 [(some 22, [], false), (some 23, [], false), (some 24, [(1, 23)], false), (some 25, [(2, 24)], false), (some 26, [(3, 25)], false), (some 27, [], false), (some 28, [(5, 27)], false), (some 29, [(4, 26), (6, 28)], true), (some 30, [(0, 22)], false), (some 31, [(8, 30)], true), (none, [(9, 31), (7, 29)], false)]
        (fun i u => if 1 ≤ i ∧ i ≤ 7 then Below wr.heap.size wr u else wr.grownBy u (Value.slice a7 n7 c7).ownBlock) (fun i u u' => if i = 7 then u.grownBy u' (Value.slice a7 n7 c7).ownBlock else Below u.heap.size u u')
        (fun i Y u => match i with | 0 => Y = ptr p | 1 => Y = ptr p | 2 => Y = ptr p | 3 => Y = .pointer (some ⟨p, 3, none⟩) | 4 => Y = .slice a7 n7 c7 ∧ u.ownsRow B 67 2 (.slice a7 n7 c7) g.waits.length (g.waits.flatMap wcells) | 5 => Y = .agg #[.int .i64 k, bval K] | 6 => ∃ G, Y = .slice (some ⟨G, 0, none⟩) 1 1 ∧ u.heap[G]? = some (.cells #[.int .i64 k, bval K] 67 (0, 0)) | 7 => u.ownsRow B 67 2 Y (g.waits ++ [(k, (⟨K, S⟩ : Pb))]).length ((g.waits ++ [(k, (⟨K, S⟩ : Pb))]).flatMap wcells) ∧ wr.grownBy u (Value.slice a7 n7 c7).ownBlock | 8 => Y = ptr p | 9 => Y = .pointer (some ⟨p, 3, none⟩) | _ => True)
        (by kernel_rfl) 10 (by kernel_rfl) (fun j => ?_) (fun i j u u' hl hi hj hr => ?_) (fun i j v u u' hn h h' hv => ?_) [(some 22, [], false), (some 23, [], false), (some 24, [(1, 23)], false), (some 25, [(2, 24)], false), (some 26, [(3, 25)], false), (some 27, [], false), (some 28, [(5, 27)], false), (some 29, [(4, 26), (6, 28)], true), (some 30, [(0, 22)], false), (some 31, [(8, 30)], true)] rfl _ rfl rfl rfl (by kernel_rfl) ⟨?_, ?_, ?_, ?_, ?_, ?_, ?_, ?_, ?_, ?_, trivial⟩ ?_
      · split
        · exact (Below.refl _ _).drew
        · exact grown_below (Below.refl _ _).drew _
      · by_cases hia : i = 7
        · subst hia
          have hj2 : ¬ (1 ≤ j ∧ j ≤ 7) := by
            intro hle
            match j, hle, hl with
            | 0, hle, _ => omega
            | 1, _, hl => exact absurd hl (by decide)
            | 2, _, hl => exact absurd hl (by decide)
            | 3, _, hl => exact absurd hl (by decide)
            | 4, _, hl => exact absurd hl (by decide)
            | 5, _, hl => exact absurd hl (by decide)
            | 6, _, hl => exact absurd hl (by decide)
            | 7, _, hl => exact absurd hl (by decide)
            | n + 8, hle, _ => omega
          rw [if_neg hj2] at hj ⊢
          rw [if_pos rfl] at hr
          exact hj.trans hr
        · rw [if_neg hia] at hr
          split at hj
          · rename_i hle; rw [if_pos hle]; exact hj.trans (hr.mono hj.size)
          · rename_i hle; rw [if_neg hle]; exact hj.trans (grown_below hr _)
      · by_cases hia : i = 7
        · subst hia
          match j with
          | 0 => exact hv
          | 1 => exact hv
          | 2 => exact hv
          | 3 => exact hv
          | 4 => exact absurd hn (by decide)
          | 5 => exact hv
          | 6 => exact absurd hn (by decide)
          | 7 => exact absurd hn (by decide)
          | 8 => exact hv
          | 9 => exact hv
          | _ + 10 => trivial
        · rw [if_neg hia] at h'
          match j with
          | 0 => exact hv
          | 1 => exact hv
          | 2 => exact hv
          | 3 => exact hv
          | 4 => exact ⟨hv.1, row_later hv.2 h'⟩
          | 5 => exact hv
          | 6 => obtain ⟨G, e1, e2⟩ := hv; exact ⟨G, e1, (h'.block G (Array.getElem?_eq_some_iff.1 e2).1).trans e2⟩
          | 7 => exact ⟨row_later hv.1 h', hv.2.trans (grown_below h' _)⟩
          | 8 => exact hv
          | 9 => exact hv
          | _ + 10 => trivial
      · rintro u hu
        replace hu : wr.grownBy u (Value.slice a7 n7 c7).ownBlock := hu
        exact opYields_val (ptr p) (by kernel_rfl) (by go_simp) ⟨Below.refl _ _, rfl⟩
      · rintro u hu
        replace hu : Below wr.heap.size wr u := hu
        exact opYields_val (ptr p) (by kernel_rfl) (by go_simp) ⟨Below.refl _ _, rfl⟩
      · rintro u hu _ rfl
        replace hu : Below wr.heap.size wr u := hu
        exact opYields_val (ptr p) (by kernel_rfl) (by go_simp) ⟨Below.refl _ _, rfl⟩
      · rintro u hu _ rfl
        replace hu : Below wr.heap.size wr u := hu
        exact opYields_val (.pointer (some ⟨p, 3, none⟩)) (by kernel_rfl) (by go_simp) ⟨Below.refl _ _, rfl⟩
      · rintro u hu _ rfl
        replace hu : Below wr.heap.size wr u := hu
        obtain ⟨c0, c1, c2, c3, c4, c5, c6⟩ := (R7.later hu).cells
        exact opYields_val (.slice a7 n7 c7) (by kernel_rfl) (by go_simp) ⟨Below.refl _ _, rfl, row_later R7.row hu⟩
      · rintro u hu
        replace hu : Below wr.heap.size wr u := hu
        have t0 : u.cell? ⟨t8, 0, none⟩ = some (.int .i64 k) := (hu.cell (p := ⟨t8, 0, none⟩) ht8).trans T0
        have t1 : u.cell? ⟨t8, 1, none⟩ = some (bval K) := (hu.cell (p := ⟨t8, 1, none⟩) ht8).trans T1
        exact opYields_val (.agg #[.int .i64 k, bval K]) (by kernel_rfl) (by go_simp) ⟨Below.refl _ _, rfl⟩
      · rintro u hu _ rfl
        replace hu : Below wr.heap.size wr u := hu
        exact opYields_val (.slice (some ⟨u.heap.size, 0, none⟩) 1 1) (u' := u.alloc (.cells #[.int .i64 k, bval K] 67)) (by kernel_rfl) (by go_simp) ⟨below_box _ _, _, rfl, Go.heap_alloc_new _ _⟩
      · rintro u hu _ ⟨rfl, h4⟩ _ ⟨G, rfl, h6⟩
        replace hu : Below wr.heap.size wr u := hu
        refine opYields_append (by kernel_rfl) (.tmp 26) (.tmp 28) 55 rfl B 67 i0 _ 2 32 Try.underlying55 hi0 hz0 hz1 hz2 rfl (by omega) _ _ _ rfl h4 ⟨G, 0, none⟩ 1 1 (wcells (k, ⟨K, S⟩)) rfl rfl ?_ ?_ (by unfold maxLen; omega) (by omega) (by have := hu.size; omega) ?_
        · intro j u1 hu1
          rw [add_plain, Nat.zero_add, cell_of_row u G j _ 67 _ h6, List.getElem?_toArray]
          exact hu1
        · intro u1 hu1
          simp only [wcells, List.mem_cons, List.not_mem_nil, or_false] at hu1
          rcases hu1 with rfl | rfl <;> rfl
        · intro v' w' h2 h3
          refine ⟨h3, ?_, (grown_below hu _).trans h3⟩
          rw [List.length_append, List.flatMap_append, List.flatMap_singleton]
          exact h2
      · rintro u hu _ rfl
        replace hu : wr.grownBy u (Value.slice a7 n7 c7).ownBlock := hu
        exact opYields_val (ptr p) (by kernel_rfl) (by go_simp) ⟨Below.refl _ _, rfl⟩
      · rintro u hu _ rfl
        replace hu : wr.grownBy u (Value.slice a7 n7 c7).ownBlock := hu
        exact opYields_val (.pointer (some ⟨p, 3, none⟩)) (by kernel_rfl) (by go_simp) ⟨Below.refl _ _, rfl⟩
      · intro u hu x0 x1 x2 x3 x4 x5 x6 x7 e7 x8 x9 e9
        change opYields Try.prog _ _ _ u _
        simp only [Act.put, List.setIfInBounds_toArray, List.set_cons_zero, List.set_cons_succ]
        obtain rfl : x9 = .pointer (some ⟨p, 3, none⟩) := e9
        have e7b : u.ownsRow B 67 2 x7 (g.waits ++ [(k, (⟨K, S⟩ : Pb))]).length ((g.waits ++ [(k, (⟨K, S⟩ : Pb))]).flatMap wcells) ∧ wr.grownBy u (Value.slice a7 n7 c7).ownBlock := e7
        have h7 := e7b.1
        have g7 := e7b.2
        clear e7 e7b
        obtain ⟨xa, xn, xc, rfl⟩ := row_slice h7
        have hbx : u.heap[p]? = some (.cells (pbox g.n mk ml (.slice a7 n7 c7) g.fuse g.up g.falls) 57 (0, 0)) := (g7.block p R7.lt (fun e => row_off R7.row R7.box (by decide) e.symm)).trans R7.box
        have hx3 : (u.setCell ⟨p, 3, none⟩ (.slice xa xn xc)).heap[p]? = some (.cells (pbox g.n mk ml (.slice xa xn xc) g.fuse g.up g.falls) 57 (0, 0)) := by rw [heap_setCell_same _ p 3 _ 57 _ hbx]; rfl
        obtain ⟨R8, s8⟩ := R7.push BK hkw h7 g7 (grown_set u p 3 _) hx3
        have T1' : (u.setCell ⟨p, 3, none⟩ (.slice xa xn xc)).cell? ⟨t8, 1, none⟩ = some (bval K) := by
          rw [← T1]
          refine World.cell?_of_block (a := ⟨t8, 1, none⟩) ?_
          have h1 := g7.block t8 ht8 (fun e => hT8 e.symm)
          rw [Below.heap_setCell _ _ _ _ (show t8 ≠ p from hT9)]
          exact h1
        have c3 := cell_of_row u p 3 _ 57 _ hbx
        have f3 := frozen_of_row u p 3 _ 57 hbx
        have HR := hid R8
        have HS := hid s8
        have HT := hid T1'
        clear hbx hx3 R8 s8 T1'
        refine opYields_put (u' := u.setCell ⟨p, 3, none⟩ (.slice xa xn xc)) (by kernel_rfl) (by go_simp) ?_
        clear c3 f3
        generalize u.setCell ⟨p, 3, none⟩ (.slice xa xn xc) = w8 at *
        have R8 := HR.out
        have S8 := HS.out
        have T8 := HT.out
        have BK8 := BK.soft S8
        clear HR HS HT R7 T0 T1 g7 h7
        go_upto_region 8 with fail
        refine region_new [(some 32, [], true), (some 33, [(0, 32)], true), (some 34, [(1, 33)], true), (some 35, [(2, 34)], true), (some 36, [], true), (some 37, [], true), (some 38, [(5, 37)], true), (none, [(3, 35), (4, 36), (6, 38)], true)]
          (fun i Y u => match i with | 0 => Y = ptr p | 1 => Y = ptr p | 2 => Y = .pointer (some ⟨p, 2, none⟩) | 3 => Y = .map (some ml) | 4 => Y = .int .i64 k | 5 => Y = .pointer (some ⟨t8, 1, none⟩) | 6 => Y = bval K | _ => True)
          (fun j v u u' hb hv => ?_) (by kernel_rfl) 7 (by kernel_rfl) [(some 32, [], true), (some 33, [(0, 32)], true), (some 34, [(1, 33)], true), (some 35, [(2, 34)], true), (some 36, [], true), (some 37, [], true), (some 38, [(5, 37)], true)] rfl _ rfl rfl rfl (by kernel_rfl) ⟨?_, ?_, ?_, ?_, ?_, ?_, ?_, trivial⟩ ?_
        · match j with
          | 0 => exact hv
          | 1 => exact hv
          | 2 => exact hv
          | 3 => exact hv
          | 4 => exact hv
          | 5 => exact hv
          | 6 => exact hv
          | _ + 7 => trivial
        · rintro u hu
          replace hu : Below w8.heap.size w8 u := hu
          exact opYields_val (ptr p) (by kernel_rfl) (by go_simp) ⟨Below.refl _ _, rfl⟩
        · rintro u hu _ rfl
          replace hu : Below w8.heap.size w8 u := hu
          exact opYields_val (ptr p) (by kernel_rfl) (by go_simp) ⟨Below.refl _ _, rfl⟩
        · rintro u hu _ rfl
          replace hu : Below w8.heap.size w8 u := hu
          exact opYields_val (.pointer (some ⟨p, 2, none⟩)) (by kernel_rfl) (by go_simp) ⟨Below.refl _ _, rfl⟩
        · rintro u hu _ rfl
          replace hu : Below w8.heap.size w8 u := hu
          obtain ⟨c0, c1, c2, c3, c4, c5, c6⟩ := (R8.later hu).cells
          exact opYields_val (.map (some ml)) (by kernel_rfl) (by go_simp) ⟨Below.refl _ _, rfl⟩
        · rintro u hu
          replace hu : Below w8.heap.size w8 u := hu
          exact opYields_val (.int .i64 k) (by kernel_rfl) (by go_simp) ⟨Below.refl _ _, rfl⟩
        · rintro u hu
          replace hu : Below w8.heap.size w8 u := hu
          exact opYields_val (.pointer (some ⟨t8, 1, none⟩)) (by kernel_rfl) (by go_simp) ⟨Below.refl _ _, rfl⟩
        · rintro u hu _ rfl
          replace hu : Below w8.heap.size w8 u := hu
          have t1 : u.cell? ⟨t8, 1, none⟩ = some (bval K) := (hu.cell (p := ⟨t8, 1, none⟩) (World.block_lt_of_cell? w8 _ T8)).trans T8
          exact opYields_val (bval K) (by kernel_rfl) (by go_simp) ⟨Below.refl _ _, rfl⟩
        · intro u hu x0 e0 x1 e1 x2 e2 x3 e3 x4 e4 x5 e5 x6 e6
          change opYields Try.prog _ _ _ u _
          simp only [Act.put, List.setIfInBounds_toArray, List.set_cons_zero, List.set_cons_succ]
          obtain rfl : x0 = ptr p := e0
          obtain rfl : x1 = ptr p := e1
          obtain rfl : x2 = .pointer (some ⟨p, 2, none⟩) := e2
          obtain rfl : x3 = .map (some ml) := e3
          obtain rfl : x4 = .int .i64 k := e4
          obtain rfl : x5 = .pointer (some ⟨t8, 1, none⟩) := e5
          obtain rfl : x6 = bval K := e6
          replace hu : Below w8.heap.size w8 u := hu
          have HU := Raw.storeL (R8.later hu) ⟨K, S⟩ (BK8.later hu) hlen hnl k hkw
          refine opYields_map (mv := .map (some ml)) (kv := .int .i64 k) (vv := bval K) (.tmp 35) (.tmp 36) (.tmp 38) (by kernel_rfl) rfl (by kernel_rfl) (by kernel_rfl) (by kernel_rfl) HU ?_
          rintro w9 ⟨R9, s9⟩
          have HS9 := hid ((Soft.new hu R8.size).trans s9)
          have hf9 : 0 ≤ g.falls ∧ g.falls < 1000000 := hf
          have HBU := burn30 R9 hf9
          clear R8 R9 s9 BK8 BK T8
          go_wp2_with fail
          refine HBU.mono ?_
          rintro e w10 ⟨rfl, r10, s10⟩
          go_wp2_with fail
          go_ret
          exact ⟨K, _, _, by rw [HP1.out]; rfl, by rw [HP1.out]; exact r10, HS7.out.trans (S8.trans (HS9.out.trans s10))⟩
end Go.Proofs.Ytklfpoojpfomeaa.Key
