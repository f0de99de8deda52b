/-
  Contracts of the program's disk: Up, Waits, Falls, Blocks, Down, refuses, burn, forget, Fuse, New, whole; and at a nil disk.
-/
import Derived.Test.YtklfpoojpfomeaaPa
import Derived.BigQuiet
namespace Go.Proofs.Ytklfpoojpfomeaa.Key
open Go.RowKit
set_option linter.unusedVariables false
set_option linter.unusedSimpArgs false

abbrev ptr (p : Nat) : Value := .pointer (some ⟨p, 0, none⟩)
/-- it goes down -/
def fallP (g : Pg) : Pg := if g.up = true then { g with up := false, falls := g.falls + 1 } else g
/-- a write against the fuse -/
def burnP (g : Pg) : Int × Pg := if g.fuse = 0 then (17, fallP g) else if 0 < g.fuse then (0, { g with fuse := g.fuse - 1 }) else (0, g)
/-- the error of asking for that block -/
def refP (g : Pg) (k : Int) : Int := if g.up = true then (if k < 0 ∨ g.n ≤ k then 6 else 0) else 17


theorem up11 {w : World} {B Z p : Nat} {g : Pg} {mk ml : Nat} {wv : Value} {nk nl : Nat} (h : Raw w B Z p g mk ml wv nk nl) : Calls Try.prog 11 #[ptr p] w fun x w' => x = .returned (.bool g.up) ∧ Below w.heap.size w w' := by
  obtain ⟨c0, c1, c2, c3, c4, c5, c6⟩ := h.cells
  go_enter Try.func11, Try.ntmps11
  go_wp2_with fail
  go_ret
  exact ⟨rfl, Below.refl _ _⟩
theorem waits12 {w : World} {B Z p : Nat} {g : Pg} {mk ml : Nat} {wv : Value} {nk nl : Nat} (h : Raw w B Z p g mk ml wv nk nl) : Calls Try.prog 12 #[ptr p] w fun x w' => x = .returned (.int .i64 g.waits.length) ∧ Below w.heap.size w w' := by
  obtain ⟨c0, c1, c2, c3, c4, c5, c6⟩ := h.cells
  obtain ⟨a, c, e⟩ : ∃ a c, wv = .slice a g.waits.length c := by
    rcases h.row.2 with ⟨e, h0⟩ | ⟨k, cap, cu, e, _⟩
    · exact ⟨none, 0, by rw [e, h0]⟩
    · exact ⟨_, _, e⟩
  subst e
  clear h
  generalize g.waits.length = n at *
  go_enter Try.func12, Try.ntmps12
  go_wp2_with fail
  go_ret
  exact ⟨rfl, Below.refl _ _⟩
theorem falls13 {w : World} {B Z p : Nat} {g : Pg} {mk ml : Nat} {wv : Value} {nk nl : Nat} (h : Raw w B Z p g mk ml wv nk nl) : Calls Try.prog 13 #[ptr p] w fun x w' => x = .returned (.int .i64 g.falls) ∧ Below w.heap.size w w' := by
  obtain ⟨c0, c1, c2, c3, c4, c5, c6⟩ := h.cells
  go_enter Try.func13, Try.ntmps13
  go_wp2_with fail
  go_ret
  exact ⟨rfl, Below.refl _ _⟩
theorem blocks14 {w : World} {B Z p : Nat} {g : Pg} {mk ml : Nat} {wv : Value} {nk nl : Nat} (h : Raw w B Z p g mk ml wv nk nl) : Calls Try.prog 14 #[ptr p] w fun x w' => x = .returned (.int .i64 g.n) ∧ Below w.heap.size w w' := by
  obtain ⟨c0, c1, c2, c3, c4, c5, c6⟩ := h.cells
  go_enter Try.func14, Try.ntmps14
  go_wp2_with fail
  go_ret
  exact ⟨rfl, Below.refl _ _⟩
set_option maxHeartbeats 1000000 in
theorem refuses27 {w : World} {B Z p : Nat} {g : Pg} {mk ml : Nat} {wv : Value} {nk nl : Nat} (h : Raw w B Z p g mk ml wv nk nl) (k : Int) : Calls Try.prog 27 #[ptr p, .int .i64 k] w fun x w' => x = .returned (.int .i64 (refP g k)) ∧ Below w.heap.size w w' := by
  obtain ⟨c0, c1, c2, c3, c4, c5, c6⟩ := h.cells
  have HU := up11 h
  clear h
  obtain ⟨n, kp, ls, wt, fu, up, fl⟩ := g
  dsimp only [refP] at *
  generalize hR : (if up = true then (if k < 0 ∨ n ≤ k then (6 : Int) else 0) else 17) = R
  have HR := hid hR
  clear hR
  cases up
  · have HR1 := hid (HR.out.symm.trans (if_neg (by decide)))
    go_enter Try.func27, Try.ntmps27
    go_wp2_with fail
    refine HU.mono ?_
    rintro e w1 ⟨rfl, hb⟩
    go_wp2_with fail
    go_ret
    exact ⟨by rw [HR1.out]; rfl, hb⟩
  · have HR0 := hid (HR.out.symm.trans (if_pos rfl))
    by_cases h0 : k < 0
    · have HR1 := hid (HR0.out.trans (if_pos (.inl h0)))
      have hd : decide (k < 0) = true := decide_eq_true h0
      go_enter Try.func27, Try.ntmps27
      go_wp2_with fail
      refine HU.mono ?_
      rintro e w1 ⟨rfl, hb⟩
      go_wp2_with fail
      go_ret
      exact ⟨by rw [HR1.out]; rfl, hb⟩
    · have hd : decide (k < 0) = false := decide_eq_false h0
      by_cases h1 : n ≤ k
      · have HR1 := hid (HR0.out.trans (if_pos (.inr h1)))
        have hd1 : decide (n ≤ k) = true := decide_eq_true h1
        have hd2 : decide (k < n) = false := decide_eq_false (by omega)
        go_enter Try.func27, Try.ntmps27
        go_wp2_with fail
        refine HU.mono ?_
        rintro e w1 ⟨rfl, hb⟩
        have hlt : p < w.heap.size := World.block_lt_of_cell? w _ c0
        have c0' := (hb.cell (p := ⟨p, 0, none⟩) hlt).trans c0
        go_wp2_with fail
        go_ret
        exact ⟨by rw [HR1.out]; rfl, hb⟩
      · have HR1 := hid (HR0.out.trans (if_neg (by omega)))
        have hd1 : decide (n ≤ k) = false := decide_eq_false h1
        have hd2 : decide (k < n) = true := decide_eq_true (by omega)
        go_enter Try.func27, Try.ntmps27
        go_wp2_with fail
        refine HU.mono ?_
        rintro e w1 ⟨rfl, hb⟩
        have hlt : p < w.heap.size := World.block_lt_of_cell? w _ c0
        have c0' := (hb.cell (p := ⟨p, 0, none⟩) hlt).trans c0
        go_wp2_with fail
        go_ret
        exact ⟨by rw [HR1.out]; rfl, hb⟩
set_option maxHeartbeats 1000000 in
theorem down20 {w : World} {B Z p : Nat} {g : Pg} {mk ml : Nat} {wv : Value} {nk nl : Nat} (h : Raw w B Z p g mk ml wv nk nl) (hf : 0 ≤ g.falls ∧ g.falls < 1000000) : Calls Try.prog 20 #[ptr p] w fun x w' => x = .returned (.tuple #[]) ∧ Raw w' B Z p (fallP g) mk ml wv nk nl ∧ Soft B w w' := by
  have HU := up11 h
  obtain ⟨n, kp, ls, wt, fu, up, fl⟩ := g
  dsimp only [fallP] at *
  have hB := h.size
  have HR := hid h
  clear h
  cases up
  · go_enter Try.func20, Try.ntmps20
    go_wp2_with fail
    refine HU.mono ?_
    rintro e w1 ⟨rfl, hb⟩
    go_wp2_with fail
    go_end0
    exact ⟨rfl, HR.out.later hb, Soft.new hb hB⟩
  · have hfw : IntKind.i64.wrap (fl + 1) = fl + 1 := by rw [IntKind.wrap_i64]; omega
    go_enter Try.func20, Try.ntmps20
    go_wp2_with fail
    refine HU.mono ?_
    rintro e w1 ⟨rfl, hb⟩
    have R1 := HR.out.later hb
    obtain ⟨r2, s2⟩ := R1.setUp false
    obtain ⟨r3, s3⟩ := r2.setFalls (fl + 1)
    have RR := hid (And.intro r3 ((Soft.new hb hB).trans (s2.trans s3)))
    obtain ⟨c0, c1, c2, c3, c4, c5, c6⟩ := R1.cells
    have f5 := R1.free 5
    have f6 := R1.free 6
    clear R1 r2 r3 s2 s3 HR HU
    go_wp2_with fail
    go_end0
    exact ⟨rfl, RR.out⟩
set_option maxHeartbeats 1000000 in
theorem burn30 {w : World} {B Z p : Nat} {g : Pg} {mk ml : Nat} {wv : Value} {nk nl : Nat} (h : Raw w B Z p g mk ml wv nk nl) (hf : 0 ≤ g.falls ∧ g.falls < 1000000) : Calls Try.prog 30 #[ptr p] w fun x w' => x = .returned (.int .i64 (burnP g).1) ∧ Raw w' B Z p (burnP g).2 mk ml wv nk nl ∧ Soft B w w' := by
  have HD := down20 h hf
  have hff := h.ff
  have hB := h.size
  have HR := hid h
  obtain ⟨c0, c1, c2, c3, c4, c5, c6⟩ := h.cells
  have f4 := h.free 4
  have hSet := hid (h.setFuse (g.fuse - 1))
  clear h
  have HP := hid (show burnP g = if g.fuse = 0 then (17, fallP g) else if 0 < g.fuse then (0, { g with fuse := g.fuse - 1 }) else (0, g) from rfl)
  generalize burnP g = PG at *
  by_cases h0 : g.fuse = 0
  · have HP1 := hid (HP.out.trans (if_pos h0))
    clear HP hSet
    rw [h0] at c4
    go_enter Try.func30, Try.ntmps30
    go_wp2_with fail
    refine HD.mono ?_
    rintro e w1 ⟨rfl, r1, s1⟩
    go_wp2_with fail
    go_ret
    exact ⟨by rw [HP1.out]; rfl, by rw [HP1.out]; exact r1, s1⟩
  · have HP0 := hid (HP.out.trans (if_neg h0))
    have hd0 : decide (g.fuse = 0) = false := decide_eq_false h0
    clear HP HD
    by_cases h1 : 0 < g.fuse
    · have HP1 := hid (HP0.out.trans (if_pos h1))
      have hS := hid (hSet.out (by omega))
      have hfw : IntKind.i64.wrap (g.fuse - 1) = g.fuse - 1 := by rw [IntKind.wrap_i64]; omega
      have hd1 : decide (0 < g.fuse) = true := decide_eq_true h1
      have hd2 : decide (g.fuse > 0) = true := decide_eq_true h1
      clear hSet HP0
      obtain ⟨n, kp, ls, wt, fu, up, fl⟩ := g
      dsimp only at *
      go_enter Try.func30, Try.ntmps30
      go_wp2_with fail
      go_ret
      exact ⟨by rw [HP1.out]; rfl, by rw [HP1.out]; exact hS.out.1, hS.out.2⟩
    · have HP1 := hid (HP0.out.trans (if_neg h1))
      have hd1 : decide (0 < g.fuse) = false := decide_eq_false h1
      clear hSet HP0
      obtain ⟨n, kp, ls, wt, fu, up, fl⟩ := g
      dsimp only at *
      go_enter Try.func30, Try.ntmps30
      go_wp2_with fail
      go_ret
      exact ⟨by rw [HP1.out]; rfl, by rw [HP1.out]; exact HR.out, Soft.refl _ _⟩
/-- what was last is kept; nothing waits any more -/
def forgetP (g : Pg) : Pg := { g with last := fun _ => none, waits := [] }
theorem forget31 {w : World} {B Z p : Nat} {g : Pg} {mk ml : Nat} {wv : Value} {nk nl : Nat} (h : Raw w B Z p g mk ml wv nk nl) : Calls Try.prog 31 #[ptr p] w fun x w' => x = .returned (.tuple #[]) ∧ (∃ ml', Raw w' B Z p (forgetP g) mk ml' (.slice none 0 0) nk 0) ∧ Soft B w w' := by
  obtain ⟨c0, c1, c2, c3, c4, c5, c6⟩ := h.cells
  have f2 := h.free 2
  have f3 := h.free 3
  have hx1 : (w.setCell ⟨p, 2, none⟩ (.map (some w.heap.size))).heap[p]? = some (.cells (pbox g.n mk w.heap.size wv g.fuse g.up g.falls) 57 (0, 0)) := by rw [heap_setCell_same _ p 2 _ 57 _ h.box]; rfl
  have hx2 : ((w.setCell ⟨p, 2, none⟩ (.map (some w.heap.size))).setCell ⟨p, 3, none⟩ (.slice none 0 0)).heap[p]? = some (.cells (pbox g.n mk w.heap.size (.slice none 0 0) g.fuse g.up g.falls) 57 (0, 0)) := by rw [heap_setCell_same _ p 3 _ 57 _ hx1]; rfl
  have hg2 : w.grownBy ((w.setCell ⟨p, 2, none⟩ (.map (some w.heap.size))).setCell ⟨p, 3, none⟩ (.slice none 0 0)) (some p) := (grown_set _ p 2 _).trans (grown_set _ p 3 _)
  have hsz : ((w.setCell ⟨p, 2, none⟩ (.map (some w.heap.size))).setCell ⟨p, 3, none⟩ (.slice none 0 0)).heap.size = w.heap.size := by simp
  have b4 := below_box ((w.setCell ⟨p, 2, none⟩ (.map (some w.heap.size))).setCell ⟨p, 3, none⟩ (.slice none 0 0)) (.map #[] 0)
  have v4 := VMap.made ((w.setCell ⟨p, 2, none⟩ (.map (some w.heap.size))).setCell ⟨p, 3, none⟩ (.slice none 0 0))
  rw [hsz] at v4
  have hlt := h.lt
  have HH := hid (h.forget (hg2.trans (grown_below b4 _)) ((b4.block p (by rw [hsz]; exact hlt)).trans hx2) v4 (Nat.le_refl _))
  clear hx1 hx2 hg2 hsz b4 v4 h
  have hmm := @run_makeMap Try.prog
  go_enter Try.func31, Try.ntmps31
  go_wp2_with fail
  go_end0
  exact ⟨rfl, ⟨_, HH.out.1⟩, HH.out.2⟩
theorem fuse19 {w : World} {B Z p : Nat} {g : Pg} {mk ml : Nat} {wv : Value} {nk nl : Nat} (h : Raw w B Z p g mk ml wv nk nl) (n : Int) (hn : (Lit.int .i64 n).wf = true) : Calls Try.prog 19 #[ptr p, .int .i64 n] w fun x w' => x = .returned (.tuple #[]) ∧ Raw w' B Z p { g with fuse := max n 0 } mk ml wv nk nl ∧ Soft B w w' := by
  have hn2 : n ≤ 9223372036854775807 := by unfold Lit.wf at hn; simp only [Bool.and_eq_true, decide_eq_true_eq] at hn; simp [IntKind.max, IntKind.bits, IntKind.signed] at hn; omega
  obtain ⟨c0, c1, c2, c3, c4, c5, c6⟩ := h.cells
  have f4 := h.free 4
  have HH := hid (h.setFuse (max n 0) (by omega))
  clear h
  go_enter Try.func19, Try.ntmps19
  go_wp2_with fail
  go_end0
  exact ⟨rfl, HH.out.1, HH.out.2⟩
/-- a new disk -/
theorem new7 (n : Int) (w : World) : Calls Try.prog 7 #[.int .i64 n] w fun x w' => (if n < 1 ∨ 65536 < n then x = .returned (.tuple #[.pointer none, .int .i64 1]) else ∃ p mk ml, x = .returned (.tuple #[ptr p, .int .i64 0]) ∧ ∀ Z, Raw w' w.heap.size Z p ⟨n, fun _ => none, fun _ => none, [], -1, true, 0⟩ mk ml (.slice none 0 0) 0 0) ∧ Below w.heap.size w w' := by
  by_cases hr : n < 1 ∨ 65536 < n
  · simp only [if_pos hr]
    by_cases h0 : n < 1
    · have hd : decide (n < 1) = true := decide_eq_true h0
      go_enter Try.func7, Try.ntmps7
      go_wp2_with fail
      exact bodyPost_ret (v := .tuple #[.pointer none, .int .i64 1]) (by simp [results, Try.results7, go_sem]) rfl ⟨rfl, Below.refl _ _⟩
    · have hd : decide (n < 1) = false := decide_eq_false h0
      have hd1 : decide (65536 < n) = true := decide_eq_true (by omega)
      go_enter Try.func7, Try.ntmps7
      go_wp2_with fail
      exact bodyPost_ret (v := .tuple #[.pointer none, .int .i64 1]) (by simp [results, Try.results7, go_sem]) rfl ⟨rfl, Below.refl _ _⟩
  · simp only [if_neg hr]
    have h0 : ¬ n < 1 := by omega
    have hd : decide (n < 1) = false := decide_eq_false h0
    have hd1 : decide (65536 < n) = false := decide_eq_false (by omega)
    have m1 := VMap.made w
    have b1 := below_box w (.map #[] 0)
    have m2 := VMap.made (w.alloc (.map #[] 0))
    have b2 := below_box (w.alloc (.map #[] 0)) (.map #[] 0)
    have b3 := below_box ((w.alloc (.map #[] 0)).alloc (.map #[] 0)) (.cells (pbox n w.heap.size (w.heap.size + 1) (.slice none 0 0) (-1) true 0) 57)
    have s1 : (w.alloc (.map #[] 0)).heap.size = w.heap.size + 1 := World.size_alloc _ _
    have s2 : ((w.alloc (.map #[] 0)).alloc (.map #[] 0)).heap.size = w.heap.size + 2 := by rw [World.size_alloc, s1]
    have bb := b1.trans ((b2.trans (b3.mono (by rw [World.size_alloc]; omega))).mono (by rw [World.size_alloc]; omega))
    have hbx : (((w.alloc (.map #[] 0)).alloc (.map #[] 0)).alloc (.cells (pbox n w.heap.size (w.heap.size + 1) (.slice none 0 0) (-1) true 0) 57)).heap[w.heap.size + 2]? = some (.cells (pbox n w.heap.size (w.heap.size + 1) (.slice none 0 0) (-1) true 0) 57 (0, 0)) := by
      rw [← s2]; exact Go.heap_alloc_new _ _
    have RR : Hid (∀ Z, Raw (((w.alloc (.map #[] 0)).alloc (.map #[] 0)).alloc (.cells (pbox n w.heap.size (w.heap.size + 1) (.slice none 0 0) (-1) true 0) 57)) w.heap.size Z (w.heap.size + 2) ⟨n, fun _ => none, fun _ => none, [], -1, true, 0⟩ w.heap.size (w.heap.size + 1) (.slice none 0 0) 0 0) := hid fun Z => by
      rw [s1] at m2
      exact ⟨hbx, by omega, by omega, by omega, by omega, (m1.later b2).later b3, m2.later b3, fun z q hq => absurd hq (by simp), fun z q hq => absurd hq (by simp), World.ownsRow_nil _ _ _ _, fun x hx => absurd hx (by simp), Nat.le_refl _, ⟨Int.le_refl _, by show (-1 : Int) ≤ _; omega⟩, fun x hx => absurd hx (by simp)⟩
    clear m1 m2 b1 b2 b3 hbx
    have hmm := @run_makeMap Try.prog
    go_enter Try.func7, Try.ntmps7
    go_wp2_with fail
    refine bodyPost_ret (v := .tuple #[ptr (w.heap.size + 2), .int .i64 0]) (by simp [results, Try.results7, go_sem]) rfl ?_
    exact ⟨⟨_, rfl, _, _, RR.out⟩, bb⟩
set_option maxRecDepth 100000 in
set_option maxHeartbeats 1000000 in
theorem whole28 (b : List UInt8) (a : Option Addr) (c : Nat) (w : World) (hs : b.length ≤ 2048) (hb : Bytes w a (nums (str b))) (ha : a = none → b.length = 0 ∧ c = 0) :
    Calls Try.prog 28 #[.slice a b.length c] w fun x w' => x = .returned (bval w.heap.size) ∧ w' = w.alloc (.cells (bytesC (wholeD b)) 5) := by
  obtain ⟨i, hi, hz0, hz1, hz2⟩ := info_parts info5
  obtain ⟨C, hC⟩ : ∃ C, madeCells #[Value.int .u8 0] 2048 = C := ⟨_, rfl⟩
  have hCl : C.toList = List.replicate 2048 (.int .u8 0) := by rw [← hC]; exact toList_madeCells_one _ _
  have hCs : C.size = 2048 := by rw [← hC]; exact size_madeCells _ _
  have hmk : ∀ u : World, (Instr.makeSlice 34 (.int .i64 2048) (.int .i64 2048)).run Try.prog u = .ok (.slice (some ⟨u.heap.size, 0, none⟩) 2048 2048) (u.alloc (.cells C 5)) := fun u => by
    have := run_make (P := Try.prog) u 34 5 i _ Try.underlying34 hi hz0 .i64 .i64 2048 2048 (by omega) (by omega) (by rw [hz2]; omega) (by omega)
    rw [hz1] at this
    rw [← hC]
    exact this
  have hcp : ∀ ty, (Builtin.copy_ #[34, 34] ty #[.slice (some ⟨w.heap.size, 0, none⟩) 2048 2048, .slice a b.length c]).run Try.prog (w.alloc (.cells C 5)) = .ok (goInt b.length) (w.alloc (.cells (bytesC (wholeD b)) 5)) := fun ty => by
    cases a with
    | none =>
      obtain ⟨h0, rfl⟩ := ha rfl
      obtain rfl : b = [] := List.eq_nil_of_length_eq_zero h0
      have := run_copy_nil (P := Try.prog) (w.alloc (.cells C 5)) 34 34 ty 5 ⟨w.heap.size, 0, none⟩ 2048 2048 Try.underlying34 (by rw [hi]; rfl)
      rw [List.length_nil, this]
      have hw : bytesC (wholeD []) = C := by
        apply Array.toList_inj.1
        rw [hCl]
        unfold bytesC wholeD
        rw [List.nil_append, List.take_replicate, Nat.min_self, nums, str_data, List.map_replicate, List.map_replicate]
        rfl
      rw [hw]
      rfl
    | some ad =>
      have hlen : ((nums (str b)).map (Value.int .u8)).length = b.length := by rw [List.length_map, nums_length, str_size]
      have hsrc := (hb.later (below_box w (.cells C 5))).news
      have := run_copy_row (P := Try.prog) (w.alloc (.cells C 5)) 34 34 ty 5 w.heap.size 0 2048 2048 ad b.length c C 5 ((nums (str b)).map (Value.int .u8)) Try.underlying34 (by rw [hi]; exact congrArg some hz1) (Go.heap_alloc_new _ _) (by rw [hlen]; exact (Nat.min_eq_left hs).symm) hsrc (by rw [hlen, hCs]; omega) (by intro v hv; obtain ⟨x, _, rfl⟩ := List.mem_map.1 hv; rfl)
      rw [this, World.setRow_alloc_new, hlen]
      have e := whole_cells b b.length rfl hs C hCl
      have e2 : (nums (str b)).map (Value.int .u8) = Lib.byteCells b := by rw [nums, str_data, List.map_map]; rfl
      rw [e2, e]
      rfl
  clear hC hCl hCs hb
  generalize bytesC (wholeD b) = R at *
  go_enter Try.func28, Try.ntmps28
  go_wp2_with (at_builtin; refine wpList_copy_runI _ rfl _ _ 34 34 rfl _ _ rfl rfl (hcp _) ?_)
  go_ret
  exact ⟨rfl, rfl⟩
end Go.Proofs.Ytklfpoojpfomeaa.Key
