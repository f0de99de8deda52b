/-
  Contracts of the program's disk, in the document's form.
-/
import Derived.Test.YtklfpoojpfomeaaPf
import Derived.Test.YtklfpoojpfomeaaPn
namespace Go.Proofs.Ytklfpoojpfomeaa.Key
open Go.RowKit Go.Maps
set_option linter.unusedVariables false
set_option linter.unusedSimpArgs false
def wrP (x : Int × Pb) : Wr := ⟨x.1, x.2.b⟩
/-- the program's disk is the document's -/
structure Rel (g : Pg) (d : Dk) : Prop where
  n : g.n = d.n
  fuse : g.fuse = d.fuse
  falls : g.falls = d.falls
  up : g.up = !d.down
  waits : g.waits.map wrP = d.waits
  kept : ∀ z, thereB (g.kept z) = lastD d.kept z (wholeD [])
  find : ∀ z, thereB (findP g z) = lastD d.waits z (lastD d.kept z (wholeD []))
/-- it lies in memory -/
def Dsk (w : World) (B Z p : Nat) (d : Dk) (m : Nat) : Prop :=
  ∃ g mk ml wv nk nl, Raw w B Z p g mk ml wv nk nl ∧ Rel g d ∧ nk + d.waits.length ≤ m ∧ 0 ≤ d.falls ∧ d.falls ≤ m
theorem Dsk.later {w w' : World} {B Z p : Nat} {d : Dk} {m : Nat} (h : Dsk w B Z p d m) (hb : Below w.heap.size w w') : Dsk w' B Z p d m := by
  obtain ⟨g, mk, ml, wv, nk, nl, h1, h2⟩ := h
  exact ⟨g, mk, ml, wv, nk, nl, h1.later hb, h2⟩
theorem Dsk.mono {w : World} {B Z p : Nat} {d : Dk} {m : Nat} {m' : Nat} (h : Dsk w B Z p d m) (hm : m ≤ m') : Dsk w B Z p d m' := by
  obtain ⟨g, mk, ml, wv, nk, nl, h1, h2, h3, h4, h5⟩ := h
  exact ⟨g, mk, ml, wv, nk, nl, h1, h2, by omega, h4, by omega⟩
theorem Dsk.size {w : World} {B Z p : Nat} {d : Dk} {m : Nat} (h : Dsk w B Z p d m) : B ≤ w.heap.size := by
  obtain ⟨g, mk, ml, wv, nk, nl, h1, _⟩ := h
  exact h1.size
theorem Dsk.grown {w w' : World} {B Z p : Nat} {d : Dk} {m : Nat} {row : Option Nat} (h : Dsk w B Z p d m) (hg : w.grownBy w' row) (hr : ∀ j, row = some j → j = Z ∧ ∃ cs, w.heap[j]? = some (.cells cs 5 (0, 0))) : Dsk w' B Z p d m := by
  obtain ⟨g, mk, ml, wv, nk, nl, h1, h2⟩ := h
  exact ⟨g, mk, ml, wv, nk, nl, h1.grown hg hr, h2⟩
theorem Dsk.other {w : World} {B Z p : Nat} {d : Dk} {m : Nat} {Z' : Nat} (h : Dsk w B Z p d m) (hz : w.heap.size ≤ Z') : Dsk w B Z' p d m := by
  obtain ⟨g, mk, ml, wv, nk, nl, h1, h2⟩ := h
  exact ⟨g, mk, ml, wv, nk, nl, h1.other hz, h2⟩
theorem rel_len {d : Dk} {g : Pg} (h : Rel g d) : g.waits.length = d.waits.length := by rw [← h.waits, List.length_map]
theorem rel_fall {d : Dk} {g : Pg} (h : Rel g d) : Rel (fallP g) (fallD d) := by
  unfold fallP fallD
  have hu := h.up
  cases hd : d.down
  · rw [hd] at hu
    rw [if_pos (by simpa using hu), if_neg (by simp)]
    exact ⟨h.n, h.fuse, by show g.falls + 1 = d.falls + 1; rw [h.falls], rfl, h.waits, h.kept, h.find⟩
  · rw [hd] at hu
    rw [if_neg (by simp [hu]), if_pos (by simp)]
    exact h
theorem rel_push {d : Dk} {g : Pg} (h : Rel g d) (k : Int) (K : Nat) (b : List UInt8) : Rel { g with waits := g.waits ++ [(k, ⟨K, wholeD b⟩)], last := putV g.last k ⟨K, wholeD b⟩ } (waitD d k b) := by
  refine ⟨h.n, h.fuse, h.falls, h.up, ?_, h.kept, fun z => ?_⟩
  · show (g.waits ++ [(k, (⟨K, wholeD b⟩ : Pb))]).map wrP = d.waits ++ [⟨k, wholeD b⟩]
    rw [List.map_append, h.waits]
    rfl
  · show thereB (findP { g with waits := g.waits ++ [(k, ⟨K, wholeD b⟩)], last := putV g.last k ⟨K, wholeD b⟩ } z) = lastD (d.waits ++ [⟨k, wholeD b⟩]) z _
    rw [lastD_snoc]
    show _ = if k = z then wholeD b else lastD d.waits z (lastD d.kept z (wholeD []))
    rw [← h.find z]
    show thereB (match putV g.last k ⟨K, wholeD b⟩ z with | some q => some q | none => g.kept z) = _
    unfold putV
    by_cases e : k = z
    · rw [if_pos e, if_pos e]; rfl
    · rw [if_neg e, if_neg e]; rfl
theorem rel_ref {d : Dk} {g : Pg} (h : Rel g d) (k : Int) : refP g k = if d.down = true then 17 else if k < 0 ∨ d.n ≤ k then 6 else 0 := by
  unfold refP
  rw [h.up, h.n]
  cases d.down <;> simp
theorem rel_burn {d : Dk} {g : Pg} (h : Rel g d) : (burnP g).1 = (if d.fuse = 0 then 17 else 0) ∧ Rel (burnP g).2 (if d.fuse = 0 then fallD d else if 0 < d.fuse then { d with fuse := d.fuse - 1 } else d) := by
  unfold burnP
  rw [h.fuse]
  by_cases h0 : d.fuse = 0
  · rw [if_pos h0, if_pos h0, if_pos h0]
    exact ⟨rfl, rel_fall h⟩
  · rw [if_neg h0, if_neg h0, if_neg h0]
    by_cases h1 : 0 < d.fuse
    · rw [if_pos h1, if_pos h1]
      exact ⟨rfl, h.n, rfl, h.falls, h.up, h.waits, h.kept, h.find⟩
    · rw [if_neg h1, if_neg h1]
      exact ⟨rfl, h⟩
theorem rel_write {d : Dk} {g : Pg} (h : Rel g d) (k : Int) (K : Nat) (b : List UInt8) : (writeP g k K b).1 = (writeD d k b).1 ∧ Rel (writeP g k K b).2 (writeD d k b).2 := by
  unfold writeP writeD
  rw [rel_ref h]
  by_cases hd : d.down = true
  · simp only [if_pos hd]
    rw [if_neg (by decide)]
    exact ⟨rfl, h⟩
  · simp only [if_neg hd]
    by_cases hk : k < 0 ∨ d.n ≤ k
    · simp only [if_pos hk]
      rw [if_neg (by decide)]
      exact ⟨rfl, h⟩
    · simp only [if_neg hk, if_true]
      by_cases hl : 2048 < b.length
      · simp only [if_pos hl]
        exact ⟨trivial, h⟩
      · simp only [if_neg hl]
        obtain ⟨h1, h2⟩ := rel_burn (rel_push h k K b)
        have hf : (waitD d k b).fuse = d.fuse := rfl
        rw [hf] at h1 h2
        rw [h1]
        by_cases h0 : d.fuse = 0
        · simp only [if_pos h0] at h2 ⊢
          exact ⟨trivial, h2⟩
        · simp only [if_neg h0] at h2 ⊢
          by_cases hp : 0 < d.fuse
          · simp only [if_pos hp] at h2 ⊢
            exact ⟨trivial, h2⟩
          · simp only [if_neg hp] at h2 ⊢
            exact ⟨trivial, h2⟩
theorem rel_forget {d : Dk} {g : Pg} (h : Rel g d) {kp : Int → Option Pb} {kd : List Wr} (hk : ∀ z, thereB (kp z) = lastD kd z (wholeD [])) : Rel (forgetP { g with kept := kp }) { d with kept := kd, waits := [] } :=
  ⟨h.n, h.fuse, h.falls, h.up, rfl, hk, fun z => hk z⟩
theorem rel_come {d : Dk} {g : Pg} (h : Rel g d) (keep : List Bool) (torn : Int) (n : Nat) (j : Nat) (hj : j ≤ g.waits.length) (z : Int) :
    KB keep torn n (fun z => thereB (g.kept z)) g.waits j z = lastD (comesAllD keep torn n d.kept 0 (d.waits.take j)) z (wholeD []) := by
  induction j generalizing z with
  | zero => exact h.kept z
  | succ j ih =>
    have hx : g.waits[j]? = some g.waits[j] := List.getElem?_eq_getElem (by omega)
    have hy : d.waits[j]? = some (wrP g.waits[j]) := by rw [← h.waits, List.getElem?_map, hx]; rfl
    rw [KB_succ _ _ _ _ _ hx, List.take_add_one, hy]
    have e : (d.waits.take j).length = j := by rw [List.length_take, ← rel_len h]; omega
    show _ = lastD (comesAllD keep torn n d.kept 0 (d.waits.take j ++ [wrP g.waits[j]])) z (wholeD [])
    rw [comesAllD_snoc, e, Nat.zero_add]
    have ih' := ih (by omega)
    generalize g.waits[j] = x at *
    generalize comesAllD keep torn n d.kept 0 (d.waits.take j) = L at *
    unfold comeB comesD
    by_cases ht : (j : Int) = torn
    · rw [if_pos ht, if_pos ht, lastD_put, ← ih' z]
      show _ = if x.1 = z then x.2.b.take n ++ (lastD L x.1 (wholeD [])).drop n else _
      rw [← ih' x.1]
    · rw [if_neg ht, if_neg ht]
      by_cases hk : keep[j]?.getD false = true
      · rw [if_pos hk, if_pos hk, lastD_put, ← ih' z]
        rfl
      · rw [if_neg hk, if_neg hk]
        exact ih' z
theorem fallD_more (d : Dk) : (fallD d).n = d.n ∧ (fallD d).kept = d.kept ∧ (fallD d).waits = d.waits ∧ (fallD d).fuse = d.fuse ∧ (fallD d).down = true ∧ d.falls ≤ (fallD d).falls ∧ (fallD d).falls ≤ d.falls + 1 := by
  unfold fallD
  by_cases h : d.down = true
  · rw [if_pos h]; exact ⟨rfl, rfl, rfl, rfl, h, by omega, by omega⟩
  · rw [if_neg h]; exact ⟨rfl, rfl, rfl, rfl, rfl, by show d.falls ≤ d.falls + 1; omega, by show d.falls + 1 ≤ d.falls + 1; omega⟩
theorem writeD_more (d : Dk) (k : Int) (b : List UInt8) : (writeD d k b).2.waits.length ≤ d.waits.length + 1 ∧ d.falls ≤ (writeD d k b).2.falls ∧ (writeD d k b).2.falls ≤ d.falls + 1 := by
  obtain ⟨h1, h2, h3, h4, h5, h6, h7⟩ := fallD_more (waitD d k b)
  have hw : (waitD d k b).waits.length = d.waits.length + 1 := by simp [waitD]
  have hf : (waitD d k b).falls = d.falls := rfl
  unfold writeD
  split
  · exact ⟨Nat.le_succ _, Int.le_refl _, by show d.falls ≤ _; omega⟩
  split
  · exact ⟨Nat.le_succ _, Int.le_refl _, by show d.falls ≤ _; omega⟩
  split
  · exact ⟨Nat.le_succ _, Int.le_refl _, by show d.falls ≤ _; omega⟩
  split
  · exact ⟨by rw [h3]; omega, by show d.falls ≤ (fallD (waitD d k b)).falls; omega, by show (fallD (waitD d k b)).falls ≤ _; omega⟩
  split
  · exact ⟨Nat.le_of_eq hw, Int.le_of_eq hf.symm, by show (waitD d k b).falls ≤ _; omega⟩
  · exact ⟨Nat.le_of_eq hw, Int.le_of_eq hf.symm, by show (waitD d k b).falls ≤ _; omega⟩
theorem disk_up {w : World} {B Z p : Nat} {d : Dk} {m : Nat} (h : Dsk w B Z p d m) : Calls Try.prog 11 #[ptr p] w fun x w' => x = .returned (.bool (!d.down)) ∧ Below w.heap.size w w' := by
  obtain ⟨g, mk, ml, wv, nk, nl, h1, h2, h3⟩ := h
  rw [← h2.up]
  exact up11 h1
theorem disk_waits {w : World} {B Z p : Nat} {d : Dk} {m : Nat} (h : Dsk w B Z p d m) : Calls Try.prog 12 #[ptr p] w fun x w' => x = .returned (.int .i64 d.waits.length) ∧ Below w.heap.size w w' := by
  obtain ⟨g, mk, ml, wv, nk, nl, h1, h2, h3⟩ := h
  rw [← rel_len h2]
  exact waits12 h1
theorem disk_falls {w : World} {B Z p : Nat} {d : Dk} {m : Nat} (h : Dsk w B Z p d m) : Calls Try.prog 13 #[ptr p] w fun x w' => x = .returned (.int .i64 d.falls) ∧ Below w.heap.size w w' := by
  obtain ⟨g, mk, ml, wv, nk, nl, h1, h2, h3⟩ := h
  rw [← h2.falls]
  exact falls13 h1
theorem disk_blocks {w : World} {B Z p : Nat} {d : Dk} {m : Nat} (h : Dsk w B Z p d m) : Calls Try.prog 14 #[ptr p] w fun x w' => x = .returned (.int .i64 d.n) ∧ Below w.heap.size w w' := by
  obtain ⟨g, mk, ml, wv, nk, nl, h1, h2, h3⟩ := h
  rw [← h2.n]
  exact blocks14 h1
theorem disk_read {w : World} {B Z p : Nat} {d : Dk} {m : Nat} (h : Dsk w B Z p d m) (k : Int) (hkw : (Lit.int .i64 k).wf = true) : Calls Try.prog 15 #[ptr p, .int .i64 k] w fun x w' => (∃ a c, x = .returned (.tuple #[.slice a (readD d k).1.length c, .int .i64 (readD d k).2]) ∧ Bytes w' a (nums (str (readD d k).1)) ∧ (a = none → (readD d k).1.length = 0 ∧ c = 0)) ∧ Below w.heap.size w w' := by
  obtain ⟨g, mk, ml, wv, nk, nl, h1, h2, h3⟩ := h
  have hr := rel_ref h2 k
  have hfb := thereB_len (findP g k) (fun q hq => find_blk h1 k q hq)
  refine (read15 h1 k hkw).mono ?_
  rintro e w1 ⟨hx, hb⟩
  refine ⟨?_, hb⟩
  rw [hr] at hx
  unfold readD
  by_cases hd : d.down = true
  · rw [if_pos hd] at hx ⊢
    rw [if_neg (by decide)] at hx
    exact ⟨none, 0, hx, .inl rfl, fun _ => ⟨rfl, rfl⟩⟩
  · rw [if_neg hd] at hx ⊢
    by_cases hk : k < 0 ∨ d.n ≤ k
    · rw [if_pos hk] at hx ⊢
      rw [if_neg (by decide)] at hx
      exact ⟨none, 0, hx, .inl rfl, fun _ => ⟨rfl, rfl⟩⟩
    · rw [if_neg hk] at hx ⊢
      rw [if_pos rfl] at hx
      obtain ⟨K, rfl, hK, hKs⟩ := hx
      dsimp only
      rw [← h2.find k]
      have hbl : Blk w1 (K + 1) ⟨K, thereB (findP g k)⟩ := ⟨hK, hfb, by show K ≠ K + 1; omega⟩
      exact ⟨some ⟨K, 0, none⟩, 2048, by rw [hfb], hbl.bytes, fun e => by cases e⟩
theorem disk_write {w : World} {B Z p : Nat} {d : Dk} {m : Nat} (h : Dsk w B Z p d m) (hm : m < 90000) (k : Int) (hkw : (Lit.int .i64 k).wf = true) (b : List UInt8) (a : Option Addr) (c : Nat) (hb : Bytes w a (nums (str b))) (ha : a = none → b.length = 0 ∧ c = 0) (hb1 : b.length ≤ maxLen) (hZ : Z < w.heap.size) :
    Calls Try.prog 17 #[ptr p, .int .i64 k, .slice a b.length c] w fun x w' => x = .returned (.int .i64 (writeD d k b).1) ∧ Dsk w' B Z p (writeD d k b).2 (m + 1) ∧ Soft B w w' := by
  obtain ⟨g, mk, ml, wv, nk, nl, h1, h2, h3, h4, h5⟩ := h
  obtain ⟨q1, q2, q3⟩ := writeD_more d k b
  refine (write17 h1 k hkw b a c hb ha hb1 hZ (by rw [h2.falls]; omega) (by rw [rel_len h2]; omega)).mono ?_
  rintro e w1 ⟨K, wv', nl', rfl, hr, hs⟩
  obtain ⟨e1, e2⟩ := rel_write h2 k K b
  exact ⟨by rw [e1], ⟨_, _, _, _, _, _, hr, e2, by omega, by omega, by omega⟩, hs⟩
theorem disk_barrier {w : World} {B Z p : Nat} {d : Dk} {m : Nat} (h : Dsk w B Z p d m) (hm : m < 90000) : Calls Try.prog 18 #[ptr p] w fun x w' => x = .returned (.int .i64 (if d.down = true then 17 else 0)) ∧ Dsk w' B Z p (if d.down = true then d else barrierD d) m ∧ Soft B w w' := by
  obtain ⟨g, mk, ml, wv, nk, nl, h1, h2, h3, h4, h5⟩ := h
  have hnl := h1.hnl
  have hln := rel_len h2
  refine (barrier18 h1 (by unfold maxLen; omega)).mono ?_
  rintro e w1 ⟨hx, hs⟩
  have hup := h2.up
  cases hd : d.down
  · rw [hd] at hup
    rw [if_pos (by rw [hup]; rfl)] at hx
    obtain ⟨rfl, ml', nk', hn, hr⟩ := hx
    refine ⟨rfl, ?_, hs⟩
    rw [if_neg (by simp)]
    refine ⟨_, _, _, _, _, _, hr, rel_forget h2 (fun z => ?_), ?_, h4, h5⟩
    · rw [lastD_puts]; exact h2.find z
    · show nk' + ([] : List Wr).length ≤ m
      simp; omega
  · rw [hd] at hup
    rw [if_neg (by rw [hup]; simp)] at hx
    obtain ⟨rfl, hr⟩ := hx
    refine ⟨rfl, ?_, hs⟩
    rw [if_pos rfl]
    exact ⟨_, _, _, _, _, _, hr, h2, h3, h4, h5⟩
theorem disk_fuse {w : World} {B Z p : Nat} {d : Dk} {m : Nat} (h : Dsk w B Z p d m) (n : Int) (hn : (Lit.int .i64 n).wf = true) : Calls Try.prog 19 #[ptr p, .int .i64 n] w fun x w' => x = .returned (.tuple #[]) ∧ Dsk w' B Z p { d with fuse := max n 0 } m ∧ Soft B w w' := by
  obtain ⟨g, mk, ml, wv, nk, nl, h1, h2, h3, h4, h5⟩ := h
  refine (fuse19 h1 n hn).mono ?_
  rintro e w1 ⟨rfl, hr, hs⟩
  exact ⟨rfl, ⟨_, _, _, _, _, _, hr, ⟨h2.n, rfl, h2.falls, h2.up, h2.waits, h2.kept, h2.find⟩, h3, h4, h5⟩, hs⟩
theorem disk_down {w : World} {B Z p : Nat} {d : Dk} {m : Nat} (h : Dsk w B Z p d m) (hm : m < 90000) : Calls Try.prog 20 #[ptr p] w fun x w' => x = .returned (.tuple #[]) ∧ Dsk w' B Z p (fallD d) (m + 1) ∧ Soft B w w' := by
  obtain ⟨g, mk, ml, wv, nk, nl, h1, h2, h3, h4, h5⟩ := h
  obtain ⟨q1, q2, q3, q4, q5, q6, q7⟩ := fallD_more d
  refine (down20 h1 (by rw [h2.falls]; omega)).mono ?_
  rintro e w1 ⟨rfl, hr, hs⟩
  exact ⟨rfl, ⟨_, _, _, _, _, _, hr, rel_fall h2, by rw [q3]; omega, by omega, by omega⟩, hs⟩
theorem disk_back {w : World} {B Z p : Nat} {d : Dk} {m : Nat} (h : Dsk w B Z p d m) (hm : m < 90000) (hZ : Z < w.heap.size) (keep : List Bool) (ka : Option Addr) (kc : Nat) (hkeep : ∀ u, Soft B w u → Bools u ka keep) (hkl : keep.length ≤ maxLen) (torn at_ : Int) :
    Calls Try.prog 21 #[ptr p, .slice ka keep.length kc, .int .i64 torn, .int .i64 at_] w fun x w' => x = .returned (.tuple #[]) ∧ Dsk w' B Z p (backD d keep torn at_) (m + 1) ∧ Soft B w w' := by
  obtain ⟨g, mk, ml, wv, nk, nl, h1, h2, h3, h4, h5⟩ := h
  have hln := rel_len h2
  obtain ⟨q1, q2, q3, q4, q5, q6, q7⟩ := fallD_more d
  refine (back21 h1 (by rw [h2.falls]; omega) (by unfold maxLen; omega) hZ keep ka kc hkeep hkl torn at_).mono ?_
  rintro e w1 ⟨rfl, ⟨kp, ml', nk', hn, hr, hk⟩, hs⟩
  have hf := rel_fall h2
  refine ⟨rfl, ⟨_, _, _, _, _, _, hr, ⟨hf.n, rfl, hf.falls, rfl, rfl, fun z => ?_, fun z => ?_⟩, ?_, ?_, ?_⟩, hs⟩
  · show thereB (kp z) = lastD (comesAllD keep torn (byD at_) d.kept 0 d.waits) z (wholeD [])
    rw [hk z, rel_come h2 keep torn (byD at_) _ (Nat.le_refl _) z, hln, List.take_length]
  · show thereB (kp z) = lastD (comesAllD keep torn (byD at_) d.kept 0 d.waits) z (wholeD [])
    rw [hk z, rel_come h2 keep torn (byD at_) _ (Nat.le_refl _) z, hln, List.take_length]
  · show nk' + ([] : List Wr).length ≤ m + 1
    simp; omega
  · show 0 ≤ (fallD d).falls; omega
  · show (fallD d).falls ≤ _; omega
theorem disk_new (n : Int) (w : World) (h0 : 1 ≤ n) (h1 : n ≤ 65536) : Calls Try.prog 7 #[.int .i64 n] w fun x w' => ∃ p, x = .returned (.tuple #[ptr p, .int .i64 0]) ∧ (∀ Z, Dsk w' w.heap.size Z p ⟨n, [], [], false, 0, -1⟩ 0) ∧ Below w.heap.size w w' := by
  refine (new7 n w).mono ?_
  rintro e w1 ⟨hx, hb⟩
  rw [if_neg (by omega)] at hx
  obtain ⟨p, mk, ml, rfl, hr⟩ := hx
  exact ⟨p, rfl, fun Z => ⟨_, _, _, _, _, _, hr Z, ⟨rfl, rfl, rfl, rfl, rfl, fun z => rfl, fun z => rfl⟩, by simp, by simp, by simp⟩, hb⟩
end Go.Proofs.Ytklfpoojpfomeaa.Key
