/-
  What PackStays and PackReads want besides: a reader with an error; a slice of steps that came in.
-/
import Derived.Test.YtkefkjpacfgbdaaNew
import Derived.Test.YtkefkjpacfgbdaaRef2
import Derived.ProofKit
import Derived.Deep.SlicePairs
namespace Go.Proofs.Ytkefkjpacfgbdaa.Pack
open Go.RowKit

theorem Bad_1 {w : World} {B k p : Nat} {zs : List Int} {e : Int} (he : e ≠ 0) (h : Rd w B k zs p e) :
    Calls Try.prog 16 #[.pointer (some ⟨k, 0, none⟩)] w fun x w' => x = .returned (.int .u8 0) ∧ Rd w' B k zs p e ∧ w.grownBy w' (some k) := by
  have H := Get_1 h
  obtain ⟨g1, g2, g3⟩ := g_bad (zs := zs) (p := p) (s := 1) he
  rw [g1, g2, g3] at H
  exact H
theorem Bad_2 {w : World} {B k p : Nat} {zs : List Int} {e : Int} (he : e ≠ 0) (h : Rd w B k zs p e) :
    Calls Try.prog 18 #[.pointer (some ⟨k, 0, none⟩)] w fun x w' => x = .returned (.int .u16 0) ∧ Rd w' B k zs p e ∧ w.grownBy w' (some k) := by
  have H := Get_2 h
  obtain ⟨g1, g2, g3⟩ := g_bad (zs := zs) (p := p) (s := 2) he
  rw [g1, g2, g3] at H
  exact H
theorem Bad_4 {w : World} {B k p : Nat} {zs : List Int} {e : Int} (he : e ≠ 0) (h : Rd w B k zs p e) :
    Calls Try.prog 19 #[.pointer (some ⟨k, 0, none⟩)] w fun x w' => x = .returned (.int .u32 0) ∧ Rd w' B k zs p e ∧ w.grownBy w' (some k) := by
  have H := Get_4 h
  obtain ⟨g1, g2, g3⟩ := g_bad (zs := zs) (p := p) (s := 4) he
  rw [g1, g2, g3] at H
  exact H
theorem Bad_8 {w : World} {B k p : Nat} {zs : List Int} {e : Int} (he : e ≠ 0) (h : Rd w B k zs p e) :
    Calls Try.prog 20 #[.pointer (some ⟨k, 0, none⟩)] w fun x w' => x = .returned (.int .u64 0) ∧ Rd w' B k zs p e ∧ w.grownBy w' (some k) := by
  have H := Get_8 h
  obtain ⟨g1, g2, g3⟩ := g_bad (zs := zs) (p := p) (s := 8) he
  rw [g1, g2, g3] at H
  exact H
theorem Bad_text {w : World} {B k p : Nat} {zs : List Int} {e : Int} (he : e ≠ 0) (h : Rd w B k zs p e) (most : Int) :
    Calls Try.prog 21 #[.pointer (some ⟨k, 0, none⟩), .int .i64 most] w fun x w' => x = .returned (.string ⟨#[]⟩) ∧ Rd w' B k zs p e ∧ w.grownBy w' (some k) := by
  have H := GetText_any h most
  obtain ⟨g1, g2, g3⟩ := t_bad (zs := zs) (p := p) (most := most) he
  rw [g1, g2, g3] at H
  exact H
theorem Bad_fail {w : World} {B k p : Nat} {zs : List Int} {e : Int} (he : e ≠ 0) (h : Rd w B k zs p e) (x : Int) :
    Calls Try.prog 23 #[.pointer (some ⟨k, 0, none⟩), .int .i64 x] w fun y w' => y = .returned (.tuple #[]) ∧ Rd w' B k zs p e ∧ w.grownBy w' (some k) := by
  have H := fail_any h x
  rw [show failE e x = e from if_neg he] at H
  exact H
theorem Below.own {w w1 w2 : World} {B k : Nat} (h : Below w.heap.size w w1) (hg : w1.grownBy w2 (some k)) (hB : w.heap.size ≤ B) (hk : B ≤ k) : Below w.heap.size w w2 :=
  h.grown hg h.size (fun j hj => by cases hj; omega)
/-- a slice of steps -/
def Steps (w : World) (a : Option Addr) (n : Nat) (K M : Nat → Int) : Prop :=
  n = 0 ∨ ∃ b off, a = some ⟨b, off, none⟩ ∧ ∀ i, i < n → w.cell? ⟨b, off + i * 2, none⟩ = some (.int .i64 (K i)) ∧ w.cell? ⟨b, off + i * 2 + 1, none⟩ = some (.int .i64 (M i))
theorem Steps.at {w w' : World} {a : Option Addr} {n : Nat} {K M : Nat → Int} (h : Steps w a n K M) (hb : Below w.heap.size w w') {i : Nat} (hi : i < n) :
    ∃ b off, a = some ⟨b, off, none⟩ ∧ w'.cell? ⟨b, off + i * 2, none⟩ = some (.int .i64 (K i)) ∧ w'.cell? ⟨b, off + i * 2 + 1, none⟩ = some (.int .i64 (M i)) := by
  rcases h with h0 | ⟨b, off, rfl, hc⟩
  · omega
  · exact ⟨b, off, rfl, cell_later hb (hc i hi).1, cell_later hb (hc i hi).2⟩
/-- .. as the row's reading tells it -/
theorem opened_steps {H : Type} {enc : TypeId × Value → H} {W : World} {a : Option Addr} {n cap : Nat} {d : DataW H} {ps : List MemPlace} (h : DataW.Trod enc Try.prog W 0 (fun _ => true) true 34 (.slice a n cap) d ps) :
    ∃ K M, Steps W a n K M ∧ n ≤ maxLen := by
  obtain ⟨fuel, hf⟩ := h
  rcases Deep.open_slice_pairs Try.underlying34 Try.underlying40 (by kernel_rfl) rfl rfl (by kernel_rfl) (by kernel_rfl) hf with ⟨hcs, _⟩ | ⟨x, l, c, m, n', V0, V1, D0, D1, P0, P1, hcs, _, hl, hm, hmm, _, hx⟩
  · simp [Value.cells] at hcs
    obtain ⟨rfl, rfl, rfl⟩ := hcs
    exact ⟨fun _ => 0, fun _ => 0, .inl rfl, Nat.zero_le _⟩
  · simp [Value.cells] at hcs
    obtain ⟨rfl, rfl, rfl⟩ := hcs
    have hmc : m = cap := by simpa using hmm
    have each : ∀ i, i < n → ∃ q : Int × Int, W.cell? (x.add (i * 2)) = some (.int .i64 q.1) ∧ W.cell? (x.add (i * 2 + 1)) = some (.int .i64 q.2) := by
      intro i hi
      obtain ⟨c0, c1, t0, t1⟩ := hx i (by omega)
      obtain ⟨k0, e0, _⟩ := DataW.trod_int Try.underlying3 t0
      obtain ⟨k1, e1, _⟩ := DataW.trod_int Try.underlying3 t1
      simp at e0 e1
      rw [e0] at c0
      rw [e1] at c1
      exact ⟨(k0, k1), c0, c1⟩
    obtain ⟨q, hq⟩ := Deep.choose_lt each
    refine ⟨fun i => (q i).1, fun i => (q i).2, ?_, Nat.le_trans hl hm⟩
    by_cases h0 : n = 0
    · exact .inl h0
    · obtain ⟨b, off, spot⟩ := x
      have hspot : spot = none := by simpa [Addr.add] using World.cell?_spot (hq 0 (by omega)).1
      subst hspot
      refine .inr ⟨b, off, rfl, fun i hi => ?_⟩
      have h1 := hq i hi
      rw [add_plain, add_plain] at h1
      exact h1
end Go.Proofs.Ytkefkjpacfgbdaa.Pack
