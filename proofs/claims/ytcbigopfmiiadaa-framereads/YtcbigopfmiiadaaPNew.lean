/-
  The contract of New: a reader in new memory, of bytes of its own.
-/
import Derived.Test.YtcbigopfmiiadaaPText
namespace Go.Proofs.Ytcbigopfmiiadaa.Pack
open Go.RowKit

set_option maxRecDepth 100000 in
set_option maxHeartbeats 1000000 in
theorem clone_any (a : Option Addr) (n cap : Nat) (zs : List Int) (w : World) (hn : zs.length = n) (hb : Bytes w a zs) (hnil : a = none → n = 0 ∧ cap = 0) (hm : n ≤ 100000) :
    Calls Try.prog 31 #[.slice a n cap] w fun e w' => ∃ v, e = .returned v ∧ Own w' w.heap.size v zs ∧ Below w.heap.size w w' := by
  have hq := slice_nil_eq
  cases a with
  | none =>
    obtain ⟨rfl, rfl⟩ := hnil rfl
    have hz : zs = [] := List.eq_nil_of_length_eq_zero hn
    subst hz
    go_enter Try.func31, Try.ntmps31
    go_wp2
    go_ret
    exact ⟨_, rfl, World.ownsRow_nil _ _ _ _, Below.refl _ _⟩
  | some ad =>
    have ho0 := Own.made w
    have hb0 : Below w.heap.size w (w.alloc (.cells #[] 5)) := (Below.refl _ _).alloc (Nat.le_refl _) _
    go_enter Try.func31, Try.ntmps31
    go_wp2_with (at_builtin; refine app rfl (.tmp 5) (.tmp 6) rfl w.heap.size _ [] rfl ho0 (some ad) n cap zs rfl hnil hn (hb.later hb0) (by simp; omega) (by simp) ?_; intro v1 w1 ho1 hg1; have hb1 := ho0.below hb0 (Nat.le_refl _) (by simp) hg1; clear hg1; rw [List.nil_append] at ho1)
    obtain ⟨a6, c6, rfl, _, _, _⟩ := ho1.form
    go_ret
    exact ⟨_, rfl, ho1, hb1⟩

theorem Own.cap {w : World} {B : Nat} {a : Option Addr} {n c : Nat} {zs : List Int} (h : Own w B (.slice a n c) zs) : c ≤ maxLen := by
  rcases h.2 with ⟨h1, _⟩ | ⟨g, cap, cur, h1, _, _, _, hm, _⟩
  · simp at h1
    omega
  · simp at h1
    omega

set_option maxRecDepth 100000 in
set_option maxHeartbeats 1000000 in
theorem New_any (a : Option Addr) (n cap : Nat) (zs : List Int) (w : World) (hn : zs.length = n) (hb : Bytes w a zs) (hz : Byt zs) (hnil : a = none → n = 0 ∧ cap = 0) (hm : n ≤ 100000) :
    Calls Try.prog 18 #[.slice a n cap] w fun e w' => ∃ k, e = .returned (.pointer (some ⟨k, 0, none⟩)) ∧ Rd w' w.heap.size k zs 0 0 ∧ Below w.heap.size w w' := by
  go_enter Try.func18, Try.ntmps18
  go_wp2_with fail
  refine (clone_any a n cap zs w hn hb hnil hm).mono ?_
  rintro e w1 ⟨v, rfl, ho, hb1⟩
  have hcap : ∀ a' n' c', v = .slice a' n' c' → c' ≤ maxLen := fun a' n' c' h => by subst h; exact ho.cap
  obtain ⟨a6, c6, rfl, hby, hnil6, hlt, hc6⟩ := ho.form
  have hcm := hcap _ _ _ rfl
  unfold maxLen at hcm
  have hb2 : Below w.heap.size w (w1.alloc (.cells #[.slice a6 zs.length c6, .int .i64 0, .int .i64 0] 55)) := hb1.alloc hb1.size _
  have R : Rd (w1.alloc (.cells #[.slice a6 zs.length c6, .int .i64 0, .int .i64 0] 55)) w.heap.size w1.heap.size zs 0 0 := by
    refine ⟨a6, c6, heap_alloc_new _ _, hby.later ((Below.refl _ _).alloc (Nat.le_refl _) _), hz, fun ad had _ => ?_, hb1.size, Nat.zero_le _, hc6, by omega, by omega⟩
    subst had
    exact hlt _ rfl
  have RH := hid R
  clear R hlt hby hnil6 ho hcap
  subst hn
  go_wp2
  go_ret
  exact ⟨_, rfl, RH.out, hb2⟩
end Go.Proofs.Ytcbigopfmiiadaa.Pack
