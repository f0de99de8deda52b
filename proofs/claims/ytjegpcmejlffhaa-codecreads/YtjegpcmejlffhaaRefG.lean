/-
  Contract of the document's Get; bytes that came in.
-/
import Derived.Test.YtjegpcmejlffhaaRefF
import Derived.WalkKit
import Derived.ProofKit
import Derived.OpenShut
import Derived.ShutString
import Derived.ChangeOld
import Derived.Below
import Derived.Carry
namespace Go.Proofs.Ytjegpcmejlffhaa.Cod
set_option linter.unusedSimpArgs false
set_option linter.unusedVariables false
open Go.RowKit Go.ChangeShapes Go.WideShapes Go.ChangeAt
open Key (M E Pr Nd Pl nv Lies mayI ev mv)

theorem rget12 {a : Option Addr} {n c : Nat} {zs : List Int} (w : World) (h : Doc w a n c zs) :
    Calls Try.prog 12 #[.slice a n c] w fun x w' => ∃ (nd : Nd) (e : Int), Hid (getN rM zs = (nd, e)) ∧ ∃ p, x = .returned (.tuple #[nv nd p, .int .i64 e]) ∧ OwnN w' w.heap.size nd p ∧ Less nd ∧ Below w.heap.size w w' := by
  have e := getN_alike zs
  rw [← e]
  by_cases h1 : (rNum 1 zs ⟨0, 0⟩).1 = 1
  · exact rget12_leaf w h h1
  · by_cases h2 : (rNum 1 zs ⟨0, 0⟩).1 = 2
    · exact rget12_fork w h h2
    · exact rget12_none w h ⟨h1, h2⟩
theorem opened_bytes {H : Type} {enc : TypeId × Value → H} {W : World} {base : Nat} {held : Bool} {a : Option Addr} {n c : Nat} {d : DataW H} {ps : List MemPlace} (h : DataW.Trod enc Try.prog W base (fun _ => true) held 30 (.slice a n c) d ps) :
    ∃ zs : List Int, zs.length = n ∧ Pack.Bytes W a zs ∧ Pack.Byt zs ∧ (a = none → n = 0 ∧ c = 0) ∧ n ≤ c ∧ c ≤ maxLen := by
  obtain ⟨fuel, hf⟩ := h
  rcases open_ints Try.underlying30 Try.underlying5 (by kernel_rfl) hf with ⟨hcs, _⟩ | ⟨x, l, c', zs, hcs, _, hl, hm, hz, _, hcell, hwz⟩
  · simp [Value.cells] at hcs
    obtain ⟨rfl, rfl, rfl⟩ := hcs
    exact ⟨[], rfl, .inl rfl, (fun z hz => by simp at hz), (fun _ => ⟨rfl, rfl⟩), Nat.le_refl _, Nat.zero_le _⟩
  · simp [Value.cells] at hcs
    obtain ⟨rfl, rfl, rfl⟩ := hcs
    obtain ⟨ys, h1, h2, h3, h4, _, h6⟩ := Pack.opened (w := W) (a := some x) (len := n) (cap := c) (z := zs) (.inr ⟨_, rfl, hl, hm, by simpa using hz, hcell, hwz⟩)
    exact ⟨ys, h1, h2, h3, h4, h6, hm⟩
end Go.Proofs.Ytjegpcmejlffhaa.Cod
