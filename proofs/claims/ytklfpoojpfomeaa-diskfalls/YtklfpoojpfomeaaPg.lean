/-
  More than is gone through: 'great'.
-/
import Derived.Test.YtklfpoojpfomeaaPi
import Derived.Test.YtklfpoojpfomeaaOp
namespace Go.Proofs.Ytklfpoojpfomeaa.Key
open Go.RowKit
set_option linter.unusedVariables false
set_option linter.unusedSimpArgs false
def gS (x : St) : Bool := decide (3000 < x.b.length) || decide (100 < x.keep.length)
def greatS (l : List St) : Bool := decide (60 < l.length) || l.any gS
theorem any_take {l : List St} {j : Nat} {x : St} (h : l[j]? = some x) : (l.take (j + 1)).any gS = ((l.take j).any gS || gS x) := by
  rw [List.take_add_one, h]
  simp
theorem any_hit {l : List St} {j : Nat} {x : St} (h : l[j]? = some x) (hx : gS x = true) : l.any gS = true := List.any_eq_true.2 ⟨x, List.mem_of_getElem? h, hx⟩
set_option maxRecDepth 100000 in
set_option maxHeartbeats 2000000 in
theorem great9 (a : Option Addr) (c : Nat) (l : List St) (w : World) (h : Steps w a l) (hl : l.length ≤ maxLen) :
    Calls Try.prog 9 #[.slice a l.length c] w fun x w' => x = .returned (.bool (greatS l)) ∧ Below w.heap.size w w' := by
  unfold maxLen at hl
  by_cases h60 : 60 < l.length
  · have hG := hid (show greatS l = true by unfold greatS; simp [h60])
    have hd : decide ((60 : Int) < (l.length : Int)) = true := decide_eq_true (by omega)
    generalize l.length = n at *
    go_enter Try.func9, Try.ntmps9
    go_wp2_with fail
    go_ret
    exact ⟨by rw [hG.out]; rfl, Below.refl _ _⟩
  · have hG := hid (show greatS l = l.any gS by unfold greatS; simp [h60])
    have hd : decide ((60 : Int) < (l.length : Int)) = false := decide_eq_false (by omega)
    have HX := hid (fun (wr : World) (hb : Below w.heap.size w wr) => h.later hb)
    have HE := hid (show (l.take l.length).any gS = l.any gS by rw [List.take_length])
    have H0 := hid (show (l.take 0).any gS = false from rfl)
    have HS := hid (fun j x (hx : l[j]? = some x) => any_take hx)
    have HH := hid (fun j x (hx : l[j]? = some x) => any_hit hx)
    clear h h60
    generalize hn : l.length = n at *
    have HN := hid hn
    clear hn
    go_enter Try.func9, Try.ntmps9
    go_wp2_with fail
    go_loopw [3] (fun i wr => ∃ (j : Nat), j ≤ n ∧ i = .int .i64 j ∧ (l.take j).any gS = false ∧ Below w.heap.size w wr) (fun i _ => n - (intOf i).toNat)
    case atStart => exact ⟨0, Nat.zero_le _, rfl, H0.out, Below.refl _ _⟩
    case round =>
      obtain ⟨j, hj, rfl, hf, hb⟩ := hrel
      have HF := hid hf
      clear hf
      by_cases hlt : j < n
      · have hlt' : j < l.length := by rw [HN.out]; exact hlt
        obtain ⟨b, off, hA, hC⟩ := (HX.out wr hb).at hlt'
        subst hA
        obtain ⟨x, hx⟩ : ∃ x, l[j]? = some x := ⟨_, List.getElem?_eq_getElem hlt'⟩
        have hxe : l[j] = x := by rw [List.getElem?_eq_getElem hlt'] at hx; exact Option.some.inj hx
        rw [hxe] at hC
        obtain ⟨c0, c1, c2, c3, c4, _, _⟩ := hC
        have HSx := hid (HS.out j x hx)
        have HHx := hid (HH.out j x hx)
        clear hx hxe
        obtain ⟨kd, ix, ab, cb, bb, ak, ck, kp, tn⟩ := x
        dsimp only at *
        by_cases hb1 : 3000 < bb.length
        · have hgx := hid (HHx.out (by unfold gS; simp [hb1]))
          have hd1 : decide ((3000 : Int) < (bb.length : Int)) = true := decide_eq_true (by omega)
          clear HSx HHx
          generalize bb.length = bl at *
          generalize kp.length = kl at *
          go_wp2_with fail
          go_ret
          exact ⟨by rw [hG.out, hgx.out]; rfl, hb⟩
        · have hd1 : decide ((3000 : Int) < (bb.length : Int)) = false := decide_eq_false (by omega)
          by_cases hk1 : 100 < kp.length
          · have hgx := hid (HHx.out (by unfold gS; simp [hk1]))
            have hd2 : decide ((100 : Int) < (kp.length : Int)) = true := decide_eq_true (by omega)
            clear HSx HHx
            generalize bb.length = bl at *
            generalize kp.length = kl at *
            go_wp2_with fail
            go_ret
            exact ⟨by rw [hG.out, hgx.out]; rfl, hb⟩
          · have hgx := hid (HSx.out.trans (show ((l.take j).any gS || gS ⟨kd, ix, ab, cb, bb, ak, ck, kp, tn⟩) = false by rw [HF.out]; unfold gS; simp [hb1, hk1]))
            have hd2 : decide ((100 : Int) < (kp.length : Int)) = false := decide_eq_false (by omega)
            clear HSx HHx
            generalize bb.length = bl at *
            generalize kp.length = kl at *
            go_wp2_with fail
            go_roundw
            case rel => exact ⟨j + 1, by omega, by go_num, hgx.out, hb⟩
            case measure => simp [intOf]; omega
      · obtain rfl : j = n := by omega
        go_wp2_with fail
        go_ret
        exact ⟨by rw [hG.out, ← HE.out, HF.out]; rfl, hb⟩
end Go.Proofs.Ytklfpoojpfomeaa.Key
