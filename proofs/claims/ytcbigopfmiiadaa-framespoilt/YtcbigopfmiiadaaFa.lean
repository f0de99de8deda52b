/-
  The document's example; what the laws' walks want besides.
-/
import Derived.Test.YtcbigopfmiiadaaFq
import Derived.Test.YtcbigopfmiiadaaFh
namespace Go.Proofs.Ytcbigopfmiiadaa.Frm
open Go.RowKit Crc
open Pack (be val)
set_option linter.unusedVariables false
set_option linter.unusedSimpArgs false
theorem put_take (kind at_ : Nat) (body : List Int) : (markZ (bodyZ kind at_ body)).take 7 = headZ kind at_ body.length := by
  unfold markZ bodyZ
  rw [List.append_assoc, List.append_assoc, List.take_append_of_le_length (by rw [headZ_length]; omega), List.take_of_length_le (by rw [headZ_length]; omega)]
theorem put_small {kind at_ : Nat} {body : List Int} (h : body.length ≤ 2024) : putZ kind at_ body = (markZ (bodyZ kind at_ body), 0) := by
  unfold putZ
  rw [if_neg (by omega)]
theorem put_great {kind at_ : Nat} {body : List Int} (h : 2024 < body.length) : putZ kind at_ body = ([], 4) := by
  unfold putZ
  rw [if_pos h]
theorem byt_put {kind at_ : Nat} {body : List Int} (hk : kind < 256) (hb : Byt body) : Byt (putZ kind at_ body).1 := by
  by_cases h : 2024 < body.length
  · rw [put_great h]; intro z hz; simp at hz
  · rw [put_small (by omega)]; exact byt_mark (byt_body hk hb)
theorem head37 : headZ 3 7 0 = [3, 0, 0, 0, 7, 0, 0] := by decide
set_option maxRecDepth 100000 in
set_option maxHeartbeats 1000000 in
theorem awake6 (w : World) : Calls Try.prog 6 #[] w fun e w' => e = .returned (.bool true) ∧ Below w.heap.size w w' := by
  have HP := goPut 3 7 (by omega) (by omega) none 0 0 [] w rfl (.inl rfl) (fun z hz => by simp at hz) (fun _ => ⟨rfl, rfl⟩) (by omega)
  rw [put_small (by simp)] at HP
  have ht := put_take 3 7 []
  have hl : (markZ (bodyZ 3 7 [])).length = 2048 := put_length (by simp)
  rw [List.length_nil, head37] at ht
  generalize markZ (bodyZ 3 7 []) = M at *
  have HT := hid ht
  have HL := hid hl
  clear ht hl
  go_enter Try.func6, Try.ntmps6
  go_wp2_with fail
  refine HP.mono ?_
  rintro e w1 ⟨⟨v1, rfl, o1⟩, hb1⟩
  obtain ⟨a1, c1, rfl, y1, n1, _, hc1⟩ := o1.form
  rw [HL.out] at n1 hc1 ⊢
  have y7 := Pack.Bytes.take (show Pack.Bytes w1 a1 M from y1) 7
  rw [HT.out] at y7
  have y7 : Bytes w1 a1 [3, 0, 0, 0, 7, 0, 0] := y7
  have hcv := conv_str y7 7 c1 rfl (fun e => absurd (n1 e).1 (by omega))
  have hS : strOfNums [3, 0, 0, 0, 7, 0, 0] = (⟨#[3, 0, 0, 0, 7, 0, 0]⟩ : ByteArray) := rfl
  rw [hS] at hcv
  have hc7 : (7 : Int) ≤ (c1 : Int) := by omega
  have HB := hid hb1
  clear o1 y1 y7 n1 HP hb1
  go_wp2_with fail
  go_ret
  exact ⟨rfl, HB.out⟩
end Go.Proofs.Ytcbigopfmiiadaa.Frm
