/-
  Contracts of the program's zeros and body (frames).
-/
import Derived.Test.YtcbigopfmiiadaaFg
import Derived.Test.YtcbigopfmiiadaaPNew
namespace Go.Proofs.Ytcbigopfmiiadaa.Frm
open Go.RowKit Crc
open Pack (be val)
set_option linter.unusedVariables false
set_option linter.unusedSimpArgs false

theorem zero_no {zs : List Int} {k n : Nat} (hk : k < n) (hx : zs.getD k 0 ≠ 0) : decide (zs = List.replicate n 0) = false := by
  refine decide_eq_false fun e => hx ?_
  rw [e]
  simp [List.getD, List.getElem?_replicate, hk]
theorem zero_on {zs : List Int} {k : Nat} (hk : k < zs.length) (h : zs.take k = List.replicate k 0) (hx : zs.getD k 0 = 0) : zs.take (k + 1) = List.replicate (k + 1) 0 := by
  rw [Pack.take_snoc zs k hk, h, hx, List.replicate_succ']
theorem zero_yes {zs : List Int} {n : Nat} (hl : zs.length = n) (h : zs.take n = List.replicate n 0) : decide (zs = List.replicate n 0) = true := by
  rw [List.take_of_length_le (by omega)] at h
  exact decide_eq_true h
set_option maxRecDepth 100000 in
set_option maxHeartbeats 1000000 in
theorem zeros34 (a : Option Addr) (n cap : Nat) (zs : List Int) (w : World) (hn : zs.length = n) (hb : Bytes w a zs) (hm : n ≤ 100000) :
    Calls Try.prog 34 #[.slice a n cap] w fun e w' => e = .returned (.bool (decide (zs = List.replicate n 0))) ∧ w' = w := by
  have HD := hid (show decide (zs = List.replicate n 0) = decide (zs = List.replicate n 0) from rfl)
  generalize hdd : decide (zs = List.replicate n 0) = DD at *
  have HDD := hid hdd
  clear hdd HD
  go_enter Try.func34, Try.ntmps34
  go_wp2
  go_loop [4, 7] (fun _ i => ∃ k : Nat, k ≤ n ∧ i = .int .i64 k ∧ Hid (zs.take k = List.replicate k 0)) (fun _ i => n - (intOf i).toNat)
  case atStart => exact ⟨0, Nat.zero_le _, rfl, hid (by simp)⟩
  case round =>
    obtain ⟨k, hk, rfl, HT⟩ := hrel
    by_cases hlt : k < n
    · rcases hb with h0 | ⟨b, off, rfl, hc⟩
      · subst h0; simp at hn; omega
      have hck := hc k (by omega)
      have HON := hid (zero_on (zs := zs) (k := k) (by omega) HT.out)
      have HNO := hid (zero_no (zs := zs) (k := k) (n := n) hlt)
      clear hc
      generalize zs.getD k 0 = x at *
      by_cases hx : x = 0
      · subst hx
        have HX := hid (HON.out rfl)
        go_wp2
        go_round
        case rel => exact ⟨k + 1, by omega, by go_num, HX⟩
        case measure => simp [intOf]; omega
      · have HX := hid (HDD.out.symm.trans (HNO.out hx))
        have hd : decide (x = 0) = false := decide_eq_false hx
        go_wp2
        go_ret
        exact ⟨by rw [HX.out]; rfl, rfl⟩
    · obtain rfl : k = n := by omega
      have HX := hid (HDD.out.symm.trans (zero_yes hn HT.out))
      go_wp2
      go_ret
      exact ⟨by rw [HX.out]; rfl, rfl⟩
/-- What the program's body is. -/
def bodyG (ln : Nat) (zs : List Int) : List Int × Int := if 2024 < ln then ([], 3) else if (zs.drop (7 + ln)).take (2037 - ln) ≠ List.replicate (2037 - ln) 0 then ([], 3) else ((zs.drop 7).take ln, 0)
theorem out_nil (w : World) : BytesOut w (.slice none 0 0) [] := ⟨none, 0, rfl, .inl rfl, fun _ => ⟨rfl, rfl⟩, Nat.le_refl _⟩
set_option maxRecDepth 100000 in
set_option maxHeartbeats 2000000 in
theorem body21 (b off cap ln : Nat) (zs : List Int) (w : World) (hn : zs.length = 2048) (hb : Bytes w (some ⟨b, off, none⟩) zs) (hc : 2048 ≤ cap) (hcm : cap ≤ 9223372036854775807) (hln : ln < 65536) :
    Calls Try.prog 21 #[.slice (some ⟨b, off, none⟩) 2048 cap, .int .i64 (ln : Int)] w fun e w' => (∃ v, e = .returned (.tuple #[v, .int .i64 (bodyG ln zs).2]) ∧ BytesOut w' v (bodyG ln zs).1) ∧ Below w.heap.size w w' := by
  have HR := hid (show bodyG ln zs = if 2024 < ln then ([], 3) else if (zs.drop (7 + ln)).take (2037 - ln) ≠ List.replicate (2037 - ln) 0 then ([], 3) else ((zs.drop 7).take ln, 0) from rfl)
  generalize bodyG ln zs = RR at *
  by_cases hl : 2024 < ln
  · have HR1 := hid (HR.out.trans (if_pos hl))
    have hd : decide ((2024 : Int) < (ln : Int)) = true := decide_eq_true (by omega)
    clear HR hn hb
    go_enter Try.func21, Try.ntmps21
    go_wp2_with fail
    exact bodyPost_ret (v := .tuple #[.slice none 0 0, .int .i64 3]) (by simp [results, Try.results21, go_sem]) rfl ⟨⟨_, by rw [HR1.out], by rw [HR1.out]; exact out_nil _⟩, Below.refl _ _⟩
  · have HRa := hid (HR.out.trans (if_neg hl))
    have hd : decide ((2024 : Int) < (ln : Int)) = false := decide_eq_false (by omega)
    have hw4 : IntKind.i64.wrap (7 + (ln : Int)) = 7 + (ln : Int) := by rw [IntKind.wrap_i64]; omega
    have hw5 : (0 : Int) ≤ 7 + (ln : Int) := by omega
    have hw6 : 7 + (ln : Int) ≤ 2044 := by omega
    have hw7 : (2044 : Int) ≤ (cap : Int) := by omega
    have hw8 : (7 + (ln : Int)).toNat = 7 + ln := by omega
    have hw9 : 2044 - (7 + ln) = 2037 - ln := by omega
    have hwa : (7 : Int) ≤ 7 + (ln : Int) := by omega
    have hwb : 7 + (ln : Int) ≤ (cap : Int) := by omega
    have hwc : 7 + ln - 7 = ln := by omega
    have hwd : cap - (7 + ln) ≠ 0 := by omega
    have hwe : cap - 7 ≠ 0 := by omega
    have HP1 := hid (BytesOut.part hb (7 + ln) (2037 - ln) (by omega) (by omega : zs.length ≤ cap))
    have HP2 := hid (BytesOut.part hb 7 ln (by omega) (by omega : zs.length ≤ cap))
    have hl1 : ((zs.drop (7 + ln)).take (2037 - ln)).length = 2037 - ln := by rw [List.length_take, List.length_drop]; omega
    have hl2 : ((zs.drop 7).take ln).length = ln := by rw [List.length_take, List.length_drop]; omega
    have hln2 : ln ≤ 2024 := by omega
    have HZ := hid (fun (cc : Nat) (hy : Bytes w (some ⟨b, off + (7 + ln), none⟩) ((zs.drop (7 + ln)).take (2037 - ln))) => zeros34 (some ⟨b, off + (7 + ln), none⟩) (2037 - ln) cc _ w hl1 hy (by omega))
    have y1 : Bytes w (some ⟨b, off + (7 + ln), none⟩) ((zs.drop (7 + ln)).take (2037 - ln)) := by
      obtain ⟨a', c', e, hy, _⟩ := HP1.out
      simp only [Value.slice.injEq] at e
      obtain ⟨rfl, _, _⟩ := e
      exact hy
    have y2 : Bytes w (some ⟨b, off + 7, none⟩) ((zs.drop 7).take ln) := by
      obtain ⟨a', c', e, hy, _⟩ := HP2.out
      simp only [Value.slice.injEq] at e
      obtain ⟨rfl, _, _⟩ := e
      exact hy
    have HZ1 := HZ.out (cap - (7 + ln)) y1
    have HC := hid (fun (cc : Nat) => Pack.clone_any (some ⟨b, off + 7, none⟩) ln cc ((zs.drop 7).take ln) w hl2 y2 (fun e => by cases e) (by omega))
    generalize (zs.drop (7 + ln)).take (2037 - ln) = ZZ at *
    generalize (zs.drop 7).take ln = BD at *
    clear HR hn hb HP1 HP2 y1 y2 HZ hl1
    by_cases hz : ZZ = List.replicate (2037 - ln) 0
    · have HR1 := hid (HRa.out.trans (if_neg (by simpa using hz)))
      rw [decide_eq_true hz] at HZ1
      have HC1 := HC.out (cap - 7)
      clear HRa hz HC
      go_enter Try.func21, Try.ntmps21
      go_wp2_with fail
      refine HZ1.mono ?_
      rintro e w2 ⟨rfl, rfl⟩
      go_wp2_with fail
      refine HC1.mono ?_
      rintro e w3 ⟨v3, rfl, o3, hb3⟩
      have HO := hid (BytesOut.own o3)
      have HB := hid hb3
      clear o3 hb3
      go_wp2_with fail
      exact bodyPost_ret (v := .tuple #[v3, .int .i64 0]) (by simp [results, Try.results21, go_sem]) rfl ⟨⟨_, by rw [HR1.out], by rw [HR1.out]; exact HO.out⟩, HB.out⟩
    · have HR1 := hid (HRa.out.trans (if_pos (by simpa using hz)))
      rw [decide_eq_false hz] at HZ1
      clear HRa hz HC
      go_enter Try.func21, Try.ntmps21
      go_wp2_with fail
      refine HZ1.mono ?_
      rintro e w2 ⟨rfl, rfl⟩
      go_wp2_with fail
      exact bodyPost_ret (v := .tuple #[.slice none 0 0, .int .i64 3]) (by simp [results, Try.results21, go_sem]) rfl ⟨⟨_, by rw [HR1.out], by rw [HR1.out]; exact out_nil _⟩, Below.refl _ _⟩
end Go.Proofs.Ytcbigopfmiiadaa.Frm
