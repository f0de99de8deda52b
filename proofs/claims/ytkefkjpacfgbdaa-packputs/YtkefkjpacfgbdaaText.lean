/-
  Contracts of GetText, End and New.
-/
import Derived.Test.YtkefkjpacfgbdaaTake
namespace Go.Proofs.Ytkefkjpacfgbdaa.Pack
open Go.RowKit

/-- what a reader of zs, at p, with the error e, takes for a text of at most so many bytes; its place and its error then -/
def tN (zs : List Int) (p : Nat) : Nat := (zs.getD p 0).toNat
def tS (zs : List Int) (p : Nat) (e most : Int) : ByteArray := if e = 0 ∧ p + 1 ≤ zs.length ∧ (tN zs p : Int) ≤ max most 0 ∧ p + 1 + tN zs p ≤ zs.length then strOfNums ((zs.drop (p + 1)).take (tN zs p)) else ⟨#[]⟩
def tP (zs : List Int) (p : Nat) (e most : Int) : Nat := if e = 0 ∧ p + 1 ≤ zs.length ∧ (tN zs p : Int) ≤ max most 0 ∧ p + 1 + tN zs p ≤ zs.length then p + 1 + tN zs p else p
def tE (zs : List Int) (p : Nat) (e most : Int) : Int := if e ≠ 0 then e else if ¬ p + 1 ≤ zs.length then 2 else if max most 0 < (tN zs p : Int) then 4 else if p + 1 + tN zs p ≤ zs.length then 0 else 2
theorem t_ok {zs : List Int} {p : Nat} {most : Int} (h1 : p + 1 ≤ zs.length) (h2 : (tN zs p : Int) ≤ max most 0) (h3 : p + 1 + tN zs p ≤ zs.length) :
    tS zs p 0 most = strOfNums ((zs.drop (p + 1)).take (tN zs p)) ∧ tP zs p 0 most = p + 1 + tN zs p ∧ tE zs p 0 most = 0 := by
  have h2' : ¬ max most 0 < (tN zs p : Int) := by omega
  unfold tS tP tE
  rw [if_pos ⟨rfl, h1, h2, h3⟩, if_pos ⟨rfl, h1, h2, h3⟩, if_neg (by omega), if_neg (by omega), if_neg h2', if_pos h3]
  exact ⟨rfl, rfl, rfl⟩
theorem t_bad {zs : List Int} {p : Nat} {e most : Int} (h : e ≠ 0) : tS zs p e most = ⟨#[]⟩ ∧ tP zs p e most = p ∧ tE zs p e most = e := by
  unfold tS tP tE
  rw [if_neg (fun x => h x.1), if_neg (fun x => h x.1), if_pos h]
  exact ⟨rfl, rfl, rfl⟩
theorem t_none {zs : List Int} {p : Nat} {most : Int} (h : ¬ p + 1 ≤ zs.length) : tS zs p 0 most = ⟨#[]⟩ ∧ tP zs p 0 most = p ∧ tE zs p 0 most = 2 := by
  unfold tS tP tE
  rw [if_neg (fun x => h x.2.1), if_neg (fun x => h x.2.1), if_neg (by omega), if_pos h]
  exact ⟨rfl, rfl, rfl⟩
theorem t_long {zs : List Int} {p : Nat} {most : Int} (h1 : p + 1 ≤ zs.length) (h : max most 0 < (tN zs p : Int)) : tS zs p 0 most = ⟨#[]⟩ ∧ tP zs p 0 most = p ∧ tE zs p 0 most = 4 := by
  have h' : ¬ (tN zs p : Int) ≤ max most 0 := by omega
  unfold tS tP tE
  rw [if_neg (fun x => h' x.2.2.1), if_neg (fun x => h' x.2.2.1), if_neg (by omega), if_neg (by omega), if_pos h]
  exact ⟨rfl, rfl, rfl⟩
theorem t_short {zs : List Int} {p : Nat} {most : Int} (h1 : p + 1 ≤ zs.length) (h2 : (tN zs p : Int) ≤ max most 0) (h3 : ¬ p + 1 + tN zs p ≤ zs.length) : tS zs p 0 most = ⟨#[]⟩ ∧ tP zs p 0 most = p ∧ tE zs p 0 most = 2 := by
  have h2' : ¬ max most 0 < (tN zs p : Int) := by omega
  unfold tS tP tE
  rw [if_neg (fun x => h3 x.2.2.2), if_neg (fun x => h3 x.2.2.2), if_neg (by omega), if_neg (by omega), if_neg h2', if_neg h3]
  exact ⟨rfl, rfl, rfl⟩

theorem head_of (zs : List Int) (p : Nat) (h : p + 1 ≤ zs.length) : ((zs.drop p).take 1) = [zs.getD p 0] := by
  rw [List.drop_eq_getElem_cons (by omega), List.take_succ_cons, List.take_zero]
  simp [List.getD, List.getElem?_eq_getElem (show p < zs.length by omega)]
theorem tN_le {zs : List Int} (hz : Byt zs) (p : Nat) : zs.getD p 0 = ((tN zs p : Nat) : Int) ∧ tN zs p ≤ 255 := by
  have := byt_getD hz p
  unfold tN
  omega

set_option maxHeartbeats 1000000 in
theorem GetText_ok {w : World} {B k p : Nat} {zs : List Int} {most : Int} (h : Rd w B k zs p 0) (h1 : p + 1 ≤ zs.length) (h2 : (tN zs p : Int) ≤ max most 0) (h3 : p + 1 + tN zs p ≤ zs.length) :
    Calls Try.prog 21 #[.pointer (some ⟨k, 0, none⟩), .int .i64 most] w fun x w' => x = .returned (.string (strOfNums ((zs.drop (p + 1)).take (tN zs p)))) ∧ Rd w' B k zs (p + 1 + tN zs p) 0 ∧ w.grownBy w' (some k) := by
  have hq := slice_nil_eq
  have hz : Byt zs := by obtain ⟨_, _, _, _, hz, _⟩ := h; exact hz
  obtain ⟨hn, hn'⟩ := tN_le hz p
  go_enter Try.func21, Try.ntmps21
  go_wp2_with fail
  refine (ahead_ok h 1 (by omega) h1).mono ?_
  rintro x w1 ⟨b, off, c, rfl, hby, hb, hbk, hc1, hc2⟩
  rw [head_of zs p h1, hn] at hby
  have hr1 := h.later hb
  generalize hN : tN zs p = N at *
  have HN := hid hN
  clear hN
  have hc0 : w1.cell? ⟨b, off, none⟩ = some (.int .u8 (N : Int)) := by
    rcases hby with h0 | ⟨b', off', he, hc⟩
    · simp at h0
    · simp only [Option.some.injEq, Addr.mk.injEq, and_true] at he
      obtain ⟨rfl, rfl⟩ := he
      exact hc 0 (by simp)
  clear hby hn
  have HA := hid (ahead_ok hr1 (1 + N) (by omega) (by omega))
  rw [Int.natCast_add] at HA
  have e3 : ((p + 1 + N : Nat) : Int) = (p : Int) + (1 + (N : Int)) := by omega
  have R := fun w2 (hb2 : Below w1.heap.size w1 w2) => (hr1.later hb2).setP (p + 1 + N) h3
  rw [e3] at R
  have RH := hid R
  clear R e3
  have hmo : ¬ max most 0 < (N : Int) := by omega
  by_cases hm : most < 0
  all_goals
    go_wp2_with fail
    refine HA.out.mono ?_
    rintro x w2 ⟨b2, off2, cc, rfl, hby, hb2, hbk2, hcc1, hcc2⟩
    obtain ⟨a, cap, c0, c1, c2, f1, f2, _, _, hp, _, hz100, _⟩ := (hr1.later hb2).cells
    obtain ⟨hr3, hg3⟩ := RH.out w2 hb2
    have hby3 := (hby.drop 1).grown hg3 (fun ad had _ => by simp at had; subst had; simp; omega)
    rw [List.drop_take, List.drop_drop, show 1 + N - 1 = N by omega] at hby3
    have hl3 : ((zs.drop (p + 1)).take N).length = N := by simp; omega
    have HR := hid (And.intro hr3 (grown_trans (grown_below (hb.trans (hb2.mono hb.size)) _) hg3))
    clear HA hr3 hg3 hby RH
    by_cases hcc : cc = 1
    · obtain rfl : N = 0 := by omega
      subst hcc
      rw [List.take_zero] at hby3
      have hcv := fun W : World => conv_str (w := W) (a := some ⟨b2, off2, none⟩) (zs := []) (.inl rfl) 0 0 rfl (fun h => by cases h)
      go_wp2
      go_ret
      exact ⟨by rw [HN.out]; rfl, by rw [HN.out]; exact HR.out.1, HR.out.2⟩
    · have hcv := conv_str hby3 N (cc - 1) hl3 (fun h => by cases h)
      generalize hS : strOfNums ((zs.drop (p + 1)).take N) = S at hcv
      have HS := hid hS
      clear hS hby3 hl3
      go_wp2
      go_ret
      exact ⟨by rw [HN.out, HS.out]; rfl, by rw [HN.out]; exact HR.out.1, HR.out.2⟩

set_option maxHeartbeats 1000000 in
theorem GetText_any {w : World} {B k p : Nat} {zs : List Int} {e : Int} (h : Rd w B k zs p e) (most : Int) :
    Calls Try.prog 21 #[.pointer (some ⟨k, 0, none⟩), .int .i64 most] w fun x w' => x = .returned (.string (tS zs p e most)) ∧ Rd w' B k zs (tP zs p e most) (tE zs p e most) ∧ w.grownBy w' (some k) := by
  have hq := slice_nil_eq
  have hz : Byt zs := by obtain ⟨_, _, _, _, hz, _⟩ := h; exact hz
  obtain ⟨hn, hn'⟩ := tN_le hz p
  by_cases he : e = 0
  case neg =>
    obtain ⟨g1, g2, g3⟩ := t_bad (zs := zs) (p := p) (most := most) he
    rw [g1, g2, g3]
    clear g1 g2 g3
    go_enter Try.func21, Try.ntmps21
    go_wp2_with fail
    refine (ahead_bad h he 1).mono ?_
    rintro x w1 ⟨rfl, rfl⟩
    go_wp2
    go_ret
    exact ⟨rfl, h, World.grownBy.refl _ _⟩
  subst he
  by_cases h1 : p + 1 ≤ zs.length
  case neg =>
    obtain ⟨g1, g2, g3⟩ := t_none (most := most) h1
    rw [g1, g2, g3]
    clear g1 g2 g3
    go_enter Try.func21, Try.ntmps21
    go_wp2_with fail
    refine (ahead_short h 1 (by omega)).mono ?_
    rintro x w1 ⟨rfl, hr, hg⟩
    go_wp2
    go_ret
    exact ⟨rfl, hr, hg⟩
  by_cases h2 : (tN zs p : Int) ≤ max most 0
  case neg =>
    obtain ⟨g1, g2, g3⟩ := t_long (zs := zs) (p := p) (most := most) h1 (by omega)
    rw [g1, g2, g3]
    clear g1 g2 g3
    go_enter Try.func21, Try.ntmps21
    go_wp2_with fail
    refine (ahead_ok h 1 (by omega) h1).mono ?_
    rintro x w1 ⟨b, off, c, rfl, hby, hb, hbk, hc1, hc2⟩
    rw [head_of zs p h1, hn] at hby
    have hr1 := h.later hb
    generalize tN zs p = N at *
    have hc0 : w1.cell? ⟨b, off, none⟩ = some (.int .u8 (N : Int)) := by
      rcases hby with h0 | ⟨b', off', he, hc⟩
      · simp at h0
      · simp only [Option.some.injEq, Addr.mk.injEq, and_true] at he
        obtain ⟨rfl, rfl⟩ := he
        exact hc 0 (by simp)
    clear hby hn
    by_cases hm : most < 0
    · have h0 : 0 < N := by omega
      clear h2
      go_wp2_with fail
      refine (fail_any hr1 4).mono ?_
      rintro x w2 ⟨rfl, hr, hg⟩
      go_wp2
      go_ret
      exact ⟨rfl, hr, grown_trans (grown_below hb _) hg⟩
    · have h0 : most < (N : Int) := by omega
      clear h2
      go_wp2_with fail
      refine (fail_any hr1 4).mono ?_
      rintro x w2 ⟨rfl, hr, hg⟩
      go_wp2
      go_ret
      exact ⟨rfl, hr, grown_trans (grown_below hb _) hg⟩
  by_cases h3 : p + 1 + tN zs p ≤ zs.length
  case neg =>
    obtain ⟨g1, g2, g3⟩ := t_short (most := most) h1 h2 h3
    rw [g1, g2, g3]
    clear g1 g2 g3
    go_enter Try.func21, Try.ntmps21
    go_wp2_with fail
    refine (ahead_ok h 1 (by omega) h1).mono ?_
    rintro x w1 ⟨b, off, c, rfl, hby, hb, hbk, hc1, hc2⟩
    rw [head_of zs p h1, hn] at hby
    have hr1 := h.later hb
    generalize tN zs p = N at *
    have hc0 : w1.cell? ⟨b, off, none⟩ = some (.int .u8 (N : Int)) := by
      rcases hby with h0 | ⟨b', off', he, hc⟩
      · simp at h0
      · simp only [Option.some.injEq, Addr.mk.injEq, and_true] at he
        obtain ⟨rfl, rfl⟩ := he
        exact hc 0 (by simp)
    clear hby hn
    have HA := hid (ahead_short hr1 (1 + N) (by omega))
    rw [Int.natCast_add] at HA
    by_cases hm : most < 0
    · have h0 : ¬ 0 < N := by omega
      clear h2
      go_wp2_with fail
      refine HA.out.mono ?_
      rintro x w2 ⟨rfl, hr, hg⟩
      go_wp2
      go_ret
      exact ⟨rfl, hr, grown_trans (grown_below hb _) hg⟩
    · have h0 : ¬ most < (N : Int) := by omega
      clear h2
      go_wp2_with fail
      refine HA.out.mono ?_
      rintro x w2 ⟨rfl, hr, hg⟩
      go_wp2
      go_ret
      exact ⟨rfl, hr, grown_trans (grown_below hb _) hg⟩
  obtain ⟨g1, g2, g3⟩ := t_ok h1 h2 h3
  rw [g1, g2, g3]
  exact GetText_ok h h1 h2 h3
theorem GetText_nil (w : World) (most : Int) : Calls Try.prog 21 #[.pointer none, .int .i64 most] w fun x w' => x = .returned (.string ⟨#[]⟩) ∧ w' = w := by
  have hq := slice_nil_eq
  go_enter Try.func21, Try.ntmps21
  go_wp2_with fail
  refine (ahead_nil _ 1).mono ?_
  rintro x w1 ⟨rfl, rfl⟩
  go_wp2
  go_ret
  exact ⟨rfl, rfl⟩

/-- what End tells -/
def endE (n p : Nat) (e : Int) : Int := if e = 0 ∧ p < n then 4 else e
set_option maxHeartbeats 1000000 in
theorem End_any {w : World} {B k p : Nat} {zs : List Int} {e : Int} (h : Rd w B k zs p e) :
    Calls Try.prog 24 #[.pointer (some ⟨k, 0, none⟩)] w fun x w' => x = .returned (.int .i64 (endE zs.length p e)) ∧ Below w.heap.size w w' := by
  obtain ⟨a, cap, c0, c1, c2, f1, f2, _, _, hp, _, hz, _⟩ := h.cells
  by_cases he : e = 0
  · subst he
    by_cases hpn : p < zs.length
    · rw [show endE zs.length p 0 = 4 from if_pos ⟨rfl, hpn⟩]
      have hd : 0 < zs.length - p := by omega
      go_enter Try.func24, Try.ntmps24
      go_wp2_with fail
      refine (left_any h).mono ?_
      rintro x w1 ⟨rfl, hb⟩
      generalize zs.length - p = d at *
      go_wp2
      go_ret
      exact ⟨rfl, hb⟩
    · rw [show endE zs.length p 0 = 0 from if_neg (fun x => hpn x.2)]
      have hd : zs.length - p = 0 := by omega
      go_enter Try.func24, Try.ntmps24
      go_wp2_with fail
      refine (left_any h).mono ?_
      rintro x w1 ⟨rfl, hb⟩
      rw [hd]
      obtain ⟨a, cap, c0, c1, c2, f1, f2, _⟩ := (h.later hb).cells
      go_wp2
      go_ret
      exact ⟨rfl, hb⟩
  · rw [show endE zs.length p e = e from if_neg (fun x => he x.1)]
    have hd : (e == 0) = false := by simpa using he
    go_enter Try.func24, Try.ntmps24
    go_wp2
    go_ret
    exact ⟨rfl, Below.refl _ _⟩
theorem End_nil (w : World) : Calls Try.prog 24 #[.pointer none] w fun x w' => x = .returned (.int .i64 1) ∧ w' = w := by
  go_enter Try.func24, Try.ntmps24
  go_wp2
  go_ret
  exact ⟨rfl, rfl⟩
end Go.Proofs.Ytkefkjpacfgbdaa.Pack
