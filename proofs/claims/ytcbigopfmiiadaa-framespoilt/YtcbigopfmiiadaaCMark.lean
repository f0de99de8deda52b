/-
  Contracts of crc.written, crc.Mark and marcotref01.Mark: the row that comes back is of the call's own and holds the bytes and their sum.
-/
import Derived.Test.YtcbigopfmiiadaaCAid
namespace Go.Proofs.Ytcbigopfmiiadaa.Crc
open Go.RowKit

theorem le_ints (s : Nat) (hs : s < 4294967296) : [(s : Int) % 256, (s : Int) / 256 % 256, (s : Int) / 65536 % 256, (s : Int) / 16777216] = le s := by
  unfold le
  have h : (s : Int) / 16777216 = ((s / 16777216 % 256 : Nat) : Int) := by omega
  rw [h]
  simp

set_option maxRecDepth 100000 in
set_option maxHeartbeats 1000000 in
theorem written_any (s : Nat) (hs : s < 4294967296) (w : World) :
    Calls Try.prog 29 #[.int .u32 (s : Int)] w fun e w' => ∃ b0 b1 b2 b3 : Int, e = .returned (.agg #[.int .u8 b0, .int .u8 b1, .int .u8 b2, .int .u8 b3]) ∧ [b0, b1, b2, b3] = le s ∧ Below w.heap.size w w' := by
  go_enter Try.func29, Try.ntmps29
  go_wp2_with fail
  refine wp_loop_rounds 5 ?_
  rw [rounds_succ]
  go_wp2
  rw [rounds_succ]
  go_wp2
  rw [rounds_succ]
  go_wp2
  rw [rounds_succ]
  go_wp2
  rw [rounds_succ]
  go_wp2
  exact bodyPost_ret (v := .agg #[.int .u8 ((s : Int) % 256), .int .u8 ((s : Int) / 256 % 256), .int .u8 ((s : Int) / 65536 % 256), .int .u8 ((s : Int) / 16777216)]) (by simp [results, Try.results29, go_sem]) rfl
    ⟨_, _, _, _, rfl, le_ints s hs, ((Below.refl _ _).alloc (Nat.le_refl _) _).alloc (by simp) _⟩

theorem Own.later {w w' : World} {base : Nat} {v : Value} {zs : List Int} (h : Own w base v zs) (hb : Below w.heap.size w w') : Own w' base v zs :=
  World.ownsRow.kept (row := none) h ⟨hb.os, hb.tape, hb.output, hb.size, fun k hk _ => hb.block k hk⟩ (by cases hv : v.ownBlock <;> simp)
/-- 'out = append(out, b)', out of the call's own -/
theorem app1 {w0 w : World} {ops : Array Oper} {rest : List Oper} {o : Oper} {a : Act} {Q : Exit → Act → World → Prop} (hgd : o.guard = none) (s x : Operand)
    (ho : o.op = .call { callee := .builtin .append, args := #[s, x], argTypes := #[23, 23] })
    (B : Nat) (v : Value) (zs : List Int) (hs : a.eval s = v) (hown : Own w B v zs) (b : Int) (hx : a.eval x = .slice (some ⟨w.heap.size, 0, none⟩) 1 1) (hsz : zs.length ≤ 900000) (hB : B ≤ w0.heap.size) (hbel : Below B w0 w)
    (h : ∀ v' w', Own w' B v' (zs ++ [b]) → Below B w0 w' → wpList Try.prog ops Q rest (a.put o.dst v') w') : wpList Try.prog ops Q (o :: rest) a (w.alloc (.cells #[.int .u8 b] 5)) := by
  have hBw : B ≤ w.heap.size := Nat.le_trans hB hbel.size
  have hown' : Own (w.alloc (.cells #[.int .u8 b] 5)) B v zs := World.ownsRow.alloc hown _
  have hbel' : Below B w0 (w.alloc (.cells #[.int .u8 b] 5)) := hbel.alloc hBw _
  refine app hgd s x ho B v zs hs hown' (some ⟨w.heap.size, 0, none⟩) 1 1 [b] hx (fun h => by cases h) rfl (digits_lie w _ _ [b] rfl) (by omega) (by simp; omega) ?_
  intro v' w' h1 h2
  exact h v' w' h1 (hown'.below hbel' (Nat.le_refl _) (by simp; omega) h2)

set_option maxRecDepth 100000 in
set_option maxHeartbeats 1000000 in
theorem mark_any (a : Option Addr) (n cap : Nat) (zs : List Int) (w : World) (hn : zs.length = n) (hb : Bytes w a zs) (hz : Byt zs) (hnil : a = none → n = 0 ∧ cap = 0) (hm : n ≤ 100000) :
    Calls Try.prog 15 #[.slice a n cap] w fun e w' => ∃ v, e = .returned v ∧ Own w' w.heap.size v (zs ++ le (more 0 zs)) ∧ Below w.heap.size w w' := by
  obtain ⟨i0, hi, hz0, hz1, hz2⟩ := info_parts info5
  have hmk : ∀ u : World, (Instr.makeSlice 23 (.int .i64 0) (.int .i64 ((n : Int) + 4))).run Try.prog u =
      .ok (.slice (some ⟨u.heap.size, 0, none⟩) 0 (n + 4)) (u.alloc (.cells (madeCells #[.int .u8 0] (n + 4)) 5)) := fun u => by
    have h := run_make (P := Try.prog) u 23 5 i0 (.int .u8 0) Try.underlying23 hi hz0 .i64 .i64 0 ((n : Int) + 4) (by omega) (by omega) (by rw [hz2]; omega) (by omega)
    have e : ((n : Int) + 4).toNat = n + 4 := by omega
    rw [e] at h
    simpa [hz1, Value.cells] using h
  have hb0 : Below w.heap.size w (w.alloc (.cells (madeCells #[.int .u8 0] (n + 4)) 5)) := (Below.refl _ _).alloc (Nat.le_refl _) _
  have ho0 : Own (w.alloc (.cells (madeCells #[.int .u8 0] (n + 4)) 5)) w.heap.size (.slice (some ⟨w.heap.size, 0, none⟩) 0 (n + 4)) [] :=
    World.ownsRow_made (size := 1) w _ (n + 4) (Nat.le_refl _) (by unfold maxLen; omega) (by simp [size_madeCells])
  generalize madeCells #[.int .u8 0] (n + 4) = C at *
  go_enter Try.func15, Try.ntmps15
  go_wp2_with (first | (at_builtin; refine app rfl (.tmp 10) (.tmp 11) rfl w.heap.size _ [] rfl ho0 a n cap zs rfl hnil hn (hb.later hb0) (by simp; omega) (by simp) ?_; intro v1 w1 ho1 hg1; have hb1 := ho0.below hb0 (Nat.le_refl _) (by simp) hg1; clear hg1; rw [List.nil_append] at ho1) | fail)
  have hlt := more_lt 0 zs
  refine (sum_any _ _ _ zs _ hn (hb.later hb1) hz hm).mono ?_
  rintro e w' ⟨rfl, rfl⟩
  go_wp2_with fail
  refine (written_any _ hlt _).mono ?_
  rintro e w2 ⟨b0, b1, b2, b3, rfl, HL, hbw⟩
  have i0 : ∀ u : World, (Instr.index 52 (.agg #[.int .u8 b0, .int .u8 b1, .int .u8 b2, .int .u8 b3]) (.int .i64 0)).run Try.prog u = .ok (.int .u8 b0) u := fun _ => by kernel_rfl
  have i1 : ∀ u : World, (Instr.index 52 (.agg #[.int .u8 b0, .int .u8 b1, .int .u8 b2, .int .u8 b3]) (.int .i64 1)).run Try.prog u = .ok (.int .u8 b1) u := fun _ => by kernel_rfl
  have i2 : ∀ u : World, (Instr.index 52 (.agg #[.int .u8 b0, .int .u8 b1, .int .u8 b2, .int .u8 b3]) (.int .i64 2)).run Try.prog u = .ok (.int .u8 b2) u := fun _ => by kernel_rfl
  have i3 : ∀ u : World, (Instr.index 52 (.agg #[.int .u8 b0, .int .u8 b1, .int .u8 b2, .int .u8 b3]) (.int .i64 3)).run Try.prog u = .ok (.int .u8 b3) u := fun _ => by kernel_rfl
  have ho2 := ho1.later hbw
  have hb2 := hb1.trans (hbw.mono hb1.size)
  have HH := hid HL
  clear HL hbw ho1 hb1 hb ho0 hb0 hmk hz1 hz2 hz0 hi
  go_wp2_with fail
  refine wp_loop_rounds 5 ?_
  rw [rounds_succ]
  go_wp2_with (at_builtin; refine app1 rfl (.tmp 19) (.tmp 21) rfl _ _ _ rfl ho2 b0 rfl (by omega) (Nat.le_refl _) hb2 ?_; intro v3 w3 ho3 hb3; clear ho2 hb2)
  rw [rounds_succ]
  go_wp2_with (at_builtin; refine app1 rfl (.tmp 19) (.tmp 21) rfl _ _ _ rfl ho3 b1 rfl (by simp; omega) (Nat.le_refl _) hb3 ?_; intro v4 w4 ho4 hb4; clear ho3 hb3)
  rw [rounds_succ]
  go_wp2_with (at_builtin; refine app1 rfl (.tmp 19) (.tmp 21) rfl _ _ _ rfl ho4 b2 rfl (by simp; omega) (Nat.le_refl _) hb4 ?_; intro v5 w5 ho5 hb5; clear ho4 hb4)
  rw [rounds_succ]
  go_wp2_with (at_builtin; refine app1 rfl (.tmp 19) (.tmp 21) rfl _ _ _ rfl ho5 b3 rfl (by simp; omega) (Nat.le_refl _) hb5 ?_; intro v6 w6 ho6 hb6; clear ho5 hb5)
  rw [rounds_succ]
  go_wp2
  obtain ⟨a6, c6, rfl, _, _, _⟩ := ho6.form
  go_ret
  refine ⟨_, rfl, ?_, hb6⟩
  rw [← HH.out]
  simpa using ho6
end Go.Proofs.Ytcbigopfmiiadaa.Crc
