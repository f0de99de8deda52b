/-
  Contracts of marcotref02.Put and PutText, and of awake.
-/
import Derived.Test.YtcbigopfmiiadaaPPut
namespace Go.Proofs.Ytcbigopfmiiadaa.Pack
open Go.RowKit

theorem be_8' (n : Nat) (_h : n < 18446744073709551616) : [(n : Int) / 256 / 256 / 256 / 256 / 256 / 256 / 256 % 256, (n : Int) / 256 / 256 / 256 / 256 / 256 / 256 % 256, (n : Int) / 256 / 256 / 256 / 256 / 256 % 256, (n : Int) / 256 / 256 / 256 / 256 % 256, (n : Int) / 256 / 256 / 256 % 256, (n : Int) / 256 / 256 % 256, (n : Int) / 256 % 256, (n : Int) % 256] = be 8 n := by
  simp only [be, List.nil_append, List.cons_append, List.cons.injEq, and_true]
  omega

set_option maxRecDepth 100000 in
set_option maxHeartbeats 4000000 in
theorem ref_put_1 (n : Nat) (hn : n < 18446744073709551616) (a : Option Addr) (l cap : Nat) (zs : List Int) (w : World) (hl : zs.length = l) (hb : Bytes w a zs) (hnil : a = none → l = 0 ∧ cap = 0) (hm : l ≤ 100000) :
    Calls Try.prog 16 #[.slice a l cap, .int .u64 (n : Int), .int .i64 1] w fun e w' => ∃ v, e = .returned v ∧ Own w' w.heap.size v (zs ++ be 1 n) ∧ Below w.heap.size w w' := by
  have ho0 := Own.made w
  have hb0 : Below w.heap.size w (w.alloc (.cells #[] 5)) := (Below.refl _ _).alloc (Nat.le_refl _) _
  go_enter Try.func16, Try.ntmps16
  go_wp2_with fail
  generalize hW : w.alloc (.cells #[] 5) = W at ho0 hb0 ⊢
  clear hW
  refine wp_loop_rounds 9 ?_
  rw [rounds_succ]
  go_wp2_with (at_builtin; refine app2 rfl (.tmp 20) (.tmp 21) rfl _ _ rfl _ _ rfl ho0 (by simp) (Nat.le_refl _) hb0 ?_; intro v1 w1 ho1 hb1; clear ho0 hb0)
  rw [rounds_succ]
  go_wp2_with (at_builtin; refine app2 rfl (.tmp 20) (.tmp 21) rfl _ _ rfl _ _ rfl ho1 (by simp) (Nat.le_refl _) hb1 ?_; intro v2 w2 ho2 hb2; clear ho1 hb1)
  rw [rounds_succ]
  go_wp2_with (at_builtin; refine app2 rfl (.tmp 20) (.tmp 21) rfl _ _ rfl _ _ rfl ho2 (by simp) (Nat.le_refl _) hb2 ?_; intro v3 w3 ho3 hb3; clear ho2 hb2)
  rw [rounds_succ]
  go_wp2_with (at_builtin; refine app2 rfl (.tmp 20) (.tmp 21) rfl _ _ rfl _ _ rfl ho3 (by simp) (Nat.le_refl _) hb3 ?_; intro v4 w4 ho4 hb4; clear ho3 hb3)
  rw [rounds_succ]
  go_wp2_with (at_builtin; refine app2 rfl (.tmp 20) (.tmp 21) rfl _ _ rfl _ _ rfl ho4 (by simp) (Nat.le_refl _) hb4 ?_; intro v5 w5 ho5 hb5; clear ho4 hb4)
  rw [rounds_succ]
  go_wp2_with (at_builtin; refine app2 rfl (.tmp 20) (.tmp 21) rfl _ _ rfl _ _ rfl ho5 (by simp) (Nat.le_refl _) hb5 ?_; intro v6 w6 ho6 hb6; clear ho5 hb5)
  rw [rounds_succ]
  go_wp2_with (at_builtin; refine app2 rfl (.tmp 20) (.tmp 21) rfl _ _ rfl _ _ rfl ho6 (by simp) (Nat.le_refl _) hb6 ?_; intro v7 w7 ho7 hb7; clear ho6 hb6)
  rw [rounds_succ]
  go_wp2_with (at_builtin; refine app2 rfl (.tmp 20) (.tmp 21) rfl _ _ rfl _ _ rfl ho7 (by simp) (Nat.le_refl _) hb7 ?_; intro v8 w8 ho8 hb8; clear ho7 hb7)
  rw [rounds_succ]
  rw [be_8' n hn] at ho8
  obtain ⟨g, c8, rfl, hg1, hg2, hc8, hcm, hby⟩ := ho8.rowAt (be_length 8 n) (by omega)
  clear ho8
  unfold maxLen at hcm
  have hbx := hb.later hb8
  have hoM := Own.made w8
  have hbM : Below w8.heap.size w8 (w8.alloc (.cells #[] 5)) := (Below.refl _ _).alloc (Nat.le_refl _) _
  clear hb
  go_wp2_with (first | (at_builtin; refine app rfl (.tmp 29) (.tmp 33) rfl w8.heap.size _ zs rfl ho9 (some ⟨g, 7, none⟩) 1 (c8 - 7) (be 1 n) rfl (fun h => by cases h) (be_length 1 n) hby10 (by omega) hb9.size ?_; intro v10 w10 ho10 hg10; have hb10 := ho9.below hb9 (Nat.le_refl _) hb9.size hg10; clear hg10 ho9 hb9 hby9 hby10) | (at_builtin; refine app rfl (.tmp 26) (.tmp 27) rfl w8.heap.size _ [] rfl hoM a l cap zs rfl hnil hl (hbx.later hbM) (by simp; omega) (by simp) ?_; intro v9 w9 ho9 hg9; have hb9 := hoM.below hbM (Nat.le_refl _) (by simp) hg9; clear hg9 hoM hbM; rw [List.nil_append] at ho9; have hby9 := hby.later hb9; have hby10 := hby9.drop 7; rw [Nat.zero_add, be_drop 1 7 n] at hby10) | fail)
  obtain ⟨a6, c6, rfl, _, _, _⟩ := ho10.form
  go_ret
  exact ⟨_, rfl, ho10.mono hb8.size, hb8.trans (hb10.mono hb8.size)⟩

set_option maxRecDepth 100000 in
set_option maxHeartbeats 4000000 in
theorem ref_put_2 (n : Nat) (hn : n < 18446744073709551616) (a : Option Addr) (l cap : Nat) (zs : List Int) (w : World) (hl : zs.length = l) (hb : Bytes w a zs) (hnil : a = none → l = 0 ∧ cap = 0) (hm : l ≤ 100000) :
    Calls Try.prog 16 #[.slice a l cap, .int .u64 (n : Int), .int .i64 2] w fun e w' => ∃ v, e = .returned v ∧ Own w' w.heap.size v (zs ++ be 2 n) ∧ Below w.heap.size w w' := by
  have ho0 := Own.made w
  have hb0 : Below w.heap.size w (w.alloc (.cells #[] 5)) := (Below.refl _ _).alloc (Nat.le_refl _) _
  go_enter Try.func16, Try.ntmps16
  go_wp2_with fail
  generalize hW : w.alloc (.cells #[] 5) = W at ho0 hb0 ⊢
  clear hW
  refine wp_loop_rounds 9 ?_
  rw [rounds_succ]
  go_wp2_with (at_builtin; refine app2 rfl (.tmp 20) (.tmp 21) rfl _ _ rfl _ _ rfl ho0 (by simp) (Nat.le_refl _) hb0 ?_; intro v1 w1 ho1 hb1; clear ho0 hb0)
  rw [rounds_succ]
  go_wp2_with (at_builtin; refine app2 rfl (.tmp 20) (.tmp 21) rfl _ _ rfl _ _ rfl ho1 (by simp) (Nat.le_refl _) hb1 ?_; intro v2 w2 ho2 hb2; clear ho1 hb1)
  rw [rounds_succ]
  go_wp2_with (at_builtin; refine app2 rfl (.tmp 20) (.tmp 21) rfl _ _ rfl _ _ rfl ho2 (by simp) (Nat.le_refl _) hb2 ?_; intro v3 w3 ho3 hb3; clear ho2 hb2)
  rw [rounds_succ]
  go_wp2_with (at_builtin; refine app2 rfl (.tmp 20) (.tmp 21) rfl _ _ rfl _ _ rfl ho3 (by simp) (Nat.le_refl _) hb3 ?_; intro v4 w4 ho4 hb4; clear ho3 hb3)
  rw [rounds_succ]
  go_wp2_with (at_builtin; refine app2 rfl (.tmp 20) (.tmp 21) rfl _ _ rfl _ _ rfl ho4 (by simp) (Nat.le_refl _) hb4 ?_; intro v5 w5 ho5 hb5; clear ho4 hb4)
  rw [rounds_succ]
  go_wp2_with (at_builtin; refine app2 rfl (.tmp 20) (.tmp 21) rfl _ _ rfl _ _ rfl ho5 (by simp) (Nat.le_refl _) hb5 ?_; intro v6 w6 ho6 hb6; clear ho5 hb5)
  rw [rounds_succ]
  go_wp2_with (at_builtin; refine app2 rfl (.tmp 20) (.tmp 21) rfl _ _ rfl _ _ rfl ho6 (by simp) (Nat.le_refl _) hb6 ?_; intro v7 w7 ho7 hb7; clear ho6 hb6)
  rw [rounds_succ]
  go_wp2_with (at_builtin; refine app2 rfl (.tmp 20) (.tmp 21) rfl _ _ rfl _ _ rfl ho7 (by simp) (Nat.le_refl _) hb7 ?_; intro v8 w8 ho8 hb8; clear ho7 hb7)
  rw [rounds_succ]
  rw [be_8' n hn] at ho8
  obtain ⟨g, c8, rfl, hg1, hg2, hc8, hcm, hby⟩ := ho8.rowAt (be_length 8 n) (by omega)
  clear ho8
  unfold maxLen at hcm
  have hbx := hb.later hb8
  have hoM := Own.made w8
  have hbM : Below w8.heap.size w8 (w8.alloc (.cells #[] 5)) := (Below.refl _ _).alloc (Nat.le_refl _) _
  clear hb
  go_wp2_with (first | (at_builtin; refine app rfl (.tmp 29) (.tmp 33) rfl w8.heap.size _ zs rfl ho9 (some ⟨g, 6, none⟩) 2 (c8 - 6) (be 2 n) rfl (fun h => by cases h) (be_length 2 n) hby10 (by omega) hb9.size ?_; intro v10 w10 ho10 hg10; have hb10 := ho9.below hb9 (Nat.le_refl _) hb9.size hg10; clear hg10 ho9 hb9 hby9 hby10) | (at_builtin; refine app rfl (.tmp 26) (.tmp 27) rfl w8.heap.size _ [] rfl hoM a l cap zs rfl hnil hl (hbx.later hbM) (by simp; omega) (by simp) ?_; intro v9 w9 ho9 hg9; have hb9 := hoM.below hbM (Nat.le_refl _) (by simp) hg9; clear hg9 hoM hbM; rw [List.nil_append] at ho9; have hby9 := hby.later hb9; have hby10 := hby9.drop 6; rw [Nat.zero_add, be_drop 2 6 n] at hby10) | fail)
  obtain ⟨a6, c6, rfl, _, _, _⟩ := ho10.form
  go_ret
  exact ⟨_, rfl, ho10.mono hb8.size, hb8.trans (hb10.mono hb8.size)⟩

set_option maxRecDepth 100000 in
set_option maxHeartbeats 4000000 in
theorem ref_put_4 (n : Nat) (hn : n < 18446744073709551616) (a : Option Addr) (l cap : Nat) (zs : List Int) (w : World) (hl : zs.length = l) (hb : Bytes w a zs) (hnil : a = none → l = 0 ∧ cap = 0) (hm : l ≤ 100000) :
    Calls Try.prog 16 #[.slice a l cap, .int .u64 (n : Int), .int .i64 4] w fun e w' => ∃ v, e = .returned v ∧ Own w' w.heap.size v (zs ++ be 4 n) ∧ Below w.heap.size w w' := by
  have ho0 := Own.made w
  have hb0 : Below w.heap.size w (w.alloc (.cells #[] 5)) := (Below.refl _ _).alloc (Nat.le_refl _) _
  go_enter Try.func16, Try.ntmps16
  go_wp2_with fail
  generalize hW : w.alloc (.cells #[] 5) = W at ho0 hb0 ⊢
  clear hW
  refine wp_loop_rounds 9 ?_
  rw [rounds_succ]
  go_wp2_with (at_builtin; refine app2 rfl (.tmp 20) (.tmp 21) rfl _ _ rfl _ _ rfl ho0 (by simp) (Nat.le_refl _) hb0 ?_; intro v1 w1 ho1 hb1; clear ho0 hb0)
  rw [rounds_succ]
  go_wp2_with (at_builtin; refine app2 rfl (.tmp 20) (.tmp 21) rfl _ _ rfl _ _ rfl ho1 (by simp) (Nat.le_refl _) hb1 ?_; intro v2 w2 ho2 hb2; clear ho1 hb1)
  rw [rounds_succ]
  go_wp2_with (at_builtin; refine app2 rfl (.tmp 20) (.tmp 21) rfl _ _ rfl _ _ rfl ho2 (by simp) (Nat.le_refl _) hb2 ?_; intro v3 w3 ho3 hb3; clear ho2 hb2)
  rw [rounds_succ]
  go_wp2_with (at_builtin; refine app2 rfl (.tmp 20) (.tmp 21) rfl _ _ rfl _ _ rfl ho3 (by simp) (Nat.le_refl _) hb3 ?_; intro v4 w4 ho4 hb4; clear ho3 hb3)
  rw [rounds_succ]
  go_wp2_with (at_builtin; refine app2 rfl (.tmp 20) (.tmp 21) rfl _ _ rfl _ _ rfl ho4 (by simp) (Nat.le_refl _) hb4 ?_; intro v5 w5 ho5 hb5; clear ho4 hb4)
  rw [rounds_succ]
  go_wp2_with (at_builtin; refine app2 rfl (.tmp 20) (.tmp 21) rfl _ _ rfl _ _ rfl ho5 (by simp) (Nat.le_refl _) hb5 ?_; intro v6 w6 ho6 hb6; clear ho5 hb5)
  rw [rounds_succ]
  go_wp2_with (at_builtin; refine app2 rfl (.tmp 20) (.tmp 21) rfl _ _ rfl _ _ rfl ho6 (by simp) (Nat.le_refl _) hb6 ?_; intro v7 w7 ho7 hb7; clear ho6 hb6)
  rw [rounds_succ]
  go_wp2_with (at_builtin; refine app2 rfl (.tmp 20) (.tmp 21) rfl _ _ rfl _ _ rfl ho7 (by simp) (Nat.le_refl _) hb7 ?_; intro v8 w8 ho8 hb8; clear ho7 hb7)
  rw [rounds_succ]
  rw [be_8' n hn] at ho8
  obtain ⟨g, c8, rfl, hg1, hg2, hc8, hcm, hby⟩ := ho8.rowAt (be_length 8 n) (by omega)
  clear ho8
  unfold maxLen at hcm
  have hbx := hb.later hb8
  have hoM := Own.made w8
  have hbM : Below w8.heap.size w8 (w8.alloc (.cells #[] 5)) := (Below.refl _ _).alloc (Nat.le_refl _) _
  clear hb
  go_wp2_with (first | (at_builtin; refine app rfl (.tmp 29) (.tmp 33) rfl w8.heap.size _ zs rfl ho9 (some ⟨g, 4, none⟩) 4 (c8 - 4) (be 4 n) rfl (fun h => by cases h) (be_length 4 n) hby10 (by omega) hb9.size ?_; intro v10 w10 ho10 hg10; have hb10 := ho9.below hb9 (Nat.le_refl _) hb9.size hg10; clear hg10 ho9 hb9 hby9 hby10) | (at_builtin; refine app rfl (.tmp 26) (.tmp 27) rfl w8.heap.size _ [] rfl hoM a l cap zs rfl hnil hl (hbx.later hbM) (by simp; omega) (by simp) ?_; intro v9 w9 ho9 hg9; have hb9 := hoM.below hbM (Nat.le_refl _) (by simp) hg9; clear hg9 hoM hbM; rw [List.nil_append] at ho9; have hby9 := hby.later hb9; have hby10 := hby9.drop 4; rw [Nat.zero_add, be_drop 4 4 n] at hby10) | fail)
  obtain ⟨a6, c6, rfl, _, _, _⟩ := ho10.form
  go_ret
  exact ⟨_, rfl, ho10.mono hb8.size, hb8.trans (hb10.mono hb8.size)⟩

set_option maxRecDepth 100000 in
set_option maxHeartbeats 4000000 in
theorem ref_put_8 (n : Nat) (hn : n < 18446744073709551616) (a : Option Addr) (l cap : Nat) (zs : List Int) (w : World) (hl : zs.length = l) (hb : Bytes w a zs) (hnil : a = none → l = 0 ∧ cap = 0) (hm : l ≤ 100000) :
    Calls Try.prog 16 #[.slice a l cap, .int .u64 (n : Int), .int .i64 8] w fun e w' => ∃ v, e = .returned v ∧ Own w' w.heap.size v (zs ++ be 8 n) ∧ Below w.heap.size w w' := by
  have ho0 := Own.made w
  have hb0 : Below w.heap.size w (w.alloc (.cells #[] 5)) := (Below.refl _ _).alloc (Nat.le_refl _) _
  go_enter Try.func16, Try.ntmps16
  go_wp2_with fail
  generalize hW : w.alloc (.cells #[] 5) = W at ho0 hb0 ⊢
  clear hW
  refine wp_loop_rounds 9 ?_
  rw [rounds_succ]
  go_wp2_with (at_builtin; refine app2 rfl (.tmp 20) (.tmp 21) rfl _ _ rfl _ _ rfl ho0 (by simp) (Nat.le_refl _) hb0 ?_; intro v1 w1 ho1 hb1; clear ho0 hb0)
  rw [rounds_succ]
  go_wp2_with (at_builtin; refine app2 rfl (.tmp 20) (.tmp 21) rfl _ _ rfl _ _ rfl ho1 (by simp) (Nat.le_refl _) hb1 ?_; intro v2 w2 ho2 hb2; clear ho1 hb1)
  rw [rounds_succ]
  go_wp2_with (at_builtin; refine app2 rfl (.tmp 20) (.tmp 21) rfl _ _ rfl _ _ rfl ho2 (by simp) (Nat.le_refl _) hb2 ?_; intro v3 w3 ho3 hb3; clear ho2 hb2)
  rw [rounds_succ]
  go_wp2_with (at_builtin; refine app2 rfl (.tmp 20) (.tmp 21) rfl _ _ rfl _ _ rfl ho3 (by simp) (Nat.le_refl _) hb3 ?_; intro v4 w4 ho4 hb4; clear ho3 hb3)
  rw [rounds_succ]
  go_wp2_with (at_builtin; refine app2 rfl (.tmp 20) (.tmp 21) rfl _ _ rfl _ _ rfl ho4 (by simp) (Nat.le_refl _) hb4 ?_; intro v5 w5 ho5 hb5; clear ho4 hb4)
  rw [rounds_succ]
  go_wp2_with (at_builtin; refine app2 rfl (.tmp 20) (.tmp 21) rfl _ _ rfl _ _ rfl ho5 (by simp) (Nat.le_refl _) hb5 ?_; intro v6 w6 ho6 hb6; clear ho5 hb5)
  rw [rounds_succ]
  go_wp2_with (at_builtin; refine app2 rfl (.tmp 20) (.tmp 21) rfl _ _ rfl _ _ rfl ho6 (by simp) (Nat.le_refl _) hb6 ?_; intro v7 w7 ho7 hb7; clear ho6 hb6)
  rw [rounds_succ]
  go_wp2_with (at_builtin; refine app2 rfl (.tmp 20) (.tmp 21) rfl _ _ rfl _ _ rfl ho7 (by simp) (Nat.le_refl _) hb7 ?_; intro v8 w8 ho8 hb8; clear ho7 hb7)
  rw [rounds_succ]
  rw [be_8' n hn] at ho8
  obtain ⟨g, c8, rfl, hg1, hg2, hc8, hcm, hby⟩ := ho8.rowAt (be_length 8 n) (by omega)
  clear ho8
  unfold maxLen at hcm
  have hbx := hb.later hb8
  have hoM := Own.made w8
  have hbM : Below w8.heap.size w8 (w8.alloc (.cells #[] 5)) := (Below.refl _ _).alloc (Nat.le_refl _) _
  clear hb
  go_wp2_with (first | (at_builtin; refine app rfl (.tmp 29) (.tmp 33) rfl w8.heap.size _ zs rfl ho9 (some ⟨g, 0, none⟩) 8 c8 (be 8 n) rfl (fun h => by cases h) (be_length 8 n) hby10 (by omega) hb9.size ?_; intro v10 w10 ho10 hg10; have hb10 := ho9.below hb9 (Nat.le_refl _) hb9.size hg10; clear hg10 ho9 hb9 hby9 hby10) | (at_builtin; refine app rfl (.tmp 26) (.tmp 27) rfl w8.heap.size _ [] rfl hoM a l cap zs rfl hnil hl (hbx.later hbM) (by simp; omega) (by simp) ?_; intro v9 w9 ho9 hg9; have hb9 := hoM.below hbM (Nat.le_refl _) (by simp) hg9; clear hg9 hoM hbM; rw [List.nil_append] at ho9; have hby9 := hby.later hb9; have hby10 := hby9.drop 0; rw [Nat.zero_add, be_drop 8 0 n] at hby10) | fail)
  obtain ⟨a6, c6, rfl, _, _, _⟩ := ho10.form
  go_ret
  exact ⟨_, rfl, ho10.mono hb8.size, hb8.trans (hb10.mono hb8.size)⟩
end Go.Proofs.Ytcbigopfmiiadaa.Pack
