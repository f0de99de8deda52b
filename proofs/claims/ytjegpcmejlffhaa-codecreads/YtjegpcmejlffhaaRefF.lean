/-
  Contract of the document's Get: a node with kids.
-/
import Derived.Test.YtjegpcmejlffhaaFr
import Derived.Test.YtjegpcmejlffhaaRefC
import Derived.Test.YtjegpcmejlffhaaPn
import Derived.Test.YtjegpcmejlffhaaGetH
import Derived.Test.YtjegpcmejlffhaaRefMay2
import Derived.Test.YtjegpcmejlffhaaRefE
namespace Go.Proofs.Ytjegpcmejlffhaa.Cod
set_option linter.unusedSimpArgs false
set_option linter.unusedVariables false
open Go.RowKit
open Key (M E Pr Nd Pl nv Lies mayI ev mv)

theorem OwnL.apart {α : Type} {S : Kd α} {w w' : World} {base B : Nat} {v : Value} {l : List α} {r : Option Nat} (h : OwnL S w base v l) (hg : w.grownBy w' r) (hr : ∀ j, r = some j → B ≤ j) (hv : ∀ j, v.ownBlock = some j → j < B) : OwnL S w' base v l :=
  World.ownsRow.kept h hg (by
    cases e : v.ownBlock with
    | none => exact .inl rfl
    | some k => exact .inr fun e' => by have := hr k e'.symm; have := hv k e; omega)
theorem Fr.side {w u : World} {B k0 k1 k2 k3 : Nat} {C : Array Value} {a : Option Addr} {n c : Nat} {s : St} (h : Fr w u B k0 k1 k2 k3 C a n c s) {k : Nat} (hk : k3 < k) (x y z : Value) :
    Fr w (((u.setCell ⟨k, 0, none⟩ x).setCell ⟨k, 1, none⟩ y).setCell ⟨k, 2, none⟩ z) B k0 k1 k2 k3 C a n c s := by
  have o0 := h.o0
  have o1 := h.o1
  have o2 := h.o2
  have o3 := h.o3
  have o4 := h.o4
  exact ⟨h.r0.beside3 _ _ _ (by omega), h.r1.beside3 _ _ _ (by omega), h.r2.beside3 _ _ _ (by omega), h.r3.beside3 _ _ _ (by omega), below3 h.hb (by omega) _ _ _, o0, o1, o2, o3, o4, by simpa using h.o5⟩
theorem OwnL.under {α : Type} {S : Kd α} {w : World} {base : Nat} {v : Value} {l : List α} (h : OwnL S w base v l) {B : Nat} (hB : w.heap.size = B) : ∀ j, v.ownBlock = some j → j < B := fun j e => by have := (World.ownsRow.lt h j e).2; omega

set_option maxRecDepth 100000 in
set_option maxHeartbeats 2000000 in
theorem rget12_fork {a : Option Addr} {n c : Nat} {zs : List Int} (w : World) (h : Doc w a n c zs) (hq12 : (rNum 1 zs ⟨0, 0⟩).1 = 2) :
    Calls Try.prog 12 #[.slice a n c] w fun x w' => ∃ (nd : Nd) (e : Int), Hid (getN rM' zs = (nd, e)) ∧ ∃ p, x = .returned (.tuple #[nv nd p, .int .i64 e]) ∧ OwnN w' w.heap.size nd p ∧ Less nd ∧ Below w.heap.size w w' := by
  obtain ⟨R0, R1, R2, HB, hsz⟩ := three_boxes w #[.bool false, .slice none 0 0, .slice none 0 0, .slice none 0 0, .slice none 0 0] #[.bool false, .slice none 0 0, .slice none 0 0, .slice none 0 0, .slice none 0 0] #[.bool false, .slice none 0 0, .slice none 0 0, .slice none 0 0, .slice none 0 0] 27 27 27
  have hlen := hid h.len
  have hbyt := hid h.byt
  have hd0 := h.later HB
  go_enter Try.func12, Try.ntmps12
  go_upto_region 3 with fail
  generalize hW : ((w.alloc (.cells #[.bool false, .slice none 0 0, .slice none 0 0, .slice none 0 0, .slice none 0 0] 27)).alloc (.cells #[.bool false, .slice none 0 0, .slice none 0 0, .slice none 0 0, .slice none 0 0] 27)).alloc (.cells #[.bool false, .slice none 0 0, .slice none 0 0, .slice none 0 0, .slice none 0 0] 27) = W0 at *
  clear hW
  generalize hk0 : w.heap.size = k0 at *
  generalize hk1 : k0 + 1 = k1 at *
  generalize hk2 : k1 + 1 = k2 at *
  go_wp2_with fail
  refine (rget (s := ⟨0, 0⟩) hd0 (Nat.zero_le _) 1 (by decide) (by decide)).mono ?_
  rintro x w1 ⟨q, s1, hs1, hq, hp1, rfl, hb⟩
  have m1 : q = 2 := by have := hq12; rw [hs1.out] at this; exact this
  have hqi : (q : Int) = 2 := by omega
  rw [hqi]
  have M1 := hid m1
  have HE0 := hid (num_zero hs1.out (show q ≠ 0 by omega))
  clear hq12 m1 hqi
  replace R0 := (R0.later hb).alloc (.cells #[.slice a n c, .int .i64 (s1.p : Int), .int .i64 s1.e] 70)
  replace R1 := (R1.later hb).alloc (.cells #[.slice a n c, .int .i64 (s1.p : Int), .int .i64 s1.e] 70)
  replace R2 := (R2.later hb).alloc (.cells #[.slice a n c, .int .i64 (s1.p : Int), .int .i64 s1.e] 70)
  have R3 := Row.new w1 #[.slice a n c, .int .i64 (s1.p : Int), .int .i64 s1.e] 70
  have hb1 := hb.size
  replace HB := (HB.trans (hb.mono (by omega))).alloc (by omega) (.cells #[.slice a n c, .int .i64 (s1.p : Int), .int .i64 s1.e] 70)
  have hsz1 : (w1.alloc (.cells #[.slice a n c, .int .i64 (s1.p : Int), .int .i64 s1.e] 70)).heap.size = w1.heap.size + 1 := by simp
  clear hb hd0
  go_upto_region 4 with fail
  generalize hW : w1.alloc (.cells #[.slice a n c, .int .i64 (s1.p : Int), .int .i64 s1.e] 70) = W1 at *
  clear hW
  generalize hk3 : w1.heap.size = k3 at *
  have F : Fr w W1 (k3 + 1) k0 k1 k2 k3 zeros a n c s1 := ⟨R0, R1, R2, R3, by rw [hk0]; exact HB, by omega, by omega, by omega, by omega, by omega, by omega⟩
  have hkB : k2 < k3 + 1 := by omega
  have hkB3 : k3 < k3 + 1 := by omega
  clear R0 R1 R2 R3 HB hsz hsz1 hb1 hk0 hk1 hk2 hk3
  generalize hB : k3 + 1 = B at *
  clear hB
  have c2 : W1.cell? ⟨k3, 2, none⟩ = some (.int .i64 0) := by rw [← HE0.out]; exact F.r3.cell 2
  go_upto_region 18 with fail
  clear c2
  obtain ⟨c0, c1, c2, _, _, _⟩ := F.rd
  have hd := F.doc h
  go_wp2_with fail
  refine (rcount27 hd hp1 8 (by decide)).mono ?_
  rintro x w3 ⟨cn, s2, hs2, hcn, hp2, rfl, hb⟩
  clear c0 c1 c2 hd
  have hB4 := (F.later hb).o5
  replace F := (F.later hb).alloc (.cells #[.slice a n c, .int .i64 (s2.p : Int), .int .i64 s2.e] 70)
  have R4 := Row.new w3 #[.slice a n c, .int .i64 (s2.p : Int), .int .i64 s2.e] 70
  clear hb
  go_upto_region 19 with fail
  generalize hW : w3.alloc (.cells #[.slice a n c, .int .i64 (s2.p : Int), .int .i64 s2.e] 70) = W3 at *
  clear hW
  generalize hk4 : w3.heap.size = k4 at *
  obtain ⟨c0, c1, c2, f0, f1, f2⟩ := F.rd
  have e0 : W3.cell? ⟨k4, 0, none⟩ = some (.slice a n c) := R4.cell 0
  have e1 : W3.cell? ⟨k4, 1, none⟩ = some (.int .i64 (s2.p : Int)) := R4.cell 1
  have e2 : W3.cell? ⟨k4, 2, none⟩ = some (.int .i64 s2.e) := R4.cell 2
  replace F := F.setR s2
  replace R4 := R4.beside3 (.slice a n c) (.int .i64 (s2.p : Int)) (.int .i64 s2.e) (show k4 ≠ k3 by omega)
  go_upto_region 20 with fail
  clear c0 c1 c2 f0 f1 f2 e0 e1 e2
  generalize hW : ((W3.setCell ⟨k3, 0, none⟩ (.slice a n c)).setCell ⟨k3, 1, none⟩ (.int .i64 (s2.p : Int))).setCell ⟨k3, 2, none⟩ (.int .i64 s2.e) = W4 at *
  clear hW
  by_cases hc0 : cn = 0
  · subst hc0
    obtain ⟨c0, c1, c2, _, _, _⟩ := F.rd
    have hpz : (failS 3 s2).p ≤ n := hp2
    go_wp2_with fail
    refine (rfail29 s2 3).mono ?_
    rintro x w4 ⟨rfl, hb⟩
    replace F := F.later hb
    replace R4 := R4.later hb
    clear hb c0 c1 c2
    generalize hS : failS 3 s2 = sz at *
    have HSZ := hid hS
    clear hS
    obtain ⟨c0, c1, c2, f0, f1, f2⟩ := F.rd
    replace F := F.setR sz
    replace R4 := R4.beside3 (.slice a n c) (.int .i64 (sz.p : Int)) (.int .i64 sz.e) (show k4 ≠ k3 by omega)
    go_upto_region 22 with fail
    clear c0 c1 c2 f0 f1 f2
    generalize hW : ((w4.setCell ⟨k3, 0, none⟩ (.slice a n c)).setCell ⟨k3, 1, none⟩ (.int .i64 (sz.p : Int))).setCell ⟨k3, 2, none⟩ (.int .i64 sz.e) = W5 at *
    clear hW
    have hkB4 : k4 < W5.heap.size := R4.lt
    replace F := F.base (B' := W5.heap.size) (by have := F.o4; have := F.o5; omega) (Nat.le_refl _)
    have hk23 := F.o3
    have hk3B := F.o4
    generalize hB2 : W5.heap.size = B2 at *
    clear hB2
    go_wp2_with fail
    go_loopw [17] (fun i wr => ∃ j : Nat, j ≤ 0 ∧ i = .int .i64 j ∧ ∃ (l : List E) (s' : St), Hid (rMany rE j zs sz = (l, s')) ∧ s'.p ≤ n ∧ Row wr k4 #[.slice a n c, .int .i64 (s2.p : Int), .int .i64 s2.e] 70 ∧ ∃ (av : Option Addr) (cv : Nat), OwnL kE wr B2 (.slice av l.length cv) l ∧ Fr w wr B2 k0 k1 k2 k3 #[.bool false, .slice none 0 0, .slice none 0 0, .slice av l.length cv, .slice none 0 0] a n c s') (fun i _ => 0 - (intOf i).toNat)
    case atStart => exact ⟨0, Nat.zero_le _, rfl, [], sz, rfl, hpz, R4, none, 0, OwnL.nil _ _ _, F⟩
    case round =>
      clear F R4
      obtain ⟨j, hj, rfl, l, s3, hl, hp3, R4, av, cv, ho, F⟩ := hrel
      have hlj : l.length = j := by
        have h := many_len rE zs sz j
        rw [hl.out] at h
        exact h
      have hlj' : l.length ≤ 1000 := by omega
      have HLJ := hid hlj
      clear hlj
      by_cases hlt : j < 0
      · exact absurd hlt (Nat.not_lt_zero _)
      · obtain rfl : j = 0 := by omega
        clear hlt hj
        have HK : Hid (rKids zs s1 = (l, s3)) := by simp [Hid, rKids, bnd, hs2.out, rZero, rFail, HSZ.out, hl.out]
        have HLE : Hid (l.length = 0) := HLJ
        clear HLJ hl hlj'
        generalize l = lE at *
        generalize wr = w5 at *
        generalize av = aE at *
        generalize cv = cE at *
        have hoE := ho
        clear ho
        have hB3 := F.o5
        replace F := F.base (B' := w5.heap.size) (by have := F.o4; have := F.o5; omega) (Nat.le_refl _)
        generalize hB3' : w5.heap.size = B3 at *
        have hoEu := hoE.under hB3'
        clear hB3'
        have hk3B3 := F.o4
        go_wp2_with fail
        go_loopw [20, 21] (fun i _ wr => ∃ j : Nat, j ≤ 0 - 1 ∧ i = .int .i64 ((j : Int) + 1) ∧ ∃ (l : List ByteArray) (s' : St), Hid (rMany (rTxt 16) j zs s3 = (l, s')) ∧ s'.p ≤ n ∧ Row wr k4 #[.slice a n c, .int .i64 (s2.p : Int), .int .i64 s2.e] 70 ∧ OwnL kE wr B2 (.slice aE lE.length cE) lE ∧ ∃ (av : Option Addr) (cv : Nat), OwnL kT wr B3 (.slice av l.length cv) l ∧ Fr w wr B3 k0 k1 k2 k3 #[.bool false, .slice none 0 0, .slice av l.length cv, .slice aE lE.length cE, .slice none 0 0] a n c s') (fun i _ _ => 0 - (intOf i).toNat)
        case atStart => exact ⟨0, Nat.zero_le _, rfl, [], s3, rfl, hp3, R4, hoE, none, 0, OwnL.nil _ _ _, F⟩
        case round =>
          clear F R4 hoE
          obtain ⟨j, hj, rfl, l, s5, hl, hp5, R4, hoE, av, cv, ho, F⟩ := hrel
          have hlj : l.length = j := by
            have h := many_len (rTxt 16) zs s3 j
            rw [hl.out] at h
            exact h
          have hlj' : l.length ≤ 1000 := by omega
          have HLJ := hid hlj
          clear hlj
          by_cases hlt : j < 0 - 1
          · exact absurd hlt (Nat.not_lt_zero _)
          · obtain rfl : j = 0 := by omega
            have hlt2 : ¬ (((0 : Nat) : Int) + 1 < 0) := by omega
            clear hlt hj
            have HT : Hid (rMany (rTxt 16) (lE.length - 1) zs s3 = (l, s5)) := by rw [HLE.out]; exact hl
            have HLT : Hid (l.length ≤ 8) := by have := HLJ.out; show l.length ≤ 8; omega
            clear HLJ hl hlj'
            generalize l = lT at *
            generalize wr = w6 at *
            generalize av = aT at *
            generalize cv = cT at *
            have hoT := ho
            clear ho
            have hk34 := F.o4
            obtain ⟨c0, c1, c2, _, _, _⟩ := F.rd
            have hd := F.doc h
            go_wp2_with fail
            refine (rcount27 hd hp5 16 (by decide)).mono ?_
            rintro x w7 ⟨cm, s6, hs6, hcm, hp6, rfl, hb⟩
            clear c0 c1 c2 hd
            replace F := F.later hb
            replace hoE := hoE.later hb
            replace hoT := hoT.later hb
            replace R4 := R4.later hb
            clear hb
            have q0 : w7.cell? ⟨k4, 0, none⟩ = some (.slice a n c) := R4.cell 0
            have q1 : w7.cell? ⟨k4, 1, none⟩ = some (.int .i64 (s2.p : Int)) := R4.cell 1
            have q2 : w7.cell? ⟨k4, 2, none⟩ = some (.int .i64 s2.e) := R4.cell 2
            have j0 := R4.free 0
            have j1 := R4.free 1
            have j2 := R4.free 2
            replace F := F.side (show k3 < k4 by omega) (.slice a n c) (.int .i64 (s6.p : Int)) (.int .i64 s6.e)
            replace hoE := hoE.setB (show k4 < B2 by omega) (.slice a n c) (.int .i64 (s6.p : Int)) (.int .i64 s6.e)
            replace hoT := hoT.setB (show k4 < B3 by omega) (.slice a n c) (.int .i64 (s6.p : Int)) (.int .i64 s6.e)
            replace R4 := R4.put3 (.slice a n c) (.int .i64 (s6.p : Int)) (.int .i64 s6.e)
            go_upto_region 35 with fail
            clear q0 q1 q2 j0 j1 j2
            generalize hW : ((w7.setCell ⟨k4, 0, none⟩ (.slice a n c)).setCell ⟨k4, 1, none⟩ (.int .i64 (s6.p : Int))).setCell ⟨k4, 2, none⟩ (.int .i64 s6.e) = W8 at *
            clear hW
            obtain ⟨c0, c1, c2, f0, f1, f2⟩ := F.rd
            have e0 : W8.cell? ⟨k4, 0, none⟩ = some (.slice a n c) := R4.cell 0
            have e1 : W8.cell? ⟨k4, 1, none⟩ = some (.int .i64 (s6.p : Int)) := R4.cell 1
            have e2 : W8.cell? ⟨k4, 2, none⟩ = some (.int .i64 s6.e) := R4.cell 2
            replace F := F.setR s6
            replace hoE := hoE.setB (by omega) (.slice a n c) (.int .i64 (s6.p : Int)) (.int .i64 s6.e)
            replace hoT := hoT.setB (by omega) (.slice a n c) (.int .i64 (s6.p : Int)) (.int .i64 s6.e)
            go_upto_region 36 with fail
            clear c0 c1 c2 f0 f1 f2 e0 e1 e2
            generalize hW : ((W8.setCell ⟨k3, 0, none⟩ (.slice a n c)).setCell ⟨k3, 1, none⟩ (.int .i64 (s6.p : Int))).setCell ⟨k3, 2, none⟩ (.int .i64 s6.e) = W9 at *
            clear hW
            clear R4
            have hB4 := F.o5
            replace F := F.base (B' := W9.heap.size) (by have := F.o4; have := F.o5; omega) (Nat.le_refl _)
            generalize hB4' : W9.heap.size = B4 at *
            have hoEu := hoE.under hB4'
            have hoTu := hoT.under hB4'
            clear hB4'
            have hk3B4 := F.o4
            go_wp2_with fail
            go_loopw [23] (fun i wr => ∃ j : Nat, j ≤ cm ∧ i = .int .i64 j ∧ ∃ (l : List M) (s' : St), Hid (rMany rM' j zs s6 = (l, s')) ∧ s'.p ≤ n ∧ OwnL kE wr B2 (.slice aE lE.length cE) lE ∧ OwnL kT wr B3 (.slice aT lT.length cT) lT ∧ ∃ (av : Option Addr) (cv : Nat), OwnL kM wr B4 (.slice av l.length cv) l ∧ Fr w wr B4 k0 k1 k2 k3 #[.bool false, .slice none 0 0, .slice aT lT.length cT, .slice aE lE.length cE, .slice av l.length cv] a n c s') (fun i _ => cm - (intOf i).toNat)
            case atStart => exact ⟨0, Nat.zero_le _, rfl, [], s6, rfl, hp6, hoE, hoT, none, 0, OwnL.nil _ _ _, F⟩
            case round =>
              clear F hoE hoT
              obtain ⟨j, hj, rfl, l, s7, hl, hp7, hoE, hoT, av, cv, ho, F⟩ := hrel
              have hlj : l.length = j := by
                have h := many_len rM' zs s6 j
                rw [hl.out] at h
                exact h
              have hlj' : l.length ≤ 1000 := by omega
              have HLJ := hid hlj
              clear hlj
              by_cases hlt : j < cm
              · obtain ⟨c0, c1, c2, _, _, _⟩ := F.rd
                have hd := F.doc h
                go_wp2_with fail
                refine (rmsg31 hd hp7).mono ?_
                rintro y u1 ⟨x, s8, hs8, hp8, rfl, hb⟩
                clear c0 c1 c2 hd
                have hB5s := (F.later hb).o5
                replace F := ((F.later hb).alloc (.cells #[.int .u8 x.kind, .string x.key, .string x.val, .int .u32 x.blk, .int .u16 x.deep, .string x.add] 60)).alloc (.cells #[.slice a n c, .int .i64 (s8.p : Int), .int .i64 s8.e] 70)
                obtain ⟨R5, R6, _, _⟩ := two_boxes u1 #[.int .u8 x.kind, .string x.key, .string x.val, .int .u32 x.blk, .int .u16 x.deep, .string x.add] #[.slice a n c, .int .i64 (s8.p : Int), .int .i64 s8.e] 60 70
                replace ho := ((ho.later hb).alloc (.cells #[.int .u8 x.kind, .string x.key, .string x.val, .int .u32 x.blk, .int .u16 x.deep, .string x.add] 60)).alloc (.cells #[.slice a n c, .int .i64 (s8.p : Int), .int .i64 s8.e] 70)
                replace hoE := ((hoE.later hb).alloc (.cells #[.int .u8 x.kind, .string x.key, .string x.val, .int .u32 x.blk, .int .u16 x.deep, .string x.add] 60)).alloc (.cells #[.slice a n c, .int .i64 (s8.p : Int), .int .i64 s8.e] 70)
                replace hoT := ((hoT.later hb).alloc (.cells #[.int .u8 x.kind, .string x.key, .string x.val, .int .u32 x.blk, .int .u16 x.deep, .string x.add] 60)).alloc (.cells #[.slice a n c, .int .i64 (s8.p : Int), .int .i64 s8.e] 70)
                clear hb
                go_upto_region 40 with fail
                generalize hW : (u1.alloc (.cells #[.int .u8 x.kind, .string x.key, .string x.val, .int .u32 x.blk, .int .u16 x.deep, .string x.add] 60)).alloc (.cells #[.slice a n c, .int .i64 (s8.p : Int), .int .i64 s8.e] 70) = U1 at *
                clear hW
                generalize hk5 : u1.heap.size = k5 at *
                generalize hk6 : k5 + 1 = k6 at *
                have hB5 := F.o4
                obtain ⟨c0, c1, c2, f0, f1, f2⟩ := F.rd
                have e0 : U1.cell? ⟨k6, 0, none⟩ = some (.slice a n c) := R6.cell 0
                have e1 : U1.cell? ⟨k6, 1, none⟩ = some (.int .i64 (s8.p : Int)) := R6.cell 1
                have e2 : U1.cell? ⟨k6, 2, none⟩ = some (.int .i64 s8.e) := R6.cell 2
                replace F := F.setR s8
                replace ho := ho.setB (by omega) (.slice a n c) (.int .i64 (s8.p : Int)) (.int .i64 s8.e)
                replace hoE := hoE.setB (by omega) (.slice a n c) (.int .i64 (s8.p : Int)) (.int .i64 s8.e)
                replace hoT := hoT.setB (by omega) (.slice a n c) (.int .i64 (s8.p : Int)) (.int .i64 s8.e)
                replace R5 := R5.beside3 (.slice a n c) (.int .i64 (s8.p : Int)) (.int .i64 s8.e) (show k5 ≠ k3 by omega)
                go_upto_region 41 with fail
                clear c0 c1 c2 f0 f1 f2 e0 e1 e2
                generalize hW : ((U1.setCell ⟨k3, 0, none⟩ (.slice a n c)).setCell ⟨k3, 1, none⟩ (.int .i64 (s8.p : Int))).setCell ⟨k3, 2, none⟩ (.int .i64 s8.e) = U2 at *
                clear hW
                have x0 : U2.cell? ⟨k5, 0, none⟩ = some (.int .u8 x.kind) := R5.cell 0
                have x1 : U2.cell? ⟨k5, 1, none⟩ = some (.string x.key) := R5.cell 1
                have x2 : U2.cell? ⟨k5, 2, none⟩ = some (.string x.val) := R5.cell 2
                have x3 : U2.cell? ⟨k5, 3, none⟩ = some (.int .u32 x.blk) := R5.cell 3
                have x4 : U2.cell? ⟨k5, 4, none⟩ = some (.int .u16 x.deep) := R5.cell 4
                have x5 : U2.cell? ⟨k5, 5, none⟩ = some (.string x.add) := R5.cell 5
                have HROW := hid (many_succ hl.out hs8.out)
                have d1 : U2.cell? ⟨k2, 4, none⟩ = some (.slice av l.length cv) := F.r2.cell 4
                have ho2 := ho.alloc (.cells #[.int .u8 x.kind, .string x.key, .string x.val, .int .u32 x.blk, .int .u16 x.deep, .string x.add] 60)
                have RN := Row.new U2 #[.int .u8 x.kind, .string x.key, .string x.val, .int .u32 x.blk, .int .u16 x.deep, .string x.add] 60
                have F2 := F.alloc (.cells #[.int .u8 x.kind, .string x.key, .string x.val, .int .u32 x.blk, .int .u16 x.deep, .string x.add] 60)
                replace hoE := hoE.alloc (.cells #[.int .u8 x.kind, .string x.key, .string x.val, .int .u32 x.blk, .int .u16 x.deep, .string x.add] 60)
                replace hoT := hoT.alloc (.cells #[.int .u8 x.kind, .string x.key, .string x.val, .int .u32 x.blk, .int .u16 x.deep, .string x.add] 60)
                have hB5 := F2.o5
                clear F ho
                go_wp2_with (at_builtin; refine appM rfl (.tmp 144) (.tmp 146) rfl B4 (.slice av l.length cv) l (by kernel_rfl) ho2 x U2.heap.size (by kernel_rfl) RN hlj' hB5 ?_; intro v' w' ho' hg' hB'; obtain ⟨l2, hl2⟩ : ∃ l2, l2 = l ++ [(x : M)] := ⟨_, rfl⟩; rw [← hl2] at ho'; replace hl2 := hid hl2; obtain ⟨a9, c9, rfl, _, _, _⟩ := ho'.msgs; have F3 := F2.grown hg' hB'; have fz := F3.r2.free 4; have cz : w'.cell? ⟨k2, 4, none⟩ = some (.slice av l.length cv) := F3.r2.cell 4; replace ho' := ho'.set (k := k2) (by omega) 4 (.slice a9 l2.length c9); replace F3 := F3.set2 4 (.slice a9 l2.length c9); replace hoE := (hoE.apart hg' hB' hoEu).set (k := k2) (by omega) 4 (.slice a9 l2.length c9); replace hoT := (hoT.apart hg' hB' hoTu).set (k := k2) (by omega) 4 (.slice a9 l2.length c9))
                simp only [List.setIfInBounds_toArray, List.set_cons_zero, List.set_cons_succ] at F3
                go_roundw
                case rel => exact ⟨j + 1, by omega, by go_num, l2, s8, by rw [hl2.out]; exact HROW, hp8, hoE, hoT, a9, c9, ho', F3⟩
                case measure => simp [intOf]; omega
              · obtain rfl : cm = j := by omega
                have HM : Hid (rBuf rM' zs s5 = (l, s7)) := by simp [Hid, rBuf, bnd, hs6.out, hl.out]
                have HFK : Hid (rFork rM' zs s1 = (⟨false, [], lT, lE, l⟩, s7)) := by simp [Hid, rFork, bnd, HK.out, HT.out, HM.out, rPure]
                have HS := hid (rN_fork (f := rM') hs1.out M1.out HFK.out)
                have HLS : Hid (Less ⟨false, [], lT, lE, l⟩) := ⟨Nat.zero_le _, HLT.out, by show lE.length ≤ 8; rw [HLE.out]; omega, by show l.length ≤ 16; rw [HLJ.out]; omega⟩
                have HKD : Hid (Kinds ⟨false, [], lT, lE, l⟩) := by
                  have := kinds_N (f := rM') hbyt.out (fun s => ok_M' hbyt.out s) ⟨0, 0⟩
                  rwa [HS.out] at this
                have ho0 := ho
                replace ho : OwnN wr B2 ⟨false, [], lT, lE, l⟩ ⟨none, 0, aT, cT, aE, cE, av, cv⟩ := ⟨OwnL.nil _ _ _, hoT.mono (by omega), hoE, ho0.mono (by omega)⟩
                clear ho0 hoE hoT
                replace F := F.base (B' := B2) (by omega) (by have := F.o5; omega)
                go_upto_region 42 with fail
                have HG := getN_of HS.out
                rw [hlen.out] at HG
                replace HG := hid HG
                have hk0B : k0 < B2 := by have := F.o1; have := F.o2; have := F.o3; have := F.o4; omega
                have hwB : w.heap.size ≤ B2 := by have := F.o0; omega
                obtain ⟨c0, c1, c2, _, _, _⟩ := F.rd
                go_wp2_with fail
                refine (Pack.ref_end (a := a) (n := n) (c := c) (p := s7.p) (e := s7.e)).mono ?_
                rintro x u1 ⟨rfl, hb⟩
                replace F := F.later hb
                replace ho := ho.later hb
                clear hb c0 c1 c2
                generalize hE : Pack.endE n s7.p s7.e = e at *
                clear hE
                by_cases he : e = 0
                · subst he
                  have e0 : u1.cell? ⟨k2, 0, none⟩ = some (.bool false) := F.r2.cell 0
                  have e1 : u1.cell? ⟨k2, 1, none⟩ = some (.slice none 0 0) := F.r2.cell 1
                  have e2 : u1.cell? ⟨k2, 2, none⟩ = some (.slice aT lT.length cT) := F.r2.cell 2
                  have e3 : u1.cell? ⟨k2, 3, none⟩ = some (.slice aE lE.length cE) := F.r2.cell 3
                  have e4 : u1.cell? ⟨k2, 4, none⟩ = some (.slice av l.length cv) := F.r2.cell 4
                  have HM := hid (Key.may13 ⟨false, [], lT, lE, l⟩ ⟨none, 0, aT, cT, aE, cE, av, cv⟩ u1 HLS.out.few ho.lies (fun m hm => (HKD.out.md m hm).1))
                  go_wp2_with fail
                  refine HM.out.mono ?_
                  rintro x u2 ⟨rfl, hb⟩
                  replace F := F.later hb
                  replace ho := ho.later hb
                  clear hb e0 e1 e2 e3 e4 HM
                  generalize hM : mayI ⟨false, [], lT, lE, l⟩ = m at *
                  replace hM := hid hM
                  by_cases hm0 : m = 0
                  · subst hm0
                    have z0 : u2.cell? ⟨k0, 0, none⟩ = some (.bool false) := F.r0.cell 0
                    have g0 := F.r0.free 0
                    have e0 : u2.cell? ⟨k2, 0, none⟩ = some (.bool false) := F.r2.cell 0
                    have z1 : u2.cell? ⟨k0, 1, none⟩ = some (.slice none 0 0) := F.r0.cell 1
                    have g1 := F.r0.free 1
                    have e1 : u2.cell? ⟨k2, 1, none⟩ = some (.slice none 0 0) := F.r2.cell 1
                    have z2 : u2.cell? ⟨k0, 2, none⟩ = some (.slice none 0 0) := F.r0.cell 2
                    have g2 := F.r0.free 2
                    have e2 : u2.cell? ⟨k2, 2, none⟩ = some (.slice aT lT.length cT) := F.r2.cell 2
                    have z3 : u2.cell? ⟨k0, 3, none⟩ = some (.slice none 0 0) := F.r0.cell 3
                    have g3 := F.r0.free 3
                    have e3 : u2.cell? ⟨k2, 3, none⟩ = some (.slice aE lE.length cE) := F.r2.cell 3
                    have z4 : u2.cell? ⟨k0, 4, none⟩ = some (.slice none 0 0) := F.r0.cell 4
                    have g4 := F.r0.free 4
                    have e4 : u2.cell? ⟨k2, 4, none⟩ = some (.slice av l.length cv) := F.r2.cell 4
                    have HY := (((((F.r0.set 0 (.bool false)).set 1 (.slice none 0 0)).set 2 (.slice aT lT.length cT)).set 3 (.slice aE lE.length cE)).set 4 (.slice av l.length cv))
                    simp only [zeros, List.setIfInBounds_toArray, List.set_cons_zero, List.set_cons_succ] at HY
                    replace HY := hid HY
                    have HR := hid (Below.setCell (Below.setCell (Below.setCell (Below.setCell (Below.setCell F.hb (p := ⟨k0, 0, none⟩) (by exact F.o0) (.bool false)) (p := ⟨k0, 1, none⟩) (by exact F.o0) (.slice none 0 0)) (p := ⟨k0, 2, none⟩) (by exact F.o0) (.slice aT lT.length cT)) (p := ⟨k0, 3, none⟩) (by exact F.o0) (.slice aE lE.length cE)) (p := ⟨k0, 4, none⟩) (by exact F.o0) (.slice av l.length cv))
                    have HO := hid (((((ho.set (k := k0) hk0B 0 (.bool false)).set (k := k0) hk0B 1 (.slice none 0 0)).set (k := k0) hk0B 2 (.slice aT lT.length cT)).set (k := k0) hk0B 3 (.slice aE lE.length cE)).set (k := k0) hk0B 4 (.slice av l.length cv))
                    clear ho F
                    go_wp2
                    generalize (((((u2.setCell ⟨k0, 0, none⟩ (.bool false)).setCell ⟨k0, 1, none⟩ (.slice none 0 0)).setCell ⟨k0, 2, none⟩ (.slice aT lT.length cT)).setCell ⟨k0, 3, none⟩ (.slice aE lE.length cE)).setCell ⟨k0, 4, none⟩ (.slice av l.length cv)) = WW at *
                    have p0 : WW.cell? ⟨k0, 0, none⟩ = some (.bool false) := HY.out.cell 0
                    have p1 : WW.cell? ⟨k0, 1, none⟩ = some (.slice none 0 0) := HY.out.cell 1
                    have p2 : WW.cell? ⟨k0, 2, none⟩ = some (.slice aT lT.length cT) := HY.out.cell 2
                    have p3 : WW.cell? ⟨k0, 3, none⟩ = some (.slice aE lE.length cE) := HY.out.cell 3
                    have p4 : WW.cell? ⟨k0, 4, none⟩ = some (.slice av l.length cv) := HY.out.cell 4
                    exact bodyPost_ret (v := .tuple #[nv ⟨false, [], lT, lE, l⟩ ⟨none, 0, aT, cT, aE, cE, av, cv⟩, .int .i64 0]) (by simp [results, Try.results12, go_sem, p0, p1, p2, p3, p4]) rfl ⟨⟨false, [], lT, lE, l⟩, 0, HG.out.trans (says_yes hM.out), ⟨none, 0, aT, cT, aE, cE, av, cv⟩, rfl, HO.out.mono hwB, HLS.out, HR.out⟩
                  · have hmd : (m == 0) = false := by simpa using hm0
                    have hmd' : (m != 0) = true := by simpa using hm0
                    replace hm0 := hid hm0
                    have z0 : u2.cell? ⟨k0, 0, none⟩ = some (.bool false) := F.r0.cell 0
                    have g0 := F.r0.free 0
                    have e0 : u2.cell? ⟨k1, 0, none⟩ = some (.bool false) := F.r1.cell 0
                    have z1 : u2.cell? ⟨k0, 1, none⟩ = some (.slice none 0 0) := F.r0.cell 1
                    have g1 := F.r0.free 1
                    have e1 : u2.cell? ⟨k1, 1, none⟩ = some (.slice none 0 0) := F.r1.cell 1
                    have z2 : u2.cell? ⟨k0, 2, none⟩ = some (.slice none 0 0) := F.r0.cell 2
                    have g2 := F.r0.free 2
                    have e2 : u2.cell? ⟨k1, 2, none⟩ = some (.slice none 0 0) := F.r1.cell 2
                    have z3 : u2.cell? ⟨k0, 3, none⟩ = some (.slice none 0 0) := F.r0.cell 3
                    have g3 := F.r0.free 3
                    have e3 : u2.cell? ⟨k1, 3, none⟩ = some (.slice none 0 0) := F.r1.cell 3
                    have z4 : u2.cell? ⟨k0, 4, none⟩ = some (.slice none 0 0) := F.r0.cell 4
                    have g4 := F.r0.free 4
                    have e4 : u2.cell? ⟨k1, 4, none⟩ = some (.slice none 0 0) := F.r1.cell 4
                    have HY := (((((F.r0.set 0 (.bool false)).set 1 (.slice none 0 0)).set 2 (.slice none 0 0)).set 3 (.slice none 0 0)).set 4 (.slice none 0 0))
                    simp only [zeros, List.setIfInBounds_toArray, List.set_cons_zero, List.set_cons_succ] at HY
                    replace HY := hid HY
                    have HR := hid (Below.setCell (Below.setCell (Below.setCell (Below.setCell (Below.setCell F.hb (p := ⟨k0, 0, none⟩) (by exact F.o0) (.bool false)) (p := ⟨k0, 1, none⟩) (by exact F.o0) (.slice none 0 0)) (p := ⟨k0, 2, none⟩) (by exact F.o0) (.slice none 0 0)) (p := ⟨k0, 3, none⟩) (by exact F.o0) (.slice none 0 0)) (p := ⟨k0, 4, none⟩) (by exact F.o0) (.slice none 0 0))
                    clear ho F
                    go_wp2
                    generalize (((((u2.setCell ⟨k0, 0, none⟩ (.bool false)).setCell ⟨k0, 1, none⟩ (.slice none 0 0)).setCell ⟨k0, 2, none⟩ (.slice none 0 0)).setCell ⟨k0, 3, none⟩ (.slice none 0 0)).setCell ⟨k0, 4, none⟩ (.slice none 0 0)) = WW at *
                    have p0 : WW.cell? ⟨k0, 0, none⟩ = some (.bool false) := HY.out.cell 0
                    have p1 : WW.cell? ⟨k0, 1, none⟩ = some (.slice none 0 0) := HY.out.cell 1
                    have p2 : WW.cell? ⟨k0, 2, none⟩ = some (.slice none 0 0) := HY.out.cell 2
                    have p3 : WW.cell? ⟨k0, 3, none⟩ = some (.slice none 0 0) := HY.out.cell 3
                    have p4 : WW.cell? ⟨k0, 4, none⟩ = some (.slice none 0 0) := HY.out.cell 4
                    exact bodyPost_ret (v := .tuple #[nv ⟨false, [], [], [], []⟩ ⟨none, 0, none, 0, none, 0, none, 0⟩, .int .i64 3]) (by simp [results, Try.results12, go_sem, p0, p1, p2, p3, p4]) rfl ⟨zeroN, 3, HG.out.trans (says_no (by rw [hM.out]; exact hm0.out)), ⟨none, 0, none, 0, none, 0, none, 0⟩, rfl, OwnN.zero _ _, ⟨Nat.zero_le _, Nat.zero_le _, Nat.zero_le _, Nat.zero_le _⟩, HR.out⟩
                · have hed : (e == 0) = false := by simpa using he
                  have hed' : (e != 0) = true := by simpa using he
                  replace he := hid he
                  have z0 : u1.cell? ⟨k0, 0, none⟩ = some (.bool false) := F.r0.cell 0
                  have g0 := F.r0.free 0
                  have e0 : u1.cell? ⟨k1, 0, none⟩ = some (.bool false) := F.r1.cell 0
                  have z1 : u1.cell? ⟨k0, 1, none⟩ = some (.slice none 0 0) := F.r0.cell 1
                  have g1 := F.r0.free 1
                  have e1 : u1.cell? ⟨k1, 1, none⟩ = some (.slice none 0 0) := F.r1.cell 1
                  have z2 : u1.cell? ⟨k0, 2, none⟩ = some (.slice none 0 0) := F.r0.cell 2
                  have g2 := F.r0.free 2
                  have e2 : u1.cell? ⟨k1, 2, none⟩ = some (.slice none 0 0) := F.r1.cell 2
                  have z3 : u1.cell? ⟨k0, 3, none⟩ = some (.slice none 0 0) := F.r0.cell 3
                  have g3 := F.r0.free 3
                  have e3 : u1.cell? ⟨k1, 3, none⟩ = some (.slice none 0 0) := F.r1.cell 3
                  have z4 : u1.cell? ⟨k0, 4, none⟩ = some (.slice none 0 0) := F.r0.cell 4
                  have g4 := F.r0.free 4
                  have e4 : u1.cell? ⟨k1, 4, none⟩ = some (.slice none 0 0) := F.r1.cell 4
                  have HY := (((((F.r0.set 0 (.bool false)).set 1 (.slice none 0 0)).set 2 (.slice none 0 0)).set 3 (.slice none 0 0)).set 4 (.slice none 0 0))
                  simp only [zeros, List.setIfInBounds_toArray, List.set_cons_zero, List.set_cons_succ] at HY
                  replace HY := hid HY
                  have HR := hid (Below.setCell (Below.setCell (Below.setCell (Below.setCell (Below.setCell F.hb (p := ⟨k0, 0, none⟩) (by exact F.o0) (.bool false)) (p := ⟨k0, 1, none⟩) (by exact F.o0) (.slice none 0 0)) (p := ⟨k0, 2, none⟩) (by exact F.o0) (.slice none 0 0)) (p := ⟨k0, 3, none⟩) (by exact F.o0) (.slice none 0 0)) (p := ⟨k0, 4, none⟩) (by exact F.o0) (.slice none 0 0))
                  clear ho F
                  go_wp2
                  generalize (((((u1.setCell ⟨k0, 0, none⟩ (.bool false)).setCell ⟨k0, 1, none⟩ (.slice none 0 0)).setCell ⟨k0, 2, none⟩ (.slice none 0 0)).setCell ⟨k0, 3, none⟩ (.slice none 0 0)).setCell ⟨k0, 4, none⟩ (.slice none 0 0)) = WW at *
                  have p0 : WW.cell? ⟨k0, 0, none⟩ = some (.bool false) := HY.out.cell 0
                  have p1 : WW.cell? ⟨k0, 1, none⟩ = some (.slice none 0 0) := HY.out.cell 1
                  have p2 : WW.cell? ⟨k0, 2, none⟩ = some (.slice none 0 0) := HY.out.cell 2
                  have p3 : WW.cell? ⟨k0, 3, none⟩ = some (.slice none 0 0) := HY.out.cell 3
                  have p4 : WW.cell? ⟨k0, 4, none⟩ = some (.slice none 0 0) := HY.out.cell 4
                  exact bodyPost_ret (v := .tuple #[nv ⟨false, [], [], [], []⟩ ⟨none, 0, none, 0, none, 0, none, 0⟩, .int .i64 e]) (by simp [results, Try.results12, go_sem, p0, p1, p2, p3, p4]) rfl ⟨zeroN, e, HG.out.trans (says_err he.out), ⟨none, 0, none, 0, none, 0, none, 0⟩, rfl, OwnN.zero _ _, ⟨Nat.zero_le _, Nat.zero_le _, Nat.zero_le _, Nat.zero_le _⟩, HR.out⟩
  · have hce : ((cn : Int) == 0) = false := by simp; omega
    have hkB4 : k4 < W4.heap.size := R4.lt
    replace F := F.base (B' := W4.heap.size) (by have := F.o4; have := F.o5; omega) (Nat.le_refl _)
    have hk23 := F.o3
    have hk3B := F.o4
    generalize hB2 : W4.heap.size = B2 at *
    clear hB2
    go_wp2_with fail
    go_loopw [17] (fun i wr => ∃ j : Nat, j ≤ cn ∧ i = .int .i64 j ∧ ∃ (l : List E) (s' : St), Hid (rMany rE j zs s2 = (l, s')) ∧ s'.p ≤ n ∧ Row wr k4 #[.slice a n c, .int .i64 (s2.p : Int), .int .i64 s2.e] 70 ∧ ∃ (av : Option Addr) (cv : Nat), OwnL kE wr B2 (.slice av l.length cv) l ∧ Fr w wr B2 k0 k1 k2 k3 #[.bool false, .slice none 0 0, .slice none 0 0, .slice av l.length cv, .slice none 0 0] a n c s') (fun i _ => cn - (intOf i).toNat)
    case atStart => exact ⟨0, Nat.zero_le _, rfl, [], s2, rfl, hp2, R4, none, 0, OwnL.nil _ _ _, F⟩
    case round =>
      clear F R4
      obtain ⟨j, hj, rfl, l, s3, hl, hp3, R4, av, cv, ho, F⟩ := hrel
      have hlj : l.length = j := by
        have h := many_len rE zs s2 j
        rw [hl.out] at h
        exact h
      have hlj' : l.length ≤ 1000 := by omega
      have HLJ := hid hlj
      clear hlj
      by_cases hlt : j < cn
      · obtain ⟨c0, c1, c2, _, _, _⟩ := F.rd
        have hd := F.doc h
        go_wp2_with fail
        refine (redge30 hd hp3).mono ?_
        rintro y u1 ⟨x, s4, hs4, hp4, rfl, hb⟩
        clear c0 c1 c2 hd
        have hB5s := (F.later hb).o5
        replace F := ((F.later hb).alloc (.cells #[.int .u32 x.blk, .int .u16 x.deep, .string x.strip, .string x.add] 51)).alloc (.cells #[.slice a n c, .int .i64 (s4.p : Int), .int .i64 s4.e] 70)
        obtain ⟨R5, R6, _, _⟩ := two_boxes u1 #[.int .u32 x.blk, .int .u16 x.deep, .string x.strip, .string x.add] #[.slice a n c, .int .i64 (s4.p : Int), .int .i64 s4.e] 51 70
        replace ho := ((ho.later hb).alloc (.cells #[.int .u32 x.blk, .int .u16 x.deep, .string x.strip, .string x.add] 51)).alloc (.cells #[.slice a n c, .int .i64 (s4.p : Int), .int .i64 s4.e] 70)
        replace R4 := ((R4.later hb).alloc (.cells #[.int .u32 x.blk, .int .u16 x.deep, .string x.strip, .string x.add] 51)).alloc (.cells #[.slice a n c, .int .i64 (s4.p : Int), .int .i64 s4.e] 70)
        clear hb
        go_upto_region 26 with fail
        generalize hW : (u1.alloc (.cells #[.int .u32 x.blk, .int .u16 x.deep, .string x.strip, .string x.add] 51)).alloc (.cells #[.slice a n c, .int .i64 (s4.p : Int), .int .i64 s4.e] 70) = U1 at *
        clear hW
        generalize hk5 : u1.heap.size = k5 at *
        generalize hk6 : k5 + 1 = k6 at *
        have hB5 := F.o4
        obtain ⟨c0, c1, c2, f0, f1, f2⟩ := F.rd
        have e0 : U1.cell? ⟨k6, 0, none⟩ = some (.slice a n c) := R6.cell 0
        have e1 : U1.cell? ⟨k6, 1, none⟩ = some (.int .i64 (s4.p : Int)) := R6.cell 1
        have e2 : U1.cell? ⟨k6, 2, none⟩ = some (.int .i64 s4.e) := R6.cell 2
        replace F := F.setR s4
        replace ho := ho.setB (by omega) (.slice a n c) (.int .i64 (s4.p : Int)) (.int .i64 s4.e)
        replace R4 := R4.beside3 (.slice a n c) (.int .i64 (s4.p : Int)) (.int .i64 s4.e) (show k4 ≠ k3 by omega)
        replace R5 := R5.beside3 (.slice a n c) (.int .i64 (s4.p : Int)) (.int .i64 s4.e) (show k5 ≠ k3 by omega)
        go_upto_region 27 with fail
        clear c0 c1 c2 f0 f1 f2 e0 e1 e2
        generalize hW : ((U1.setCell ⟨k3, 0, none⟩ (.slice a n c)).setCell ⟨k3, 1, none⟩ (.int .i64 (s4.p : Int))).setCell ⟨k3, 2, none⟩ (.int .i64 s4.e) = U2 at *
        clear hW
        have x0 : U2.cell? ⟨k5, 0, none⟩ = some (.int .u32 x.blk) := R5.cell 0
        have x1 : U2.cell? ⟨k5, 1, none⟩ = some (.int .u16 x.deep) := R5.cell 1
        have x2 : U2.cell? ⟨k5, 2, none⟩ = some (.string x.strip) := R5.cell 2
        have x3 : U2.cell? ⟨k5, 3, none⟩ = some (.string x.add) := R5.cell 3
        have HROW := hid (many_succ hl.out hs4.out)
        have d1 : U2.cell? ⟨k2, 3, none⟩ = some (.slice av l.length cv) := F.r2.cell 3
        have ho2 := ho.alloc (.cells #[.int .u32 x.blk, .int .u16 x.deep, .string x.strip, .string x.add] 51)
        have RN := Row.new U2 #[.int .u32 x.blk, .int .u16 x.deep, .string x.strip, .string x.add] 51
        have F2 := F.alloc (.cells #[.int .u32 x.blk, .int .u16 x.deep, .string x.strip, .string x.add] 51)
        replace R4 := R4.alloc (.cells #[.int .u32 x.blk, .int .u16 x.deep, .string x.strip, .string x.add] 51)
        have hB5 := F2.o5
        clear F ho
        go_wp2_with (at_builtin; refine appE rfl (.tmp 104) (.tmp 106) rfl B2 (.slice av l.length cv) l (by kernel_rfl) ho2 x U2.heap.size (by kernel_rfl) RN hlj' hB5 ?_; intro v' w' ho' hg' hB'; obtain ⟨l2, hl2⟩ : ∃ l2, l2 = l ++ [(x : E)] := ⟨_, rfl⟩; rw [← hl2] at ho'; replace hl2 := hid hl2; obtain ⟨a9, c9, rfl, _, _, _⟩ := ho'.eds; have F3 := F2.grown hg' hB'; have fz := F3.r2.free 3; have cz : w'.cell? ⟨k2, 3, none⟩ = some (.slice av l.length cv) := F3.r2.cell 3; replace ho' := ho'.set (k := k2) (by omega) 3 (.slice a9 l2.length c9); replace F3 := F3.set2 3 (.slice a9 l2.length c9); replace R4 := (R4.grown hg' (fun e => by have := hB' k4 e.symm; omega)).beside (k' := k2) 3 (.slice a9 l2.length c9) (by omega))
        simp only [List.setIfInBounds_toArray, List.set_cons_zero, List.set_cons_succ] at F3
        go_roundw
        case rel => exact ⟨j + 1, by omega, by go_num, l2, s4, by rw [hl2.out]; exact HROW, hp4, R4, a9, c9, ho', F3⟩
        case measure => simp [intOf]; omega
      · obtain rfl : cn = j := by omega
        clear hlt hj
        have HK : Hid (rKids zs s1 = (l, s3)) := by simp [Hid, rKids, bnd, hs2.out, rZero, rPure, hc0, hl.out]
        have HLE : Hid (l.length = cn) := HLJ
        clear HLJ hl hlj'
        generalize l = lE at *
        generalize wr = w5 at *
        generalize av = aE at *
        generalize cv = cE at *
        have hoE := ho
        clear ho
        have hB3 := F.o5
        replace F := F.base (B' := w5.heap.size) (by have := F.o4; have := F.o5; omega) (Nat.le_refl _)
        generalize hB3' : w5.heap.size = B3 at *
        have hoEu := hoE.under hB3'
        clear hB3'
        have hk3B3 := F.o4
        go_wp2_with fail
        go_loopw [20, 21] (fun i _ wr => ∃ j : Nat, j ≤ cn - 1 ∧ i = .int .i64 ((j : Int) + 1) ∧ ∃ (l : List ByteArray) (s' : St), Hid (rMany (rTxt 16) j zs s3 = (l, s')) ∧ s'.p ≤ n ∧ Row wr k4 #[.slice a n c, .int .i64 (s2.p : Int), .int .i64 s2.e] 70 ∧ OwnL kE wr B2 (.slice aE lE.length cE) lE ∧ ∃ (av : Option Addr) (cv : Nat), OwnL kT wr B3 (.slice av l.length cv) l ∧ Fr w wr B3 k0 k1 k2 k3 #[.bool false, .slice none 0 0, .slice av l.length cv, .slice aE lE.length cE, .slice none 0 0] a n c s') (fun i _ _ => cn - (intOf i).toNat)
        case atStart => exact ⟨0, Nat.zero_le _, rfl, [], s3, rfl, hp3, R4, hoE, none, 0, OwnL.nil _ _ _, F⟩
        case round =>
          clear F R4 hoE
          obtain ⟨j, hj, rfl, l, s5, hl, hp5, R4, hoE, av, cv, ho, F⟩ := hrel
          have hlj : l.length = j := by
            have h := many_len (rTxt 16) zs s3 j
            rw [hl.out] at h
            exact h
          have hlj' : l.length ≤ 1000 := by omega
          have HLJ := hid hlj
          clear hlj
          by_cases hlt : j < cn - 1
          · have hlt2 : (j : Int) + 1 < (cn : Int) := by omega
            obtain ⟨c0, c1, c2, _, _, _⟩ := F.rd
            have hd := F.doc h
            go_wp2_with fail
            refine (rtext hd hp5 16).mono ?_
            rintro x u1 ⟨x, s6, hs6, hp6, rfl, hb⟩
            clear c0 c1 c2 hd
            have hB5 := (F.later hb).o5
            replace F := (F.later hb).alloc (.cells #[.slice a n c, .int .i64 (s6.p : Int), .int .i64 s6.e] 70)
            have R5 := Row.new u1 #[.slice a n c, .int .i64 (s6.p : Int), .int .i64 s6.e] 70
            replace ho := (ho.later hb).alloc (.cells #[.slice a n c, .int .i64 (s6.p : Int), .int .i64 s6.e] 70)
            replace hoE := (hoE.later hb).alloc (.cells #[.slice a n c, .int .i64 (s6.p : Int), .int .i64 s6.e] 70)
            replace R4 := (R4.later hb).alloc (.cells #[.slice a n c, .int .i64 (s6.p : Int), .int .i64 s6.e] 70)
            clear hb
            go_upto_region 32 with fail
            generalize hW : u1.alloc (.cells #[.slice a n c, .int .i64 (s6.p : Int), .int .i64 s6.e] 70) = U1 at *
            clear hW
            generalize hk5 : u1.heap.size = k5 at *
            have hB55 := F.o4
            obtain ⟨c0, c1, c2, f0, f1, f2⟩ := F.rd
            have e0 : U1.cell? ⟨k5, 0, none⟩ = some (.slice a n c) := R5.cell 0
            have e1 : U1.cell? ⟨k5, 1, none⟩ = some (.int .i64 (s6.p : Int)) := R5.cell 1
            have e2 : U1.cell? ⟨k5, 2, none⟩ = some (.int .i64 s6.e) := R5.cell 2
            replace F := F.setR s6
            replace ho := ho.setB (by omega) (.slice a n c) (.int .i64 (s6.p : Int)) (.int .i64 s6.e)
            replace hoE := hoE.setB (by omega) (.slice a n c) (.int .i64 (s6.p : Int)) (.int .i64 s6.e)
            replace R4 := R4.beside3 (.slice a n c) (.int .i64 (s6.p : Int)) (.int .i64 s6.e) (show k4 ≠ k3 by omega)
            go_upto_region 33 with fail
            clear c0 c1 c2 f0 f1 f2 e0 e1 e2
            generalize hW : ((U1.setCell ⟨k3, 0, none⟩ (.slice a n c)).setCell ⟨k3, 1, none⟩ (.int .i64 (s6.p : Int))).setCell ⟨k3, 2, none⟩ (.int .i64 s6.e) = U2 at *
            clear hW
            clear R5
            have HROW := hid (many_succ hl.out hs6.out)
            have d1 : U2.cell? ⟨k2, 2, none⟩ = some (.slice av l.length cv) := F.r2.cell 2
            have ho2 := ho.alloc (.cells #[.string x] 9)
            have RN := Row.new U2 #[.string x] 9
            have F2 := F.alloc (.cells #[.string x] 9)
            replace R4 := R4.alloc (.cells #[.string x] 9)
            replace hoE := hoE.alloc (.cells #[.string x] 9)
            have hB5 := F2.o5
            clear F ho
            go_wp2_with (at_builtin; refine appT rfl (.tmp 121) (.tmp 123) rfl B3 (.slice av l.length cv) l (by kernel_rfl) ho2 x U2.heap.size (by kernel_rfl) RN hlj' hB5 ?_; intro v' w' ho' hg' hB'; obtain ⟨l2, hl2⟩ : ∃ l2, l2 = l ++ [(x : ByteArray)] := ⟨_, rfl⟩; rw [← hl2] at ho'; replace hl2 := hid hl2; obtain ⟨a9, c9, rfl, _, _, _⟩ := ho'.txts; have F3 := F2.grown hg' hB'; have fz := F3.r2.free 2; have cz : w'.cell? ⟨k2, 2, none⟩ = some (.slice av l.length cv) := F3.r2.cell 2; replace ho' := ho'.set (k := k2) (by omega) 2 (.slice a9 l2.length c9); replace F3 := F3.set2 2 (.slice a9 l2.length c9); replace R4 := (R4.grown hg' (fun e => by have := hB' k4 e.symm; omega)).beside (k' := k2) 2 (.slice a9 l2.length c9) (by omega); replace hoE := (hoE.apart hg' hB' hoEu).set (k := k2) (by omega) 2 (.slice a9 l2.length c9))
            simp only [List.setIfInBounds_toArray, List.set_cons_zero, List.set_cons_succ] at F3
            go_roundw
            case rel => exact ⟨j + 1, by omega, by go_num, l2, s6, by rw [hl2.out]; exact HROW, hp6, R4, hoE, a9, c9, ho', F3⟩
            case measure => simp [intOf]; omega
          · obtain rfl : cn - 1 = j := by omega
            have hlt2 : ¬ ((((cn - 1 : Nat)) : Int) + 1 < (cn : Int)) := by omega
            clear hlt hj
            have HT : Hid (rMany (rTxt 16) (lE.length - 1) zs s3 = (l, s5)) := by rw [HLE.out]; exact hl
            have HLT : Hid (l.length ≤ 8) := by have := HLJ.out; show l.length ≤ 8; omega
            clear HLJ hl hlj'
            generalize l = lT at *
            generalize wr = w6 at *
            generalize av = aT at *
            generalize cv = cT at *
            have hoT := ho
            clear ho
            have hk34 := F.o4
            obtain ⟨c0, c1, c2, _, _, _⟩ := F.rd
            have hd := F.doc h
            go_wp2_with fail
            refine (rcount27 hd hp5 16 (by decide)).mono ?_
            rintro x w7 ⟨cm, s6, hs6, hcm, hp6, rfl, hb⟩
            clear c0 c1 c2 hd
            replace F := F.later hb
            replace hoE := hoE.later hb
            replace hoT := hoT.later hb
            replace R4 := R4.later hb
            clear hb
            have q0 : w7.cell? ⟨k4, 0, none⟩ = some (.slice a n c) := R4.cell 0
            have q1 : w7.cell? ⟨k4, 1, none⟩ = some (.int .i64 (s2.p : Int)) := R4.cell 1
            have q2 : w7.cell? ⟨k4, 2, none⟩ = some (.int .i64 s2.e) := R4.cell 2
            have j0 := R4.free 0
            have j1 := R4.free 1
            have j2 := R4.free 2
            replace F := F.side (show k3 < k4 by omega) (.slice a n c) (.int .i64 (s6.p : Int)) (.int .i64 s6.e)
            replace hoE := hoE.setB (show k4 < B2 by omega) (.slice a n c) (.int .i64 (s6.p : Int)) (.int .i64 s6.e)
            replace hoT := hoT.setB (show k4 < B3 by omega) (.slice a n c) (.int .i64 (s6.p : Int)) (.int .i64 s6.e)
            replace R4 := R4.put3 (.slice a n c) (.int .i64 (s6.p : Int)) (.int .i64 s6.e)
            go_upto_region 35 with fail
            clear q0 q1 q2 j0 j1 j2
            generalize hW : ((w7.setCell ⟨k4, 0, none⟩ (.slice a n c)).setCell ⟨k4, 1, none⟩ (.int .i64 (s6.p : Int))).setCell ⟨k4, 2, none⟩ (.int .i64 s6.e) = W8 at *
            clear hW
            obtain ⟨c0, c1, c2, f0, f1, f2⟩ := F.rd
            have e0 : W8.cell? ⟨k4, 0, none⟩ = some (.slice a n c) := R4.cell 0
            have e1 : W8.cell? ⟨k4, 1, none⟩ = some (.int .i64 (s6.p : Int)) := R4.cell 1
            have e2 : W8.cell? ⟨k4, 2, none⟩ = some (.int .i64 s6.e) := R4.cell 2
            replace F := F.setR s6
            replace hoE := hoE.setB (by omega) (.slice a n c) (.int .i64 (s6.p : Int)) (.int .i64 s6.e)
            replace hoT := hoT.setB (by omega) (.slice a n c) (.int .i64 (s6.p : Int)) (.int .i64 s6.e)
            go_upto_region 36 with fail
            clear c0 c1 c2 f0 f1 f2 e0 e1 e2
            generalize hW : ((W8.setCell ⟨k3, 0, none⟩ (.slice a n c)).setCell ⟨k3, 1, none⟩ (.int .i64 (s6.p : Int))).setCell ⟨k3, 2, none⟩ (.int .i64 s6.e) = W9 at *
            clear hW
            clear R4
            have hB4 := F.o5
            replace F := F.base (B' := W9.heap.size) (by have := F.o4; have := F.o5; omega) (Nat.le_refl _)
            generalize hB4' : W9.heap.size = B4 at *
            have hoEu := hoE.under hB4'
            have hoTu := hoT.under hB4'
            clear hB4'
            have hk3B4 := F.o4
            go_wp2_with fail
            go_loopw [23] (fun i wr => ∃ j : Nat, j ≤ cm ∧ i = .int .i64 j ∧ ∃ (l : List M) (s' : St), Hid (rMany rM' j zs s6 = (l, s')) ∧ s'.p ≤ n ∧ OwnL kE wr B2 (.slice aE lE.length cE) lE ∧ OwnL kT wr B3 (.slice aT lT.length cT) lT ∧ ∃ (av : Option Addr) (cv : Nat), OwnL kM wr B4 (.slice av l.length cv) l ∧ Fr w wr B4 k0 k1 k2 k3 #[.bool false, .slice none 0 0, .slice aT lT.length cT, .slice aE lE.length cE, .slice av l.length cv] a n c s') (fun i _ => cm - (intOf i).toNat)
            case atStart => exact ⟨0, Nat.zero_le _, rfl, [], s6, rfl, hp6, hoE, hoT, none, 0, OwnL.nil _ _ _, F⟩
            case round =>
              clear F hoE hoT
              obtain ⟨j, hj, rfl, l, s7, hl, hp7, hoE, hoT, av, cv, ho, F⟩ := hrel
              have hlj : l.length = j := by
                have h := many_len rM' zs s6 j
                rw [hl.out] at h
                exact h
              have hlj' : l.length ≤ 1000 := by omega
              have HLJ := hid hlj
              clear hlj
              by_cases hlt : j < cm
              · obtain ⟨c0, c1, c2, _, _, _⟩ := F.rd
                have hd := F.doc h
                go_wp2_with fail
                refine (rmsg31 hd hp7).mono ?_
                rintro y u1 ⟨x, s8, hs8, hp8, rfl, hb⟩
                clear c0 c1 c2 hd
                have hB5s := (F.later hb).o5
                replace F := ((F.later hb).alloc (.cells #[.int .u8 x.kind, .string x.key, .string x.val, .int .u32 x.blk, .int .u16 x.deep, .string x.add] 60)).alloc (.cells #[.slice a n c, .int .i64 (s8.p : Int), .int .i64 s8.e] 70)
                obtain ⟨R5, R6, _, _⟩ := two_boxes u1 #[.int .u8 x.kind, .string x.key, .string x.val, .int .u32 x.blk, .int .u16 x.deep, .string x.add] #[.slice a n c, .int .i64 (s8.p : Int), .int .i64 s8.e] 60 70
                replace ho := ((ho.later hb).alloc (.cells #[.int .u8 x.kind, .string x.key, .string x.val, .int .u32 x.blk, .int .u16 x.deep, .string x.add] 60)).alloc (.cells #[.slice a n c, .int .i64 (s8.p : Int), .int .i64 s8.e] 70)
                replace hoE := ((hoE.later hb).alloc (.cells #[.int .u8 x.kind, .string x.key, .string x.val, .int .u32 x.blk, .int .u16 x.deep, .string x.add] 60)).alloc (.cells #[.slice a n c, .int .i64 (s8.p : Int), .int .i64 s8.e] 70)
                replace hoT := ((hoT.later hb).alloc (.cells #[.int .u8 x.kind, .string x.key, .string x.val, .int .u32 x.blk, .int .u16 x.deep, .string x.add] 60)).alloc (.cells #[.slice a n c, .int .i64 (s8.p : Int), .int .i64 s8.e] 70)
                clear hb
                go_upto_region 40 with fail
                generalize hW : (u1.alloc (.cells #[.int .u8 x.kind, .string x.key, .string x.val, .int .u32 x.blk, .int .u16 x.deep, .string x.add] 60)).alloc (.cells #[.slice a n c, .int .i64 (s8.p : Int), .int .i64 s8.e] 70) = U1 at *
                clear hW
                generalize hk5 : u1.heap.size = k5 at *
                generalize hk6 : k5 + 1 = k6 at *
                have hB5 := F.o4
                obtain ⟨c0, c1, c2, f0, f1, f2⟩ := F.rd
                have e0 : U1.cell? ⟨k6, 0, none⟩ = some (.slice a n c) := R6.cell 0
                have e1 : U1.cell? ⟨k6, 1, none⟩ = some (.int .i64 (s8.p : Int)) := R6.cell 1
                have e2 : U1.cell? ⟨k6, 2, none⟩ = some (.int .i64 s8.e) := R6.cell 2
                replace F := F.setR s8
                replace ho := ho.setB (by omega) (.slice a n c) (.int .i64 (s8.p : Int)) (.int .i64 s8.e)
                replace hoE := hoE.setB (by omega) (.slice a n c) (.int .i64 (s8.p : Int)) (.int .i64 s8.e)
                replace hoT := hoT.setB (by omega) (.slice a n c) (.int .i64 (s8.p : Int)) (.int .i64 s8.e)
                replace R5 := R5.beside3 (.slice a n c) (.int .i64 (s8.p : Int)) (.int .i64 s8.e) (show k5 ≠ k3 by omega)
                go_upto_region 41 with fail
                clear c0 c1 c2 f0 f1 f2 e0 e1 e2
                generalize hW : ((U1.setCell ⟨k3, 0, none⟩ (.slice a n c)).setCell ⟨k3, 1, none⟩ (.int .i64 (s8.p : Int))).setCell ⟨k3, 2, none⟩ (.int .i64 s8.e) = U2 at *
                clear hW
                have x0 : U2.cell? ⟨k5, 0, none⟩ = some (.int .u8 x.kind) := R5.cell 0
                have x1 : U2.cell? ⟨k5, 1, none⟩ = some (.string x.key) := R5.cell 1
                have x2 : U2.cell? ⟨k5, 2, none⟩ = some (.string x.val) := R5.cell 2
                have x3 : U2.cell? ⟨k5, 3, none⟩ = some (.int .u32 x.blk) := R5.cell 3
                have x4 : U2.cell? ⟨k5, 4, none⟩ = some (.int .u16 x.deep) := R5.cell 4
                have x5 : U2.cell? ⟨k5, 5, none⟩ = some (.string x.add) := R5.cell 5
                have HROW := hid (many_succ hl.out hs8.out)
                have d1 : U2.cell? ⟨k2, 4, none⟩ = some (.slice av l.length cv) := F.r2.cell 4
                have ho2 := ho.alloc (.cells #[.int .u8 x.kind, .string x.key, .string x.val, .int .u32 x.blk, .int .u16 x.deep, .string x.add] 60)
                have RN := Row.new U2 #[.int .u8 x.kind, .string x.key, .string x.val, .int .u32 x.blk, .int .u16 x.deep, .string x.add] 60
                have F2 := F.alloc (.cells #[.int .u8 x.kind, .string x.key, .string x.val, .int .u32 x.blk, .int .u16 x.deep, .string x.add] 60)
                replace hoE := hoE.alloc (.cells #[.int .u8 x.kind, .string x.key, .string x.val, .int .u32 x.blk, .int .u16 x.deep, .string x.add] 60)
                replace hoT := hoT.alloc (.cells #[.int .u8 x.kind, .string x.key, .string x.val, .int .u32 x.blk, .int .u16 x.deep, .string x.add] 60)
                have hB5 := F2.o5
                clear F ho
                go_wp2_with (at_builtin; refine appM rfl (.tmp 144) (.tmp 146) rfl B4 (.slice av l.length cv) l (by kernel_rfl) ho2 x U2.heap.size (by kernel_rfl) RN hlj' hB5 ?_; intro v' w' ho' hg' hB'; obtain ⟨l2, hl2⟩ : ∃ l2, l2 = l ++ [(x : M)] := ⟨_, rfl⟩; rw [← hl2] at ho'; replace hl2 := hid hl2; obtain ⟨a9, c9, rfl, _, _, _⟩ := ho'.msgs; have F3 := F2.grown hg' hB'; have fz := F3.r2.free 4; have cz : w'.cell? ⟨k2, 4, none⟩ = some (.slice av l.length cv) := F3.r2.cell 4; replace ho' := ho'.set (k := k2) (by omega) 4 (.slice a9 l2.length c9); replace F3 := F3.set2 4 (.slice a9 l2.length c9); replace hoE := (hoE.apart hg' hB' hoEu).set (k := k2) (by omega) 4 (.slice a9 l2.length c9); replace hoT := (hoT.apart hg' hB' hoTu).set (k := k2) (by omega) 4 (.slice a9 l2.length c9))
                simp only [List.setIfInBounds_toArray, List.set_cons_zero, List.set_cons_succ] at F3
                go_roundw
                case rel => exact ⟨j + 1, by omega, by go_num, l2, s8, by rw [hl2.out]; exact HROW, hp8, hoE, hoT, a9, c9, ho', F3⟩
                case measure => simp [intOf]; omega
              · obtain rfl : cm = j := by omega
                have HM : Hid (rBuf rM' zs s5 = (l, s7)) := by simp [Hid, rBuf, bnd, hs6.out, hl.out]
                have HFK : Hid (rFork rM' zs s1 = (⟨false, [], lT, lE, l⟩, s7)) := by simp [Hid, rFork, bnd, HK.out, HT.out, HM.out, rPure]
                have HS := hid (rN_fork (f := rM') hs1.out M1.out HFK.out)
                have HLS : Hid (Less ⟨false, [], lT, lE, l⟩) := ⟨Nat.zero_le _, HLT.out, by show lE.length ≤ 8; rw [HLE.out]; omega, by show l.length ≤ 16; rw [HLJ.out]; omega⟩
                have HKD : Hid (Kinds ⟨false, [], lT, lE, l⟩) := by
                  have := kinds_N (f := rM') hbyt.out (fun s => ok_M' hbyt.out s) ⟨0, 0⟩
                  rwa [HS.out] at this
                have ho0 := ho
                replace ho : OwnN wr B2 ⟨false, [], lT, lE, l⟩ ⟨none, 0, aT, cT, aE, cE, av, cv⟩ := ⟨OwnL.nil _ _ _, hoT.mono (by omega), hoE, ho0.mono (by omega)⟩
                clear ho0 hoE hoT
                replace F := F.base (B' := B2) (by omega) (by have := F.o5; omega)
                go_upto_region 42 with fail
                have HG := getN_of HS.out
                rw [hlen.out] at HG
                replace HG := hid HG
                have hk0B : k0 < B2 := by have := F.o1; have := F.o2; have := F.o3; have := F.o4; omega
                have hwB : w.heap.size ≤ B2 := by have := F.o0; omega
                obtain ⟨c0, c1, c2, _, _, _⟩ := F.rd
                go_wp2_with fail
                refine (Pack.ref_end (a := a) (n := n) (c := c) (p := s7.p) (e := s7.e)).mono ?_
                rintro x u1 ⟨rfl, hb⟩
                replace F := F.later hb
                replace ho := ho.later hb
                clear hb c0 c1 c2
                generalize hE : Pack.endE n s7.p s7.e = e at *
                clear hE
                by_cases he : e = 0
                · subst he
                  have e0 : u1.cell? ⟨k2, 0, none⟩ = some (.bool false) := F.r2.cell 0
                  have e1 : u1.cell? ⟨k2, 1, none⟩ = some (.slice none 0 0) := F.r2.cell 1
                  have e2 : u1.cell? ⟨k2, 2, none⟩ = some (.slice aT lT.length cT) := F.r2.cell 2
                  have e3 : u1.cell? ⟨k2, 3, none⟩ = some (.slice aE lE.length cE) := F.r2.cell 3
                  have e4 : u1.cell? ⟨k2, 4, none⟩ = some (.slice av l.length cv) := F.r2.cell 4
                  have HM := hid (Key.may13 ⟨false, [], lT, lE, l⟩ ⟨none, 0, aT, cT, aE, cE, av, cv⟩ u1 HLS.out.few ho.lies (fun m hm => (HKD.out.md m hm).1))
                  go_wp2_with fail
                  refine HM.out.mono ?_
                  rintro x u2 ⟨rfl, hb⟩
                  replace F := F.later hb
                  replace ho := ho.later hb
                  clear hb e0 e1 e2 e3 e4 HM
                  generalize hM : mayI ⟨false, [], lT, lE, l⟩ = m at *
                  replace hM := hid hM
                  by_cases hm0 : m = 0
                  · subst hm0
                    have z0 : u2.cell? ⟨k0, 0, none⟩ = some (.bool false) := F.r0.cell 0
                    have g0 := F.r0.free 0
                    have e0 : u2.cell? ⟨k2, 0, none⟩ = some (.bool false) := F.r2.cell 0
                    have z1 : u2.cell? ⟨k0, 1, none⟩ = some (.slice none 0 0) := F.r0.cell 1
                    have g1 := F.r0.free 1
                    have e1 : u2.cell? ⟨k2, 1, none⟩ = some (.slice none 0 0) := F.r2.cell 1
                    have z2 : u2.cell? ⟨k0, 2, none⟩ = some (.slice none 0 0) := F.r0.cell 2
                    have g2 := F.r0.free 2
                    have e2 : u2.cell? ⟨k2, 2, none⟩ = some (.slice aT lT.length cT) := F.r2.cell 2
                    have z3 : u2.cell? ⟨k0, 3, none⟩ = some (.slice none 0 0) := F.r0.cell 3
                    have g3 := F.r0.free 3
                    have e3 : u2.cell? ⟨k2, 3, none⟩ = some (.slice aE lE.length cE) := F.r2.cell 3
                    have z4 : u2.cell? ⟨k0, 4, none⟩ = some (.slice none 0 0) := F.r0.cell 4
                    have g4 := F.r0.free 4
                    have e4 : u2.cell? ⟨k2, 4, none⟩ = some (.slice av l.length cv) := F.r2.cell 4
                    have HY := (((((F.r0.set 0 (.bool false)).set 1 (.slice none 0 0)).set 2 (.slice aT lT.length cT)).set 3 (.slice aE lE.length cE)).set 4 (.slice av l.length cv))
                    simp only [zeros, List.setIfInBounds_toArray, List.set_cons_zero, List.set_cons_succ] at HY
                    replace HY := hid HY
                    have HR := hid (Below.setCell (Below.setCell (Below.setCell (Below.setCell (Below.setCell F.hb (p := ⟨k0, 0, none⟩) (by exact F.o0) (.bool false)) (p := ⟨k0, 1, none⟩) (by exact F.o0) (.slice none 0 0)) (p := ⟨k0, 2, none⟩) (by exact F.o0) (.slice aT lT.length cT)) (p := ⟨k0, 3, none⟩) (by exact F.o0) (.slice aE lE.length cE)) (p := ⟨k0, 4, none⟩) (by exact F.o0) (.slice av l.length cv))
                    have HO := hid (((((ho.set (k := k0) hk0B 0 (.bool false)).set (k := k0) hk0B 1 (.slice none 0 0)).set (k := k0) hk0B 2 (.slice aT lT.length cT)).set (k := k0) hk0B 3 (.slice aE lE.length cE)).set (k := k0) hk0B 4 (.slice av l.length cv))
                    clear ho F
                    go_wp2
                    generalize (((((u2.setCell ⟨k0, 0, none⟩ (.bool false)).setCell ⟨k0, 1, none⟩ (.slice none 0 0)).setCell ⟨k0, 2, none⟩ (.slice aT lT.length cT)).setCell ⟨k0, 3, none⟩ (.slice aE lE.length cE)).setCell ⟨k0, 4, none⟩ (.slice av l.length cv)) = WW at *
                    have p0 : WW.cell? ⟨k0, 0, none⟩ = some (.bool false) := HY.out.cell 0
                    have p1 : WW.cell? ⟨k0, 1, none⟩ = some (.slice none 0 0) := HY.out.cell 1
                    have p2 : WW.cell? ⟨k0, 2, none⟩ = some (.slice aT lT.length cT) := HY.out.cell 2
                    have p3 : WW.cell? ⟨k0, 3, none⟩ = some (.slice aE lE.length cE) := HY.out.cell 3
                    have p4 : WW.cell? ⟨k0, 4, none⟩ = some (.slice av l.length cv) := HY.out.cell 4
                    exact bodyPost_ret (v := .tuple #[nv ⟨false, [], lT, lE, l⟩ ⟨none, 0, aT, cT, aE, cE, av, cv⟩, .int .i64 0]) (by simp [results, Try.results12, go_sem, p0, p1, p2, p3, p4]) rfl ⟨⟨false, [], lT, lE, l⟩, 0, HG.out.trans (says_yes hM.out), ⟨none, 0, aT, cT, aE, cE, av, cv⟩, rfl, HO.out.mono hwB, HLS.out, HR.out⟩
                  · have hmd : (m == 0) = false := by simpa using hm0
                    have hmd' : (m != 0) = true := by simpa using hm0
                    replace hm0 := hid hm0
                    have z0 : u2.cell? ⟨k0, 0, none⟩ = some (.bool false) := F.r0.cell 0
                    have g0 := F.r0.free 0
                    have e0 : u2.cell? ⟨k1, 0, none⟩ = some (.bool false) := F.r1.cell 0
                    have z1 : u2.cell? ⟨k0, 1, none⟩ = some (.slice none 0 0) := F.r0.cell 1
                    have g1 := F.r0.free 1
                    have e1 : u2.cell? ⟨k1, 1, none⟩ = some (.slice none 0 0) := F.r1.cell 1
                    have z2 : u2.cell? ⟨k0, 2, none⟩ = some (.slice none 0 0) := F.r0.cell 2
                    have g2 := F.r0.free 2
                    have e2 : u2.cell? ⟨k1, 2, none⟩ = some (.slice none 0 0) := F.r1.cell 2
                    have z3 : u2.cell? ⟨k0, 3, none⟩ = some (.slice none 0 0) := F.r0.cell 3
                    have g3 := F.r0.free 3
                    have e3 : u2.cell? ⟨k1, 3, none⟩ = some (.slice none 0 0) := F.r1.cell 3
                    have z4 : u2.cell? ⟨k0, 4, none⟩ = some (.slice none 0 0) := F.r0.cell 4
                    have g4 := F.r0.free 4
                    have e4 : u2.cell? ⟨k1, 4, none⟩ = some (.slice none 0 0) := F.r1.cell 4
                    have HY := (((((F.r0.set 0 (.bool false)).set 1 (.slice none 0 0)).set 2 (.slice none 0 0)).set 3 (.slice none 0 0)).set 4 (.slice none 0 0))
                    simp only [zeros, List.setIfInBounds_toArray, List.set_cons_zero, List.set_cons_succ] at HY
                    replace HY := hid HY
                    have HR := hid (Below.setCell (Below.setCell (Below.setCell (Below.setCell (Below.setCell F.hb (p := ⟨k0, 0, none⟩) (by exact F.o0) (.bool false)) (p := ⟨k0, 1, none⟩) (by exact F.o0) (.slice none 0 0)) (p := ⟨k0, 2, none⟩) (by exact F.o0) (.slice none 0 0)) (p := ⟨k0, 3, none⟩) (by exact F.o0) (.slice none 0 0)) (p := ⟨k0, 4, none⟩) (by exact F.o0) (.slice none 0 0))
                    clear ho F
                    go_wp2
                    generalize (((((u2.setCell ⟨k0, 0, none⟩ (.bool false)).setCell ⟨k0, 1, none⟩ (.slice none 0 0)).setCell ⟨k0, 2, none⟩ (.slice none 0 0)).setCell ⟨k0, 3, none⟩ (.slice none 0 0)).setCell ⟨k0, 4, none⟩ (.slice none 0 0)) = WW at *
                    have p0 : WW.cell? ⟨k0, 0, none⟩ = some (.bool false) := HY.out.cell 0
                    have p1 : WW.cell? ⟨k0, 1, none⟩ = some (.slice none 0 0) := HY.out.cell 1
                    have p2 : WW.cell? ⟨k0, 2, none⟩ = some (.slice none 0 0) := HY.out.cell 2
                    have p3 : WW.cell? ⟨k0, 3, none⟩ = some (.slice none 0 0) := HY.out.cell 3
                    have p4 : WW.cell? ⟨k0, 4, none⟩ = some (.slice none 0 0) := HY.out.cell 4
                    exact bodyPost_ret (v := .tuple #[nv ⟨false, [], [], [], []⟩ ⟨none, 0, none, 0, none, 0, none, 0⟩, .int .i64 3]) (by simp [results, Try.results12, go_sem, p0, p1, p2, p3, p4]) rfl ⟨zeroN, 3, HG.out.trans (says_no (by rw [hM.out]; exact hm0.out)), ⟨none, 0, none, 0, none, 0, none, 0⟩, rfl, OwnN.zero _ _, ⟨Nat.zero_le _, Nat.zero_le _, Nat.zero_le _, Nat.zero_le _⟩, HR.out⟩
                · have hed : (e == 0) = false := by simpa using he
                  have hed' : (e != 0) = true := by simpa using he
                  replace he := hid he
                  have z0 : u1.cell? ⟨k0, 0, none⟩ = some (.bool false) := F.r0.cell 0
                  have g0 := F.r0.free 0
                  have e0 : u1.cell? ⟨k1, 0, none⟩ = some (.bool false) := F.r1.cell 0
                  have z1 : u1.cell? ⟨k0, 1, none⟩ = some (.slice none 0 0) := F.r0.cell 1
                  have g1 := F.r0.free 1
                  have e1 : u1.cell? ⟨k1, 1, none⟩ = some (.slice none 0 0) := F.r1.cell 1
                  have z2 : u1.cell? ⟨k0, 2, none⟩ = some (.slice none 0 0) := F.r0.cell 2
                  have g2 := F.r0.free 2
                  have e2 : u1.cell? ⟨k1, 2, none⟩ = some (.slice none 0 0) := F.r1.cell 2
                  have z3 : u1.cell? ⟨k0, 3, none⟩ = some (.slice none 0 0) := F.r0.cell 3
                  have g3 := F.r0.free 3
                  have e3 : u1.cell? ⟨k1, 3, none⟩ = some (.slice none 0 0) := F.r1.cell 3
                  have z4 : u1.cell? ⟨k0, 4, none⟩ = some (.slice none 0 0) := F.r0.cell 4
                  have g4 := F.r0.free 4
                  have e4 : u1.cell? ⟨k1, 4, none⟩ = some (.slice none 0 0) := F.r1.cell 4
                  have HY := (((((F.r0.set 0 (.bool false)).set 1 (.slice none 0 0)).set 2 (.slice none 0 0)).set 3 (.slice none 0 0)).set 4 (.slice none 0 0))
                  simp only [zeros, List.setIfInBounds_toArray, List.set_cons_zero, List.set_cons_succ] at HY
                  replace HY := hid HY
                  have HR := hid (Below.setCell (Below.setCell (Below.setCell (Below.setCell (Below.setCell F.hb (p := ⟨k0, 0, none⟩) (by exact F.o0) (.bool false)) (p := ⟨k0, 1, none⟩) (by exact F.o0) (.slice none 0 0)) (p := ⟨k0, 2, none⟩) (by exact F.o0) (.slice none 0 0)) (p := ⟨k0, 3, none⟩) (by exact F.o0) (.slice none 0 0)) (p := ⟨k0, 4, none⟩) (by exact F.o0) (.slice none 0 0))
                  clear ho F
                  go_wp2
                  generalize (((((u1.setCell ⟨k0, 0, none⟩ (.bool false)).setCell ⟨k0, 1, none⟩ (.slice none 0 0)).setCell ⟨k0, 2, none⟩ (.slice none 0 0)).setCell ⟨k0, 3, none⟩ (.slice none 0 0)).setCell ⟨k0, 4, none⟩ (.slice none 0 0)) = WW at *
                  have p0 : WW.cell? ⟨k0, 0, none⟩ = some (.bool false) := HY.out.cell 0
                  have p1 : WW.cell? ⟨k0, 1, none⟩ = some (.slice none 0 0) := HY.out.cell 1
                  have p2 : WW.cell? ⟨k0, 2, none⟩ = some (.slice none 0 0) := HY.out.cell 2
                  have p3 : WW.cell? ⟨k0, 3, none⟩ = some (.slice none 0 0) := HY.out.cell 3
                  have p4 : WW.cell? ⟨k0, 4, none⟩ = some (.slice none 0 0) := HY.out.cell 4
                  exact bodyPost_ret (v := .tuple #[nv ⟨false, [], [], [], []⟩ ⟨none, 0, none, 0, none, 0, none, 0⟩, .int .i64 e]) (by simp [results, Try.results12, go_sem, p0, p1, p2, p3, p4]) rfl ⟨zeroN, e, HG.out.trans (says_err he.out), ⟨none, 0, none, 0, none, 0, none, 0⟩, rfl, OwnN.zero _ _, ⟨Nat.zero_le _, Nat.zero_le _, Nat.zero_le _, Nat.zero_le _⟩, HR.out⟩
end Go.Proofs.Ytjegpcmejlffhaa.Cod
