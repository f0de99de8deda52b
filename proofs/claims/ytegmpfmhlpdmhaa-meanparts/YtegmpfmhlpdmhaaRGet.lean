/-
  Contract of the document's Get.
-/
import Derived.Test.YtegmpfmhlpdmhaaRightRef
import Derived.Test.YtegmpfmhlpdmhaaNLead
import Derived.Test.YtegmpfmhlpdmhaaGet
namespace Go.Proofs.Ytegmpfmhlpdmhaa.Key
open Go.RowKit
set_option linter.unusedVariables false
set_option linter.unusedSimpArgs false

set_option maxRecDepth 100000 in
set_option maxHeartbeats 1600000 in
theorem rget9 (a : Option Addr) (c : Nat) (l : List It) (hl : Fine l) : ∀ (d : Nat) (root : Int) (k : ByteArray) (w : World), k.size + 16 * d ≤ 1000 → depM l root ≤ d → Items w a l →
    Calls Try.prog 9 #[.slice a l.length c, .int .u32 root, .string k] w fun x w' => x = .returned (.tuple #[.string (valS l root k.data.toList), .bool (valB l root k.data.toList)]) ∧ Below w.heap.size w w' := by
  intro d
  induction d with
  | zero =>
    intro root k w hk hd h
    have hno : seenI l root = none := by
      cases hs : seenI l root with
      | none => rfl
      | some x =>
        obtain ⟨hr, hf⟩ := seen_some hs
        unfold depM at hd
        rw [hs] at hd
        have h2 := deep_pos (right_may hr (find_in hf))
        dsimp only at hd
        omega
    have HF := hid (find10 a c l root w hl.len h)
    have HR := hid (fun u (hu : Below w.heap.size w u) => right12 a c l u hl (h.later hu))
    have hx : ((findI l root).isSome && rightB l) = false := by
      unfold seenI at hno
      cases hr : rightB l
      · simp
      · rw [hr] at hno
        rw [if_pos rfl] at hno
        rw [hno]
        rfl
    unfold valS valB
    rw [val_unseen hno]
    dsimp only [Option.getD, Option.isSome]
    clear hno hd h hk
    generalize hn : l.length = n at *
    clear hn
    generalize (findI l root).isSome = F at *
    generalize rightB l = G at *
    go_enter Try.func9, Try.ntmps9
    go_wp2_with fail
    refine HF.out.mono ?_
    clear HF
    rintro x w1 ⟨⟨⟨lf, ps, pv, ks, bf⟩, ⟨a1, c1, a2, c2, a3, c3, a4, c4⟩, rfl, _, _⟩, hb1⟩
    dsimp only [nv]
    cases F
    · go_wp2_with fail
      exact bodyPost_ret (v := .tuple #[.string ⟨#[]⟩, .bool false]) (by simp [results, Try.results9, go_sem]) rfl ⟨rfl, hb1.alloc hb1.size _⟩
    · obtain rfl : G = false := by simpa using hx
      go_wp2_with fail
      refine (HR.out _ (hb1.alloc hb1.size _)).mono ?_
      clear HR
      rintro x w2 ⟨rfl, hb2⟩
      have hb3 := (hb1.alloc hb1.size _).trans (hb2.mono (hb1.alloc hb1.size _).size)
      go_wp2_with fail
      exact bodyPost_ret (v := .tuple #[.string ⟨#[]⟩, .bool false]) (by simp [results, Try.results9, go_sem]) rfl ⟨rfl, hb3⟩
  | succ d ih =>
    intro root k w hk hd h
    have HF := hid (find10 a c l root w hl.len h)
    have HR := hid (fun u (hu : Below w.heap.size w u) => right12 a c l u hl (h.later hu))
    have HI := hid (fun b' (k' : ByteArray) (u : World) (hu : Below w.heap.size w u) (h1 : depM l b' ≤ d) (h2 : k'.size + 16 * d ≤ 1000) => ih b' k' u h2 h1 (h.later hu))
    have HS := hid (fun (n : Nd) (p : Pl) (u : World) (hn : Small n) (hL : Lies u n p) => step20 n p k u hn (by omega) hL)
    have hsm := found_small hl.sml root
    have hwn := way_next l root k.data.toList
    have hdn := fun h => dep_next (l := l) (b := root) (k := k.data.toList) h
    have hks : k.data.toList.length = k.size := by rw [← Lib.size_eq]
    have HZ := hid (show seenI l root = none → valL l root k.data.toList = none from fun h => val_unseen h _)
    have hse : rightB l = true → (findI l root).isSome = true → seenN l root = foundN l root := by
      intro hr _
      unfold seenN foundN seenI
      rw [if_pos hr]
    have hsn : rightB l = false ∨ (findI l root).isSome = false → seenI l root = none := by
      unfold seenI
      rintro (hr | hr)
      · rw [hr]; rfl
      · split
        · exact Option.isNone_iff_eq_none.1 (by simpa using hr)
        · rfl
    have HVS := hid (show valS l root k.data.toList = (valL l root k.data.toList).getD ⟨#[]⟩ from rfl)
    have HVB := hid (show valB l root k.data.toList = (valL l root k.data.toList).isSome from rfl)
    generalize valS l root k.data.toList = VS at *
    generalize valB l root k.data.toList = VB at *
    generalize valL l root k.data.toList = V at *
    clear ih h
    generalize hn : l.length = n at *
    clear hn
    generalize (findI l root).isSome = F at *
    generalize rightB l = G at *
    go_enter Try.func9, Try.ntmps9
    go_wp2_with fail
    refine HF.out.mono ?_
    clear HF
    rintro x w1 ⟨⟨nd, p, rfl, hnd, hL⟩, hb1⟩
    rw [← hnd] at hsm hse
    clear hnd
    have HS2 := hid (fun u (hu : Below w1.heap.size w1 u) => HS.out nd p u hsm (hL.later hu))
    clear HS hL hsm
    cases F
    · obtain rfl := HZ.out (hsn (.inr rfl))
      obtain rfl := HVS.out
      obtain rfl := HVB.out
      dsimp only [nv] at *
      go_wp2_with fail
      exact bodyPost_ret (v := .tuple #[.string ⟨#[]⟩, .bool false]) (by simp [results, Try.results9, go_sem]) rfl ⟨rfl, hb1.alloc hb1.size _⟩
    · have N1 := NBox.new w1 (.bool nd.leaf) (.slice p.a1 nd.ps.length p.c1) (.slice p.a2 nd.pv.length p.c2) (.slice p.a3 nd.ks.length p.c3) (.slice p.a4 nd.bf.length p.c4)
      have hb2 := hb1.alloc hb1.size (.cells #[.bool nd.leaf, .slice p.a1 nd.ps.length p.c1, .slice p.a2 nd.pv.length p.c2, .slice p.a3 nd.ks.length p.c3, .slice p.a4 nd.bf.length p.c4] 50)
      have hb12 := below_box w1 (.cells #[.bool nd.leaf, .slice p.a1 nd.ps.length p.c1, .slice p.a2 nd.pv.length p.c2, .slice p.a3 nd.ks.length p.c3, .slice p.a4 nd.bf.length p.c4] 50)
      dsimp only [nv] at *
      cases G
      · obtain rfl := HZ.out (hsn (.inl rfl))
        obtain rfl := HVS.out
        obtain rfl := HVB.out
        go_wp2_with fail
        refine (HR.out _ hb2).mono ?_
        clear HR
        rintro x w2 ⟨rfl, hb3⟩
        have hb4 := hb2.trans (hb3.mono hb2.size)
        go_wp2_with fail
        exact bodyPost_ret (v := .tuple #[.string ⟨#[]⟩, .bool false]) (by simp [results, Try.results9, go_sem]) rfl ⟨rfl, hb4⟩
      · rw [hse rfl rfl] at hwn hdn
        clear hse hsn HZ
        go_wp2_with fail
        refine (HR.out _ hb2).mono ?_
        clear HR
        rintro x w2 ⟨rfl, hb3⟩
        have hb4 := hb2.trans (hb3.mono hb2.size)
        have hb5 := hb12.trans (hb3.mono hb12.size)
        have N2 := N1.later hb3
        obtain ⟨m0, m1, m2, m3, m4⟩ := N2.cells
        clear N1 N2 hb2 hb12 hb1
        go_wp2_with fail
        refine (HS2.out w2 hb5).mono ?_
        clear HS2
        rintro x w3 ⟨rfl, hb6⟩
        have hb7 := hb4.trans (hb6.mono hb4.size)
        have hpl := step_plain nd k.data.toList
        generalize stepW nd k.data.toList = y at *
        obtain ⟨yk, yv, yb, yd, yy⟩ := y
        have W3 := WBox.new w3 (.int .u8 yk) (.string yv) (.int .u32 yb) (.int .u16 yd) (.string yy)
        have hb8 := hb7.alloc hb7.size (.cells #[.int .u8 yk, .string yv, .int .u32 yb, .int .u16 yd, .string yy] 63)
        obtain ⟨g0, g1, g2, g3, g4⟩ := W3.cells
        clear m0 m1 m2 m3 m4 hb3 hb4 hb5 hb6
        unfold wayV at hwn
        dsimp only at hwn hdn
        by_cases h2 : yk = 2
        · subst h2
          obtain ⟨e1, _, e3⟩ := hdn rfl
          rw [if_pos rfl] at hwn
          have HC := HI.out yb yy
          unfold valS valB at HC
          rw [hwn, ← HVS.out, ← HVB.out] at HC
          go_wp2_with fail
          refine (HC _ hb8 (by omega) (by omega)).mono ?_
          rintro x w4 ⟨rfl, hb9⟩
          have hb10 := hb8.trans (hb9.mono hb8.size)
          go_wp2_with fail
          exact bodyPost_ret (v := .tuple #[.string VS, .bool VB]) (by simp [results, Try.results9, go_sem]) rfl ⟨rfl, hb10⟩
        · have h2' : (yk == 2) = false := by simpa using h2
          rw [if_neg h2] at hwn
          have hVB : (yk == 1) = VB := by
            rw [HVB.out, ← hwn]
            by_cases h1 : yk = 1
            · subst h1; rfl
            · rw [if_neg h1]; simpa using h1
          have hVS : yv = VS := by
            rw [HVS.out, ← hwn]
            by_cases h1 : yk = 1
            · rw [if_pos h1]; rfl
            · rw [if_neg h1]; exact hpl h1
          subst hVS
          go_upto_region 7 with fail
          go_quiet (fail)
          go_wp2_with fail
          exact bodyPost_ret (v := .tuple #[.string yv, .bool VB]) (by simp [results, Try.results9, go_sem]) rfl ⟨rfl, below_drew hb8 _⟩
end Go.Proofs.Ytegmpfmhlpdmhaa.Key
