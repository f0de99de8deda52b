/-
  Contracts of Targets, the program's and the document's.
-/
import Derived.Test.YtegmpfmhlpdmhaaGreatStep
import Derived.Test.YtegmpfmhlpdmhaaGreatAlike
import Derived.Test.YtegmpfmhlpdmhaaGreatBlocks
namespace Go.Proofs.YtegmpfmhlpdmhaaGreat.Key
open Go.RowKit
open Go.Op (bytesLess)

set_option maxRecDepth 100000 in
theorem OwnU.nums {w : World} {base : Nat} {v : Value} {l : List Int} (h : OwnU w base v l) : ∃ a cap, v = .slice a l.length cap ∧ Nums w a l ∧ (a = none → l.length = 0 ∧ cap = 0) := by
  have hc := fun g hg => World.ownsRow.cells h (g := g) hg
  rcases h.2 with ⟨rfl, h0⟩ | ⟨g, cap, cur, rfl, _, _, _, _, _, _⟩
  · have hy : l = [] := List.eq_nil_of_length_eq_zero h0
    subst hy
    exact ⟨none, 0, rfl, .inl rfl, fun _ => ⟨rfl, rfl⟩⟩
  · refine ⟨_, cap, rfl, .inr ⟨g, 0, rfl, fun i hi => ⟨?_⟩⟩, (fun h => by cases h)⟩
    have := hc g rfl i (.int .u32 l[i]) (by simp [List.getElem?_eq_getElem hi])
    rw [add_plain] at this
    exact this
set_option maxRecDepth 100000 in
theorem Nums.news {w : World} {ad : Addr} {l : List Int} (h : Nums w (some ad) l) : ∀ j u, (l.map (Value.int .u32))[j]? = some u → w.cell? (ad.add j) = some u := by
  intro j u hu
  have hj : j < l.length := by
    have := (List.getElem?_eq_some_iff.1 hu).1
    simpa using this
  rcases h with rfl | ⟨b, off, he, hc⟩
  · simp at hj
  · simp only [Option.some.injEq] at he
    subst he
    rw [add_plain, (hc j hj).c0]
    simpa [List.getElem?_eq_getElem hj] using hu
set_option maxRecDepth 100000 in
/-- 'out = append(out, l...)', out of the call's own -/
theorem appUs {w0 w : World} {ops : Array Oper} {rest : List Oper} {o : Oper} {a : Act} {Q : Exit → Act → World → Prop} (hgd : o.guard = none) (s x : Operand)
    (ho : o.op = .call { callee := .builtin .append, args := #[s, x], argTypes := #[63, 63] })
    (B : Nat) (v : Value) (l : List Int) (hs : a.eval s = v) (hown : OwnU w B v l) (ad : Option Addr) (m c : Nat) (ys : List Int) (hx : a.eval x = .slice ad m c) (hnil : ad = none → m = 0 ∧ c = 0) (hl : ys.length = m) (hn : Nums w ad ys) (hsz : l.length + m ≤ 100000) (hB : B ≤ w.heap.size) (hbel : Below B w0 w)
    (h : ∀ v' w', OwnU w' B v' (l ++ ys) → Below B w0 w' → wpList Tryz.prog ops Q rest (a.put o.dst v') w') : wpList Tryz.prog ops Q (o :: rest) a w := by
  obtain ⟨i0, hi, hz0, hz1, hz2⟩ := info_parts info23
  cases ad with
  | none =>
    obtain ⟨rfl, rfl⟩ := hnil rfl
    have hy : ys = [] := List.eq_nil_of_length_eq_zero hl
    subst hy
    refine wpList_append_own_none hgd s x 63 ho B 23 i0 1 Tryz.underlying63 hi v _ _ hs hown hx ?_
    exact h v w (by simpa using hown) hbel
  | some ad =>
    refine wpList_append_own _ hgd s x 63 ho B 23 i0 (.int .u32 0) 1 4 Tryz.underlying63 hi hz0 hz1 hz2 rfl (by decide) v _ _ hs hown ad m c (ys.map (Value.int .u32)) hx (by simp [hl]) hn.news (by intro u hu; simp at hu; obtain ⟨_, _, rfl⟩ := hu; rfl)
      (by unfold maxLen; omega) (by omega) hB ?_
    intro v' w' h1 h2 _
    refine h v' w' ?_ (hbel.grown h2 hB fun j hj => (World.ownsRow.lt hown j hj).1)
    unfold OwnU
    rw [List.map_append, List.length_append, hl]
    exact h1
/-- the blocks to which a node leads -/
def targetsL (n : Nd) : List Int := n.ks.map (·.blk) ++ blocksL n.bf
set_option maxRecDepth 100000 in
theorem blocks_len (l : List M) : (blocksL l).length ≤ l.length := by unfold blocksL; rw [List.length_map]; exact List.length_filter_le _ _

set_option maxRecDepth 100000 in
theorem OwnU.made (w : World) : OwnU (w.alloc (.cells #[] 23)) w.heap.size (.slice (some ⟨w.heap.size, 0, none⟩) 0 0) [] :=
  World.ownsRow_made (size := 1) w #[] 0 (Nat.le_refl _) (Nat.zero_le _) (by simp)
set_option maxRecDepth 100000 in
theorem blocksL_succ {l : List M} {j : Nat} (h : j < l.length) : blocksL (l.take (j + 1)) = blocksL (l.take j) ++ if l[j].kind = 3 then [l[j].blk] else [] := by
  unfold blocksL
  rw [List.take_succ_eq_append_getElem h, List.filter_append, List.map_append]
  congr 1
  by_cases h3 : l[j].kind = 3
  · simp [h3]
  · simp [h3]

set_option maxRecDepth 100000 in
set_option maxHeartbeats 2000000 in
theorem targets18 (n : Nd) (p : Pl) (w : World) (hf : Few n) (h : Lies w n p) :
    Calls Tryz.prog 20 #[nv n p] w fun x w' => ∃ v, x = .returned v ∧ OwnU w' w.heap.size v (targetsL n) ∧ Below w.heap.size w w' := by
  have hb0 : Below w.heap.size w (w.alloc (.cells #[.bool n.leaf, .slice p.a1 n.ps.length p.c1, .slice p.a2 n.pv.length p.c2, .slice p.a3 n.ks.length p.c3, .slice p.a4 n.bf.length p.c4] 46)) := below_box w _
  have N0 := NBox.new w (.bool n.leaf) (.slice p.a1 n.ps.length p.c1) (.slice p.a2 n.pv.length p.c2) (.slice p.a3 n.ks.length p.c3) (.slice p.a4 n.bf.length p.c4)
  have HT := hid (show targetsL n = n.ks.map (·.blk) ++ blocksL n.bf from rfl)
  obtain ⟨l1, l2, l3, l4⟩ := hf
  have q3 := hid h.h3
  have q4 := hid h.h4
  clear h
  generalize targetsL n = TL at *
  obtain ⟨lf, ps, pv, ks, bf⟩ := n
  obtain ⟨a1, c1, a2, c2, a3, c3, a4, c4⟩ := p
  dsimp only [nv] at *
  generalize ps.length = n1 at *
  generalize pv.length = n2 at *
  generalize hn4 : bf.length = n4 at *
  generalize hn3 : ks.length = n3 at *
  have HN3 := hid hn3
  have HN4 := hid hn4
  clear hn3 hn4
  have O0 := OwnU.made (w.alloc (.cells #[.bool lf, .slice a1 n1 c1, .slice a2 n2 c2, .slice a3 n3 c3, .slice a4 n4 c4] 46))
  have N1 := N0.alloc (.cells #[] 23)
  have hb1 : Below w.heap.size w ((w.alloc (.cells #[.bool lf, .slice a1 n1 c1, .slice a2 n2 c2, .slice a3 n3 c3, .slice a4 n4 c4] 46)).alloc (.cells #[] 23)) := hb0.alloc hb0.size _
  simp only [World.size_alloc] at O0
  clear N0 hb0
  obtain ⟨m0, m1, m2, m3, m4⟩ := N1.cells
  go_enter Tryz.func20, Tryz.ntmps20
  go_wp2_with fail
  generalize (w.alloc (.cells #[.bool lf, .slice a1 n1 c1, .slice a2 n2 c2, .slice a3 n3 c3, .slice a4 n4 c4] 46)).alloc (.cells #[] 23) = w0 at *
  generalize hk0 : w.heap.size = k0 at *
  go_loopw [3, 10] (fun v i wr => ∃ j : Nat, j ≤ n3 ∧ i = .int .i64 j ∧ OwnU wr (k0 + 1) v ((ks.take j).map (·.blk)) ∧ Below (k0 + 1) w0 wr) (fun _ i _ => n3 - (intOf i).toNat)
  case atStart => exact ⟨0, Nat.zero_le _, rfl, by simpa using O0, Below.refl _ _⟩
  case round =>
    obtain ⟨j, hj, rfl, hown, hb⟩ := hrel
    have hs0 := hb1.size
    have hlw := N1.lt
    have hbw : Below k0 w wr := hb1.trans (hb.mono (by omega))
    have N2 := N1.below hb (by omega)
    have hlw2 := N2.lt
    clear m0 m1 m2 m3 m4
    obtain ⟨m0, m1, m2, m3, m4⟩ := N2.cells
    have hlen : ((ks.take j).map (·.blk)).length ≤ 1000 := by rw [List.length_map, List.length_take]; omega
    by_cases hlt : j < n3
    · have hlt' : j < ks.length := by rw [HN3.out]; exact hlt
      obtain ⟨b, off, rfl, h6⟩ := (q3.out.later (by rw [hk0]; exact hbw)).at hlt'
      have HL := hid (List.take_succ_eq_append_getElem hlt')
      obtain ⟨e, HS⟩ : ∃ m, Hid (ks[j] = m) := ⟨_, hid rfl⟩
      rw [HS.out] at h6 HL
      obtain ⟨bk, dp, st, ad⟩ := e
      obtain ⟨d0, d1, d2, d3⟩ := h6
      dsimp only at d0 d1 d2 d3
      go_wp2_with (first | (at_builtin; refine appU (w0 := w0) rfl _ _ rfl (k0 + 1) _ _ rfl hown bk wr.heap.size rfl rfl (by omega) (by omega) hb ?_; intro v' w2 ho2 hb2 _; clear hown hb d0 d1 d2 d3) | fail)
      go_roundw
      case rel => exact ⟨j + 1, by omega, by go_num, by rw [HL.out, List.map_append]; exact ho2, hb2⟩
      case measure => simp [intOf]; omega
    · obtain rfl : j = n3 := by omega
      rw [← HN3.out, List.take_length] at hown
      have hlen3 : (ks.map (·.blk)).length ≤ 1000 := by rw [List.length_map, HN3.out]; exact l3
      generalize ks.map (·.blk) = KB at *
      go_wp2_with fail
      go_loopw [3, 26] (fun v i wr' => ∃ j : Nat, j ≤ n4 ∧ i = .int .i64 j ∧ OwnU wr' (k0 + 1) v (KB ++ blocksL (bf.take j)) ∧ Below (k0 + 1) w0 wr') (fun _ i _ => n4 - (intOf i).toNat)
      case atStart => exact ⟨0, Nat.zero_le _, rfl, by simpa [blocksL] using hown, hb⟩
      case round =>
        obtain ⟨j, hj, rfl, hown4, hb4⟩ := hrel
        have hbw4 := hb1.trans (hb4.mono (by omega))
        have N3 := N1.below hb4 (by omega)
        have hlw3 := N3.lt
        clear m0 m1 m2 m3 m4
        obtain ⟨m0, m1, m2, m3, m4⟩ := N3.cells
        have hlen4 : (KB ++ blocksL (bf.take j)).length ≤ 2000 := by
          have := blocks_len (bf.take j)
          rw [List.length_append]
          rw [List.length_take] at this
          omega
        by_cases hlt : j < n4
        · have hlt' : j < bf.length := by rw [HN4.out]; exact hlt
          obtain ⟨b, off, rfl, h6⟩ := (q4.out.later (by rw [hk0]; exact hbw4)).at hlt'
          have HL := hid (blocksL_succ hlt')
          obtain ⟨m, HS⟩ : ∃ m, Hid (bf[j] = m) := ⟨_, hid rfl⟩
          rw [HS.out] at h6 HL
          obtain ⟨kd, ky, vl, bk, dp, ad⟩ := m
          obtain ⟨d0, d1, d2, d3, d4, d5⟩ := h6
          dsimp only at d0 d1 d2 d3 d4 d5
          by_cases h3 : kd = 3
          · have HF : Hid (blocksL (bf.take (j + 1)) = blocksL (bf.take j) ++ [bk]) := hid (by rw [HL.out]; simp [h3])
            subst h3
            clear HL
            go_wp2_with (first | (at_builtin; refine appU (w0 := w0) rfl _ _ rfl (k0 + 1) _ _ rfl hown4 bk wr.heap.size rfl rfl (by omega) (by omega) hb4 ?_; intro v' w2 ho2 hb2 _; clear hown4 hb4 d0 d1 d2 d3 d4 d5) | fail)
            go_roundw
            case rel => exact ⟨j + 1, by omega, by go_num, by rw [HF.out, ← List.append_assoc]; exact ho2, hb2⟩
            case measure => simp [intOf]; omega
          · have HF : Hid (blocksL (bf.take (j + 1)) = blocksL (bf.take j)) := hid (by rw [HL.out]; simp [h3])
            have h3' : (kd == 3) = false := by simpa using h3
            clear HL h3
            go_wp2_with fail
            go_roundw
            case rel => exact ⟨j + 1, by omega, by go_num, by rw [HF.out]; exact hown4, hb4⟩
            case measure => simp [intOf]; omega
        · obtain rfl : j = n4 := by omega
          go_wp2_with fail
          go_ret
          rw [← HN4.out, List.take_length, ← HT.out] at hown4
          refine ⟨_, rfl, ⟨hown4.1, ?_⟩, by rw [hk0]; exact hbw4⟩
          rcases hown4.2 with h | ⟨g, cap, cur, h1, h2, h3⟩
          · exact .inl h
          · exact .inr ⟨g, cap, cur, h1, by omega, h3⟩
end Go.Proofs.YtegmpfmhlpdmhaaGreat.Key
