/-
  Contracts of crc.Sum, marcotref01.Sum and awake; bytes in memory ('Bytes'), rows of bytes of the call's own ('Own'), and what an append to such a row leaves.
-/
import Derived.Test.YtcbigopfmiiadaaCStep
import Derived.Lib.SlBytesConst
import Derived.Laws.AppendOwnNone
import Derived.Laws.BytesArg
namespace Go.Proofs.Ytcbigopfmiiadaa.Crc
open Go.RowKit
theorem sum_any (a : Option Addr) (n cap : Nat) (zs : List Int) (w : World) (hn : zs.length = n) (hb : Bytes w a zs) (hz : Byt zs) (hm : n ≤ 100000) :
    Calls Try.prog 30 #[.slice a n cap] w fun e w' => e = .returned (.int .u32 ((more 0 zs : Nat) : Int)) ∧ w' = w := by
  have H := hid (more_any 0 a n cap zs w (by omega) hn hb hz hm)
  go_enter Try.func30, Try.ntmps30
  go_wp2_with (go_at_call 41; refine H.out.mono ?_; rintro e w' ⟨rfl, rfl⟩)
  go_ret
  exact ⟨rfl, rfl⟩
theorem ref_sum_any (a : Option Addr) (n cap : Nat) (zs : List Int) (w : World) (hn : zs.length = n) (hb : Bytes w a zs) (hz : Byt zs) (hm : n ≤ 100000) :
    Calls Try.prog 23 #[.slice a n cap] w fun e w' => e = .returned (.int .u32 ((more 0 zs : Nat) : Int)) ∧ w' = w := by
  have H := hid (ref_more_any 0 a n cap zs w (by omega) hn hb hz hm)
  go_enter Try.func23, Try.ntmps23
  go_wp2_with (go_at_call 36; refine H.out.mono ?_; rintro e w' ⟨rfl, rfl⟩)
  go_ret
  exact ⟨rfl, rfl⟩
theorem sum19 : more 0 [49, 50, 51, 52, 53, 54, 55, 56, 57] = 3808858755 := by decide +kernel
theorem sum0 : more 0 [] = 0 := by decide +kernel
theorem digits_lie (w : World) (C : Array Value) (fr : Nat × Nat) (zs : List Int) (h : C = (zs.map (Value.int .u8)).toArray) : Bytes (w.alloc (.cells C 5 fr)) (some ⟨w.heap.size, 0, none⟩) zs := by
  refine .inr ⟨w.heap.size, 0, rfl, fun i hi => ?_⟩
  rw [Nat.zero_add, World.cell?_alloc_mark, h]
  simp [List.getD, List.getElem?_eq_getElem hi]
theorem info5 : (Try.prog.info? 5).map (fun i => (i.zero, i.size, i.bytes)) = some (some (.int .u8 0), 1, 1) := by kernel_rfl

/-- a row of bytes of the call's own -/
def Own (w : World) (base : Nat) (v : Value) (zs : List Int) : Prop := w.ownsRow base 5 1 v zs.length (zs.map (Value.int .u8))

theorem add_plain (b off j : Nat) : (⟨b, off, none⟩ : Addr).add j = ⟨b, off + j, none⟩ := by unfold Addr.add; split <;> simp_all
theorem Bytes.news {w : World} {ad : Addr} {zs : List Int} (h : Bytes w (some ad) zs) : ∀ j u, (zs.map (Value.int .u8))[j]? = some u → w.cell? (ad.add j) = some u := by
  intro j u hu
  rcases h with rfl | ⟨b, off, he, hc⟩
  · simp at hu
  · have hj : j < zs.length := by
      rcases Nat.lt_or_ge j zs.length with h | h
      · exact h
      · simp [List.getElem?_eq_none h] at hu
    simp only [Option.some.injEq] at he
    subst he
    have := hc j hj
    simp [List.getElem?_eq_getElem hj] at hu
    subst hu
    rw [add_plain]
    simpa [List.getD, List.getElem?_eq_getElem hj] using this

/-- 'out = append(out, src...)', out of the call's own, src whatever bytes -/
theorem app {w : World} {ops : Array Oper} {rest : List Oper} {o : Oper} {a : Act} {Q : Exit → Act → World → Prop} (hgd : o.guard = none) (s x : Operand)
    (ho : o.op = .call { callee := .builtin .append, args := #[s, x], argTypes := #[23, 23] })
    (base : Nat) (v : Value) (zs : List Int) (hs : a.eval s = v) (hown : Own w base v zs)
    (ad : Option Addr) (m c : Nat) (ys : List Int) (hx : a.eval x = .slice ad m c) (hnil : ad = none → m = 0 ∧ c = 0) (hl : ys.length = m) (hb : Bytes w ad ys) (hsz : zs.length + m ≤ 1000000) (hbase : base ≤ w.heap.size)
    (h : ∀ v' w', Own w' base v' (zs ++ ys) → w.grownBy w' v.ownBlock → wpList Try.prog ops Q rest (a.put o.dst v') w') : wpList Try.prog ops Q (o :: rest) a w := by
  obtain ⟨i0, hi, hz0, hz1, hz2⟩ := info_parts info5
  cases ad with
  | none =>
    obtain ⟨rfl, rfl⟩ := hnil rfl
    have hy : ys = [] := List.eq_nil_of_length_eq_zero hl
    subst hy
    refine wpList_append_own_none hgd s x 23 ho base 5 i0 1 Try.underlying23 hi v _ _ hs hown hx ?_
    exact h v w (by simpa using hown) ⟨rfl, rfl, rfl, Nat.le_refl _, fun _ _ _ => rfl⟩
  | some ad =>
    refine wpList_append_own _ hgd s x 23 ho base 5 i0 (.int .u8 0) 1 1 Try.underlying23 hi hz0 hz1 hz2 rfl (by decide) v _ _ hs hown ad m c (ys.map (Value.int .u8)) hx (by simp [hl]) hb.news (by intro u hu; simp at hu; obtain ⟨_, _, rfl⟩ := hu; rfl)
      (by unfold maxLen; omega) (by omega) hbase ?_
    intro v' w' h1 h2 _
    refine h v' w' ?_ h2
    unfold Own
    rw [List.map_append, List.length_append, hl]
    exact h1

theorem Own.form {w : World} {base : Nat} {v : Value} {zs : List Int} (h : Own w base v zs) : ∃ a cap, v = .slice a zs.length cap ∧ Bytes w a zs ∧ (a = none → zs.length = 0 ∧ cap = 0) ∧ (∀ k, v.ownBlock = some k → base ≤ k ∧ k < w.heap.size) ∧ zs.length ≤ cap := by
  have hlt := World.ownsRow.lt h
  have hc := fun g hg => World.ownsRow.cells h (g := g) hg
  rcases h.2 with ⟨rfl, h0⟩ | ⟨g, cap, cur, rfl, _, _, hcap, _, _, _⟩
  · have hy : zs = [] := List.eq_nil_of_length_eq_zero h0
    subst hy
    exact ⟨none, 0, rfl, .inl rfl, fun _ => ⟨rfl, rfl⟩, hlt, Nat.le_refl _⟩
  · refine ⟨_, cap, rfl, .inr ⟨g, 0, rfl, fun i hi => ?_⟩, (fun h => by cases h), hlt, hcap⟩
    have := hc g rfl i (.int .u8 (zs.getD i 0)) (by simp [List.getD, List.getElem?_eq_getElem hi])
    rw [add_plain] at this
    exact this

theorem Bytes.below {w w' : World} {B : Nat} {a : Option Addr} {zs : List Int} (h : Bytes w a zs) (hlt : ∀ ad, a = some ad → zs ≠ [] → ad.block < B) (hb : Below B w w') : Bytes w' a zs := by
  rcases h with rfl | ⟨b, off, rfl, hc⟩
  · exact .inl rfl
  · by_cases hz : zs = []
    · exact .inl hz
    · have := hlt _ rfl hz
      exact .inr ⟨b, off, rfl, fun i hi => (hb.cell (p := ⟨b, off + i, none⟩) this).trans (hc i hi)⟩
/-- what bytes lie in memory lie below its end -/
theorem Bytes.lt {w : World} {a : Option Addr} {zs : List Int} (h : Bytes w a zs) : ∀ ad, a = some ad → zs ≠ [] → ad.block < w.heap.size := by
  rintro ad rfl hz
  rcases h with rfl | ⟨b, off, he, hc⟩
  · exact absurd rfl hz
  · simp only [Option.some.injEq] at he
    subst he
    have h0 := hc 0 (List.length_pos_iff.2 hz)
    rcases Nat.lt_or_ge b w.heap.size with h | h
    · exact h
    · simp [World.cell?, Array.getElem?_eq_none h] at h0
theorem Bytes.later {w w' : World} {a : Option Addr} {zs : List Int} (h : Bytes w a zs) (hb : Below w.heap.size w w') : Bytes w' a zs := h.below h.lt hb
theorem Bytes.grown {w w' : World} {row : Option Nat} {a : Option Addr} {zs : List Int} (h : Bytes w a zs) (hg : w.grownBy w' row) (hne : ∀ ad, a = some ad → zs ≠ [] → some ad.block ≠ row) : Bytes w' a zs := by
  have hlt := h.lt
  rcases h with rfl | ⟨b, off, rfl, hc⟩
  · exact .inl rfl
  · by_cases hz : zs = []
    · exact .inl hz
    · exact .inr ⟨b, off, rfl, fun i hi => (World.cell?_of_block (w := w) (hg.block b (hlt _ rfl hz) (hne _ rfl hz))).trans (hc i hi)⟩

/-- a slice of bytes that came in, as the shell's 'IsRow' tells it -/
theorem opened {w : World} {a : Option Addr} {len cap : Nat} {z : List Int}
    (h : (a = none ∧ len = 0 ∧ cap = 0 ∧ z = []) ∨
      ∃ x, a = some x ∧ len ≤ cap ∧ cap ≤ maxLen ∧ z.length = cap ∧ (∀ i, i < z.length → w.cell? (x.add i) = some (.int .u8 (z.getD i 0))) ∧ ∀ n ∈ z, (Lit.int .u8 n).wf = true) :
    ∃ zs : List Int, zs.length = len ∧ Bytes w a zs ∧ Byt zs ∧ (a = none → len = 0 ∧ cap = 0) ∧ len ≤ maxLen ∧ len ≤ cap := by
  rcases h with ⟨rfl, rfl, rfl, rfl⟩ | ⟨x, rfl, hl, hm, hz, hcell, hwz⟩
  · exact ⟨[], rfl, .inl rfl, (fun z hz => by simp at hz), (fun _ => ⟨rfl, rfl⟩), Nat.zero_le _, Nat.le_refl _⟩
  · refine ⟨z.take len, by simp; omega, ?_, fun n hn => ?_, (fun h => by cases h), Nat.le_trans hl hm, hl⟩
    · by_cases h0 : len = 0
      · exact .inl (by simp [h0])
      · obtain ⟨b, off, spot⟩ := x
        have hc := hcell 0 (by omega)
        have hspot : spot = none := by simpa [Addr.add] using World.cell?_spot hc
        subst hspot
        refine .inr ⟨b, off, rfl, fun i hi => ?_⟩
        have hi' : i < len := by simp at hi; omega
        have := hcell i (by omega)
        rw [add_plain] at this
        rw [this]
        simp [List.getD, hi']
    · have := hwz n (List.mem_of_mem_take hn)
      simpa [Lit.wf, IntKind.min, IntKind.max, IntKind.signed, IntKind.bits] using this

theorem Own.made (w : World) : Own (w.alloc (.cells #[] 5)) w.heap.size (.slice (some ⟨w.heap.size, 0, none⟩) 0 0) [] :=
  World.ownsRow_made (size := 1) w #[] 0 (Nat.le_refl _) (Nat.zero_le _) (by simp)
theorem Own.below {B base : Nat} {w wa w1 : World} {v : Value} {zs : List Int} (ho : Own wa base v zs) (h : Below B w wa) (hB : B ≤ base) (hs : B ≤ wa.heap.size) (hg : wa.grownBy w1 v.ownBlock) : Below B w w1 :=
  h.grown hg hs fun k hk => Nat.le_trans hB (World.ownsRow.lt ho k hk).1

/-- string(b) -/
theorem conv_str {w : World} {a : Option Addr} {zs : List Int} (h : Bytes w a zs) (n c : Nat) (hn : zs.length = n) (hnil : a = none → n = 0 ∧ c = 0) :
    (convert 23 9 (.slice a n c)).run Try.prog w = .ok (.string (strOfNums zs)) w := by
  subst hn
  cases a with
  | none =>
    have hy : zs = [] := List.eq_nil_of_length_eq_zero (hnil rfl).1
    subst hy
    exact run_convert_bytes_nil w 23 5 Try.underlying23 Try.underlying5 _ _ 9 Try.underlying9
  | some ad =>
    have hl : (loadCells ad zs.length).run Try.prog w = .ok (zs.map (Value.int .u8)).toArray w := by
      have := run_loadCells_list (P := Try.prog) w ad (zs.map (Value.int .u8)) h.news
      simpa using this
    rw [run_convert_bytes_string w 23 9 5 _ _ c Try.underlying23 Try.underlying5 Try.underlying9, run_bytesToString w _ _ c zs hl, foldl_push_bytes]
    simp [strOfNums, ByteArray.empty, ByteArray.emptyWithCapacity]
    rfl

end Go.Proofs.Ytcbigopfmiiadaa.Crc
