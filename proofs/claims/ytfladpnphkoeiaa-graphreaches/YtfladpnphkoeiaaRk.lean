/-
  What is reached, plain: the least set with the roots and the targets of what it has; rising rows that hold just that. No program is named here.
  Contract of placesOf.
  Rows of nothings (struct{}): appending, copying, slices.Insert, slices.Clone.
  A map from blocks to nothings in memory: its find, its Put.
  What Reach bears along: a map of blocks, and a row of blocks beside it.
  Contracts of what goes through a map of nothings, and of its All.
  Contract of Reach, the program's.
-/
import Derived.Test.YtfladpnphkoeiaaFind
import Derived.Test.YtfladpnphkoeiaaKeys
import Derived.Test.YtfladpnphkoeiaaGMap
import Derived.Test.YtfladpnphkoeiaaThru
import Derived.Test.YtfladpnphkoeiaaDraw4
import Derived.Maps.AppendAt
import Derived.Test.YtfladpnphkoeiaaCounts
import Derived.Deep.LoopGhost
import Derived.Maps.OwnIn
namespace Go.Proofs.Ytfladpnphkoeiaa.Key
set_option linter.unusedVariables false
set_option linter.unusedSimpArgs false

/-- to which blocks a block leads -/
def succB (l : List It) (b : Int) : List Int := targetsL (foundN l b)
/-- reached from some roots -/
def Rch (l : List It) (roots : List Int) (b : Int) : Prop := ∀ S : Int → Prop, (∀ r ∈ roots, S r) → (∀ x, S x → ∀ t ∈ succB l x, S t) → S b
theorem Rch.root {l : List It} {roots : List Int} {b : Int} (h : b ∈ roots) : Rch l roots b := fun _ h1 _ => h1 b h
theorem Rch.step {l : List It} {roots : List Int} {b t : Int} (h : Rch l roots b) (ht : t ∈ succB l b) : Rch l roots t := fun S h1 h2 => h2 b (h S h1 h2) t ht
theorem Rch.mono {l : List It} {r r' : List Int} (h : ∀ x ∈ r, x ∈ r') {b : Int} (hb : Rch l r b) : Rch l r' b := fun S h1 h2 => hb S (fun x hx => h1 x (h x hx)) h2
theorem Rch.either {l : List It} {r r' : List Int} {b : Int} (h : Rch l (r ++ r') b) : Rch l r b ∨ Rch l r' b :=
  h (fun x => Rch l r x ∨ Rch l r' x) (fun x hx => (List.mem_append.1 hx).imp Rch.root Rch.root) (fun x hx t ht => hx.imp (·.step ht) (·.step ht))
/-- a rising row of just what is reached -/
structure Full (l : List It) (roots ks : List Int) : Prop where
  rise : Rising ks
  mem : ∀ b, b ∈ ks ↔ Rch l roots b
theorem rising_ext : ∀ (a b : List Int), Rising a → Rising b → (∀ x, x ∈ a ↔ x ∈ b) → a = b
  | [], [], _, _, _ => rfl
  | [], y :: b, _, _, h => by have := (h y).2 (by simp); simp at this
  | x :: a, [], _, _, h => by have := (h x).1 (by simp); simp at this
  | x :: a, y :: b, ha, hb, h => by
    obtain ⟨ha1, ha2⟩ := List.pairwise_cons.1 ha
    obtain ⟨hb1, hb2⟩ := List.pairwise_cons.1 hb
    have e : x = y := by
      rcases List.mem_cons.1 ((h x).1 (by simp)) with e | hx
      · exact e
      · rcases List.mem_cons.1 ((h y).2 (by simp)) with e | hy
        · exact e.symm
        · have := hb1 x hx
          have := ha1 y hy
          omega
    subst e
    rw [rising_ext a b ha2 hb2 fun z => ?_]
    constructor
    · intro hz
      rcases List.mem_cons.1 ((h z).1 (by simp [hz])) with e | hz'
      · have := ha1 z hz; omega
      · exact hz'
    · intro hz
      rcases List.mem_cons.1 ((h z).2 (by simp [hz])) with e | hz'
      · have := hb1 z hz; omega
      · exact hz'
theorem Full.one {l : List It} {roots a b : List Int} (h : Full l roots a) (h' : Full l roots b) : a = b :=
  rising_ext a b h.rise h'.rise fun x => (h.mem x).trans (h'.mem x).symm
theorem rising_len : ∀ (ks U : List Int), Rising ks → (∀ x ∈ ks, x ∈ U) → ks.length ≤ U.length
  | [], U, _, _ => by simp
  | k :: ks, U, hr, h => by
    obtain ⟨h1, h2⟩ := List.pairwise_cons.1 hr
    have hk := h k (by simp)
    have := rising_len ks (U.erase k) h2 (fun x hx => by
      have hne : x ≠ k := by have := h1 x hx; omega
      exact (List.mem_erase_of_ne hne).2 (h x (by simp [hx])))
    rw [List.length_erase_of_mem hk] at this
    have : 0 < U.length := List.length_pos_of_mem hk
    simp
    omega
theorem there_iff : ∀ (ks : List Int) (x : Int), Rising ks → (there ks x = true ↔ x ∈ ks)
  | [], x, _ => by simp [there]
  | k :: ks, x, hr => by
    obtain ⟨h1, h2⟩ := List.pairwise_cons.1 hr
    rw [there_cons]
    by_cases hk : k < x
    · rw [if_pos hk, there_iff ks x h2]
      rw [List.mem_cons]
      constructor
      · exact .inr
      · rintro (e | h)
        · omega
        · exact h
    · rw [if_neg hk]
      simp
      constructor
      · exact fun e => .inl e.symm
      · rintro (e | h)
        · exact e.symm
        · have := h1 x h; omega
theorem mem_insertAt {α : Type} {ss : List α} {i : Nat} {x y : α} : y ∈ insertAt ss i x ↔ y = x ∨ y ∈ ss := by
  unfold insertAt
  rw [List.mem_append, List.mem_cons]
  constructor
  · rintro (h | h | h)
    · exact .inr (List.mem_of_mem_take h)
    · exact .inl h
    · exact .inr (List.mem_of_mem_drop h)
  · rintro (h | h)
    · exact .inr (.inl h)
    · have : y ∈ ss.take i ++ ss.drop i := by rw [List.take_append_drop]; exact h
      exact (List.mem_append.1 this).imp id .inr
theorem mem_putK {ks : List Int} (hr : Rising ks) {x y : Int} : y ∈ putK ks x ↔ y = x ∨ y ∈ ks := by
  unfold putK
  split
  · rename_i h
    constructor
    · exact .inr
    · rintro (rfl | h')
      · exact (there_iff ks y hr).1 h
      · exact h'
  · exact mem_insertAt
theorem putK_new {ks : List Int} {x : Int} (h : there ks x = false) : (putK ks x).length = ks.length + 1 := by
  unfold putK
  rw [if_neg (by rw [h]; simp), insertAt_length ks _ x (pos_le ks x)]
theorem putK_old {ks : List Int} {x : Int} (h : there ks x = true) : putK ks x = ks := by
  unfold putK
  rw [if_pos h]
theorem len_putK (ks : List Int) (x : Int) : ks.length ≤ (putK ks x).length := by
  cases h : there ks x
  · rw [putK_new h]; omega
  · rw [putK_old h]; exact Nat.le_refl _
/-- all blocks that are spoken of -/
def univ (l : List It) (roots : List Int) : List Int := roots ++ l.flatMap fun x => targetsL x.nd
theorem succ_univ {l : List It} {roots : List Int} {b t : Int} (h : t ∈ succB l b) : t ∈ univ l roots := by
  unfold succB foundN at h
  cases hf : findI l b with
  | none => rw [hf] at h; simp [zeroN, targetsL, blocksL] at h
  | some x =>
    rw [hf] at h
    exact List.mem_append_right _ (List.mem_flatMap.2 ⟨x, List.mem_of_find?_eq_some hf, h⟩)
theorem Rch.univ {l : List It} {roots : List Int} {b : Int} (h : Rch l roots b) : b ∈ univ l roots :=
  h (fun x => x ∈ Key.univ l roots) (fun r hr => List.mem_append_left _ hr) (fun x _ t ht => succ_univ ht)

/-- the program's way: what is reached, what is left -/
structure Goes (l : List It) (roots ks left : List Int) : Prop where
  rise : Rising ks
  inK : ∀ b ∈ ks, Rch l roots b
  inL : ∀ b ∈ left, Rch l roots b
  rts : ∀ b ∈ roots, b ∈ ks ∨ b ∈ left
  on : ∀ b ∈ ks, ∀ t ∈ succB l b, t ∈ ks ∨ t ∈ left
theorem Goes.start (l : List It) (roots : List Int) : Goes l roots [] roots := ⟨List.Pairwise.nil, by simp, fun _ h => Rch.root h, fun _ h => .inr h, by simp⟩
theorem Goes.old {l : List It} {roots ks left : List Int} {b : Int} (h : Goes l roots ks (left ++ [b])) (hb : there ks b = true) : Goes l roots ks left := by
  have hm := (there_iff ks b h.rise).1 hb
  have hl : ∀ x, x ∈ left ++ [b] → x ∈ ks ∨ x ∈ left := fun x hx => by
    rcases List.mem_append.1 hx with hx | hx
    · exact .inr hx
    · rw [List.mem_singleton.1 hx]; exact .inl hm
  exact ⟨h.rise, h.inK, fun x hx => h.inL x (by simp [hx]), fun x hx => (h.rts x hx).elim .inl (hl x), fun x hx t ht => (h.on x hx t ht).elim .inl (hl t)⟩
theorem Goes.new {l : List It} {roots ks left : List Int} {b : Int} (h : Goes l roots ks (left ++ [b])) : Goes l roots (putK ks b) (left ++ succB l b) := by
  have hb : Rch l roots b := h.inL b (by simp)
  have hp : ∀ y, y ∈ putK ks b ↔ y = b ∨ y ∈ ks := fun y => mem_putK h.rise
  have hl : ∀ x, x ∈ ks ∨ x ∈ left ++ [b] → x ∈ putK ks b ∨ x ∈ left ++ succB l b := fun x hx => by
    rcases hx with hx | hx
    · exact .inl ((hp x).2 (.inr hx))
    · rcases List.mem_append.1 hx with hx | hx
      · exact .inr (by simp [hx])
      · exact .inl ((hp x).2 (.inl (List.mem_singleton.1 hx)))
  refine ⟨rise_put ks b h.rise, fun x hx => ?_, fun x hx => ?_, fun x hx => hl x (h.rts x hx), fun x hx t ht => ?_⟩
  · rcases (hp x).1 hx with rfl | hx
    · exact hb
    · exact h.inK x hx
  · rcases List.mem_append.1 hx with hx | hx
    · exact h.inL x (by simp [hx])
    · exact hb.step hx
  · rcases (hp x).1 hx with rfl | hx
    · exact .inr (by simp [ht])
    · exact hl t (h.on x hx t ht)
theorem Goes.full {l : List It} {roots ks : List Int} (h : Goes l roots ks []) : Full l roots ks :=
  ⟨h.rise, fun b => ⟨h.inK b, fun hb => hb (fun x => x ∈ ks) (fun r hr => (h.rts r hr).elim id (by simp)) (fun x hx t ht => (h.on x hx t ht).elim id (by simp))⟩⟩
theorem Goes.len {l : List It} {roots ks left : List Int} (h : Goes l roots ks left) : ks.length ≤ (univ l roots).length := rising_len ks _ h.rise fun x hx => (h.inK x hx).univ

/-- the document's way: all of these put -/
def putAll (ks ts : List Int) : List Int := ts.foldl putK ks
theorem putAll_nil (ks : List Int) : putAll ks [] = ks := rfl
theorem putAll_snoc (ks ts : List Int) (t : Int) : putAll ks (ts ++ [t]) = putK (putAll ks ts) t := by simp [putAll]
theorem putAll_app (ks ts us : List Int) : putAll ks (ts ++ us) = putAll (putAll ks ts) us := by simp [putAll]
theorem putAll_rise : ∀ (ts ks : List Int), Rising ks → Rising (putAll ks ts)
  | [], _, h => h
  | t :: ts, ks, h => putAll_rise ts _ (rise_put ks t h)
theorem mem_putAll : ∀ (ts ks : List Int), Rising ks → ∀ y, y ∈ putAll ks ts ↔ y ∈ ts ∨ y ∈ ks
  | [], ks, _, y => by simp [putAll]
  | t :: ts, ks, h, y => by
    have := mem_putAll ts (putK ks t) (rise_put ks t h) y
    rw [show putAll ks (t :: ts) = putAll (putK ks t) ts from rfl, this, mem_putK h]
    simp only [List.mem_cons]
    constructor
    · rintro (h | h | h)
      · exact .inl (.inr h)
      · exact .inl (.inl h)
      · exact .inr h
    · rintro ((h | h) | h)
      · exact .inr (.inl h)
      · exact .inl h
      · exact .inr (.inr h)
theorem len_putAll : ∀ (ts ks : List Int), ks.length ≤ (putAll ks ts).length
  | [], ks => Nat.le_refl _
  | t :: ts, ks => Nat.le_trans (len_putK ks t) (len_putAll ts _)
/-- where none is longer it is the same -/
theorem same_putAll : ∀ (ts ks : List Int), (putAll ks ts).length = ks.length → putAll ks ts = ks
  | [], _, _ => rfl
  | t :: ts, ks, h => by
    have h1 := len_putAll ts (putK ks t)
    have h2 : (putAll (putK ks t) ts).length = ks.length := h
    cases ht : there ks t
    · rw [putK_new ht] at h1; omega
    · have e : putK ks t = ks := putK_old ht
      show putAll (putK ks t) ts = ks
      rw [e] at h2 ⊢
      exact same_putAll ts ks h2
/-- one round of the document's way -/
def roundR (l : List It) (ks : List Int) : List Int := putAll ks (ks.flatMap (succB l))
structure GoesR (l : List It) (roots ks : List Int) : Prop where
  rise : Rising ks
  inK : ∀ b ∈ ks, Rch l roots b
  rts : ∀ b ∈ roots, b ∈ ks
theorem GoesR.start (l : List It) (roots : List Int) : GoesR l roots (putAll [] roots) :=
  ⟨putAll_rise roots [] List.Pairwise.nil, fun b hb => by rw [mem_putAll roots [] List.Pairwise.nil] at hb; simp at hb; exact Rch.root hb, fun b hb => by rw [mem_putAll roots [] List.Pairwise.nil]; exact .inl hb⟩
theorem GoesR.round {l : List It} {roots ks : List Int} (h : GoesR l roots ks) : GoesR l roots (roundR l ks) :=
  ⟨putAll_rise _ _ h.rise, fun b hb => by
    unfold roundR at hb
    rw [mem_putAll _ _ h.rise] at hb
    rcases hb with hb | hb
    · obtain ⟨x, hx, hb⟩ := List.mem_flatMap.1 hb
      exact (h.inK x hx).step hb
    · exact h.inK b hb, fun b hb => by
    unfold roundR
    rw [mem_putAll _ _ h.rise]
    exact .inr (h.rts b hb)⟩
theorem GoesR.full {l : List It} {roots ks : List Int} (h : GoesR l roots ks) (he : (roundR l ks).length = ks.length) : Full l roots ks := by
  have e := same_putAll _ _ he
  refine ⟨h.rise, fun b => ⟨h.inK b, fun hb => hb (fun x => x ∈ ks) h.rts fun x hx t ht => ?_⟩⟩
  have : t ∈ roundR l ks := by
    unfold roundR
    rw [mem_putAll _ _ h.rise]
    exact .inl (List.mem_flatMap.2 ⟨x, hx, ht⟩)
  unfold roundR at this
  rw [e] at this
  exact this
theorem GoesR.len {l : List It} {roots ks : List Int} (h : GoesR l roots ks) : ks.length ≤ (univ l roots).length := rising_len ks _ h.rise fun x hx => (h.inK x hx).univ
theorem round_len (l : List It) (ks : List Int) : ks.length ≤ (roundR l ks).length := len_putAll _ _
/-- what is reached from both is reached from one -/
theorem Full.both {l : List It} {a b x y z : List Int} (hx : Full l a x) (hy : Full l b y) (hz : Full l (a ++ b) z) : (∀ t ∈ z, t ∈ x ∨ t ∈ y) ∧ x.length ≤ z.length ∧ y.length ≤ z.length :=
  ⟨fun t ht => ((hz.mem t).1 ht).either.imp (hx.mem t).2 (hy.mem t).2,
    rising_len x z hx.rise fun t ht => (hz.mem t).2 (((hx.mem t).1 ht).mono (by simp; exact fun _ => .inl)),
    rising_len y z hy.rise fun t ht => (hz.mem t).2 (((hy.mem t).1 ht).mono (by simp; exact fun _ => .inr))⟩
end Go.Proofs.Ytfladpnphkoeiaa.Key

namespace Go.Proofs.Ytfladpnphkoeiaa.Key
open Go.RowKit Go.Maps
set_option linter.unusedVariables false
set_option linter.unusedSimpArgs false

/-- at which place the node in a block stands -/
def placeF (l : List It) (b : Int) : Option Int := Option.map Int.ofNat (l.findIdx? fun x => x.blk == b)
theorem placeF_nil (b : Int) : placeF [] b = none := rfl
theorem placeF_snoc (l : List It) (x : It) (b : Int) : placeF (l ++ [x]) b = (placeF l b).or (if x.blk = b then some (l.length : Int) else none) := by
  unfold placeF
  rw [List.findIdx?_append]
  cases h : l.findIdx? (fun x => x.blk == b) with
  | some i => simp
  | none =>
    by_cases e : x.blk = b
    · simp [e, List.findIdx?_cons]
    · simp [e, List.findIdx?_cons, beq_eq_false_iff_ne.2 e]
theorem placeF_some {l : List It} {b p : Int} (h : placeF l b = some p) : ∃ (i : Nat) (hi : i < l.length), p = (i : Int) ∧ findI l b = some l[i] := by
  unfold placeF at h
  cases hf : l.findIdx? (fun x => x.blk == b) with
  | none => rw [hf] at h; cases h
  | some i =>
    rw [hf] at h
    simp only [Option.map_some, Option.some.injEq] at h
    obtain ⟨hi, h1, h2⟩ := List.findIdx?_eq_some_iff_getElem.1 hf
    refine ⟨i, hi, h.symm, ?_⟩
    unfold findI
    rw [List.find?_eq_some_iff_getElem]
    refine ⟨h1, i, hi, rfl, fun j hj => ?_⟩
    simpa using h2 j hj
theorem placeF_none {l : List It} {b : Int} (h : placeF l b = none) : findI l b = none := by
  unfold placeF at h
  simp only [Option.map_eq_none_iff] at h
  unfold findI
  rw [List.find?_eq_none]
  intro x hx
  have := List.findIdx?_eq_none_iff.1 h x hx
  simpa using this
theorem wf_i64 {z : Int} (h : 0 ≤ z ∧ z ≤ 100000) : (Lit.int .i64 z).wf = true := by
  simp only [Lit.wf, Bool.and_eq_true, decide_eq_true_eq]
  have e1 : IntKind.i64.min = -9223372036854775808 := by decide
  have e2 : IntKind.i64.max = 9223372036854775807 := by decide
  omega
set_option maxRecDepth 100000 in
set_option maxHeartbeats 800000 in
theorem places39 (a : Option Addr) (c : Nat) (l : List It) (w : World) (hln : l.length ≤ 1000) (hin : ∀ x ∈ l, x.In) (h : Items w a l) :
    Calls Try.prog 39 #[.slice a l.length c] w fun x w' => x = .returned (.map (some w.heap.size)) ∧ (∃ m, GMap w' 3 .i64 w.heap.size m (placeF l)) ∧ Below w.heap.size w w' := by
  have hmm := @run_makeMap Try.prog
  obtain ⟨n, HN⟩ : ∃ m, Hid (l.length = m) := ⟨_, hid rfl⟩
  rw [HN.out] at hln ⊢
  have M0 := GMap.made w 3 .i64
  have hb0 := below_box w (.map #[] 0)
  have HI := hid h
  clear h
  go_enter Try.func39, Try.ntmps39
  go_wp2_with fail
  generalize w.alloc (.map #[] 0) = w0 at *
  generalize hk0 : w.heap.size = k0 at *
  go_loopw [11] (fun i wr => ∃ j : Nat, j ≤ n ∧ i = .int .i64 j ∧ GMap wr 3 .i64 k0 j (placeF (l.take j)) ∧ Below k0 w wr) (fun i _ => n - (intOf i).toNat)
  case atStart => exact ⟨0, Nat.zero_le _, rfl, M0, hb0⟩
  case round =>
    clear M0 hb0
    obtain ⟨j, hj, rfl, hM, hb⟩ := hrel
    have hbs : k0 ≤ wr.heap.size := by rw [← hk0]; exact hb.size
    by_cases hlt : j < n
    · have hlt' : j < l.length := by rw [HN.out]; exact hlt
      have hxi := hin _ (List.getElem_mem hlt')
      have hnx : placeF (l.take (j + 1)) = fun b => (placeF (l.take j) b).or (if l[j].blk = b then some (j : Int) else none) := by
        funext b
        rw [List.take_succ_eq_append_getElem hlt', placeF_snoc, List.length_take, Nat.min_eq_left (by omega)]
      obtain ⟨b, off, rfl, h6, h7⟩ := (HI.out.later (by rw [hk0]; exact hb)).at hlt'
      obtain ⟨x, HX⟩ : ∃ m, Hid (l[j] = m) := ⟨_, hid rfl⟩
      rw [HX.out] at h6 hxi hnx
      have hwb := hxi.blk
      have X5 := I6.new wr (.int .u32 x.blk) (.bool x.nd.leaf) (.slice x.pl.a1 x.nd.ps.length x.pl.c1) (.slice x.pl.a2 x.nd.pv.length x.pl.c2) (.slice x.pl.a3 x.nd.ks.length x.pl.c3) (.slice x.pl.a4 x.nd.bf.length x.pl.c4)
      have hbx := below_box wr (.cells #[.int .u32 x.blk, .bool x.nd.leaf, .slice x.pl.a1 x.nd.ps.length x.pl.c1, .slice x.pl.a2 x.nd.pv.length x.pl.c2, .slice x.pl.a3 x.nd.ks.length x.pl.c3, .slice x.pl.a4 x.nd.bf.length x.pl.c4] 47)
      have hM5 := hM.later hbx
      have hb5 : Below k0 w _ := hb.trans (hbx.mono hbs)
      obtain ⟨bk, ⟨lf, ps, pv, ks, bf⟩, ⟨a1, c1, a2, c2, a3, c3, a4, c4⟩⟩ := x
      obtain ⟨d0, d1, d2, d3, d4, d5⟩ := h6
      dsimp only [nv] at *
      clear h7 hxi hM hb hbx
      generalize ps.length = n1 at *
      generalize pv.length = n2 at *
      generalize ks.length = n3 at *
      generalize bf.length = n4 at *
      obtain ⟨x0, x1, x2, x3, x4, x5⟩ := X5.c
      clear X5
      have hs5 : k0 ≤ (wr.alloc (.cells #[.int .u32 bk, .bool lf, .slice a1 n1 c1, .slice a2 n2 c2, .slice a3 n3 c3, .slice a4 n4 c4] 47)).heap.size := by simp; omega
      obtain ⟨y, HY⟩ : ∃ y, Hid (placeF (l.take j) bk = y) := ⟨_, hid rfl⟩
      have HNX := hid hnx
      clear hnx
      generalize hf : placeF (l.take j) = f at *
      cases y with
      | none =>
        have hput : Hid (placeF (l.take (j + 1)) = putF f bk (j : Int)) := hid (by
          rw [HNX.out]
          funext z
          unfold putF
          by_cases e : bk = z
          · subst e; rw [HY.out]; simp
          · simp [e])
        obtain ⟨w6, hrun, hM6, hg6⟩ := hM5.store (t := 83) Try.underlying83 Try.underlying3 (by unfold maxLen; omega) bk (j : Int) hwb (wf_i64 (by omega))
        have hb6 := hid (hb5.grown hg6 hs5 (fun j hj => by cases hj; exact Nat.le_refl _))
        clear hf hg6
        go_wp2_with (first | (at_lookup; refine look rfl _ _ 83 rfl 3 .i64 Try.underlying83 Try.underlying3 (zero3 _) k0 j f rfl hM5 bk rfl hwb ?_; rw [HY.out]; dsimp only [Option.getD, Option.isSome]) | fail)
        go_roundw
        case rel => exact ⟨j + 1, by omega, by go_num, by rw [hput.out]; exact hM6, hb6.out⟩
        case measure => simp [intOf]; omega
      | some p =>
        have hsame : Hid (placeF (l.take (j + 1)) = f) := hid (by
          rw [HNX.out]
          funext z
          by_cases e : bk = z
          · subst e; rw [HY.out]; simp
          · simp [e])
        clear hf
        go_wp2_with (first | (at_lookup; refine look rfl _ _ 83 rfl 3 .i64 Try.underlying83 Try.underlying3 (zero3 _) k0 j f rfl hM5 bk rfl hwb ?_; rw [HY.out]; dsimp only [Option.getD, Option.isSome]) | fail)
        go_roundw
        case rel =>
          refine ⟨j + 1, by omega, by go_num, ?_, hb5⟩
          rw [hsame.out]
          obtain ⟨D, hD, hD2⟩ := hM5
          exact ⟨D, hD.mono (Nat.le_succ _), hD2⟩
        case measure => simp [intOf]; omega
    · obtain rfl : j = n := by omega
      rw [show l.take j = l by rw [← HN.out, List.take_length]] at hM
      go_wp2_with fail
      go_ret
      exact ⟨by first | rfl | (rw [hk0]; rfl), ⟨j, by first | exact hM | (rw [hk0]; exact hM)⟩, by first | exact hb | (rw [hk0]; exact hb)⟩
end Go.Proofs.Ytfladpnphkoeiaa.Key

namespace Go.Proofs.Ytfladpnphkoeiaa.Key
open Go.RowKit Go.Lib
set_option linter.unusedVariables false
set_option linter.unusedSimpArgs false

/-- a slice of nothings -/
def ZV (v : Value) (n : Nat) : Prop := (v = .slice none 0 0 ∧ n = 0) ∨ ∃ g c, v = .slice (some ⟨g, 0, none⟩) n c ∧ n ≤ c ∧ c ≤ maxLen
set_option maxRecDepth 100000 in
theorem info87 : (Try.prog.info? 87).map (fun i => (i.zero, i.size, i.bytes)) = some (some (.agg #[]), 0, 0) := by kernel_rfl
theorem size87 (w : World) : (Go.sizeOf 87).run Try.prog w = .ok 0 w := by kernel_rfl
set_option maxRecDepth 100000 in
theorem over71 (w : World) (a b : Addr) (ca lb cb : Nat) : (Extern.SlicesOverlaps.overlaps #[108, 108] #[4] #[.slice (some a) 1 ca, .slice (some b) lb cb]).run Try.prog w = .ok (.bool false) w := by
  cases lb with
  | zero => kernel_rfl
  | succ lb => kernel_rfl
set_option maxRecDepth 100000 in
theorem overlap71 (w : World) (a b : Addr) (ca lb cb : Nat) : (callFunc 71 #[.slice (some a) 1 ca, .slice (some b) lb cb]).run Try.prog w = .ok (.value (.bool false)) w := by
  rw [run_callFunc_extern Try.func71 (by kernel_rfl) (by kernel_rfl) (by kernel_rfl) (e := Extern.SlicesOverlaps.overlaps #[108, 108] #[4]) (by kernel_rfl), over71]
  rfl
theorem load_none (P : Program) (w : World) (a : Addr) : (loadCells a 0).run P w = .ok #[] w := by
  rfl
set_option maxRecDepth 100000 in
theorem copy87 (w : World) (ty : TypeId) (a b : Addr) (n c m d : Nat) : (Builtin.copy_ #[108, 108] ty #[.slice (some a) n c, .slice (some b) m d]).run Try.prog w = .ok (goInt (Nat.min m n)) w := by
  simp [Builtin.copy_, run_underlying Try.underlying108, size87, Builtin.firstCells, load_none, Builtin.lenOf, storeCells]
set_option maxRecDepth 100000 in
theorem app_room (w : World) (ty : TypeId) (a b : Addr) (n c : Nat) (h : n + 1 ≤ c) : (Builtin.append_ #[108, 108] ty #[.slice (some a) n c, .slice (some b) 1 1]).run Try.prog w = .ok (.slice (some a) (n + 1) c) w := by
  simp [Builtin.append_, run_underlying Try.underlying108, size87, Builtin.firstCells, load_none, Builtin.lenOf, storeCells, h]
theorem old_none (w : World) (base : Option Addr) (n c : Nat) : (Builtin.firstCells 0 n (.slice base n c)).run Try.prog w = .ok ([] : List Value).toArray w := by
  cases base with
  | none => simp [Builtin.firstCells]
  | some a => simp [Builtin.firstCells, load_none]
theorem app_grow (w : World) (ty : TypeId) (base : Option Addr) (b : Addr) (n c : Nat) (h : c < n + 1) (hn : n ≤ 100000) :
    (Builtin.append_ #[108, 108] ty #[.slice base n c, .slice (some b) 1 1]).run Try.prog w = .ok (.slice (some ⟨w.heap.size, 0, none⟩) (n + 1) (grownCap w (n + 1) c 87)) (w.drew.alloc (.cells (([] ++ [] : List Value).toArray ++ Builtin.zeroCells (Value.agg #[]).cells (grownCap w (n + 1) c 87 - (n + 1))) 87)) := by
  obtain ⟨i0, hi, hz0, hz1, hz2⟩ := info_parts info87
  refine run_append_grow_src w 108 108 ty 87 i0 _ Try.underlying108 hi hz0 base n c [] (by rw [hz1]; exact old_none _ _ _ _) _ 1 [] ?_ h (by omega) (by rw [hz2]; omega)
  rw [hz1]
  exact Src.ofSlice w Try.underlying108 b 1 1 [] (by simp) (by simp) (by simp)
set_option maxRecDepth 100000 in
theorem app_zeros (w : World) (ty : TypeId) (a : Addr) (n c k : Nat) (h : c < n + k) (hk : 0 < k) (hn : n + k ≤ 200000) :
    (Builtin.append_ #[108, 3] ty #[.slice (some a) n c, .int .i64 k]).run Try.prog w = .ok (.slice (some ⟨w.heap.size, 0, none⟩) (n + k) (grownCap w (n + k) c 87)) (w.drew.alloc (.cells ((#[] : Array Value) ++ Builtin.zeroCells (Value.agg #[]).cells (grownCap w (n + k) c 87 - (n + k))) 87)) := by
  obtain ⟨i0, hi, hz0, hz1, hz2⟩ := info_parts info87
  have hw : IntKind.i64.wrap (k : Int) = k := by rw [IntKind.wrap_i64]; omega
  have hnn : ¬ (n + k ≤ c) := by omega
  have h63' : ¬ (9223372036854775807 < ((n : Int) + (k : Int))) := by omega
  have hk0 : ¬ ((k : Int) < 0) := by omega
  simp [Builtin.append_, run_underlying Try.underlying108, run_underlying Try.underlying3, sizeOf, typeInfo, zeroValue, hi, hz0, hz1, hz2, hw, hnn, h63', hk0, asInt, asIntOf, Question.forced, Builtin.firstCells, load_none, newRow, grownCap]
set_option maxRecDepth 100000 in
theorem app_zero (w : World) (ty : TypeId) (a b : Addr) (c : Nat) : (Builtin.append_ #[108, 108] ty #[.slice (some a) 0 0, .slice (some b) 0 c]).run Try.prog w = .ok (.slice (some a) 0 0) w := by
  simp [Builtin.append_, run_underlying Try.underlying108, size87, Builtin.firstCells, load_none, Builtin.lenOf, storeCells]
theorem app_any (w : World) (ty : TypeId) (a b : Addr) (n c : Nat) (hn : n ≤ 100000) (h0 : 0 < n := by omega) :
    (Builtin.append_ #[108, 108] ty #[.slice (some a) 0 0, .slice (some b) n c]).run Try.prog w = .ok (.slice (some ⟨w.heap.size, 0, none⟩) (0 + n) (grownCap w (0 + n) 0 87)) (w.drew.alloc (.cells (([] ++ [] : List Value).toArray ++ Builtin.zeroCells (Value.agg #[]).cells (grownCap w (0 + n) 0 87 - (0 + n))) 87)) := by
  obtain ⟨i0, hi, hz0, hz1, hz2⟩ := info_parts info87
  refine run_append_grow_src w 108 108 ty 87 i0 _ Try.underlying108 hi hz0 (some a) 0 0 [] (by rw [hz1]; exact old_none _ _ _ _) _ n [] ?_ (by omega) (by omega) (by rw [hz2]; omega)
  rw [hz1]
  exact Src.ofSlice w Try.underlying108 b n c [] (by simp) (by simp) (by simp)
theorem zv_new (w : World) (n c : Nat) (hn : n ≤ 100000) : ZV (.slice (some ⟨w.heap.size, 0, none⟩) (n + 1) (grownCap w (n + 1) c 87)) (n + 1) :=
  .inr ⟨_, _, rfl, grownCap_ge w _ _ _, grownCap_le_maxLen w _ _ _ (by unfold maxLen; omega)⟩
theorem below_drew_alloc (w : World) (o : Obj) : Below w.heap.size w (w.drew.alloc o) := ((Below.refl _ w).drew).alloc (Nat.le_refl _) o
set_option maxHeartbeats 800000 in
set_option maxRecDepth 100000 in
theorem ins60 (v : Value) (n i vb : Nat) (w : World) (hv : ZV v n) (hi : i ≤ n) (hn : n ≤ 100000) :
    Calls Try.prog 60 #[v, .int .i64 i, .slice (some ⟨vb, 0, none⟩) 1 1] w fun e w' => (∃ v', e = .returned v' ∧ ZV v' (n + 1)) ∧ Below w.heap.size w w' := by
  have mixed := mixed
  have hcp := copy87
  rcases hv with ⟨rfl, rfl⟩ | ⟨g, c, rfl, hnc, hcm⟩
  · obtain rfl : i = 0 := by omega
    have hz := zv_new w 0 0 (by omega)
    have hb := below_drew_alloc w (.cells (([] ++ [] : List Value).toArray ++ Builtin.zeroCells (Value.agg #[]).cells (grownCap w (0 + 1) 0 87 - (0 + 1))) 87)
    have hg := fun ty => app_grow w ty none ⟨vb, 0, none⟩ 0 0 (by omega) (by omega)
    go_enter Try.func60, Try.ntmps60
    go_wp2_with (at_builtin; refine Lib.wpList_append_run _ rfl _ _ _ _ rfl _ _ rfl rfl _ _ (hg _) ?_)
    go_ret
    exact ⟨⟨_, rfl, hz⟩, (below_box w _).drew⟩
  · unfold maxLen at hcm
    by_cases hie : i = n
    · subst hie
      by_cases hroom : i + 1 ≤ c
      · have hle : (i : Int) ≤ (c : Int) := by omega
        have hci : ¬ (c = i) := by omega
        have hg := fun ty => app_room w ty ⟨g, 0, none⟩ ⟨vb, 0, none⟩ i c hroom
        go_enter Try.func60, Try.ntmps60
        go_wp2_with (at_builtin; refine Lib.wpList_append_run _ rfl _ _ _ _ rfl _ _ rfl rfl _ _ (hg _) ?_)
        go_ret
        exact ⟨⟨_, rfl, .inr ⟨g, c, rfl, hroom, by unfold maxLen; omega⟩⟩, Below.refl _ _⟩
      · obtain rfl : c = i := by omega
        have hz := zv_new w c c (by omega)
        have hb := below_drew_alloc w (.cells (([] ++ [] : List Value).toArray ++ Builtin.zeroCells (Value.agg #[]).cells (grownCap w (c + 1) c 87 - (c + 1))) 87)
        have hg := fun ty => app_grow w ty (some ⟨g, 0, none⟩) ⟨vb, 0, none⟩ c c (by omega) (by omega)
        go_enter Try.func60, Try.ntmps60
        go_wp2_with (at_builtin; refine Lib.wpList_append_run _ rfl _ _ _ _ rfl _ _ rfl rfl _ _ (hg _) ?_)
        go_ret
        exact ⟨⟨_, rfl, hz⟩, (below_box w _).drew⟩
    · have hlt : i < n := by omega
      have hz2 : ¬ ((i : Int) = (n : Int)) := by omega
      have hw1 : IntKind.i64.wrap ((i : Int) + 1) = (i : Int) + 1 := by rw [IntKind.wrap_i64]; omega
      have hw2 : IntKind.i64.wrap ((n : Int) + 1) = (n : Int) + 1 := by rw [IntKind.wrap_i64]; omega
      have hb1 : (0 : Int) ≤ (i : Int) + 1 := by omega
      have hin : i ≤ n := by omega
      have htn : ((i : Int) + 1).toNat = i + 1 := by omega
      by_cases hroom : n + 1 ≤ c
      · have hb2 : ¬ (c = i + 1) := by omega
        have hb3 : (i : Int) ≤ (n : Int) + 1 := by omega
        have hb4 : ¬ (c = i) := by omega
        have hb5 : ¬ ((c : Int) < (n : Int) + 1) := by omega
        go_enter Try.func60, Try.ntmps60
        go_wp2_with (simp only [overlap71])
        go_region_law_o (refine step_copy_runI rfl _ _ 108 108 rfl (.slice (some ⟨g, 0, none⟩) (n - i) (c - (i + 1))) (.slice (some ⟨g, 0, none⟩) (n + 1 - i) (c - i)) (by simp [Act.eval, Act.put]) (by simp [Act.eval, Act.put]) (copy87 _ _ _ _ _ _ _ _) ?_)
        go_wp2_with fail
        go_ret
        exact ⟨⟨_, rfl, .inr ⟨g, c, rfl, hroom, by unfold maxLen; omega⟩⟩, (Below.refl _ w).drew⟩
      · obtain rfl : c = n := by omega
        have hz3 : (c : Int) < (c : Int) + 1 := by omega
        have hkk : (c : Int) + 1 - (i : Int) = ((c + 1 - i : Nat) : Int) := by omega
        have hik : i + (c + 1 - i) = c + 1 := by omega
        have hz := zv_new w c c (by omega)
        have hrz : ∀ ty, (Builtin.append_ #[108, 3] ty #[.slice (some ⟨g, 0, none⟩) i c, .int .i64 ((c : Int) + 1 - (i : Int))]).run Try.prog w = .ok (.slice (some ⟨w.heap.size, 0, none⟩) (c + 1) (grownCap w (c + 1) c 87)) (w.drew.alloc (.cells ((#[] : Array Value) ++ Builtin.zeroCells (Value.agg #[]).cells (grownCap w (c + 1) c 87 - (c + 1))) 87)) := fun ty => by
          have h := app_zeros w ty ⟨g, 0, none⟩ i c (c + 1 - i) (by omega) (by omega) (by omega)
          rw [hik] at h
          rw [hkk]
          exact h
        have hGn := grownCap_ge w (c + 1) c 87
        have hG63 := grownCap_le_maxLen w (c + 1) c 87 (by unfold maxLen; omega)
        unfold maxLen at hG63
        generalize grownCap w (c + 1) c 87 = G at *
        have hGi : ¬ (G = i) := by omega
        have hGim : ¬ (G = i + 1) := by omega
        have hci : ¬ (c = i) := by omega
        have hb3 : (i : Int) ≤ (c : Int) := by omega
        have hb := below_drew_alloc w (.cells ((#[] : Array Value) ++ Builtin.zeroCells (Value.agg #[]).cells (G - (c + 1))) 87)
        clear hkk hik
        go_enter Try.func60, Try.ntmps60
        go_wp2_with (at_builtin; refine Lib.wpList_append_run _ rfl _ _ _ _ rfl _ _ rfl rfl _ _ (hrz _) ?_)
        go_region_law_o (refine step_copy_runI rfl _ _ 108 108 rfl (.slice (some ⟨w.heap.size, 0, none⟩) (c - i) (G - (i + 1))) (.slice (some ⟨g, 0, none⟩) (c - i) (c - i)) (by simp [Act.eval, Act.put]) (by simp [Act.eval, Act.put]) (copy87 _ _ _ _ _ _ _ _) ?_)
        go_wp2
        go_ret
        exact ⟨⟨_, rfl, hz⟩, by first | exact (below_box w _).drew | exact (below_box w _).drew.drew⟩
set_option maxRecDepth 100000 in
set_option maxHeartbeats 600000 in
theorem clone75 (v : Value) (n : Nat) (w : World) (h : ZV v n) (hl : n ≤ 10000) :
    Calls Try.prog 75 #[v] w fun e w' => (∃ v', e = .returned v' ∧ ZV v' n) ∧ Below w.heap.size w w' := by
  have q108 : ∀ (w : World) (a : Option Addr) (n c n' c' : Nat), (binOp .eql 108 (.slice a n c) (.slice none n' c')).run Try.prog w = .ok (.bool a.isNone) w := fun w a n c n' c' => Lib.run_eql_slice_nil w _ _ a n c n' c' Try.underlying108
  rcases h with ⟨rfl, rfl⟩ | ⟨g, c, rfl, hnc, hcm⟩
  · go_enter Try.func75, Try.ntmps75
    go_wp2_with fail
    go_ret
    exact ⟨⟨_, rfl, .inl ⟨rfl, rfl⟩⟩, Below.refl _ _⟩
  · unfold maxLen at hcm
    cases n with
    | zero =>
      go_enter Try.func75, Try.ntmps75
      go_wp2_with (at_builtin; refine Lib.wpList_append_run _ rfl _ _ _ _ rfl _ _ rfl rfl _ _ (app_zero _ _ _ _ _) ?_)
      go_ret
      exact ⟨⟨_, rfl, .inr ⟨_, _, rfl, Nat.le_refl _, by unfold maxLen; omega⟩⟩, below_box w _⟩
    | succ n =>
      have hg := fun ty => app_any (w.alloc (.cells #[] 87)) ty ⟨w.heap.size, 0, none⟩ ⟨g, 0, none⟩ (n + 1) c (by omega) (by omega)
      have hG1 := grownCap_ge (w.alloc (.cells #[] 87)) (0 + (n + 1)) 0 87
      have hG2 := grownCap_le_maxLen (w.alloc (.cells #[] 87)) (0 + (n + 1)) 0 87 (by unfold maxLen; omega)
      go_enter Try.func75, Try.ntmps75
      go_wp2_with (at_builtin; refine Lib.wpList_append_run _ rfl _ _ _ _ rfl _ _ rfl rfl _ _ (hg _) ?_)
      go_ret
      refine ⟨⟨_, rfl, .inr ⟨_, _, by first | rfl | (simp; rfl), by first | exact hG1 | (simp at hG1; exact hG1), by first | exact hG2 | (simp at hG2; exact hG2)⟩⟩, ?_⟩
      exact ((below_box w (.cells #[] 87)).alloc (by simp) _).drew
end Go.Proofs.Ytfladpnphkoeiaa.Key

namespace Go.Proofs.Ytfladpnphkoeiaa.Key
open Go.RowKit Draw
set_option linter.unusedVariables false
set_option linter.unusedSimpArgs false

/-- a map of blocks in memory -/
structure ZMap (w : World) (B k : Nat) (kv vv : Value) (ks : List Int) : Prop where
  box : w.heap[k]? = some (.cells #[kv, vv] 110 (0, 0))
  above : B ≤ k
  keys : OwnU w B kv ks
  vals : ZV vv ks.length
  rise : Rising ks
  apart : kv.ownBlock ≠ some k
theorem ZMap.lt {w : World} {B k : Nat} {kv vv : Value} {ks : List Int} (h : ZMap w B k kv vv ks) : k < w.heap.size := (Array.getElem?_eq_some_iff.1 h.box).1
theorem ZMap.later {w w' : World} {B k : Nat} {kv vv : Value} {ks : List Int} (h : ZMap w B k kv vv ks) (hb : Below w.heap.size w w') : ZMap w' B k kv vv ks :=
  ⟨(hb.block k h.lt).trans h.box, h.above, h.keys.later hb, h.vals, h.rise, h.apart⟩
theorem ZV.slice {v : Value} {n : Nat} (h : ZV v n) : ∃ a m c, v = .slice a m c := by
  rcases h with ⟨rfl, _⟩ | ⟨g, c, rfl, _⟩
  · exact ⟨_, _, _, rfl⟩
  · exact ⟨_, _, _, rfl⟩
set_option maxHeartbeats 600000 in
set_option maxRecDepth 100000 in
theorem find59 (B k : Nat) (kv vv : Value) (ks : List Int) (x : Int) (w : World) (h : ZMap w B k kv vv ks) (hl : ks.length ≤ 100000) :
    Calls Try.prog 59 #[.pointer (some ⟨k, 0, none⟩), .int .u32 x] w fun e w' => e = .returned (.tuple #[.int .i64 (pos ks x : Nat), .bool (there ks x)]) ∧ Below w.heap.size w w' := by
  have c0 := cell_of_row _ _ 0 _ _ _ h.box
  dsimp at c0
  have H := bs67 B kv ks x w h.keys h.rise hl
  obtain ⟨a, n, c, rfl⟩ := row_slice h.keys
  generalize pos ks x = p at *
  generalize there ks x = t at *
  go_enter Try.func59, Try.ntmps59
  go_wp2_with fail
  refine H.mono ?_
  rintro e w1 ⟨rfl, hb⟩
  go_wp2_with fail
  go_ret2
  exact ⟨rfl, hb⟩
set_option maxRecDepth 100000 in
theorem new40 (w : World) : Calls Try.prog 40 #[] w fun e w' => e = .returned (.pointer (some ⟨w.heap.size, 0, none⟩)) ∧ ZMap w' w.heap.size w.heap.size (.slice none 0 0) (.slice none 0 0) [] ∧ Below w.heap.size w w' := by
  have hb := below_box w (.cells #[.slice none 0 0, .slice none 0 0] 110)
  have hn := Go.heap_alloc_new w (.cells #[.slice none 0 0, .slice none 0 0] 110)
  go_enter Try.func40, Try.ntmps40
  go_wp2_with fail
  go_ret
  exact ⟨rfl, ⟨hn, Nat.le_refl _, OwnU.nil _ _, .inl ⟨rfl, rfl⟩, List.Pairwise.nil, by simp [Value.ownBlock]⟩, hb⟩
/-- all blocks but a map's own are as they were, and stay none of its own -/
def FreeZ (w w' : World) (k : Nat) (kv kv' : Value) : Prop := ∀ g, g < w.heap.size → g ≠ k → kv.ownBlock ≠ some g → w'.heap[g]? = w.heap[g]? ∧ kv'.ownBlock ≠ some g
theorem boxz_set0 {w : World} {k : Nat} {a b : Value} (h : w.heap[k]? = some (.cells #[a, b] 110 (0, 0))) (v : Value) : (w.setCell ⟨k, 0, none⟩ v).heap[k]? = some (.cells #[v, b] 110 (0, 0)) ∧ w.grownBy (w.setCell ⟨k, 0, none⟩ v) (some k) := by
  rw [setCell_eq_setRow w k 0 _ 110 (0, 0) _ h]
  refine ⟨?_, ⟨rfl, rfl, rfl, by simp [World.setRow], fun j hj hne => setRow_other w k j _ (fun e => hne (by rw [e]))⟩⟩
  rw [setRow_heap w k _ _ 110 _ h]
  rfl
theorem boxz_set1 {w : World} {k : Nat} {a b : Value} (h : w.heap[k]? = some (.cells #[a, b] 110 (0, 0))) (v : Value) : (w.setCell ⟨k, 1, none⟩ v).heap[k]? = some (.cells #[a, v] 110 (0, 0)) ∧ w.grownBy (w.setCell ⟨k, 1, none⟩ v) (some k) := by
  rw [setCell_eq_setRow w k 1 _ 110 (0, 0) _ h]
  refine ⟨?_, ⟨rfl, rfl, rfl, by simp [World.setRow], fun j hj hne => setRow_other w k j _ (fun e => hne (by rw [e]))⟩⟩
  rw [setRow_heap w k _ _ 110 _ h]
  rfl
set_option maxRecDepth 100000 in
set_option maxHeartbeats 1200000 in
theorem put41 (B k : Nat) (kv vv : Value) (ks : List Int) (x : Int) (w0 w : World) (h : ZMap w B k kv vv ks) (hl : ks.length ≤ 10000) (hbel : Below B w0 w) :
    Calls Try.prog 41 #[.pointer (some ⟨k, 0, none⟩), .int .u32 x, .agg #[]] w fun e w' => e = .returned (.bool (!there ks x)) ∧ (∃ kv' vv', ZMap w' B k kv' vv' (putK ks x) ∧ FreeZ w w' k kv kv') ∧ Below B w0 w' := by
  have hbx := below_box w (.cells #[] 87)
  have h0 := h.later hbx
  have HF := find59 B k kv vv ks x _ h0 (by omega)
  have hBk := h.above
  have hklt := h.lt
  have hpl := pos_le ks x
  have HK := hid (show putK ks x = if there ks x then ks else insertAt ks (pos ks x) x from rfl)
  have hbe0 := hbel.alloc (by omega) (.cells #[] 87)
  have hkb := Go.heap_alloc_new w (.cells #[] 87)
  cases ht : there ks x
  · have hri := rise_insert ks x h.rise ht
    rw [ht] at HK HF
    replace HK : Hid (putK ks x = insertAt ks (pos ks x) x) := HK.out.trans (if_neg (by simp))
    have hIL := insertAt_length ks (pos ks x) x hpl
    replace hri := hid hri
    generalize putK ks x = PK at *
    generalize pos ks x = p at *
    have HIL := hid hIL
    clear hIL
    go_enter Try.func41, Try.ntmps41
    go_wp2_with fail
    refine HF.mono ?_
    rintro e w1 ⟨rfl, hb1⟩
    have h1 := h0.later hb1
    have hs1 := hb1.size
    have hsx : (w.alloc (.cells #[] 87)).heap.size = w.heap.size + 1 := by simp
    have hbe1 := hbe0.trans (hb1.mono (by omega))
    have hkb1 := (hb1.block w.heap.size (by omega)).trans hkb
    have c0 := cell_of_row _ _ 0 _ _ _ h1.box
    dsimp at c0
    have h2 := h1.later (below_box w1 (.cells #[.int .u32 x] 23))
    have I1 := insert56 B kv ks p x w1.heap.size _ h2.keys hpl (by omega) (Go.heap_alloc_new w1 _) (fun e => by
      have := (World.ownsRow.lt h1.keys _ e).2
      omega) (by simp; omega)
    have hbe2 := hbe1.alloc (by omega) (.cells #[.int .u32 x] 23)
    have K1 := hid (fun g (hg : g < w.heap.size) => (heap_alloc_old w1 (.cells #[.int .u32 x] 23) (show g < w1.heap.size by omega)).trans ((hb1.block g (by omega)).trans (hbx.block g hg)))
    have L1 := hid (fun g (hg : g < w.heap.size) => (show g < (w1.alloc (.cells #[.int .u32 x] 23)).heap.size by simp; omega))
    have hkw : w.heap.size < w1.heap.size := by omega
    clear HF hb1 hsx
    go_wp2_with fail
    refine I1.mono ?_
    rintro e w3 ⟨kv', rfl, hk3, hg3, hor3⟩
    have K3 := hid (fun g (hg : g < w.heap.size) (h1 : kv.ownBlock ≠ some g) => (hg3.block g (L1.out g hg) (fun e => h1 e.symm)).trans (K1.out g hg))
    have L3 := hid (fun g (hg : g < w.heap.size) => Nat.lt_of_lt_of_le (L1.out g hg) hg3.size)
    have O3 := hid (fun g (hg : g < w.heap.size) (h1 : kv.ownBlock ≠ some g) => (show kv'.ownBlock ≠ some g by
      rcases hor3 with e | ⟨j, e, hj⟩
      · rw [e]; exact h1
      · rw [e]; intro e2; cases e2; have := L1.out _ hg; omega))
    obtain ⟨sa, sn, sc, hkve⟩ := hk3.slice
    have hk2 : k < (w1.alloc (.cells #[.int .u32 x] 23)).heap.size := h2.lt
    have hbox3 := (hg3.block k hk2 (fun e => h1.apart e.symm)).trans h2.box
    have hbe3 := grown_below hbe2 (by simp; omega) hg3 (fun j hj => (World.ownsRow.lt h1.keys j hj).1)
    have hs3 := hg3.size
    have hkk : kv'.ownBlock ≠ some k := by
      rcases hor3 with e | ⟨j, e, hj⟩
      · rw [e]; exact h1.apart
      · rw [e]; intro e2; cases e2; omega
    obtain ⟨hbox4, hg4⟩ := boxz_set0 hbox3 kv'
    have hk4 := hk3.kept hg4 (.inr hkk)
    have hbe4 := grown_below hbe3 (by simp at hs3; omega) hg4 (fun j hj => by cases hj; exact hBk)
    have K4 := hid (fun g (hg : g < w.heap.size) (h0 : g ≠ k) (h1 : kv.ownBlock ≠ some g) => (hg4.block g (L3.out g hg) (fun e => h0 (by cases e; rfl))).trans (K3.out g hg h1))
    have L4 := hid (fun g (hg : g < w.heap.size) => Nat.lt_of_lt_of_le (L3.out g hg) hg4.size)
    have e0 := cell_of_row _ _ 0 _ _ _ hbox3
    have f0 := frozen_of_row _ _ 0 _ _ hbox3
    dsimp at e0
    have hBs4 : B ≤ (w3.setCell ⟨k, 0, none⟩ kv').heap.size := by have := hg4.size; simp at hs3; omega
    have HZ := hid (fun u vb => ins60 vv ks.length p vb u h1.vals hpl (by omega))
    obtain ⟨va, vn, vc, hvve⟩ := h1.vals.slice
    clear I1 c0 h2 h1 hkb1 hbe3 hbe2 hbe1 hg3 hor3 hk2 hg4
    subst hkve
    go_upto_region 8 with fail
    generalize w3.setCell ⟨k, 0, none⟩ (.slice sa sn sc) = w4 at *
    subst hvve
    generalize ks.length = N at *
    have HB4 := hid hbox4
    refine wp_region_anc [(some 36, [], false), (some 37, [], false), (some 38, [(1, 37)], false), (some 39, [(2, 38)], false), (some 40, [(3, 39)], false), (some 41, [], false), (some 42, [], false), (some 43, [(6, 42)], false), (some 44, [(4, 40), (5, 41), (7, 43)], true), (some 45, [(0, 36)], false), (some 46, [(9, 45)], true), (none, [(10, 46), (8, 44)], false)]
      (fun u => Below w4.heap.size w4 u) (fun _ u u' => Below u.heap.size u u')
      (fun i v u => match i with | 0 => v = .pointer (some ⟨k, 0, none⟩) | 1 => v = .pointer (some ⟨k, 0, none⟩) | 2 => v = .pointer (some ⟨k, 0, none⟩) | 3 => v = .pointer (some ⟨k, 1, none⟩) | 4 => v = .slice va vn vc | 5 => v = .int .i64 p | 6 => v = .agg #[] | 7 => ∃ g, v = .slice (some ⟨g, 0, none⟩) 1 1 | 8 => ZV v (N + 1) | 9 => v = .pointer (some ⟨k, 0, none⟩) | 10 => v = .pointer (some ⟨k, 1, none⟩) | _ => True)
      (by kernel_rfl) 11 (by kernel_rfl) (Below.refl _ _).drew (fun i u u' h h' => h.trans (h'.mono h.size)) (fun i j v u u' hn h h' hv => hv) [(some 36, [], false), (some 37, [], false), (some 38, [(1, 37)], false), (some 39, [(2, 38)], false), (some 40, [(3, 39)], false), (some 41, [], false), (some 42, [], false), (some 43, [(6, 42)], false), (some 44, [(4, 40), (5, 41), (7, 43)], true), (some 45, [(0, 36)], false), (some 46, [(9, 45)], true)] rfl _ rfl (by kernel_rfl) (by kernel_rfl) ⟨?_, ?_, ?_, ?_, ?_, ?_, ?_, ?_, ?_, ?_, ?_, trivial⟩ ?_
    · rintro u hu
      exact opYields_val _ (by kernel_rfl) (by go_simp) ⟨Below.refl _ _, rfl⟩
    · rintro u hu
      exact opYields_val _ (by kernel_rfl) (by go_simp) ⟨Below.refl _ _, rfl⟩
    · rintro u hu _ rfl
      exact opYields_val _ (by kernel_rfl) (by go_simp) ⟨Below.refl _ _, rfl⟩
    · rintro u hu _ rfl
      exact opYields_val _ (by kernel_rfl) (by go_simp) ⟨Below.refl _ _, rfl⟩
    · rintro u hu _ rfl
      have c1 := cell_of_row _ _ 1 _ _ _ ((hu.block k (Array.getElem?_eq_some_iff.1 HB4.out).1).trans HB4.out)
      dsimp at c1
      exact opYields_val (.slice va vn vc) (by kernel_rfl) (by go_simp) ⟨Below.refl _ _, rfl⟩
    · rintro u hu
      exact opYields_val _ (by kernel_rfl) (by go_simp) ⟨Below.refl _ _, rfl⟩
    · rintro u hu
      exact opYields_val (.agg #[]) (by kernel_rfl) (by go_simp) ⟨Below.refl _ _, rfl⟩
    · rintro u hu _ rfl
      exact opYields_val (.slice (some ⟨u.heap.size, 0, none⟩) 1 1) (u' := u.alloc (.cells #[] 87)) (by kernel_rfl) (by go_simp; rfl) ⟨below_box u _, _, rfl⟩
    · rintro u hu _ rfl _ rfl _ ⟨g, rfl⟩
      exact opYields_call 60 #[.slice va vn vc, .int .i64 p, .slice (some ⟨g, 0, none⟩) 1 1] (by kernel_rfl) (by go_simp) ((HZ.out u g).mono fun x u' ⟨⟨v, h1, h2⟩, h3⟩ => ⟨v, h1, h3, h2⟩)
    · rintro u hu _ rfl
      exact opYields_val _ (by kernel_rfl) (by go_simp) ⟨Below.refl _ _, rfl⟩
    · rintro u hu _ rfl
      exact opYields_val _ (by kernel_rfl) (by go_simp) ⟨Below.refl _ _, rfl⟩
    · intro u hu x0 x1 x2 x3 x4 x5 x6 x7 x8 e8 x9 x10 e10
      replace e8 : ZV x8 (N + 1) := e8
      replace e10 : x10 = .pointer (some ⟨k, 1, none⟩) := e10
      simp only [Act.put, List.setIfInBounds_toArray, List.set_cons_zero, List.set_cons_succ, e10]
      have HSL := hid e8.slice
      have hbox5 := (hu.block k (Array.getElem?_eq_some_iff.1 HB4.out).1).trans HB4.out
      have c1 := cell_of_row _ _ 1 _ _ _ hbox5
      have f1 := frozen_of_row _ _ 1 _ _ hbox5
      dsimp at c1
      obtain ⟨hbox6, hg6⟩ := boxz_set1 hbox5 x8
      have hk6 := (hk4.later hu).kept hg6 (.inr hkk)
      have hbe6 := grown_below (hbe4.trans (hu.mono hBs4)) (Nat.le_trans hBs4 hu.size) hg6 (fun j hj => by cases hj; exact hBk)
      have K6 := hid (show FreeZ w _ k kv (.slice sa sn sc) from fun g hg h0 h1 => ⟨(hg6.block g (Nat.lt_of_lt_of_le (L4.out g hg) hu.size) (fun e => h0 (by cases e; rfl))).trans ((hu.block g (L4.out g hg)).trans (K4.out g hg h0 h1)), O3.out g hg h1⟩)
      have HS := hid (ZMap.mk hbox6 hBk hk6 (by rw [HIL.out]; exact e8) hri.out hkk)
      have HBE := hid hbe6
      refine opYields_put (u' := u.setCell ⟨k, 1, none⟩ x8) (by kernel_rfl) (by obtain ⟨ya, yn, yc, e⟩ := HSL.out; subst e; go_simp) ?_
      clear hbe6 hk6 hg6 hbox6 c1 f1 hbox5 e8
      simp only [Act.put, List.setIfInBounds_toArray, List.set_cons_zero, List.set_cons_succ]
      go_wp2_with fail
      go_ret
      exact ⟨rfl, ⟨_, _, by rw [HK.out]; exact HS.out, K6.out⟩, HBE.out⟩
  · have hp := there_lt ht
    rw [ht] at HK HF
    replace HK : Hid (putK ks x = ks) := HK.out.trans (if_pos rfl)
    have hvals := h.vals
    generalize pos ks x = p at *
    go_enter Try.func41, Try.ntmps41
    go_wp2_with fail
    refine HF.mono ?_
    rintro e w1 ⟨rfl, hb1⟩
    have h1 := h0.later hb1
    have hsx : (w.alloc (.cells #[] 87)).heap.size = w.heap.size + 1 := by simp
    have hbe1 := hbe0.trans (hb1.mono (by omega))
    have hfree := hid (show FreeZ w w1 k kv kv from fun g hg _ h1 => ⟨(hb1.block g (by omega)).trans (hbx.block g hg), h1⟩)
    rcases hvals with ⟨_, e⟩ | ⟨g, c, rfl, hnc, hcm⟩
    · exact absurd hp (by omega)
    · have HB1 := hid h1.box
      have H1 := hid h1
      generalize ks.length = N at *
      have hpi : (p : Int) < (N : Int) := by omega
      clear hsx
      go_upto_region 5 with fail
      refine wp_region_anc [(some 18, [], false), (some 19, [(0, 18)], false), (some 20, [(1, 19)], false), (some 21, [(2, 20)], false), (some 22, [], false), (some 23, [], true), (some 24, [(3, 21), (4, 22)], true), (none, [(6, 24), (5, 23)], false)]
        (fun u => Below w1.heap.size w1 u) (fun _ u u' => Below u.heap.size u u')
        (fun i v u => match i with | 0 => v = .pointer (some ⟨k, 0, none⟩) | 1 => v = .pointer (some ⟨k, 0, none⟩) | 2 => v = .pointer (some ⟨k, 1, none⟩) | 3 => v = .slice (some ⟨g, 0, none⟩) N c | 4 => v = .int .i64 p | 5 => v = .agg #[] | 6 => v = .pointer (some ⟨g, 0, none⟩) | _ => True)
        (by kernel_rfl) 7 (by kernel_rfl) (Below.refl _ _).drew (fun i u u' h h' => h.trans (h'.mono h.size)) (fun i j v u u' hn h h' hv => hv) [(some 18, [], false), (some 19, [(0, 18)], false), (some 20, [(1, 19)], false), (some 21, [(2, 20)], false), (some 22, [], false), (some 23, [], true), (some 24, [(3, 21), (4, 22)], true)] rfl _ rfl (by kernel_rfl) (by kernel_rfl) ⟨?_, ?_, ?_, ?_, ?_, ?_, ?_, trivial⟩ ?_
      · rintro u hu
        exact opYields_val _ (by kernel_rfl) (by go_simp) ⟨Below.refl _ _, rfl⟩
      · rintro u hu _ rfl
        exact opYields_val _ (by kernel_rfl) (by go_simp) ⟨Below.refl _ _, rfl⟩
      · rintro u hu _ rfl
        exact opYields_val _ (by kernel_rfl) (by go_simp) ⟨Below.refl _ _, rfl⟩
      · rintro u hu _ rfl
        have c1 := cell_of_row _ _ 1 _ _ _ ((hu.block k (Array.getElem?_eq_some_iff.1 HB1.out).1).trans HB1.out)
        dsimp at c1
        exact opYields_val (.slice (some ⟨g, 0, none⟩) N c) (by kernel_rfl) (by go_simp) ⟨Below.refl _ _, rfl⟩
      · rintro u hu
        exact opYields_val _ (by kernel_rfl) (by go_simp) ⟨Below.refl _ _, rfl⟩
      · rintro u hu
        exact opYields_val (.agg #[]) (by kernel_rfl) (by go_simp) ⟨Below.refl _ _, rfl⟩
      · rintro u hu _ rfl _ rfl
        exact opYields_val (.pointer (some ⟨g, 0, none⟩)) (by kernel_rfl) (by go_simp) ⟨Below.refl _ _, rfl⟩
      · intro u hu x0 x1 x2 x3 x4 x5 e5 x6 e6
        replace e5 : x5 = .agg #[] := e5
        replace e6 : x6 = .pointer (some ⟨g, 0, none⟩) := e6
        simp only [Act.put, List.setIfInBounds_toArray, List.set_cons_zero, List.set_cons_succ, e5, e6]
        have h2 := hid (H1.out.later hu)
        have hbe2 := hid (hbe1.trans (hu.mono (Nat.le_trans hBk (Nat.le_of_lt H1.out.lt))))
        have hfr2 := hid (show FreeZ w u k kv kv from fun j hj hjk hjo => ⟨(hu.block j (Nat.lt_of_lt_of_le hj (by have := hb1.size; simp at this; omega))).trans (hfree.out j hj hjk hjo).1, hjo⟩)
        refine opYields_put (u' := u) (by kernel_rfl) (by go_simp) ?_
        simp only [Act.put, List.setIfInBounds_toArray, List.set_cons_zero, List.set_cons_succ]
        go_wp2_with fail
        go_ret
        exact ⟨rfl, ⟨_, _, by rw [HK.out]; exact h2.out, hfr2.out⟩, hbe2.out⟩
end Go.Proofs.Ytfladpnphkoeiaa.Key

namespace Go.Proofs.Ytfladpnphkoeiaa.Key
open Go.RowKit
set_option linter.unusedVariables false
set_option linter.unusedSimpArgs false

theorem OwnU.same {w w' : World} {B : Nat} {v : Value} {l : List Int} (h : OwnU w B v l) (he : ∀ g, v.ownBlock = some g → w'.heap[g]? = w.heap[g]?) : OwnU w' B v l := by
  refine ⟨h.1, ?_⟩
  rcases h.2 with h0 | ⟨g, cap, cur, rfl, hb, hg, r⟩
  · exact .inl h0
  · exact .inr ⟨g, cap, cur, rfl, hb, (he g rfl).trans hg, r⟩
/-- the last one off -/
theorem OwnU.cut {w : World} {B c : Nat} {a : Option Addr} {l : List Int} {x : Int} (h : OwnU w B (.slice a (l.length + 1) c) (l ++ [x])) : OwnU w B (.slice a l.length c) l := by
  refine ⟨by simp, ?_⟩
  rcases h.2 with ⟨h0, _⟩ | ⟨g, cap, cur, hv, hb, hg, hc, hm, hs, ht⟩
  · simp at h0
  · simp only [Value.slice.injEq, List.length_append, List.length_cons, List.length_nil] at hv hc ht
    obtain ⟨rfl, _, rfl⟩ := hv
    refine .inr ⟨g, c, cur, rfl, hb, hg, by omega, hm, hs, ?_⟩
    have := congrArg (List.take l.length) ht
    rw [List.take_take, List.map_append] at this
    simpa using this
theorem ZMap.kept {w w' : World} {B k : Nat} {kv vv : Value} {ks : List Int} {row : Option Nat} (h : ZMap w B k kv vv ks) (hg : w.grownBy w' row) (h1 : row ≠ some k) (h2 : ∀ g, kv.ownBlock = some g → row ≠ some g) : ZMap w' B k kv vv ks :=
  ⟨(hg.block k h.lt fun e => h1 e.symm).trans h.box, h.above, h.keys.same fun g e => hg.block g (World.ownsRow.lt h.keys g e).2 fun e' => h2 g e e'.symm, h.vals, h.rise, h.apart⟩
set_option maxRecDepth 100000 in
/-- 'out = append(out, l...)', out of the call's own; where it lies -/
theorem appUsAt {w : World} {ops : Array Oper} {rest : List Oper} {o : Oper} {a : Act} {Q : Exit → Act → World → Prop} (hgd : o.guard = none) (s x : Operand)
    (ho : o.op = .call { callee := .builtin .append, args := #[s, x], argTypes := #[41, 41] })
    (B : Nat) (v : Value) (l : List Int) (hs : a.eval s = v) (hown : OwnU w B v l) (ad : Option Addr) (m c : Nat) (ys : List Int) (hx : a.eval x = .slice ad m c) (hnil : ad = none → m = 0 ∧ c = 0) (hl : ys.length = m) (hn : Nums w ad ys) (hsz : l.length + m ≤ 100000000) (hB : B ≤ w.heap.size)
    (h : ∀ v' w', OwnU w' B v' (l ++ ys) → w.grownBy w' v.ownBlock → (v'.ownBlock = v.ownBlock ∨ v'.ownBlock = some w.heap.size) → wpList Try.prog ops Q rest (a.put o.dst v') w') : wpList Try.prog ops Q (o :: rest) a w := by
  obtain ⟨i0, hi, hz0, hz1, hz2⟩ := info_parts info23
  cases ad with
  | none =>
    obtain ⟨rfl, rfl⟩ := hnil rfl
    have hy : ys = [] := List.eq_nil_of_length_eq_zero hl
    subst hy
    refine wpList_append_own_none hgd s x 41 ho B 23 i0 1 Try.underlying41 hi v _ _ hs hown hx ?_
    exact h v w (by simpa using hown) ⟨rfl, rfl, rfl, Nat.le_refl _, fun _ _ _ => rfl⟩ (.inl rfl)
  | some ad =>
    refine wpList_append_own_at _ hgd s x 41 ho B 23 i0 (.int .u32 0) 1 4 Try.underlying41 hi hz0 hz1 hz2 rfl (by decide) v _ _ hs hown ad m c (ys.map (Value.int .u32)) hx (by simp [hl]) hn.news (by intro u hu; simp at hu; obtain ⟨_, _, rfl⟩ := hu; rfl)
      (by unfold maxLen; omega) (by omega) hB ?_
    intro v' w' h1 h2 _ h4
    refine h v' w' ?_ h2 h4
    unfold OwnU
    rw [List.map_append, List.length_append, hl]
    exact h1
/-- a map of what is reached, a row of what is left -/
structure RM (w1 : World) (B : Nat) (ks left : List Int) (kv vv lv : Value) (wr : World) : Prop where
  map : ZMap wr B B kv vv ks
  row : OwnU wr B lv left
  ap : ∀ g, lv.ownBlock = some g → g ≠ B ∧ kv.ownBlock ≠ some g
  bel : Below B w1 wr
theorem RM.big {w1 wr : World} {B : Nat} {ks left : List Int} {kv vv lv : Value} (h : RM w1 B ks left kv vv lv wr) : B < wr.heap.size := h.map.lt
theorem RM.later {w1 wr w' : World} {B : Nat} {ks left : List Int} {kv vv lv : Value} (h : RM w1 B ks left kv vv lv wr) (hb : Below wr.heap.size wr w') : RM w1 B ks left kv vv lv w' :=
  ⟨h.map.later hb, h.row.later hb, h.ap, h.bel.trans (hb.mono (Nat.le_of_lt h.big))⟩
theorem RM.put {w1 wr w' : World} {B c n : Nat} {ks left : List Int} {b : Int} {kv vv kv' vv' : Value} {a : Option Addr} (h : RM w1 B ks (left ++ [b]) kv vv (.slice a n c) wr) (hn : n = left.length + 1) {m : Nat} (hm' : m = left.length)
    (hm : ZMap w' B B kv' vv' (putK ks b)) (hf : FreeZ wr w' B kv kv') (hb : Below B w1 w') : RM w1 B (putK ks b) left kv' vv' (.slice a m c) w' := by
  subst hn hm'
  have hr := h.row.cut
  have hx : ∀ g, (Value.slice a left.length c).ownBlock = some g → g < wr.heap.size ∧ g ≠ B ∧ kv.ownBlock ≠ some g := fun g e => ⟨(World.ownsRow.lt hr g e).2, h.ap g (by cases a <;> exact e)⟩
  exact ⟨hm, hr.same fun g e => (hf g (hx g e).1 (hx g e).2.1 (hx g e).2.2).1, fun g e => ⟨(hx g e).2.1, (hf g (hx g e).1 (hx g e).2.1 (hx g e).2.2).2⟩, hb⟩
theorem RM.app {w1 wr w' : World} {B : Nat} {ks left ts : List Int} {kv vv lv lv' : Value} (h : RM w1 B ks left kv vv lv wr) (ho : OwnU w' B lv' (left ++ ts)) (hg : wr.grownBy w' lv.ownBlock) (hat : lv'.ownBlock = lv.ownBlock ∨ lv'.ownBlock = some wr.heap.size) :
    RM w1 B ks (left ++ ts) kv vv lv' w' := by
  have hbig := h.big
  refine ⟨h.map.kept hg (fun e => (h.ap _ e).1 rfl) (fun g e e' => (h.ap g e').2 e), ho, fun g e => ?_, h.bel.grown hg (Nat.le_of_lt hbig) fun j hj => (World.ownsRow.lt h.row j hj).1⟩
  rcases hat with h1 | h1
  · exact h.ap g (h1.symm.trans e)
  · rw [h1] at e
    cases e
    exact ⟨by omega, fun e => by have := (World.ownsRow.lt h.map.keys _ e).2; omega⟩
theorem succ_of {l : List It} {b p : Int} (h : placeF l b = some p) : ∃ (i : Nat) (hi : i < l.length), p = (i : Int) ∧ succB l b = targetsL l[i].nd := by
  obtain ⟨i, hi, e, hf⟩ := placeF_some h
  exact ⟨i, hi, e, by unfold succB foundN; rw [hf]; rfl⟩
theorem succ_none {l : List It} {b : Int} (h : placeF l b = none) : succB l b = [] := by
  unfold succB foundN
  rw [placeF_none h]
  rfl
theorem targets_len {n : Nd} (h : Few n) : (targetsL n).length ≤ 2000 := by
  have h1 := h.l3
  have h2 := h.l4
  have h3 := blocks_len n.bf
  unfold targetsL
  simp
  omega
end Go.Proofs.Ytfladpnphkoeiaa.Key

namespace Go.Proofs.Ytfladpnphkoeiaa.Key
open Go.RowKit Go.Shelf Draw
attribute [local go_sem] Oper.semAt_some
set_option linter.unusedVariables false
set_option linter.unusedSimpArgs false

/-- the row that a box's slice lies in -/
def rowOf (W : World) (Bd : Nat) : Option Nat := match W.heap[Bd]? with | some (.cells cs _ _) => (match cs[0]? with | some v => v.ownBlock | none => none) | _ => none
theorem rowOf_box {W : World} {Bd : Nat} {t : TypeId} {v : Value} (h : Boxed W Bd t v) : rowOf W Bd = v.ownBlock := by
  unfold rowOf
  rw [show W.heap[Bd]? = _ from h]
  rfl
theorem rowOf_same {W W' : World} {Bd : Nat} (h : W'.heap[Bd]? = W.heap[Bd]?) : rowOf W' Bd = rowOf W Bd := by
  unfold rowOf
  rw [h]
/-- rows of blocks stay, but the one behind a box -/
structure BKeep (Bd : Nat) (W W' : World) : Prop where
  size : W.heap.size ≤ W'.heap.size
  row : ∀ (b : Nat) (cs : Array Value), W.heap[b]? = some (.cells cs 23 (0, 0)) → b ≠ Bd → rowOf W Bd ≠ some b → W'.heap[b]? = W.heap[b]? ∧ rowOf W' Bd ≠ some b
theorem BKeep.trans {Bd : Nat} {A B C : World} (h : BKeep Bd A B) (k : BKeep Bd B C) : BKeep Bd A C :=
  ⟨Nat.le_trans h.size k.size, fun b cs hb h1 h2 => by
    obtain ⟨e, h3⟩ := h.row b cs hb h1 h2
    obtain ⟨e', h4⟩ := k.row b cs (e.trans hb) h1 h3
    exact ⟨e'.trans e, h4⟩⟩
theorem OwnU.keepB {w w' : World} {B Bd : Nat} {v : Value} {ss : List Int} (h : OwnU w B v ss) (hB : Bd < B) (hr : ∀ g, v.ownBlock = some g → rowOf w Bd ≠ some g) (hk : BKeep Bd w w') : OwnU w' B v ss ∧ ∀ g, v.ownBlock = some g → rowOf w' Bd ≠ some g := by
  rcases h.2 with h0 | ⟨g, cap, cur, rfl, hb, hg, r⟩
  · exact ⟨⟨h.1, .inl h0⟩, fun g e => by rw [h0.1] at e; simp [Value.ownBlock] at e⟩
  · obtain ⟨e, h3⟩ := hk.row g cur hg (by omega) (hr g rfl)
    exact ⟨⟨h.1, .inr ⟨g, cap, cur, rfl, hb, e.trans hg, r⟩⟩, fun g' e' => by simp only [Value.ownBlock, Option.some.injEq] at e'; subst e'; exact h3⟩
theorem bK_b {w : World} {Bd : Nat} (hBd : Bd < w.heap.size) (W : World) (l : Nat) (o o' : Obj) (hl : w.heap.size ≤ l) (h : W.heap[l]? = some o) (hc : o.isCells = false) (_ : o.isWalk = false) : BKeep Bd W (W.putObj l o') := by
  have hg := grownBy_putObj' W l o'
  refine ⟨hg.size, fun b cs hb h1 h2 => ⟨hg.block b (Array.getElem?_eq_some_iff.1 hb).1 fun e => ?_, ?_⟩⟩
  · cases e
    rw [h] at hb
    cases hb
    cases hc
  · rw [rowOf_same (W := W)]
    · exact h2
    · have hlt := (Array.getElem?_eq_some_iff.1 h).1
      exact hg.block Bd (by omega) fun e => by cases e; omega
set_option maxRecDepth 100000 in
set_option maxHeartbeats 1000000 in
theorem through63 (n : Nat) (hn : 1 ≤ n) (lp k B Bd : Nat) (kv vv : Value) (ks : List Int) (J Jx : List Int → World → Prop) (W : World) (hm : ZMap W B k kv vv ks) (hl : ks.length ≤ 10000) (hBd : Bd < W.heap.size) (hBr : ∀ g, rowOf W Bd = some g → g < W.heap.size) (hAJ : AbidesFrom W.heap.size J)
    (hY : ∀ pre x W1, J pre W1 → pre.length < ks.length → YieldAt Fence.wide (n - 1) Try.prog lp #[.int .u32 x, .agg #[]] W1 fun e W' => (e = .returned (.bool true) ∧ J (pre ++ [x]) W' ∧ BKeep Bd W1 W') ∨ (e = .returned (.bool false) ∧ Jx (pre ++ [x]) W'))
    (h0 : J [] W) : CallsIn Fence.wide n Try.prog 63 #[.pointer (some ⟨k, 0, none⟩), .int .i64 0, .func (.yield lp) #[] #[]] W fun e W' => (∃ v, e = .returned v) ∧
      ((∃ ys, ys = ks ∧ J ys W') ∨ (∃ pre, (∃ j, j ≤ ks.length ∧ pre = ks.take j) ∧ Jx pre W')) := by
  have CK := hid (fun u (h : OwnU u B kv ks) => clone70 B kv ks u h (by omega))
  have CV := hid (fun u => clone75 vv ks.length u hm.vals (by omega))
  have c0 := cell_of_row _ _ 0 _ _ _ hm.box
  have c1 := cell_of_row _ _ 1 _ _ _ hm.box
  dsimp at c0 c1
  obtain ⟨ka, kn, kc, rfl⟩ := hm.keys.slice
  obtain ⟨va, vn, vc, rfl⟩ := hm.vals.slice
  refine callsIn_of_wp Try.func63 rfl trivial ?_ rfl
  simp only [Try.ntmps63, List.size_toArray, List.length_cons, List.length_nil, Nat.reduceAdd, Nat.reduceSub, Array.replicate_succ, Array.replicate_zero, List.push_toArray, List.append_toArray, List.nil_append, List.cons_append]
  gi_wp2
  refine wpIn_wide.2 ?_
  refine wp_region_each [(some 12, [], false), (some 13, [(0, 12)], false), (some 14, [(1, 13)], false), (some 15, [(2, 14)], false), (some 16, [], false), (some 17, [(3, 15), (4, 16)], false), (some 18, [(5, 17)], false), (some 19, [], false), (some 20, [(7, 19)], false), (some 21, [(8, 20)], false), (some 22, [(9, 21)], false), (some 23, [], false), (some 24, [(10, 22), (11, 23)], false), (some 25, [(12, 24)], false), (some 6, [(6, 18)], true), (some 7, [(13, 25)], true)]
    (fun u => Below W.heap.size W u) (fun _ u u' => Below u.heap.size u u')
    (fun i v u => match i with | 0 => v = .pointer (some ⟨k, 0, none⟩) | 1 => v = .pointer (some ⟨k, 0, none⟩) | 2 => v = .pointer (some ⟨k, 0, none⟩) | 3 => v = .slice ka kn kc | 4 => v = .int .i64 0 | 5 => v = .slice ka kn kc | 6 => OwnU u W.heap.size v ks | 7 => v = .pointer (some ⟨k, 0, none⟩) | 8 => v = .pointer (some ⟨k, 0, none⟩) | 9 => v = .pointer (some ⟨k, 1, none⟩) | 10 => v = .slice va vn vc | 11 => v = .int .i64 0 | 12 => v = .slice va vn vc | 13 => ZV v ks.length | 14 => OwnU u W.heap.size v ks | 15 => ZV v ks.length | _ => True)
    (by kernel_rfl) (by kernel_rfl) (Below.refl _ _).drew (fun i u u' h h' => h.trans (h'.mono h.size)) (fun i j v u u' hn h h' hv => ?_) ⟨?_, ?_, ?_, ?_, ?_, ?_, ?_, ?_, ?_, ?_, ?_, ?_, ?_, ?_, ?_, ?_, trivial⟩ ?_
  · match j with
    | 0 => exact hv
    | 1 => exact hv
    | 2 => exact hv
    | 3 => exact hv
    | 4 => exact hv
    | 5 => exact hv
    | 6 => exact OwnU.later hv h'
    | 7 => exact hv
    | 8 => exact hv
    | 9 => exact hv
    | 10 => exact hv
    | 11 => exact hv
    | 12 => exact hv
    | 13 => exact hv
    | 14 => exact OwnU.later hv h'
    | 15 => exact hv
    | _ + 16 => trivial
  · rintro u hu
    exact opYields_val _ (by kernel_rfl) (by go_simp) ⟨Below.refl _ _, rfl⟩
  · rintro u hu _ rfl
    exact opYields_val _ (by kernel_rfl) (by go_simp) ⟨Below.refl _ _, rfl⟩
  · rintro u hu _ rfl
    exact opYields_val _ (by kernel_rfl) (by go_simp) ⟨Below.refl _ _, rfl⟩
  · rintro u hu _ rfl
    have e0 := (hu.cell (p := ⟨k, 0, none⟩) hm.lt).trans c0
    exact opYields_val _ (by kernel_rfl) (by go_simp) ⟨Below.refl _ _, rfl⟩
  · rintro u hu
    exact opYields_val _ (by kernel_rfl) (by go_simp) ⟨Below.refl _ _, rfl⟩
  · rintro u hu _ rfl _ rfl
    rcases hm.keys.row with ⟨e, _⟩ | ⟨g, cap, cur, e, _, _, hc, hx⟩
    · simp only [Value.slice.injEq] at e
      obtain ⟨rfl, rfl, rfl⟩ := e
      exact opYields_val _ (by kernel_rfl) (by go_simp) ⟨Below.refl _ _, rfl⟩
    · simp only [Value.slice.injEq] at e
      obtain ⟨rfl, rfl, rfl⟩ := e
      unfold maxLen at hx
      have hle : (ks.length : Int) ≤ (kc : Int) := by omega
      exact opYields_val _ (by kernel_rfl) (by go_simp) ⟨Below.refl _ _, rfl⟩
  · rintro u hu _ rfl
    exact opYields_call 70 #[.slice ka kn kc] (by kernel_rfl) (by go_simp) ((CK.out u (hm.keys.later hu)).mono fun x u' ⟨v, h1, h2, h3⟩ => ⟨v, h1, h3, ownU_mono h2 hu.size⟩)
  · rintro u hu
    exact opYields_val _ (by kernel_rfl) (by go_simp) ⟨Below.refl _ _, rfl⟩
  · rintro u hu _ rfl
    exact opYields_val _ (by kernel_rfl) (by go_simp) ⟨Below.refl _ _, rfl⟩
  · rintro u hu _ rfl
    exact opYields_val _ (by kernel_rfl) (by go_simp) ⟨Below.refl _ _, rfl⟩
  · rintro u hu _ rfl
    have e1 := (hu.cell (p := ⟨k, 1, none⟩) hm.lt).trans c1
    exact opYields_val _ (by kernel_rfl) (by go_simp) ⟨Below.refl _ _, rfl⟩
  · rintro u hu
    exact opYields_val _ (by kernel_rfl) (by go_simp) ⟨Below.refl _ _, rfl⟩
  · rintro u hu _ rfl _ rfl
    rcases hm.vals with ⟨e, _⟩ | ⟨g, cap, e, hc, hx⟩
    · simp only [Value.slice.injEq] at e
      obtain ⟨rfl, rfl, rfl⟩ := e
      exact opYields_val _ (by kernel_rfl) (by go_simp) ⟨Below.refl _ _, rfl⟩
    · simp only [Value.slice.injEq] at e
      obtain ⟨rfl, rfl, rfl⟩ := e
      unfold maxLen at hx
      have hle : (ks.length : Int) ≤ (vc : Int) := by omega
      exact opYields_val _ (by kernel_rfl) (by go_simp) ⟨Below.refl _ _, rfl⟩
  · rintro u hu _ rfl
    exact opYields_call 75 #[.slice va vn vc] (by kernel_rfl) (by go_simp) ((CV.out u).mono fun x u' ⟨⟨v, h1, h2⟩, h3⟩ => ⟨v, h1, h3, h2⟩)
  · rintro u hu v hv
    exact opYields_val v (by kernel_rfl) (by go_simp) ⟨Below.refl _ _, hv⟩
  · rintro u hu v hv
    exact opYields_val v (by kernel_rfl) (by go_simp) ⟨Below.refl _ _, hv⟩
  · rintro u hu _ _ _ _ _ _ _ _ _ _ _ _ _ _ kw hkw vw hvw
    simp only [givingAll, Act.put, List.setIfInBounds_toArray, List.set_cons_zero, List.set_cons_succ]
    have hJ := hAJ [] W u none h0 ⟨hu.os, hu.tape, hu.output, hu.size, fun b hb _ => hu.block b hb⟩ (fun r e => by cases e)
    have hap : ∀ g, kw.ownBlock = some g → rowOf u Bd ≠ some g := fun g e e' => by
      rw [rowOf_same (hu.block Bd hBd)] at e'
      have h1 := hBr g e'
      have h2 := (World.ownsRow.lt hkw g e).1
      omega
    clear hBr
    generalize W.heap.size = B0 at hkw hBd
    replace hvw : ZV vw ks.length := hvw
    obtain ⟨ka', kn', kc', rfl⟩ := hkw.slice
    obtain ⟨va', vn', vc', rfl⟩ := hvw.slice
    have hkn : kn' = ks.length := by
      rcases hkw.row with ⟨e, e2⟩ | ⟨g, cap, cur, e, _⟩
      · simp only [Value.slice.injEq] at e; rw [e2]; exact e.2.1
      · simp only [Value.slice.injEq] at e; exact e.2.1
    have hvn : vn' = ks.length := by
      rcases hvw with ⟨e, e2⟩ | ⟨g, cap, e, _⟩
      · simp only [Value.slice.injEq] at e; rw [e2]; exact e.2.1
      · simp only [Value.slice.injEq] at e; exact e.2.1
    have hva : 0 < ks.length → ∃ g, va' = some ⟨g, 0, none⟩ := fun h0 => by
      rcases hvw with ⟨e, e2⟩ | ⟨g, cap, e, _⟩
      · omega
      · simp only [Value.slice.injEq] at e; exact ⟨g, e.1⟩
    subst hkn
    subst hvn
    clear CK CV c0 c1 hm hAJ h0 hu
    have HZ := hid (fun j (hj : j < ks.length) => (show ks.take (j + 1) = ks.take j ++ [ks.getD j 0] by
      rw [List.take_succ_eq_append_getElem hj]
      simp [List.getD, List.getElem?_eq_getElem hj]))
    have HVA := hid hva
    clear hva hvw
    have HZ0 := hid (show ks.take 0 = [] by simp)
    have HZN := hid (show ks.take ks.length = ks by rw [List.take_length])
    generalize hN : ks.length = N at *
    have HN := hid hN
    clear hN
    gi_wp2
    gi_loopw [28] (fun i wr => ∃ j : Nat, j ≤ N ∧ i = .int .i64 j ∧ J (ks.take j) wr ∧ OwnU wr B0 (.slice ka' N kc') ks ∧ ∀ g, (Value.slice ka' N kc').ownBlock = some g → rowOf wr Bd ≠ some g) (fun i _ => N - (intOf i).toNat)
    case atStart => exact ⟨0, Nat.zero_le _, rfl, by rw [HZ0.out]; exact hJ, hkw, hap⟩
    case round =>
      obtain ⟨j, hj, rfl, hJj, hk', hap'⟩ := hrel
      by_cases hlt : j < N
      · obtain ⟨g, c, e, d0⟩ := hk'.at HN.out hlt
        have HAP := hid hap'
        obtain ⟨g', rfl⟩ := HVA.out (by omega)
        simp only [Value.slice.injEq, true_and] at e
        obtain ⟨rfl, rfl⟩ := e
        obtain ⟨fn, tmps, assign, body, hy, hR⟩ := hY _ (ks.getD j 0) wr hJj (by rw [List.length_take]; omega)
        have HZj := hid (HZ.out j hlt)
        generalize ks.getD j 0 = x at *
        gi_wp2
        refine hR.mono ?_
        rintro e W3 (⟨rfl, hJ3, hk3⟩ | ⟨rfl, hJx3⟩)
        · gi_wp2
          go_roundw
          case rel => exact ⟨j + 1, by omega, by go_num, by rw [HZj.out]; exact hJ3, hk'.keepB hBd HAP.out hk3⟩
          case measure => simp [intOf]; omega
        · gi_wp2
          refine bodyPost_ret (results_none rfl _ _ _) rfl ?_
          exact ⟨⟨_, rfl⟩, .inr ⟨_, ⟨j + 1, by rw [HN.out]; omega, HZj.out.symm⟩, hJx3⟩⟩
      · obtain rfl : j = N := by omega
        gi_wp2
        go_end0
        exact ⟨⟨_, rfl⟩, .inl ⟨_, rfl, by rw [HZN.out] at hJj; exact hJj⟩⟩
set_option maxRecDepth 100000 in
set_option maxHeartbeats 1000000 in
theorem all43 (k : Nat) (w : World) : Calls Try.prog 43 #[.pointer (some ⟨k, 0, none⟩)] w fun e w' => e = .returned (.func (.func 62) #[] #[.pointer (some ⟨w.heap.size, 0, none⟩)]) ∧ w' = w.alloc (.cells #[.pointer (some ⟨k, 0, none⟩)] 85) := by
  have hmf : ∀ (fn : Fn) (first cap : Array Value) (w : World), (Instr.makeFunc fn first cap).run Try.prog w = .ok (.func fn first cap) w := fun _ _ _ _ => rfl
  go_enter Try.func43, Try.ntmps43
  go_wp2_with fail
  go_ret
  exact ⟨rfl, rfl⟩
set_option maxRecDepth 100000 in
set_option maxHeartbeats 1000000 in
theorem all_stopsZ (n : Nat) (hn : 3 ≤ n) (bx k B Bd : Nat) (kv vv : Value) (ks : List Int) (w : World) (hbx : w.cell? ⟨bx, 0, none⟩ = some (.pointer (some ⟨k, 0, none⟩))) (hm : ZMap w B k kv vv ks) (hl : ks.length ≤ 10000) (hbd : Boxed w Bd 41 (.slice none 0 0)) :
    SeqStopsK Fence.wide n Try.prog 62 #[.pointer (some ⟨bx, 0, none⟩)] (fun x : Int => #[Value.int .u32 x, Value.agg #[]]) (BKeep Bd) (fun ys => ys = ks)
      (fun pre => ∃ j, j ≤ ks.length ∧ pre = ks.take j) ks.length w := fun lp J Jx W hW hA _ hY h0 => by
  have hmW := hm.later hW
  have hc := (hW.cell (p := ⟨bx, 0, none⟩) (World.block_lt_of_cell? w _ hbx)).trans hbx
  have HT := hid (through63 (n - 1) (by omega) lp k B Bd kv vv ks J Jx W hmW hl (Nat.lt_of_lt_of_le hbd.lt hW.size) (fun g e => by
    rw [rowOf_same (hW.block Bd hbd.lt), rowOf_box hbd] at e
    simp [Value.ownBlock] at e) hA (fun pre x W1 hJ hlt => yield_any (n - 1 - 1) (hY pre x W1 hJ hlt)) h0)
  clear hmW hm hW hA hY h0
  refine callsIn_of_wp Try.func62 rfl trivial ?_ rfl
  simp only [Try.ntmps62, List.size_toArray, List.length_cons, List.length_nil, Nat.reduceAdd, Nat.reduceSub, Array.replicate_succ, Array.replicate_zero, List.push_toArray, List.append_toArray, List.nil_append, List.cons_append]
  gi_wp2
  refine ⟨trivial, fun _ => by omega, HT.out.mono ?_⟩
  rintro e w' ⟨⟨v, rfl⟩, hh⟩
  gi_wp2
  go_end0
  exact ⟨⟨_, rfl⟩, hh⟩
end Go.Proofs.Ytfladpnphkoeiaa.Key

namespace Go.Proofs.Ytfladpnphkoeiaa.Key
open Go.RowKit Go.Shelf Draw Go.Maps
attribute [local go_sem] Oper.semAt_some
set_option linter.unusedVariables false
set_option linter.unusedSimpArgs false

set_option maxRecDepth 100000 in
/-- 'append(out, l...)', its run -/
theorem runU (w : World) (ty : TypeId) (B : Nat) (v : Value) (l : List Int) (hown : OwnU w B v l) (ad : Option Addr) (m c : Nat) (ys : List Int) (hnil : ad = none → m = 0 ∧ c = 0) (hl : ys.length = m) (hn : Nums w ad ys) (hsz : l.length + m ≤ 100000000) (hB : B ≤ w.heap.size) :
    ∃ v' w', (Builtin.append_ #[41, 41] ty #[v, .slice ad m c]).run Try.prog w = .ok v' w' ∧ OwnU w' B v' (l ++ ys) ∧ w.grownBy w' v.ownBlock ∧ (v'.ownBlock = v.ownBlock ∨ v'.ownBlock = some w.heap.size) := by
  obtain ⟨i0, hi, hz0, hz1, hz2⟩ := info_parts info23
  cases ad with
  | none =>
    obtain ⟨rfl, rfl⟩ := hnil rfl
    have hy : ys = [] := List.eq_nil_of_length_eq_zero hl
    subst hy
    exact ⟨v, w, run_append_owned_none (P := Try.prog) (w := w) B 41 ty 23 i0 1 Try.underlying41 hi v _ _ hown, by simpa using hown, ⟨rfl, rfl, rfl, Nat.le_refl _, fun _ _ _ => rfl⟩, .inl rfl⟩
  | some ad =>
    obtain ⟨v', w', hr, h2, h3, _, h5⟩ := run_append_own_at (P := Try.prog) w B 41 ty 23 i0 (.int .u32 0) 1 4 Try.underlying41 hi hz0 hz1 hz2 rfl (by decide) v _ _ hown ad m c (ys.map (Value.int .u32)) (by simp [hl]) hn.news (by intro u hu; simp at hu; obtain ⟨_, _, rfl⟩ := hu; rfl)
      (by unfold maxLen; omega) (by omega) hB
    refine ⟨v', w', hr, ?_, h3, h5⟩
    unfold OwnU
    rw [List.map_append, List.length_append, hl]
    exact h2
theorem appUsIn {F : Fence} {nF : Nat} {w : World} {ops : Array Oper} {rest : List Oper} {o : Oper} {a : Act} {Q : Exit → Act → World → Prop} (hgd : o.guard = none) (s x : Operand)
    (ho : o.op = .call { callee := .builtin .append, args := #[s, x], argTypes := #[41, 41] })
    (B : Nat) (v : Value) (l : List Int) (hs : a.eval s = v) (hown : OwnU w B v l) (ad : Option Addr) (m c : Nat) (ys : List Int) (hx : a.eval x = .slice ad m c) (hnil : ad = none → m = 0 ∧ c = 0) (hl : ys.length = m) (hn : Nums w ad ys) (hsz : l.length + m ≤ 100000000) (hB : B ≤ w.heap.size)
    (h : ∀ v' w', OwnU w' B v' (l ++ ys) → w.grownBy w' v.ownBlock → (v'.ownBlock = v.ownBlock ∨ v'.ownBlock = some w.heap.size) → wpListIn F nF Try.prog ops Q rest (a.put o.dst v') w') : wpListIn F nF Try.prog ops Q (o :: rest) a w := by
  refine wpListIn_plain hgd fun K hK => ?_
  obtain ⟨v', w', hr, h2, h3, h5⟩ := runU w o.type B v l hown ad m c ys hnil hl hn hsz hB
  unfold Oper.wpIn
  refine ⟨by simp [Oper.about, ho, resolve, Target.leads, Sem.run_pure], ?_⟩
  rw [Oper.semAt_plain F _ _ (by rw [ho]; intro c hc'; cases hc')]
  simp [execOp, ho, resolve, invoke, builtin, hs, hx, hr, Result.andThen]
  exact hK _ _ (h v' w' h2 h3 h5)
theorem bKeep_append {W w5 : World} {tmp : Obj} {v v' : Value} {Bd : Nat} (hgrow : (W.alloc tmp).grownBy w5 v.ownBlock) (hv : Boxed W Bd 41 v) (hat : v'.ownBlock = v.ownBlock ∨ v'.ownBlock = some (W.alloc tmp).heap.size) (hv2 : Boxed (w5.setCell ⟨Bd, 0, none⟩ v') Bd 41 v') : BKeep Bd W (w5.setCell ⟨Bd, 0, none⟩ v') := by
  have hg2 := grownBy_setCell' w5 Bd v'
  have hs0 : (W.alloc tmp).heap.size = W.heap.size + 1 := World.size_alloc _ _
  refine ⟨Nat.le_trans (by omega) (Nat.le_trans hgrow.size hg2.size), fun b cs hb h1 h2 => ?_⟩
  have hlt := (Array.getElem?_eq_some_iff.1 hb).1
  rw [rowOf_box hv] at h2
  rw [rowOf_box hv2]
  refine ⟨?_, ?_⟩
  · have hs := hgrow.size
    rw [hg2.block b (by omega) (fun e => h1 (by cases e; rfl)), hgrow.block b (by omega) (fun e => h2 e.symm)]
    exact heap_alloc_old W tmp hlt
  · rcases hat with h | h
    · rw [h]; exact h2
    · rw [h]
      intro e
      cases e
      omega
set_option maxRecDepth 100000 in
set_option maxHeartbeats 1000000 in
theorem reach17 (a ra : Option Addr) (c rc : Nat) (l : List It) (roots : List Int) (w : World) (hl : Fine l) (hr1 : roots.length ≤ 1000) (hU : (univ l roots).length ≤ 10000) (hwf : ∀ b ∈ univ l roots, (Lit.int .u32 b).wf = true)
    (hi : Items w a l) (hr : Nums w ra roots) (hnil : ra = none → roots.length = 0 ∧ rc = 0) :
    Calls Try.prog 17 #[.slice a l.length c, .slice ra roots.length rc] w fun e w' => (∃ ks, Full l roots ks ∧ ∃ v, e = .returned v ∧ OwnU w' w.heap.size v ks) ∧ Below w.heap.size w w' := by
  have hmf : ∀ (fn : Fn) (first cap : Array Value) (w : World), (Instr.makeFunc fn first cap).run Try.prog w = .ok (.func fn first cap) w := fun _ _ _ _ => rfl
  obtain ⟨hln, hin, hsm⟩ := hl
  have HP := places39 a c l w hln hin hi
  have HI := hid hi
  have HIN := hid hin
  have HSM := hid hsm
  have HWF := hid hwf
  have HU := hid hU
  have HR := hid hr
  obtain ⟨m1, HM1⟩ : ∃ m, Hid (l.length = m) := ⟨_, hid rfl⟩
  obtain ⟨m2, HM2⟩ : ∃ m, Hid (roots.length = m) := ⟨_, hid rfl⟩
  rw [HM1.out] at hln HP ⊢
  rw [HM2.out] at hr1 hnil ⊢
  clear hi hin hsm hwf hU hr
  refine (callsIn_wide (n := 9)).1 ?_
  refine callsIn_of_wp_marks Try.func17 rfl trivial ?_ rfl
  simp only [Try.ntmps17, List.size_toArray, List.length_cons, List.length_nil, Nat.reduceAdd, Nat.reduceSub, Array.replicate_succ, Array.replicate_zero, List.push_toArray, List.append_toArray, List.nil_append, List.cons_append]
  have HNL := hid hnil
  clear hnil
  gi_wp2_with (first
    | (refine ⟨trivial, ?_⟩; gi_at_call 39; refine (callsIn_wide.2 HP).mono ?_; rintro e w1 ⟨rfl, ⟨mm, hG⟩, hb1⟩)
    | (refine ⟨trivial, ?_⟩; gi_at_call 40; refine (callsIn_wide.2 (new40 w1)).mono ?_; rintro e w2 ⟨rfl, hZ2, hb2⟩; have hR2 := hid ((HR.out.later hb1).later hb2); have hs2 := hb2.size)
    | (gi_at_builtin; refine appUsIn rfl _ _ rfl w1.heap.size _ [] rfl (OwnU.nil _ _) ra m2 rc roots rfl HNL.out HM2.out hR2.out (by simp; omega) hs2 ?_; intro lv w3 ho3 hg3 hat3))
  have hR0 : RM w1 w1.heap.size [] roots (.slice none 0 0) (.slice none 0 0) lv w3 := by
    have h0 : RM w1 w1.heap.size [] [] (.slice none 0 0) (.slice none 0 0) (.slice none 0 0) w2 := ⟨hZ2, OwnU.nil _ _, by simp [Value.ownBlock], hb2⟩
    exact h0.app ho3 hg3 hat3
  obtain ⟨la, lc, rfl, hxx⟩ := hR0.row.nums
  clear hxx
  clear ho3 hg3 hat3 hZ2 hs2 hR2 HP HNL HR
  have hs1 := hb1.size
  generalize hB : w1.heap.size = B at *
  generalize hk0 : w.heap.size = k0 at *
  refine wpIn_wide.2 ?_
  go_loopg [7] ((univ l roots).length * 2001 + roots.length) (fun k v wr => ∃ ks left kv vv la lc, v = .slice la left.length lc ∧ Goes l roots ks left ∧ RM w1 B ks left kv vv (.slice la left.length lc) wr ∧ ((univ l roots).length - ks.length) * 2001 + left.length ≤ k ∧ k ≤ 30000000)
  case atStart => exact ⟨[], roots, _, _, la, lc, rfl, Goes.start l roots, hR0, by simp, by have := HU.out; rw [HM2.out]; omega⟩
  case round =>
    clear hR0
    obtain ⟨ks, left, kv, vv, ja, jc, rfl, hgo, hrm, hms, hgk⟩ := hrel
    have hks := Nat.le_trans hgo.len HU.out
    rcases List.eq_nil_or_concat left with rfl | ⟨left0, b, e⟩
    · have hfull := hid hgo.full
      have hS := hrm.map
      have hbw := hrm.bel
      clear hgo hms hrm hb2 hG
      have hb0w : Below k0 w wr := hb1.trans (hbw.mono hs1)
      have hbs : k0 ≤ wr.heap.size := by have := hS.lt; omega
      clear hb1 hbw
      go_wp2_with fail
      gi_wp2_with (refine ⟨trivial, ?_⟩; gi_at_call 43; refine (callsIn_wide.2 (all43 B _)).mono ?_; rintro e w' ⟨rfl, rfl⟩)
      have bD := (Boxed.new wr 41 (.slice none 0 0)).alloc (.cells #[.pointer (some ⟨B, 0, none⟩)] 85)
      have bM := Boxed.new (wr.alloc (.cells #[.slice none 0 0] 41)) 85 (.pointer (some ⟨B, 0, none⟩))
      rw [World.size_alloc] at bM
      have hbb : Below wr.heap.size wr ((wr.alloc (.cells #[.slice none 0 0] 41)).alloc (.cells #[.pointer (some ⟨B, 0, none⟩)] 85)) := (below_box wr _).alloc (by simp) _
      have hS0 := hS.later hbb
      have hb0 := hb0w.trans (hbb.mono hbs)
      have hsz : ((wr.alloc (.cells #[.slice none 0 0] 41)).alloc (.cells #[.pointer (some ⟨B, 0, none⟩)] 85)).heap.size = wr.heap.size + 2 := by simp
      clear hS hbb hb0w
      generalize ((wr.alloc (.cells #[.slice none 0 0] 41)).alloc (.cells #[.pointer (some ⟨B, 0, none⟩)] 85)) = W0 at *
      refine wpIn_rangeFunc_ownF rfl (by omega) (gf := 62) (lb := #[.pointer (some ⟨wr.heap.size + 1, 0, none⟩)]) rfl trivial (enters_of Try.func62 (by kernel_rfl) rfl)
        (all_stopsZ _ (by omega) (wr.heap.size + 1) B B wr.heap.size kv vv ks W0 bM.cell hS0 hks bD) (fun h k => h.trans k) (bK_b (w := W0) (by omega)) (Below.refl _ _) (fun _ => rfl)
        (fun (pre : List Int) W => (∃ v, Boxed W wr.heap.size 41 v ∧ W.ownsRow k0 23 1 v pre.length (pre.map (Value.int .u32)) ∧ True) ∧ Below k0 w W)
        (fun _ _ _ => False)
        (OwnFrom.and (Go.Own.from (holdsRow_own k0 wr.heap.size 41 23 1 (fun pre : List Int => pre.length) (fun pre : List Int => pre.map (Value.int .u32)) (fun _ _ => True)) _) (ownFrom_below (by omega) (by omega)))
        (fun c => fun s A B row hs hg hr => hs.elim)
        ⟨⟨_, bD, World.ownsRow_nil _ _ _ _, trivial⟩, hb0⟩
        ?a1 ?assign ?body ?done ?stop
      case assign =>
        intro lp x W K hK
        gi_wp2
        exact hK
      case stop =>
        rintro D cc pre W hD _ h _
        exact h.elim
      case body =>
        rintro lp pre x W ⟨⟨v, hv, hrow, _⟩, hBl⟩ hplt
        obtain ⟨i0, hi, hz0, hz1, hz2⟩ := info_parts info23
        have hcv := hv.cell
        have hBs := hBl.size
        have hpl2 : pre.length ≤ 10000 := by omega
        gi_wp2_with (gi_at_builtin; refine wpListIn_append_own_at _ rfl _ _ 41 rfl k0 23 i0 _ 1 4 Try.underlying41 hi hz0 hz1 hz2 rfl (by decide) _ _ _ rfl (hrow.alloc _) ⟨W.heap.size, 0, none⟩ 1 1 [.int .u32 x] rfl rfl (cell_one_new W _ _) (by intro u hu; simp at hu; subst hu; rfl) (by unfold maxLen; omega) (by omega) (by simp; omega) ?_; intro v' w5 hown' hgrow _ hat; obtain ⟨g', cap', rfl⟩ := ownsRow_succ hown'; obtain ⟨hv1, hv2, hr2, hk2, hb2⟩ := hv.appended (by decide) hrow (by omega) (by omega) hown' hgrow; have hc1 := hv1.cell; have hf1 := hv1.frozen)
        refine ⟨hk2, ?_, ⟨⟨_, hv2, ?_⟩, hBl.trans hb2⟩⟩
        · exact bKeep_append hgrow hv hat hv2
        · rw [List.map_append, List.length_append]
          exact ⟨hr2, trivial⟩
      case done =>
        rintro D ys W hD rfl ⟨⟨v, hv, hrow, _⟩, hBl⟩ hK
        have hcv := hv.cell
        gi_wp2
        refine ⟨by simp, .inl ⟨_, _, rfl, run_takeDeferred hK, ?_⟩⟩
        refine ⟨v, by simp [results, Try.f17, go_sem], ⟨ys, hfull.out, v, rfl, ?_⟩, ?_⟩
        · rw [hk0]
          unfold OwnU
          refine World.ownsRow.kept hrow (grownBy_putObj' W D (.deferred none)) ?_
          rcases hrow.2 with ⟨rfl, _⟩ | ⟨g, cap, cur, rfl, _, hg, _⟩
          · exact .inl rfl
          · refine .inr fun e => ?_
            simp only [Value.ownBlock, Option.some.injEq] at e
            subst e
            rw [hK] at hg
            cases hg
        · rw [hk0]
          exact hBl.trans (belowK_b (w := W0) (by omega) W D _ _ hD hK rfl rfl)
    · rw [List.concat_eq_append] at e
      subst e
      have hbu := (hgo.inL b (by simp)).univ
      have hwb := HWF.out b hbu
      have hlen : (left0 ++ [b]).length = left0.length + 1 := by simp
      rw [hlen] at hrm hms ⊢
      obtain ⟨g, c', e, d0⟩ := hrm.row.at hlen (Nat.lt_succ_self _)
      simp only [Value.slice.injEq, true_and] at e
      obtain ⟨rfl, rfl⟩ := e
      have hgd : (left0 ++ [b]).getD left0.length 0 = b := by simp [List.getD]
      rw [hgd] at d0
      have HPUT := put41 B B kv vv ks b w1 wr hrm.map hks hrm.bel
      have hcap : left0.length + 1 ≤ jc := by
        rcases hrm.row.2 with ⟨h, _⟩ | ⟨g, cap, cur, h, _, _, h5, _⟩
        · simp at h
        · simp only [Value.slice.injEq] at h
          rw [← h.2.2, hlen] at h5
          exact h5
      have HRM := hid hrm
      have HGO := hid hgo
      have HMS := hid hms
      clear hrm hgo hms hgd hlen
      generalize hN : left0.length = N at *
      have HN := hid hN
      clear hN
      have hNb : N ≤ 30000000 := by have := HMS.out; omega
      have hw1 : IntKind.i64.wrap (((N + 1 : Nat) : Int) - 1) = (N : Int) := by rw [IntKind.wrap_i64]; omega
      go_wp2_with fail
      refine HPUT.mono ?_
      clear HPUT
      rintro e w4 ⟨rfl, ⟨kv', vv', hm4, hf4⟩, hb4⟩
      have hrm4 := hid (HRM.out.put (by rw [HN.out]) HN.out.symm hm4 hf4 hb4)
      clear HRM hm4 hf4 d0
      cases ht : there ks b
      · have hlk := hid (putK_new ht)
        have hln2 := hid (HGO.out.new.len)
        have hG4 := hG.later (by rw [hB]; exact hb4)
        obtain ⟨y, HY⟩ : ∃ y, Hid (placeF l b = y) := ⟨_, hid rfl⟩
        clear ht
        cases y with
        | none =>
          have hgo' := HGO.out.new
          rw [succ_none HY.out, List.append_nil] at hgo'
          have HGO' := hid hgo'
          clear hgo' HGO
          go_wp2_with (first | (at_lookup; refine look rfl _ _ 83 rfl 3 .i64 Try.underlying83 Try.underlying3 (zero3 _) k0 mm (placeF l) rfl hG4 b rfl hwb ?_; rw [HY.out]; dsimp only [Option.getD, Option.isSome]) | fail)
          go_roundg (((univ l roots).length - (putK ks b).length) * 2001 + left0.length)
          case measure => have := HMS.out; rw [hlk.out, HN.out]; omega
          case rel => exact ⟨putK ks b, left0, kv', vv', _, jc, by rw [HN.out], HGO'.out, by rw [HN.out]; exact hrm4.out, Nat.le_refl _, by have := HMS.out; rw [hlk.out, HN.out]; omega⟩
        | some p =>
          obtain ⟨i, hi, rfl, hsu⟩ := succ_of HY.out
          have hi1 : i < m1 := by rw [← HM1.out]; exact hi
          have hxs := HSM.out _ (List.getElem_mem hi)
          have hgo' := HGO.out.new
          obtain ⟨bb, off, rfl, h6, h7⟩ := (HI.out.later (by rw [hk0]; exact hb1.trans (hb4.mono hs1))).at hi
          have HT := targets17 _ _ _ hxs.few h7
          have htl := targets_len hxs.few
          rw [hsu] at hgo'
          have HGO' := hid hgo'
          obtain ⟨x, HX⟩ : ∃ m, Hid (l[i] = m) := ⟨_, hid rfl⟩
          rw [HX.out] at h6 HT htl HGO'
          generalize targetsL x.nd = T at *
          obtain ⟨bk, ⟨lf, ps, pv, es, bf⟩, ⟨a1, c1, a2, c2, a3, c3, a4, c4⟩⟩ := x
          obtain ⟨d0, d1, d2, d3, d4, d5⟩ := h6
          dsimp only [nv] at *
          clear h7 hxs hgo' HGO hsu
          generalize ps.length = n1 at *
          generalize pv.length = n2 at *
          generalize es.length = n3 at *
          generalize bf.length = n4 at *
          go_wp2_with (first | (at_lookup; refine look rfl _ _ 83 rfl 3 .i64 Try.underlying83 Try.underlying3 (zero3 _) k0 mm (placeF l) rfl hG4 b rfl hwb ?_; rw [HY.out]; dsimp only [Option.getD, Option.isSome]) | fail)
          refine HT.mono ?_
          clear HT d0 d1 d2 d3 d4 d5
          rintro e w5 ⟨tv, rfl, hv5, hb5⟩
          obtain ⟨ta, tc, rfl, hnums, hnil⟩ := hv5.nums
          have hrm5 := hid (hrm4.out.later hb5)
          have hB5 : B ≤ w5.heap.size := Nat.le_of_lt hrm5.out.big
          obtain ⟨tn, HTN⟩ : ∃ m, Hid (T.length = m) := ⟨_, hid rfl⟩
          rw [HTN.out] at htl hnil ⊢
          have HNL := hid hnil
          have HNU := hid hnums
          clear hv5 hb5 hb4 hrm4 hnil hnums
          go_wp2_with (first | (at_builtin; refine appUsAt rfl _ _ rfl B _ left0 rfl hrm5.out.row ta tn tc T rfl HNL.out HTN.out HNU.out (by rw [HN.out]; omega) hB5 ?_; intro lv' w6 ho6 hg6 hat6; have hrm6 := hid (hrm5.out.app ho6 hg6 hat6); clear hrm5 ho6 hg6 hat6) | fail)
          obtain ⟨ja', jc', rfl, _⟩ := hrm6.out.row.nums
          go_roundg (((univ l roots).length - (putK ks b).length) * 2001 + (left0 ++ T).length)
          case measure => have := HMS.out; have := hln2.out; rw [hlk.out, List.length_append, HTN.out, HN.out]; rw [hlk.out] at this; omega
          case rel => exact ⟨putK ks b, left0 ++ T, kv', vv', _, jc', rfl, HGO'.out, hrm6.out, Nat.le_refl _, by have := HMS.out; have := hln2.out; rw [hlk.out, List.length_append, HTN.out, HN.out]; rw [hlk.out] at this; omega⟩
      · have hgo' := hid (HGO.out.old ht)
        have hrm5 := hrm4.out
        rw [putK_old ht] at hrm5
        have hrm5 := hid hrm5
        clear HGO hrm4 ht
        go_wp2_with fail
        go_roundg (((univ l roots).length - ks.length) * 2001 + left0.length)
        case measure => have := HMS.out; rw [HN.out]; omega
        case rel => exact ⟨ks, left0, kv', vv', _, jc, by rw [HN.out], hgo'.out, by rw [HN.out]; exact hrm5.out, Nat.le_refl _, by have := HMS.out; rw [HN.out]; omega⟩
end Go.Proofs.Ytfladpnphkoeiaa.Key
