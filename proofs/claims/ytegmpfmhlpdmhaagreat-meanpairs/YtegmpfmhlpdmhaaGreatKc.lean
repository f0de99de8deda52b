/-
  Plain: the length of keys; rows that a loop makes; ways by depth, one level behind the other. No program is named here.
  What a block's pairs are, part by part: cuts of a range, the parts between them, and what a node has in a part. No program is named here.
  A key's value, step by step, plain.
  Ways, as the program sums them: by rising depth. Plain.
-/
import Derived.Test.YtegmpfmhlpdmhaaGreatKp
import Derived.Test.YtegmpfmhlpdmhaaGreatRefs
namespace Go.Proofs.YtegmpfmhlpdmhaaGreat.Key
open Go.Op (bytesLess)
set_option linter.unusedVariables false
set_option linter.unusedSimpArgs false

/-- keys that are no longer than so -/
def KIn (B : Nat) (ps : List Pr) : Prop := ∀ p ∈ ps, p.key.size ≤ B
theorem KIn.nil (B : Nat) : KIn B [] := fun _ h => by cases h
theorem KIn.mono {A B : Nat} {ps : List Pr} (h : KIn A ps) (hb : A ≤ B) : KIn B ps := fun p hp => Nat.le_trans (h p hp) hb
theorem KIn.filter {B : Nat} {ps : List Pr} (h : KIn B ps) (f : Pr → Bool) : KIn B (ps.filter f) := fun p hp => h p (List.mem_filter.1 hp).1
theorem KIn.ins {B : Nat} {ps : List Pr} (h : KIn B ps) {p : Pr} (hp : p.key.size ≤ B) : KIn B (insP ps p) := fun q hq => by
  rcases mem_ins.1 hq with rfl | hq
  · exact hp
  · exact h q hq
theorem KIn.put {B : Nat} {ps : List Pr} (h : KIn B ps) {p : Pr} (hp : p.key.size ≤ B) : KIn B (putP ps p) := KIn.ins (h.filter _) hp
theorem up_len {w : Lft} {k x : List UInt8} (h : up w k = some x) : x.length ≤ w.add.length + k.length := by
  obtain ⟨t, rfl, rfl⟩ := up_some h
  simp
theorem KIn.one {A B : Nat} {out : List Pr} (h : KIn B out) {w : Lft} (hw : w.strip.length + A ≤ B) (r : Rng) {f : Pr} (hf : f.key.size ≤ A) : KIn B (addOne w r out f) := by
  unfold addOne
  split
  · rename_i k hk
    have h1 := up_len hk
    split
    · refine h.put ?_
      show (str k).size ≤ B
      rw [str_size]
      have e : (kOf f).length = f.key.size := by unfold kOf; rw [Lib.size_eq]
      have e2 : (turn w).add.length = w.strip.length := rfl
      omega
    · exact h
  · exact h
theorem KIn.add {A B : Nat} {w : Lft} (hw : w.strip.length + A ≤ B) (r : Rng) : ∀ {far out : List Pr}, KIn B out → KIn A far → KIn B (addL w r far out)
  | [], _, h, _ => h
  | f :: far, _, h, hf => KIn.add hw r (far := far) (h.one hw r (hf f (by simp))) fun p hp => hf p (by simp [hp])
theorem edges_small {n : Nd} (h : mayI n = 0) {e : E} (he : e ∈ n.ks) : e.strip.size ≤ 16 ∧ e.add.size ≤ 16 := by
  have h1 := may_zero h
  unfold fineB at h1
  cases hl : n.leaf
  · rw [hl] at h1
    unfold forkB at h1
    simp only [Bool.false_eq_true, if_false, Bool.and_eq_true] at h1
    obtain ⟨i, hi, rfl⟩ := List.getElem_of_mem he
    have := upTo_at h1.2.2.2.1 hi
    rw [edgeAt_at hi] at this
    unfold okE at this
    simp only [Bool.and_eq_true, decide_eq_true_eq] at this
    exact this.2
  · obtain ⟨e, _⟩ := leaf_bare hl h
    rw [e] at he
    cases he
theorem msgs_small {n : Nd} (h : mayI n = 0) {m : M} (hm : m ∈ n.bf) : m.key.size ≤ 16 ∧ m.val.size ≤ 32 ∧ m.add.size ≤ 16 := by
  have h1 := may_zero h
  unfold fineB at h1
  cases hl : n.leaf
  · rw [hl] at h1
    unfold forkB at h1
    simp only [Bool.false_eq_true, if_false, Bool.and_eq_true] at h1
    obtain ⟨i, hi, rfl⟩ := List.getElem_of_mem hm
    have := upTo_at h1.2.2.2.2 hi
    rw [msgAt_at hi] at this
    unfold mayB at this
    simp only [Bool.and_eq_true, decide_eq_true_eq] at this
    exact ⟨this.1, this.2.1, this.2.2.1⟩
  · obtain ⟨_, e⟩ := leaf_bare hl h
    rw [e] at hm
    cases hm
theorem pairs_small {n : Nd} (h : mayI n = 0) (hl : n.leaf = true) {p : Pr} (hp : p ∈ n.ps) : p.key.size ≤ 16 ∧ p.val.size ≤ 32 := by
  have h1 := may_zero h
  unfold fineB at h1
  rw [hl] at h1
  unfold leafB at h1
  simp only [if_true, Bool.and_eq_true] at h1
  have h2 := h1.2.2.2
  rw [upTo_and] at h2
  simp only [Bool.and_eq_true] at h2
  obtain ⟨i, hi, rfl⟩ := List.getElem_of_mem hp
  have := upTo_at h2.1 hi
  rw [okAt_at hi] at this
  unfold okP at this
  simpa using this
theorem kin_kids {f : Int → List Pr} {n : Nd} {A : Nat} (hf : ∀ e ∈ n.ks, KIn A (f e.blk)) (he : ∀ e ∈ n.ks, e.strip.size ≤ 16) : ∀ j, j ≤ n.ks.length → KIn (A + 16) (kidsC f n j)
  | 0, _ => KIn.nil _
  | j + 1, hj => by
    have hm : n.ks.getD j E.nil ∈ n.ks := by rw [getD_at (show j < n.ks.length by omega)]; exact List.getElem_mem _
    rw [kidsC]
    refine KIn.add ?_ _ (kin_kids hf he j (by omega)) (hf _ hm)
    have := he _ hm
    show (n.ks.getD j E.nil).strip.data.toList.length + A ≤ A + 16
    rw [← Lib.size_eq]
    omega
theorem KIn.msg {f : Int → List Pr} {A : Nat} {out : List Pr} {m : M} (h : KIn (A + 16) out) (hf : m.kind = 3 → KIn A (f m.blk)) (hk : m.key.size ≤ 16) : KIn (A + 16) (msgC f out m) := by
  unfold msgC
  split
  · rename_i h3
    refine KIn.add ?_ _ (h.filter _) (hf h3)
    show m.key.data.toList.length + A ≤ A + 16
    rw [← Lib.size_eq]
    omega
  · split
    · exact h.put (by show m.key.size ≤ _; omega)
    · split
      · exact h.filter _
      · exact KIn.nil _
theorem KIn.msgs {f : Int → List Pr} {A : Nat} : ∀ {bf : List M} {out : List Pr}, KIn (A + 16) out → (∀ m ∈ bf, m.kind = 3 → KIn A (f m.blk)) → (∀ m ∈ bf, m.key.size ≤ 16) → KIn (A + 16) (bf.foldl (msgC f) out)
  | [], _, h, _, _ => h
  | m :: bf, _, h, hf, hk => KIn.msgs (bf := bf) (h.msg (hf m (by simp)) (hk m (by simp))) (fun m hm => hf m (by simp [hm])) fun m hm => hk m (by simp [hm])
/-- of a right graph: no key is longer than 16 for each step down -/
theorem cont_keys {l : List It} (h : rightB l = true) : ∀ (d : Nat) (b : Int), KIn (16 * d) (contF l d b)
  | 0, b => KIn.nil _
  | d + 1, b => by
    cases hx : findI l b with
    | none => rw [contF, hx]; exact KIn.nil _
    | some x =>
      have hm := right_may h (find_in hx)
      rw [contF, hx]
      show KIn _ (nodeC (contF l d) x.nd)
      unfold nodeC
      cases hl : x.nd.leaf
      · simp only [Bool.false_eq_true, if_false]
        have h1 := kin_kids (A := 16 * d) (fun e _ => cont_keys h d e.blk) (fun e he => (edges_small hm he).1) _ (Nat.le_refl _)
        exact (KIn.msgs h1 (fun m _ _ => cont_keys h d m.blk) fun m hm' => (msgs_small hm hm').1).mono (by omega)
      · simp only [if_true]
        intro p hp
        have := (pairs_small hm hl hp).1
        omega

/-- is one of them greater? -/
def anyP (p : Pr) (l : List Pr) : Bool := l.any fun q => bytesLess (kOf p) (kOf q)
theorem ins_not {l : List Pr} {p : Pr} (h : anyP p l = false) : insP l p = l ++ [p] := by
  induction l with
  | nil => rfl
  | cons q l ih =>
    unfold anyP at h ih
    rw [List.any_cons, Bool.or_eq_false_iff] at h
    rw [insP, h.1, ih h.2]
    rfl
theorem ins_snoc {l : List Pr} {p : Pr} (x : Pr) (h : anyP p l = true) : insP (l ++ [x]) p = insP l p ++ [x] := by
  induction l with
  | nil => cases h
  | cons q l ih =>
    unfold anyP at h ih
    rw [List.cons_append, insP, insP]
    cases hq : bytesLess (kOf p) (kOf q)
    · rw [List.any_cons, hq, Bool.false_or] at h
      simp only [Bool.false_eq_true, if_false, List.cons_append]
      rw [ih h]
    · rfl
theorem ins_now {l : List Pr} {p x : Pr} (h : anyP p l = false) (hx : bytesLess (kOf p) (kOf x) = true) : insP (l ++ [x]) p = l ++ [p, x] := by
  induction l with
  | nil => rw [List.nil_append, insP, hx]; rfl
  | cons q l ih =>
    unfold anyP at h ih
    rw [List.any_cons, Bool.or_eq_false_iff] at h
    rw [List.cons_append, insP, h.1]
    simp only [Bool.false_eq_true, if_false, List.cons_append]
    rw [ih h.2]
theorem any_snoc (p x : Pr) (l : List Pr) : anyP p (l ++ [x]) = (anyP p l || bytesLess (kOf p) (kOf x)) := by
  unfold anyP
  rw [List.any_append]
  simp
/-- what the loop has made -/
def insD (l : List Pr) (p : Pr) : List Pr := if anyP p l then insP l p else l
theorem insD_nil (p : Pr) : insD [] p = [] := rfl
theorem insD_done {l : List Pr} {p x : Pr} (h : anyP p l = true) : insD (l ++ [x]) p = insD l p ++ [x] := by
  unfold insD
  rw [any_snoc, h, Bool.true_or, if_pos rfl, if_pos rfl, ins_snoc x h]
theorem insD_now {l : List Pr} {p x : Pr} (h : anyP p l = false) (hx : bytesLess (kOf p) (kOf x) = true) : insD (l ++ [x]) p = insD l p ++ [p] ++ [x] := by
  unfold insD
  rw [any_snoc, h, hx, Bool.false_or, if_pos rfl, if_neg (by simp), ins_now h hx]
  simp
theorem insD_on {l : List Pr} {p x : Pr} (h : anyP p l = false) (hx : bytesLess (kOf p) (kOf x) = false) : insD (l ++ [x]) p = insD l p ++ [x] := by
  unfold insD
  rw [any_snoc, h, hx, Bool.false_or, if_neg (by simp), if_neg (by simp)]
theorem insD_end {l : List Pr} {p : Pr} : insP l p = if anyP p l then insD l p else insD l p ++ [p] := by
  unfold insD
  cases h : anyP p l
  · simp only [Bool.false_eq_true, if_false]; exact ins_not h
  · simp

/-- the most that ways are reckoned to -/
def M30 : Nat := 1073741824
/-- ways that are reckoned to M30 -/
def waysM (l : List It) (b : Int) : Nat := min (waysF l 65535 b) M30
def wref (l : List It) (x : It) : Rf := ⟨x.blk, (waysM l x.blk : Nat)⟩
/-- a target's ways added, as they are found -/
def sumD (done : List Rf) (t : Int) (s : Nat) : Nat := done.foldl (fun s r => if r.blk = t then min (s + r.n.toNat) M30 else s) s
def sumT (done : List Rf) (ts : List Int) (s : Nat) : Nat := ts.foldl (fun s t => sumD done t s) s
theorem sum_none {l : List It} {S : List It} {t : Int} (h : ∀ x ∈ S, x.blk ≠ t) (s : Nat) : sumD (S.map (wref l)) t s = s := by
  induction S generalizing s with
  | nil => rfl
  | cons x S ih =>
    unfold sumD at ih ⊢
    rw [List.map_cons, List.foldl_cons, if_neg (show ¬ (wref l x).blk = t from h x (by simp))]
    exact ih (fun y hy => h y (by simp [hy])) s
theorem sum_one {l : List It} {S : List It} (hp : S.Pairwise fun x y => x.blk ≠ y.blk) {y : It} (hy : y ∈ S) (s : Nat) : sumD (S.map (wref l)) y.blk s = min (s + waysM l y.blk) M30 := by
  induction S generalizing s with
  | nil => cases hy
  | cons x S ih =>
    obtain ⟨h1, h2⟩ := List.pairwise_cons.1 hp
    rcases List.mem_cons.1 hy with rfl | hy
    · have e : sumD ((y :: S).map (wref l)) y.blk s = sumD (S.map (wref l)) y.blk (min (s + waysM l y.blk) M30) := by
        unfold sumD
        rw [List.map_cons, List.foldl_cons, if_pos (show (wref l y).blk = y.blk from rfl)]
        rfl
      rw [e, sum_none (fun z hz => (h1 z hz).symm)]
    · have e : sumD ((x :: S).map (wref l)) y.blk s = sumD (S.map (wref l)) y.blk s := by
        unfold sumD
        rw [List.map_cons, List.foldl_cons, if_neg (show ¬ (wref l x).blk = y.blk from h1 y hy)]
      rw [e, ih h2 hy]
theorem sum_all {l : List It} {S : List It} (hp : S.Pairwise fun x y => x.blk ≠ y.blk) : ∀ (ts : List Int) (a : Nat), (∀ t ∈ ts, ∃ y ∈ S, y.blk = t) → sumT (S.map (wref l)) ts (min a M30) = min (a + (ts.map (waysF l 65535)).sum) M30
  | [], a, _ => by simp [sumT]
  | t :: ts, a, h => by
    obtain ⟨y, hy, rfl⟩ := h t (by simp)
    have e : sumT (S.map (wref l)) (y.blk :: ts) (min a M30) = sumT (S.map (wref l)) ts (sumD (S.map (wref l)) y.blk (min a M30)) := rfl
    rw [e, sum_one hp hy]
    have e2 : min (min a M30 + waysM l y.blk) M30 = min (a + waysF l 65535 y.blk) M30 := by unfold waysM; omega
    rw [e2, sum_all hp ts _ fun t ht => h t (by simp [ht])]
    simp only [List.map_cons, List.sum_cons]
    congr 1
    omega
/-- the nodes of one depth; of all depths to D -/
def lev (l : List It) (d : Nat) : List It := l.filter fun x => decide (deepI x.nd = d)
def levs (l : List It) (D : Nat) : List It := (List.range D).flatMap fun d => lev l (d + 1)
theorem levs_succ (l : List It) (D : Nat) : levs l (D + 1) = levs l D ++ lev l (D + 1) := by
  unfold levs
  rw [List.range_succ, List.flatMap_append]
  simp
theorem mem_lev {l : List It} {d : Nat} {x : It} : x ∈ lev l d ↔ x ∈ l ∧ deepI x.nd = d := by unfold lev; rw [List.mem_filter]; simp
theorem mem_levs {l : List It} {D : Nat} {x : It} : x ∈ levs l D ↔ x ∈ l ∧ 1 ≤ deepI x.nd ∧ deepI x.nd ≤ D := by
  unfold levs
  rw [List.mem_flatMap]
  constructor
  · rintro ⟨d, hd, hx⟩
    obtain ⟨h1, h2⟩ := mem_lev.1 hx
    have := List.mem_range.1 hd
    exact ⟨h1, by omega, by omega⟩
  · rintro ⟨h1, h2, h3⟩
    exact ⟨(deepI x.nd - 1).toNat, List.mem_range.2 (by omega), mem_lev.2 ⟨h1, by omega⟩⟩
theorem right_rises {l : List It} (h : rightB l = true) : ∀ i j (hi : i < j) (hj : j < l.length), (l[i]'(by omega)).blk < l[j].blk := by
  unfold rightB at h
  simp only [Bool.and_eq_true] at h
  exact rises h.1
theorem right_apart {l : List It} (h : rightB l = true) : l.Pairwise fun x y => x.blk ≠ y.blk :=
  List.pairwise_iff_getElem.2 fun i j hi hj hij => by have := right_rises h i j hij hj; omega
theorem blk_one {l : List It} (h : rightB l = true) {x y : It} (hx : x ∈ l) (hy : y ∈ l) (e : x.blk = y.blk) : x = y := by
  obtain ⟨i, hi, rfl⟩ := List.getElem_of_mem hx
  obtain ⟨j, hj, rfl⟩ := List.getElem_of_mem hy
  rcases Nat.lt_trichotomy i j with hlt | rfl | hlt
  · have := right_rises h i j hlt hj; omega
  · rfl
  · have := right_rises h j i hlt hi; omega
theorem find_of {l : List It} (h : rightB l = true) {x : It} (hx : x ∈ l) : findI l x.blk = some x := by
  obtain ⟨i, hi, rfl⟩ := List.getElem_of_mem hx
  exact find_place (right_rises h) hi
theorem levs_apart {l : List It} (h : rightB l = true) (D : Nat) (i : Nat) : (levs l D ++ lev (l.take i) (D + 1)).Pairwise fun x y => x.blk ≠ y.blk := by
  have hl := right_apart h
  have cross : ∀ x ∈ l, ∀ y ∈ l, deepI x.nd ≠ deepI y.nd → x.blk ≠ y.blk := fun x hx y hy hne e => hne (by rw [blk_one h hx hy e])
  induction D generalizing i with
  | zero =>
    show ([] ++ lev (l.take i) 1).Pairwise _
    rw [List.nil_append]
    exact (hl.sublist (List.take_sublist _ _)).filter _
  | succ D ih =>
    have h1 := ih l.length
    rw [List.take_length] at h1
    rw [levs_succ]
    refine List.pairwise_append.2 ⟨h1, (hl.sublist (List.take_sublist _ _)).filter _, fun x hx y hy => ?_⟩
    have hy' := mem_lev.1 hy
    have hyl := (List.take_sublist i l).subset hy'.1
    rcases List.mem_append.1 hx with hx | hx
    · have hx' := mem_levs.1 hx
      exact cross x hx'.1 y hyl (by omega)
    · have hx' := mem_lev.1 hx
      exact cross x hx'.1 y hyl (by omega)
/-- a node's ways, reckoned from those of less depth -/
theorem sum_is {l : List It} (h : rightB l = true) {x : It} (hx : x ∈ l) (D i : Nat) (hd : deepI x.nd = (D + 1 : Nat)) : sumT ((levs l D ++ lev (l.take i) (D + 1)).map (wref l)) (targetsL x.nd) 1 = waysM l x.blk := by
  have e := sum_all (l := l) (levs_apart h D i) (targetsL x.nd) 1 (fun t ht => by
    obtain ⟨y, hy, hlt⟩ := right_deep h hx ht
    have hyl := find_in hy
    refine ⟨y, List.mem_append.2 (.inl (mem_levs.2 ⟨hyl, deep_pos (right_may h hyl), by omega⟩)), ?_⟩
    have := List.find?_some hy
    simpa using this)
  have e1 : min 1 M30 = 1 := by unfold M30; omega
  rw [e1] at e
  rw [e]
  unfold waysM
  obtain ⟨d, hdd⟩ : ∃ d, 65535 = d + 1 := ⟨65534, rfl⟩
  rw [hdd, ways_some (find_of h hx) d, ← hdd]
  congr 2
  refine congrArg List.sum (List.map_congr_left fun t ht => ?_)
  obtain ⟨y, hy, hlt⟩ := right_deep h hx ht
  have h5 := right_le h hx
  exact ways_deep h _ _ t y hy (by omega) (by omega)
theorem lev_step {l : List It} {i d : Nat} (hi : i < l.length) : lev (l.take (i + 1)) d = lev (l.take i) d ++ if deepI l[i].nd = d then [l[i]] else [] := by
  unfold lev
  rw [List.take_succ_eq_append_getElem hi, List.filter_append]
  congr 1
  by_cases e : deepI l[i].nd = d <;> simp [e]
/-- the ways of a block, as the document has them -/
def waysR (l : List It) (root : Int) : Nat := if rightB l then waysM l root else 0
theorem ways_end {l : List It} (h : rightB l = true) (root : Int) : (((levs l l.length).map (wref l)).find? fun r => r.blk == root).map (·.n) = if (findI l root).isSome then some ((waysM l root : Nat) : Int) else none := by
  cases hf : findI l root with
  | none =>
    simp only [Option.isSome_none, Bool.false_eq_true, if_false, Option.map_eq_none_iff]
    rw [List.find?_eq_none]
    intro r hr hb
    obtain ⟨x, hx, rfl⟩ := List.mem_map.1 hr
    have hb' : x.blk = root := by simpa [wref] using hb
    have := find_of h (mem_levs.1 hx).1
    rw [hb', hf] at this
    cases this
  | some x =>
    have hxl := find_in hf
    have hxb : x.blk = root := by simpa using List.find?_some hf
    have hm : x ∈ levs l l.length := mem_levs.2 ⟨hxl, deep_pos (right_may h hxl), right_len h hxl⟩
    cases hg : ((levs l l.length).map (wref l)).find? fun r => r.blk == root with
    | none =>
      rw [List.find?_eq_none] at hg
      exact absurd (by simp [wref, hxb]) (hg _ (List.mem_map.2 ⟨x, hm, rfl⟩))
    | some r =>
      obtain ⟨y, hy, rfl⟩ := List.mem_map.1 (List.mem_of_find?_eq_some hg)
      have hyb : y.blk = root := by simpa [wref] using List.find?_some hg
      simp [wref, hyb]
theorem ways_out {l : List It} {root : Int} (h : findI l root = none) : waysM l root = 0 := by unfold waysM; rw [ways_none h]; rfl
end Go.Proofs.YtegmpfmhlpdmhaaGreat.Key

namespace Go.Proofs.YtegmpfmhlpdmhaaGreat.Key
open Go.Op (bytesLess)
set_option linter.unusedVariables false
set_option linter.unusedSimpArgs false

theorem kids_congr {f g : Int → List Pr} {n : Nd} (h : ∀ e ∈ n.ks, f e.blk = g e.blk) : ∀ j, j ≤ n.ks.length → kidsC f n j = kidsC g n j
  | 0, _ => rfl
  | j + 1, hj => by
    have hm : n.ks.getD j E.nil ∈ n.ks := by rw [getD_at (by omega)]; exact List.getElem_mem _
    rw [kidsC, kidsC, kids_congr h j (by omega), h _ hm]
theorem msgs_congr {f g : Int → List Pr} : ∀ {l : List M} {out : List Pr}, (∀ m ∈ l, m.kind = 3 → f m.blk = g m.blk) → l.foldl (msgC f) out = l.foldl (msgC g) out
  | [], _, _ => rfl
  | m :: l, out, h => by
    have e : msgC f out m = msgC g out m := by
      unfold msgC
      by_cases h3 : m.kind = 3
      · rw [if_pos h3, if_pos h3, h m (by simp) h3]
      · rw [if_neg h3, if_neg h3]
    show l.foldl (msgC f) (msgC f out m) = l.foldl (msgC g) (msgC g out m)
    rw [e]
    exact msgs_congr fun m' hm' => h m' (by simp [hm'])
theorem node_congr {f g : Int → List Pr} {n : Nd} (h : ∀ t ∈ targetsL n, f t = g t) : nodeC f n = nodeC g n := by
  unfold nodeC
  cases n.leaf
  · simp only [Bool.false_eq_true, if_false]
    rw [kids_congr (fun e he => h _ (targ_kid he)) _ (Nat.le_refl _)]
    exact msgs_congr fun m hm h3 => h _ (targ_goto hm h3)
  · rfl
theorem cont_deep {l : List It} (h : rightB l = true) : ∀ (d e : Nat) (b : Int) (x : It), findI l b = some x → deepI x.nd ≤ d → deepI x.nd ≤ e → contF l d b = contF l e b
  | 0, _, b, x, hx, hd, _ => by have := deep_pos (right_may h (find_in hx)); omega
  | _ + 1, 0, b, x, hx, _, he => by have := deep_pos (right_may h (find_in hx)); omega
  | d + 1, e + 1, b, x, hx, hd, he => by
    rw [contF, contF, hx]
    refine node_congr fun t ht => ?_
    obtain ⟨y, hy, hlt⟩ := right_deep h (find_in hx) ht
    exact cont_deep h d e t y hy (by omega) (by omega)
/-- all pairs of a block -/
def contL (l : List It) (b : Int) : List Pr := contF l 65535 b
theorem cont_fix {l : List It} (h : rightB l = true) {b : Int} {x : It} (hx : findI l b = some x) : contL l b = nodeC (contL l) x.nd := by
  obtain ⟨d, hd⟩ : ∃ d, 65535 = d + 1 := ⟨65534, rfl⟩
  have hle := right_le h (find_in hx)
  unfold contL
  rw [hd, contF, hx]
  refine node_congr fun t ht => ?_
  obtain ⟨y, hy, hlt⟩ := right_deep h (find_in hx) ht
  exact cont_deep h d (d + 1) t y hy (by omega) (by omega)
theorem cont_rise {l : List It} (h : rightB l = true) (b : Int) : RiseP (contL l b) := (cont_all h b).1

/-- two parts of a range, one behind the other -/
theorem rest_split {ps : List Pr} (h : RiseP ps) {lo c hi : List UInt8} {e : Bool} (h1 : bytesLess c lo = false) (h2 : (!e || bytesLess c hi) = true) : restL ps ⟨lo, hi, e⟩ = restL ps ⟨lo, c, true⟩ ++ restL ps ⟨c, hi, e⟩ := by
  have a1 : restL (restL ps ⟨lo, hi, e⟩) ⟨[], c, true⟩ = restL ps ⟨lo, c, true⟩ := by
    unfold restL
    rw [List.filter_filter]
    congr 1
    funext q
    unfold inR
    simp only [less_nil, Bool.not_false, Bool.true_and, Bool.not_true, Bool.false_or]
    cases hq : bytesLess (kOf q) c
    · simp
    · cases e
      · simp
      · simp only [Bool.not_true, Bool.false_or] at h2 ⊢
        rw [less_trans hq h2]
        simp
  have a2 : restL (restL ps ⟨lo, hi, e⟩) ⟨c, [], false⟩ = restL ps ⟨c, hi, e⟩ := by
    unfold restL
    rw [List.filter_filter]
    congr 1
    funext q
    unfold inR
    simp only [Bool.not_false, Bool.true_or, Bool.and_true]
    cases hq : bytesLess (kOf q) c
    · simp only [Bool.not_false, Bool.true_and]
      rw [less_le_trans hq h1]
      simp
    · simp
  rw [← a1, ← a2, rest_parts (rise_rest h _) c]

/-- the part of a range from a cut on, to the next one -/
def partAt (r : Rng) (cs : List (List UInt8)) (j : Nat) : Rng := ⟨cs.getD j [], if j + 1 < cs.length then cs.getD (j + 1) [] else r.hi, if j + 1 < cs.length then true else r.e⟩
def partsN (r : Rng) (cs : List (List UInt8)) (n : Nat) : List Rng := (List.range n).map (partAt r cs)
theorem partsN_len (r : Rng) (cs : List (List UInt8)) (n : Nat) : (partsN r cs n).length = n := by simp [partsN]
theorem partsN_succ (r : Rng) (cs : List (List UInt8)) (n : Nat) : partsN r cs (n + 1) = partsN r cs n ++ [partAt r cs n] := by simp [partsN, List.range_succ]
theorem partsN_at {r : Rng} {cs : List (List UInt8)} {n j : Nat} (h : j < n) : (partsN r cs n)[j]'(by rw [partsN_len]; exact h) = partAt r cs j := by simp [partsN]
/-- cuts: strictly rising, the first one the range's own, all in the range -/
structure Cuts (r : Rng) (cs : List (List UInt8)) : Prop where
  rise : cs.Pairwise fun a b => bytesLess a b = true
  ins : ∀ c ∈ cs, inR r c = true
  pos : 0 < cs.length
  first : cs.getD 0 [] = r.lo
theorem Cuts.less {r : Rng} {cs : List (List UInt8)} (h : Cuts r cs) {i j : Nat} (hi : i < j) (hj : j < cs.length) : bytesLess (cs.getD i []) (cs.getD j []) = true := by
  have := List.pairwise_iff_getElem.1 h.rise i j (by omega) hj hi
  rwa [← getD_at (d := []) (show i < cs.length by omega), ← getD_at (d := []) hj] at this
theorem Cuts.inn {r : Rng} {cs : List (List UInt8)} (h : Cuts r cs) {j : Nat} (hj : j < cs.length) : inR r (cs.getD j []) = true := by
  rw [getD_at hj]; exact h.ins _ (List.getElem_mem hj)
theorem inR_and {r : Rng} {k : List UInt8} (h : inR r k = true) : bytesLess k r.lo = false ∧ (!r.e || bytesLess k r.hi) = true := by
  unfold inR at h
  simpa using h
/-- all parts, one behind the other, have what the range has -/
theorem parts_upto {r : Rng} {cs : List (List UInt8)} (h : Cuts r cs) {ps : List Pr} (hp : RiseP ps) : ∀ n, n + 1 ≤ cs.length → (partsN r cs n).flatMap (restL ps) ++ restL ps ⟨cs.getD n [], r.hi, r.e⟩ = restL ps r
  | 0, _ => by rw [h.first]; rfl
  | n + 1, hn => by
    rw [← parts_upto h hp n (by omega), partsN_succ, List.flatMap_append, List.append_assoc]
    congr 1
    have h1 := less_asymm (h.less (show n < n + 1 by omega) (by omega))
    rw [rest_split hp h1 (inR_and (h.inn (show n + 1 < cs.length by omega))).2]
    simp [partAt, show n + 1 < cs.length by omega]
theorem parts_all {r : Rng} {cs : List (List UInt8)} (h : Cuts r cs) {ps : List Pr} (hp : RiseP ps) : (partsN r cs cs.length).flatMap (restL ps) = restL ps r := by
  obtain ⟨n, hn⟩ : ∃ n, cs.length = n + 1 := ⟨cs.length - 1, by have := h.pos; omega⟩
  rw [← parts_upto h hp n (by omega), hn, partsN_succ, List.flatMap_append]
  congr 1
  simp [partAt, hn]
theorem part_in {r : Rng} {cs : List (List UInt8)} (h : Cuts r cs) {j : Nat} (hj : j < cs.length) {k : List UInt8} (hk : inR (partAt r cs j) k = true) : inR r k = true := by
  obtain ⟨h1, h2⟩ := inR_and hk
  obtain ⟨g1, g2⟩ := inR_and (h.inn hj)
  unfold partAt at h1 h2
  simp only at h1 h2
  unfold inR
  rw [less_le_trans h1 g1]
  by_cases hn : j + 1 < cs.length
  · rw [if_pos hn, if_pos hn] at h2
    simp only [Bool.not_true, Bool.false_or] at h2
    obtain ⟨_, g4⟩ := inR_and (h.inn hn)
    cases he : r.e
    · rfl
    · rw [he] at g4
      simp only [Bool.not_true, Bool.false_or] at g4
      rw [less_trans h2 g4]; rfl
  · rw [if_neg hn, if_neg hn] at h2
    rw [h2]; rfl
theorem part_first {r : Rng} {cs : List (List UInt8)} (h : Cuts r cs) {j : Nat} (hj : j < cs.length) : inR (partAt r cs j) (cs.getD j []) = true := by
  unfold partAt inR
  simp only [less_self, Bool.not_false, Bool.true_and]
  by_cases hn : j + 1 < cs.length
  · rw [if_pos hn, if_pos hn, h.less (show j < j + 1 by omega) hn]; rfl
  · rw [if_neg hn, if_neg hn]; exact (inR_and (h.inn hj)).2
/-- where all cuts of a kind that lie in a range are among its cuts, keys of a part stand to them as its first one does -/
theorem part_alike {r : Rng} {cs : List (List UInt8)} (h : Cuts r cs) {j : Nat} (hj : j < cs.length) {k x : List UInt8} (hk : inR (partAt r cs j) k = true) (hx : inR r x = true → x ∈ cs) : bytesLess k x = bytesLess (cs.getD j []) x := by
  have hkr := part_in h hj hk
  have hcr := h.inn hj
  obtain ⟨k1, k2⟩ := inR_and hk
  cases hxr : inR r x
  · have := hxr
    unfold inR at this
    cases hl : bytesLess x r.lo
    · rw [hl] at this
      simp only [Bool.not_false, Bool.true_and] at this
      cases he : r.e
      · rw [he] at this; cases this
      · rw [he] at this
        simp only [Bool.not_true, Bool.false_or] at this
        obtain ⟨_, g1⟩ := inR_and hkr
        obtain ⟨_, g2⟩ := inR_and hcr
        rw [he] at g1 g2
        simp only [Bool.not_true, Bool.false_or] at g1 g2
        rw [less_of_less_le g1 this, less_of_less_le g2 this]
    · have e1 : bytesLess k x = false := less_asymm (less_of_less_le hl (inR_and hkr).1)
      have e2 : bytesLess (cs.getD j []) x = false := less_asymm (less_of_less_le hl (inR_and hcr).1)
      rw [e1, e2]
  · obtain ⟨i, hi, rfl⟩ := List.mem_iff_getElem.1 (hx hxr)
    have hg : cs[i] = cs.getD i [] := (getD_at hi).symm
    rw [hg]
    rcases Nat.lt_trichotomy i j with hlt | rfl | hgt
    · have e := h.less hlt hj
      rw [less_asymm e, less_asymm (less_of_less_le e k1)]
    · rw [less_self]; exact k1
    · have hn : j + 1 < cs.length := by omega
      unfold partAt at k2
      simp only [if_pos hn, Bool.not_true, Bool.false_or] at k2
      have e : bytesLess k (cs.getD i []) = true := by
        rcases Nat.lt_or_eq_of_le (show j + 1 ≤ i by omega) with h' | h'
        · exact less_trans k2 (h.less h' hi)
        · rw [← h']; exact k2
      rw [e, h.less hgt hi]

/-- where a node's keys may be parted -/
def cutM (m : M) : List (List UInt8) := (aboutR m).lo :: if (aboutR m).e then [(aboutR m).hi] else []
def cutsN (n : Nd) : List (List UInt8) := n.pv.map (fun s => s.data.toList) ++ n.bf.flatMap cutM
theorem count_alike {pv : List ByteArray} {k c : List UInt8} (h : ∀ s ∈ pv, bytesLess k s.data.toList = bytesLess c s.data.toList) : kidC pv k = kidC pv c := by
  unfold kidC
  refine List.countP_congr fun s hs => ?_
  unfold leK
  rw [h s hs]
theorem speaks_alike {m : M} {k c : List UInt8} (h : ∀ x ∈ cutM m, bytesLess k x = bytesLess c x) : speaks m k = speaks m c := by
  rw [← in_about, ← in_about]
  unfold inR
  rw [h _ (by simp [cutM])]
  cases he : (aboutR m).e
  · rfl
  · rw [h _ (by simp [cutM, he])]
theorem lastP_alike {l : List M} {k c : List UInt8} (h : ∀ m ∈ l, speaks m k = speaks m c) : ∀ n, n ≤ l.length → lastP l k n = lastP l c n
  | 0, _ => rfl
  | n + 1, hn => by
    rw [lastP_succ (by omega), lastP_succ (by omega), h _ (List.getElem_mem _), lastP_alike h n (by omega)]
/-- all keys of a part lead as its first one does -/
theorem part_leads {r : Rng} {cs : List (List UInt8)} {n : Nd} (h : Cuts r cs) (hx : ∀ x ∈ cutsN n, inR r x = true → x ∈ cs) {j : Nat} (hj : j < cs.length) {k : List UInt8} (hk : inR (partAt r cs j) k = true) : kidC n.pv k = kidC n.pv (cs.getD j []) ∧ lastI n.bf k = lastI n.bf (cs.getD j []) := by
  refine ⟨count_alike fun s hs => part_alike h hj hk (hx _ (List.mem_append.2 (.inl (List.mem_map.2 ⟨s, hs, rfl⟩)))), ?_⟩
  unfold lastI
  refine lastP_alike (fun m hm => speaks_alike fun x hxm => part_alike h hj hk (hx _ (List.mem_append.2 (.inr (List.mem_flatMap.2 ⟨m, hm, hxm⟩))))) _ (Nat.le_refl _)

/-- back by a lift -/
def downL (w : Lft) (x : List UInt8) : List UInt8 := (up (turn w) x).getD []
def downP (w : Lft) (p : Pr) : Pr := ⟨str (downL w (kOf p)), p.val⟩
theorem kOf_down (w : Lft) (p : Pr) : kOf (downP w p) = downL w (kOf p) := str_data _
theorem turn_turn (w : Lft) : turn (turn w) = w := rfl
theorem up_iff {w : Lft} {k x : List UInt8} : up w k = some x ↔ up (turn w) x = some k := ⟨up_back, fun h => up_back (l := turn w) h⟩
theorem rise_down {w : Lft} : ∀ {A : List Pr}, RiseP A → (∀ q ∈ A, (up (turn w) (kOf q)).isSome) → RiseP (A.map (downP w))
  | [], _, _ => RiseP.nil
  | p :: A, h, ha => by
    refine List.pairwise_cons.2 ⟨?_, rise_down h.tail fun q hq => ha q (by simp [hq])⟩
    intro q hq
    obtain ⟨q', hq', rfl⟩ := List.mem_map.1 hq
    obtain ⟨x, hx⟩ := Option.isSome_iff_exists.1 (ha p (by simp))
    obtain ⟨y, hy⟩ := Option.isSome_iff_exists.1 (ha q' (by simp [hq']))
    rw [kOf_down, kOf_down]
    unfold downL
    rw [hx, hy]
    show bytesLess x y = true
    rw [up_less hx hy]
    exact h.of_mem q' hq'
theorem look_down {w : Lft} {k : List UInt8} : ∀ {A : List Pr}, (∀ q ∈ A, (up (turn w) (kOf q)).isSome) → lookP (A.map (downP w)) k = (up w k).bind (lookP A)
  | [], _ => by cases up w k <;> rfl
  | p :: A, ha => by
    obtain ⟨x, hx⟩ := Option.isSome_iff_exists.1 (ha p (by simp))
    rw [List.map_cons, lookP_cons, look_down fun q hq => ha q (by simp [hq]), kOf_down]
    have e : downL w (kOf p) = x := by unfold downL; rw [hx]; rfl
    rw [e]
    by_cases hk : x = k
    · subst hk
      rw [if_pos rfl, up_iff.2 hx]
      show some p.val = lookP (p :: A) (kOf p)
      rw [lookP_cons, if_pos rfl]
    · rw [if_neg hk]
      cases hu : up w k with
      | none => rfl
      | some y =>
        show lookP A y = lookP (p :: A) y
        rw [lookP_cons, if_neg]
        intro e2
        subst e2
        rw [up_iff.1 hu] at hx
        cases hx
        exact hk rfl
/-- what a node has in a part whose keys go by an edge -/
theorem part_edge {f : Int → List Pr} {C : List Pr} {e : E} {p : Rng} (hC : RiseP C) (hf : RiseP (f e.blk)) (hl : ∀ k, inR p k = true → lookP C k = wayC f (byE e k)) : restL C p = (restL (f e.blk) (overR (lf e.strip e.add) p)).map (downP (lf e.strip e.add)) := by
  have ha : ∀ q ∈ restL (f e.blk) (overR (lf e.strip e.add) p), (up (turn (lf e.strip e.add)) (kOf q)).isSome := by
    intro q hq
    have := (List.mem_filter.1 hq).2
    rw [in_over, Bool.and_eq_true] at this
    exact this.1
  refine rise_ext (rise_rest hC p) (rise_down (rise_rest hf _) ha) fun k => ?_
  rw [look_down ha]
  unfold restL
  rw [lookP_filter (fun y => inR p y)]
  cases hk : inR p k
  · simp only [Bool.false_eq_true, if_false]
    cases hu : up (lf e.strip e.add) k with
    | none => rfl
    | some x =>
      show none = lookP _ x
      rw [lookP_filter (fun y => inR (overR (lf e.strip e.add) p) y), in_over, up_iff.1 hu]
      simp [hk]
  · simp only [if_true]
    rw [hl k hk, wayE]
    cases hu : up (lf e.strip e.add) k with
    | none => rfl
    | some x =>
      show lookP _ x = lookP _ x
      rw [lookP_filter (fun y => inR (overR (lf e.strip e.add) p) y), in_over, up_iff.1 hu]
      simp [hk]
theorem part_put {C : List Pr} {m : M} {p : Rng} (hC : RiseP C) (hl : ∀ k, inR p k = true → k = m.key.data.toList ∧ lookP C k = some m.val) : restL C p = restL [⟨m.key, m.val⟩] p := by
  refine rise_ext (rise_rest hC p) (rise_rest (List.pairwise_singleton _ _) p) fun k => ?_
  unfold restL
  rw [lookP_filter (fun y => inR p y), lookP_filter (fun y => inR p y)]
  cases hk : inR p k
  · rfl
  · obtain ⟨rfl, e⟩ := hl k hk
    simp only [if_true]
    rw [e, lookP_cons]
    exact (if_pos rfl).symm
theorem part_none {C : List Pr} {p : Rng} (hC : RiseP C) (hl : ∀ k, inR p k = true → lookP C k = none) : restL C p = [] := by
  refine rise_ext (rise_rest hC p) RiseP.nil fun k => ?_
  unfold restL
  rw [lookP_filter (fun y => inR p y)]
  cases hk : inR p k
  · rfl
  · simp only [if_true]; rw [hl k hk]; rfl
end Go.Proofs.YtegmpfmhlpdmhaaGreat.Key

namespace Go.Proofs.YtegmpfmhlpdmhaaGreat.Key
open Go.Op (bytesLess)
set_option linter.unusedVariables false
set_option linter.unusedSimpArgs false

theorem getF_deep {l : List It} (h : rightB l = true) {d e : Nat} {b : Int} {x : It} (hx : findI l b = some x) (hd : deepI x.nd ≤ d) (he : deepI x.nd ≤ e) (k : List UInt8) : getF l d b k = getF l e b k := by
  rw [← (cont_ok h d b x hx hd).2, ← (cont_ok h e b x hx he).2, cont_deep h d e b x hx hd he]
theorem val_no {l : List It} (h : rightB l = false) (b : Int) (k : List UInt8) : valL l b k = none := by unfold valL; rw [h]; rfl
theorem val_out {l : List It} {b : Int} (h : findI l b = none) (k : List UInt8) : valL l b k = none := by
  unfold valL
  rw [(cont_out h _).2]
  split <;> rfl
theorem step_on {l : List It} (h : rightB l = true) {b : Int} {x : It} (hx : findI l b = some x) {k : List UInt8} (h2 : (stepW x.nd k).kind = 2) : ∃ y, findI l (stepW x.nd k).blk = some y ∧ deepI y.nd < deepI x.nd := by
  rcases step_cases x.nd k with e | ⟨v, e⟩ | ⟨t, dp, key, e, hmem, _⟩
  · rw [e] at h2; cases h2
  · rw [e] at h2; cases h2
  · rw [e]
    exact right_deep h (find_in hx) hmem
theorem val_step {l : List It} (h : rightB l = true) {b : Int} {x : It} (hx : findI l b = some x) (k : List UInt8) :
    valL l b k = if (stepW x.nd k).kind = 2 then valL l (stepW x.nd k).blk (stepW x.nd k).key.data.toList else if (stepW x.nd k).kind = 1 then some (stepW x.nd k).val else none := by
  obtain ⟨d, hd⟩ : ∃ d, 65535 = d + 1 := ⟨65534, rfl⟩
  have hle := right_le h (find_in hx)
  unfold valL
  rw [if_pos h, if_pos h, hd, getF, hx]
  dsimp only
  by_cases h2 : (stepW x.nd k).kind = 2
  · rw [if_pos h2, if_pos h2]
    obtain ⟨y, hy, hlt⟩ := step_on h hx h2
    exact getF_deep h hy (by omega) (by omega) _
  · rw [if_neg h2, if_neg h2]
theorem byE_key {e : E} {k : List UInt8} (h : e.add.size ≤ 16) : (byE e k).key.size ≤ k.length + 16 := by
  unfold byE
  split
  · show (upS (lf e.strip e.add) k).size ≤ _
    unfold upS
    cases hu : up (lf e.strip e.add) k with
    | none => exact Nat.zero_le _
    | some y =>
      have := up_len hu
      have h3 : (lf e.strip e.add).add.length = e.add.size := by simp [lf]
      show (str y).size ≤ _
      rw [str_size]
      omega
  · show (0 : Nat) ≤ _
    omega
theorem step_key {l : List It} (h : rightB l = true) {b : Int} {x : It} (hx : findI l b = some x) (k : List UInt8) : (stepW x.nd k).key.size ≤ k.length + 16 := by
  have hm := right_may h (find_in hx)
  have h0 : (noWay).key.size ≤ k.length + 16 := Nat.zero_le _
  unfold stepW
  rw [if_pos hm]
  cases hl : x.nd.leaf
  · simp only [Bool.false_eq_true, if_false]
    rcases lastI_cases x.nd.bf k with ⟨i, e, hi⟩ | e
    · rw [e, if_pos (by omega), show ((i : Int)).toNat = i by omega, getD_at hi]
      unfold byM
      split
      · exact Nat.zero_le _
      · split
        · exact byE_key (msgs_small hm (List.getElem_mem hi)).2.2
        · exact h0
    · rw [e, if_neg (by omega)]
      obtain ⟨h1, h2⟩ := may_fork hm hl
      have hc : kidC x.nd.pv k < x.nd.ks.length := by have := count_le x.nd.pv k; omega
      rw [getD_at hc]
      exact byE_key (edges_small hm (List.getElem_mem hc)).2
  · simp only [if_true]
    unfold pairW
    split
    · exact Nat.zero_le _
    · exact h0
/-- a key's value, as it is answered -/
def valS (l : List It) (b : Int) (k : List UInt8) : ByteArray := (valL l b k).getD ⟨#[]⟩
def valB (l : List It) (b : Int) (k : List UInt8) : Bool := (valL l b k).isSome
end Go.Proofs.YtegmpfmhlpdmhaaGreat.Key

namespace Go.Proofs.YtegmpfmhlpdmhaaGreat.Key
set_option linter.unusedVariables false
set_option linter.unusedSimpArgs false

def sumW (l : List It) (ts : List Int) (s : Nat) : Nat := ts.foldl (fun s t => min (s + waysM l t) 1073741824) s
theorem sumW_at {l : List It} {ts : List Int} {s k : Nat} (h : k < ts.length) : sumW l (ts.take (k + 1)) s = min (sumW l (ts.take k) s + waysM l ts[k]) 1073741824 := by
  unfold sumW
  rw [List.take_succ_eq_append_getElem h, List.foldl_append]
  rfl
theorem sumW_le {l : List It} {ts : List Int} : ∀ {s : Nat}, s ≤ 1073741824 → sumW l ts s ≤ 1073741824 := by
  unfold sumW
  induction ts with
  | nil => intro s h; exact h
  | cons t ts ih => intro s h; rw [List.foldl_cons]; exact ih (by omega)
theorem sumT_W {l : List It} {S : List It} (hp : S.Pairwise fun x y => x.blk ≠ y.blk) : ∀ (ts : List Int) (s : Nat), (∀ t ∈ ts, ∃ y ∈ S, y.blk = t) → sumT (S.map (wref l)) ts s = sumW l ts s
  | [], _, _ => rfl
  | t :: ts, s, h => by
    obtain ⟨y, hy, rfl⟩ := h t (by simp)
    show sumT (S.map (wref l)) ts (sumD (S.map (wref l)) y.blk s) = sumW l ts (min (s + waysM l y.blk) 1073741824)
    rw [sum_one hp hy, sumT_W hp ts _ fun t ht => h t (by simp [ht])]
    rfl
theorem sumW_is {l : List It} (h : rightB l = true) {x : It} (hx : x ∈ l) : sumW l (targetsL x.nd) 1 = waysM l x.blk := by
  have hd := deep_pos (right_may h hx)
  obtain ⟨D, hD⟩ : ∃ D : Nat, deepI x.nd = (D + 1 : Nat) := ⟨(deepI x.nd).toNat - 1, by omega⟩
  rw [← sum_is h hx D 0 hD, sumT_W (levs_apart h D 0)]
  intro t ht
  obtain ⟨y, hy, hlt⟩ := right_deep h hx ht
  have hy2 := deep_pos (right_may h (find_in hy))
  refine ⟨y, List.mem_append.2 (.inl (mem_levs.2 ⟨find_in hy, hy2, by omega⟩)), by simpa using List.find?_some hy⟩
/-- of items by rising depth: all targets stand ahead -/
theorem target_ahead {l rl : List It} (h : rightB l = true) (hp : rl.Perm l) (hs : rl.Pairwise fun x y => deepI x.nd ≤ deepI y.nd) {j : Nat} (hj : j < rl.length) {t : Int} (ht : t ∈ targetsL rl[j].nd) : ∃ y ∈ rl.take j, y.blk = t := by
  have hx : rl[j] ∈ l := hp.mem_iff.1 (List.getElem_mem hj)
  obtain ⟨y, hy, hlt⟩ := right_deep h hx ht
  have hyr : y ∈ rl := hp.mem_iff.2 (find_in hy)
  obtain ⟨i, hi, rfl⟩ := List.mem_iff_getElem.1 hyr
  have hij : i < j := by
    rcases Nat.lt_trichotomy i j with h1 | rfl | h1
    · exact h1
    · exact absurd hlt (Int.lt_irrefl _)
    · have := List.pairwise_iff_getElem.1 hs j i hj hi h1
      omega
  exact ⟨rl[i], List.mem_take_iff_getElem.2 ⟨i, by omega, rfl⟩, by simpa using List.find?_some hy⟩
/-- the ways of some items' blocks -/
def hasW (S : List It) (z : Int) : Bool := S.any fun x => x.blk == z
theorem hasW_snoc {S : List It} {j : Nat} (h : j < S.length) (z : Int) : hasW (S.take (j + 1)) z = (hasW (S.take j) z || (S[j].blk == z)) := by
  unfold hasW
  rw [List.take_succ_eq_append_getElem h, List.any_append]
  simp
theorem hasW_of {S : List It} {z : Int} (h : ∃ y ∈ S, y.blk = z) : hasW S z = true := by
  obtain ⟨y, hy, rfl⟩ := h
  unfold hasW
  rw [List.any_eq_true]
  exact ⟨y, hy, by simp⟩
theorem hasW_all {l rl : List It} (hp : rl.Perm l) (z : Int) : hasW rl z = (findI l z).isSome := by
  unfold hasW findI
  cases hf : l.find? fun x => x.blk == z with
  | none =>
    rw [Option.isSome_none, List.any_eq_false]
    intro x hx
    exact List.find?_eq_none.1 hf x (hp.mem_iff.1 hx)
  | some y =>
    rw [Option.isSome_some, List.any_eq_true]
    exact ⟨y, hp.mem_iff.2 (List.mem_of_find?_eq_some hf), List.find?_some (p := fun x : It => x.blk == z) hf⟩
end Go.Proofs.YtegmpfmhlpdmhaaGreat.Key
