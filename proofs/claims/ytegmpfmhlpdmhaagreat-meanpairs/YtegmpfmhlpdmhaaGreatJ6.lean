/-
  What a part of a fork has: the pair of a message, nothing, or what lies beyond one edge. Plain.
  How long the bounds of what is told can get, and where an edge leads. Plain.
  Contract of tellNode for a node of a right graph, over what is told of the places to which its edges lead.
  Contract of tell: the pairs of a place are told, as long as more are wanted.
  The same, for an iterator that is told what the caller's states have. No program is named here.
  The state of a walker that tells pairs to a loop's round.
  Contract of the function that a walker tells its pairs to.
  The state of a walker that tells to a loop's round is one that tell's contract is over.
  Contracts of All, and of the function that it hands back.
  Contracts of All and of Pairs, the program's.
  Contracts of the statements' Small, and of the document's Great of a range.
-/
import Derived.Test.YtegmpfmhlpdmhaaGreatJ1
import Derived.Test.YtegmpfmhlpdmhaaGreatJ3
import Derived.Test.YtegmpfmhlpdmhaaGreatJ5
import Derived.Test.YtegmpfmhlpdmhaaGreatGet
import Derived.Test.YtegmpfmhlpdmhaaGreatJ2
import Derived.Test.YtegmpfmhlpdmhaaGreatKl
import Derived.Maps.OwnIn
import Derived.Test.YtegmpfmhlpdmhaaGreatJ4
namespace Go.Proofs.YtegmpfmhlpdmhaaGreat.Key
open Go.Op (bytesLess)
set_option linter.unusedVariables false
set_option linter.unusedSimpArgs false

theorem lastP_speaks (l : List M) (k : List UInt8) : ∀ n, 0 ≤ lastP l k n → speaks (l.getD (lastP l k n).toNat M.nil) k = true
  | 0, h => by
    unfold lastP at h
    omega
  | n + 1, h => by
    unfold lastP at h ⊢
    by_cases hs : speaks (l[n]?.getD M.nil) k = true
    · rw [if_pos hs]
      show speaks (l.getD (n : Int).toNat M.nil) k = true
      rw [Int.toNat_natCast, List.getD_eq_getElem?_getD]
      exact hs
    · rw [if_neg hs] at h ⊢
      exact lastP_speaks l k n h
theorem lastI_speaks {l : List M} {k : List UInt8} (h : 0 ≤ lastI l k) : speaks (l.getD (lastI l k).toNat M.nil) k = true := lastP_speaks l k _ h
theorem look_cont {l : List It} (h : rightB l = true) {b : Int} {x : It} (hx : findI l b = some x) (k : List UInt8) : lookP (contL l b) k = wayC (contL l) (stepW x.nd k) := by
  have hm := right_may h (find_in hx)
  rw [cont_fix h hx, look_node hm (may_kinds hm) (fun e _ => cont_rise h _) (fun m _ _ => cont_rise h _)]
/-- what a part of a fork has -/
theorem part_is {l : List It} (h : rightB l = true) {b : Int} {x : It} (hx : findI l b = some x) (hlf : x.nd.leaf = false) {r : Rng} {cs : List (List UInt8)} (hc : Cuts r cs) (hin : ∀ y ∈ cutsN x.nd, inR r y = true → y ∈ cs) {j : Nat} (hj : j < cs.length) :
    (0 ≤ lastI x.nd.bf (cs.getD j []) → ∀ m, m = x.nd.bf.getD (lastI x.nd.bf (cs.getD j [])).toNat M.nil →
      (m.kind = 1 → restL (contL l b) (partAt r cs j) = restL [⟨m.key, m.val⟩] (partAt r cs j)) ∧
      (m.kind = 2 → restL (contL l b) (partAt r cs j) = []) ∧
      (m.kind = 3 → restL (contL l b) (partAt r cs j) = (restL (contL l m.blk) (overR (lf m.key m.add) (partAt r cs j))).map (downP (lf m.key m.add)))) ∧
    (¬ 0 ≤ lastI x.nd.bf (cs.getD j []) → ∀ e, e = x.nd.ks.getD (kidC x.nd.pv (cs.getD j [])) E.nil →
      restL (contL l b) (partAt r cs j) = (restL (contL l e.blk) (overR (lf e.strip e.add) (partAt r cs j))).map (downP (lf e.strip e.add))) := by
  have hm := right_may h (find_in hx)
  have hC := cont_rise h b
  have hst : ∀ k, inR (partAt r cs j) k = true → stepW x.nd k = if 0 ≤ lastI x.nd.bf (cs.getD j []) then byM (x.nd.bf.getD (lastI x.nd.bf (cs.getD j [])).toNat M.nil) k else byE (x.nd.ks.getD (kidC x.nd.pv (cs.getD j [])) E.nil) k := by
    intro k hk
    obtain ⟨h1, h2⟩ := part_leads hc hin hj hk
    unfold stepW
    rw [if_pos hm, hlf, if_neg Bool.false_ne_true, h1, h2]
  constructor
  · intro h0 m hmm
    have hst' : ∀ k, inR (partAt r cs j) k = true → stepW x.nd k = byM m k := by
      intro k hk
      rw [hst k hk, if_pos h0, hmm]
    have hsp : ∀ k, inR (partAt r cs j) k = true → speaks m k = true := by
      intro k hk
      obtain ⟨_, h2⟩ := part_leads hc hin hj hk
      rw [hmm, ← h2]
      exact lastI_speaks (by rw [h2]; exact h0)
    refine ⟨fun h1 => ?_, fun h2 => ?_, fun h3 => ?_⟩
    · refine part_put hC fun k hk => ⟨?_, ?_⟩
      · have := hsp k hk
        unfold speaks at this
        rw [if_neg (by omega), if_pos (.inl h1)] at this
        exact beq_iff_eq.1 this
      · rw [look_cont h hx, hst' k hk]
        unfold byM
        rw [if_pos h1]
        rfl
    · refine part_none hC fun k hk => ?_
      rw [look_cont h hx, hst' k hk]
      unfold byM
      rw [if_neg (by omega), if_neg (by omega)]
      rfl
    · refine part_edge (f := contL l) (e := ⟨m.blk, m.deep, m.key, m.add⟩) hC (cont_rise h _) fun k hk => ?_
      rw [look_cont h hx, hst' k hk]
      unfold byM
      rw [if_neg (by omega), if_pos h3]
  · intro h0 e he
    refine part_edge (f := contL l) hC (cont_rise h _) fun k hk => ?_
    rw [look_cont h hx, hst k hk, if_neg h0, he]
end Go.Proofs.YtegmpfmhlpdmhaaGreat.Key

namespace Go.Proofs.YtegmpfmhlpdmhaaGreat.Key
open Go.Op (bytesLess)
set_option linter.unusedVariables false
set_option linter.unusedSimpArgs false

theorem over_small {l : Lft} {r : Rng} {N : Nat} (hs : l.strip.length ≤ 16) (ha : l.add.length ≤ 16) (hN : 16 ≤ N) (h1 : r.lo.length ≤ N) (h2 : r.hi.length ≤ N) : (overR l r).lo.length ≤ N + 16 ∧ (overR l r).hi.length ≤ N + 16 := by
  have hc := cut_len (a := r) (b := ofR l.strip) (n := N) h1 h2 (by show l.strip.length ≤ N; omega) (by have := ofR_len l.strip; omega)
  have ho := ofR_len l.add
  unfold overR
  split
  · exact ⟨Nat.zero_le _, Nat.zero_le _⟩
  · split
    · simp only [List.length_append, List.length_drop]
      omega
    · simp only [List.length_append, List.length_drop]
      omega
theorem fork_parts {n : Nd} (h : mayI n = 0) (hl : n.leaf = false) : n.pv.length + 1 = n.ks.length ∧ upTo (pivAt n.pv) n.pv.length = true := by
  have h1 := may_zero h
  unfold fineB at h1
  rw [hl] at h1
  unfold forkB at h1
  simp only [Bool.false_eq_true, if_false, Bool.and_eq_true, beq_iff_eq] at h1
  exact ⟨h1.2.1, h1.2.2.1⟩
theorem pivs_small {n : Nd} (h : mayI n = 0) (hl : n.leaf = false) {s : ByteArray} (hs : s ∈ n.pv) : s.size ≤ 16 := by
  obtain ⟨i, hi, rfl⟩ := List.getElem_of_mem hs
  have := upTo_at (fork_parts h hl).2 hi
  rw [pivAt_at hi] at this
  simp only [Bool.and_eq_true, decide_eq_true_eq] at this
  exact this.2
theorem cuts_small {n : Nd} (h : mayI n = 0) (hl : n.leaf = false) : ∀ x ∈ cutsN n, x.length ≤ 17 := by
  intro x hx
  rcases List.mem_append.1 hx with hx | hx
  · obtain ⟨s, hs, rfl⟩ := List.mem_map.1 hx
    have := pivs_small h hl hs
    rw [Lib.size_eq] at this
    omega
  · obtain ⟨m, hm, hx⟩ := List.mem_flatMap.1 hx
    have hk := (msgs_small h hm).1
    rw [Lib.size_eq] at hk
    have ho := ofR_len m.key.data.toList
    have hlo : (ofR m.key.data.toList).lo = m.key.data.toList := rfl
    have key : (aboutR m).lo.length ≤ 17 ∧ (aboutR m).hi.length ≤ 17 := by
      unfold aboutR
      split
      · simp only [List.length_append, List.length_cons, List.length_nil]; omega
      · split
        · rw [hlo]; omega
        · exact ⟨Nat.zero_le _, Nat.zero_le _⟩
    unfold cutM at hx
    rcases List.mem_cons.1 hx with rfl | hx
    · exact key.1
    · split at hx
      · rw [List.mem_singleton.1 hx]; exact key.2
      · cases hx
/-- the bounds of a part -/
theorem part_small {r : Rng} {cs : List (List UInt8)} {N : Nat} (hc : ∀ x ∈ cs, x.length ≤ N) (hh : r.hi.length ≤ N) {j : Nat} (hj : j < cs.length) : (partAt r cs j).lo.length ≤ N ∧ (partAt r cs j).hi.length ≤ N := by
  unfold partAt
  dsimp only
  refine ⟨by rw [getD_at hj]; exact hc _ (List.getElem_mem hj), ?_⟩
  split
  · rename_i h
    rw [getD_at h]
    exact hc _ (List.getElem_mem h)
  · exact hh
theorem rest_none {ps : List Pr} {r : Rng} (h : emptyR r = true) : restL ps r = [] :=
  List.filter_eq_nil_iff.2 fun p _ => by rw [in_empty h]; exact Bool.false_ne_true
theorem leaf_cont {l : List It} (h : rightB l = true) {b : Int} {x : It} (hx : findI l b = some x) (hl : x.nd.leaf = true) : contL l b = x.nd.ps := by
  rw [cont_fix h hx]
  unfold nodeC
  rw [hl]
  rfl
/-- how much is told before a part, and by it -/
theorem parts_len {P : List Rng} {f : Rng → List Pr} {j : Nat} (h : j < P.length) : ((P.take j).flatMap f).length + (f P[j]).length ≤ (P.flatMap f).length := by
  have e : P.flatMap f = (P.take (j + 1)).flatMap f ++ (P.drop (j + 1)).flatMap f := by rw [← List.flatMap_append, List.take_append_drop]
  rw [e, List.take_succ_eq_append_getElem h, List.flatMap_append]
  simp
theorem lf_len (s a : ByteArray) : (lf s a).strip.length = s.size ∧ (lf s a).add.length = a.size := ⟨by rw [Lib.size_eq]; rfl, by rw [Lib.size_eq]; rfl⟩
end Go.Proofs.YtegmpfmhlpdmhaaGreat.Key

namespace Go.Proofs.YtegmpfmhlpdmhaaGreat.Key
open Go.RowKit
open Go.ChangeMaps (setBlock heap_setBlock_same heap_setBlock_other)
set_option linter.unusedVariables false
set_option linter.unusedSimpArgs false

/-- a place that has nothing -/
def Bare (l : List It) (p : Plc) : Prop := restL (contL l p.blk) (rg p.lo p.hi p.e) = []
/-- what is known of a walker: the nodes, the bare places, how many were told -/
structure Walker (l : List It) (f : Int → Option Value) (pl : Int → Pl) (g wk nm bm B : Nat) (most : Int) (c1 c2 : Value) (T : Value → List Pr → World → Prop) : Prop where
  walks : Walks g wk bm B most c1 c2 T
  cells : ∀ v out u, T v out u → u.heap[wk]? = some (.cells #[.map (some nm), .map (some bm), v, .int .i64 out.length] 77 (0, 0))
  nodes : ∀ v out u, T v out u → ∃ n, VMap u nm n f
  lies : ∀ v out u z x, T v out u → seenI l z = some x → Lies u x.nd (pl z)
  at_ : ∀ z x, seenI l z = some x → f z = some (nv x.nd (pl z))
  bare : ∀ v out u, T v out u → BMap u bm (Bare l)
  store : ∀ v out u es clock, T v out u → BMap (setBlock u bm (.map es clock)) bm (Bare l) → T v out (setBlock u bm (.map es clock))
/-- a state with its path -/
def AtP (g B : Nat) (T : Value → List Pr → World → Prop) (ps : List Pr) (out : List Pr) (u : World) : Prop := ∃ v, T v out u ∧ PathR g B u v ps
/-- what is told of a place -/
def tellsOf (l : List It) (ps : List Pr) (b : Int) (r : Rng) : List Pr := (restL (contL l b) r).map (backP (ps.map lfP))
/-- a place is told -/
def TellC (l : List It) (g wk bm B : Nat) (most : Int) (d1 d2 : Value) (T : Value → List Pr → World → Prop) (ps : List Pr) (blk : Int) (lo hi : ByteArray) (e : Bool) (out : List Pr) (u : World) : Prop :=
  Calls Tryz.prog 24 #[.pointer (some ⟨wk, 0, none⟩), .agg #[.int .u32 blk, .string lo, .string hi, .bool e], .func (.func 25) #[] #[d1, d2]] u fun y w' =>
    y = .returned (.bool (tellR most out (tellsOf l ps blk (rg lo hi e))).2) ∧ AtP g B T ps (tellR most out (tellsOf l ps blk (rg lo hi e))).1 w' ∧ KpR g (X1 g wk bm) u w'
/-- what is asked of a place that is told -/
structure Asks (l : List It) (most : Int) (ps : List Pr) (blk : Int) (D N : Nat) (lo hi : ByteArray) (e : Bool) (out : List Pr) : Prop where
  path : ps.length + D ≤ 900
  few : ∀ q ∈ ps, q.key.size ≤ 16 ∧ q.val.size ≤ 16
  los : lo.size ≤ N
  his : hi.size ≤ N
  low : 17 ≤ N
  top : N + 16 * D ≤ 90000
  len : out.length + (tellsOf l ps blk (rg lo hi e)).length ≤ 10000
  ne : (out.length : Int) ≠ most
  comes : Comes (ps.map lfP) (rg lo hi e)
theorem Walker.keepsP {l : List It} {f : Int → Option Value} {pl : Int → Pl} {g wk nm bm B : Nat} {most : Int} {c1 c2 : Value} {T : Value → List Pr → World → Prop} (h : Walker l f pl g wk nm bm B most c1 c2 T) (ps : List Pr) : Keeps g wk bm (AtP g B T ps) where
  later := fun out u u' ⟨v, h1, h2⟩ hb => ⟨v, (h.walks.keeps v).later _ _ _ h1 hb, h2.later hb ((h.walks.keeps v).lg _ _ h1)⟩
  lg := fun out u ⟨v, h1, _⟩ => (h.walks.keeps v).lg _ _ h1
  lw := fun out u ⟨v, h1, _⟩ => (h.walks.keeps v).lw _ _ h1
  lb := fun out u ⟨v, h1, _⟩ => (h.walks.keeps v).lb _ _ h1
  row := fun out u ⟨v, h1, _⟩ => (h.walks.keeps v).row _ _ h1
theorem rg_str (r : Rng) : rg (str r.lo) (str r.hi) r.e = r := rfl
theorem str_sz (l : List UInt8) : (str l).size = l.length := by rw [Lib.size_eq]; rfl
/-- an edge's place, by what is told of its target -/
theorem toldBy {l : List It} {f : Int → Option Value} {pl : Int → Pl} {g wk nm bm B : Nat} {most : Int} {d1 d2 : Value} {T : Value → List Pr → World → Prop} (hT : Walker l f pl g wk nm bm B most d1 d2 T) {ps : List Pr} {x : E} {r : Rng} {out A : List Pr} {D N : Nat}
    (ih : ∀ lo hi e u, Asks l most (ps ++ [⟨x.strip, x.add⟩]) x.blk D (N + 16) lo hi e out → AtP g B T (ps ++ [⟨x.strip, x.add⟩]) out u → TellC l g wk bm B most d1 d2 T (ps ++ [⟨x.strip, x.add⟩]) x.blk lo hi e out u)
    (hs : x.strip.size ≤ 16) (ha : x.add.size ≤ 16) (hA : A = ((restL (contL l x.blk) (overR (lf x.strip x.add) r)).map (downP (lf x.strip x.add))).map (backP (ps.map lfP)))
    (hp : ps.length + 1 + D ≤ 900) (hf : ∀ q ∈ ps, q.key.size ≤ 16 ∧ q.val.size ≤ 16) (h1 : r.lo.length ≤ N) (h2 : r.hi.length ≤ N) (hN : 17 ≤ N) (hND : N + 16 + 16 * D ≤ 90000) (hlen : out.length + A.length ≤ 10000) (hne : (out.length : Int) ≠ most) (hc : Comes (ps.map lfP) r) :
    ToldBy g wk bm B most (.func (.func 25) #[] #[d1, d2]) T ps r out A x := by
  obtain ⟨e1, e2⟩ := lf_len x.strip x.add
  obtain ⟨o1, o2⟩ := over_small (l := lf x.strip x.add) (r := r) (N := N) (by omega) (by omega) (by omega) h1 h2
  have hmap : (ps ++ [Pr.mk x.strip x.add]).map lfP = ps.map lfP ++ [lf x.strip x.add] := by rw [List.map_append]; rfl
  have hAA : A = tellsOf l (ps ++ [⟨x.strip, x.add⟩]) x.blk (rg (str (overR (lf x.strip x.add) r).lo) (str (overR (lf x.strip x.add) r).hi) (overR (lf x.strip x.add) r).e) := by
    unfold tellsOf
    rw [rg_str, hmap, back_down, hA]
  refine ⟨by omega, by omega, fun v' u' hv hq => ?_⟩
  have := ih (str (overR (lf x.strip x.add) r).lo) (str (overR (lf x.strip x.add) r).hi) (overR (lf x.strip x.add) r).e u'
    ⟨by simp only [List.length_append, List.length_cons, List.length_nil]; omega, fun q hq => by
      rcases List.mem_append.1 hq with h | h
      · exact hf q h
      · rw [List.mem_singleton.1 h]; exact ⟨hs, ha⟩,
     by rw [str_sz]; exact o1, by rw [str_sz]; exact o2, by omega, by omega, by rw [← hAA]; exact hlen, hne, by rw [rg_str, hmap]; exact hc.on (fun k h => h) _⟩ ⟨v', hv, hq⟩
  unfold TellC at this
  rw [← hAA] at this
  exact this
theorem flat_tells (l : List It) (ps : List Pr) (b : Int) (P : List Rng) : P.flatMap (tellsOf l ps b) = (P.flatMap (restL (contL l b))).map (backP (ps.map lfP)) := by
  rw [List.map_flatMap]
  rfl
set_option maxRecDepth 100000 in
set_option maxHeartbeats 2000000 in
theorem node84 {l : List It} {f : Int → Option Value} {pl : Int → Pl} {g wk nm bm B : Nat} {most : Int} {d1 d2 : Value} {T : Value → List Pr → World → Prop} (hT : Walker l f pl g wk nm bm B most d1 d2 T) (hl : Fine l) (hr : rightB l = true) {blk : Int} {x : It} (hx : findI l blk = some x) {D : Nat} (hD : (deepI x.nd).toNat ≤ D + 1)
    (ih : ∀ y b, findI l b = some y → (deepI y.nd).toNat ≤ D → ∀ ps N lo hi e out u, Asks l most ps b D N lo hi e out → AtP g B T ps out u → TellC l g wk bm B most d1 d2 T ps b lo hi e out u)
    (ps : List Pr) (N : Nat) (lo hi : ByteArray) (e : Bool) (out : List Pr) (u : World) (ha : Asks l most ps blk (D + 1) N lo hi e out) (hS : AtP g B T ps out u) (hin : inR (rg lo hi e) lo.data.toList = true) :
    Calls Tryz.prog 44 #[.pointer (some ⟨wk, 0, none⟩), nv x.nd (pl blk), av lo hi e, .func (.func 25) #[] #[d1, d2]] u fun y w' =>
      y = .returned (.bool (tellR most out (tellsOf l ps blk (rg lo hi e))).2) ∧ AtP g B T ps (tellR most out (tellsOf l ps blk (rg lo hi e))).1 w' ∧ KpR g (X1 g wk bm) u w' := by
  have hseen : seenI l blk = some x := by unfold seenI; rw [if_pos hr]; exact hx
  have hm := right_may hr (find_in hx)
  have hsm := hl.sml x (find_in hx)
  have hL : ∀ out u, AtP g B T ps out u → Lies u x.nd (pl blk) := fun out u ⟨v, h1, _⟩ => hT.lies _ _ _ _ _ h1 hseen
  have hKp := hT.keepsP ps
  cases hlf : x.nd.leaf
  · refine (tellFork84 g wk bm most _ (AtP g B T ps) hKp x.nd (pl blk) (tellsOf l ps blk) out lo hi e u hS ha.ne hlf hsm.few hsm.kb hL hin ?_).mono ?_
    · rintro cs hcut ⟨hcin, hfrom⟩ j hj o' hto u' ⟨v', hS', hp'⟩ hne'
      have hcs : ∀ y ∈ cs, y.length ≤ N := fun y hy => by
        rcases hfrom y hy with rfl | h
        · have := ha.los; rw [Lib.size_eq] at this; omega
        · have := cuts_small hm hlf y h; have := ha.low; omega
      have hhi : (rg lo hi e).hi.length ≤ N := by have := ha.his; rw [Lib.size_eq] at this; exact this
      obtain ⟨q1, q2⟩ := part_small hcs hhi hj
      have hpi := part_is hr hx hlf hcut hcin hj
      have hplo : (partAt (rg lo hi e) cs j).lo = cs.getD j [] := rfl
      obtain ⟨k1, _, k3⟩ := kid_same (k := cs.getD j []) (fork_parts hm hlf).2 (fork_parts hm hlf).1
      have hPj : (partsN (rg lo hi e) cs cs.length)[j]'(by rw [partsN_len]; exact hj) = partAt (rg lo hi e) cs j := partsN_at hj
      have hlen := parts_len (P := partsN (rg lo hi e) cs cs.length) (f := tellsOf l ps blk) (j := j) (by rw [partsN_len]; exact hj)
      rw [hPj, flat_tells _ _ _ (partsN (rg lo hi e) cs cs.length), parts_all hcut (cont_rise hr blk)] at hlen
      have hall := ha.len
      have hol : o'.length ≤ out.length + (((partsN (rg lo hi e) cs cs.length).take j).flatMap (tellsOf l ps blk)).length := by
        have := (tellR_len most (((partsN (rg lo hi e) cs cs.length).take j).flatMap (tellsOf l ps blk)) out).1
        rw [hto] at this
        exact this
      have hA : o'.length + (tellsOf l ps blk (partAt (rg lo hi e) cs j)).length ≤ 10000 := by
        have e0 : (tellsOf l ps blk (rg lo hi e)).length = (List.map (backP (ps.map lfP)) (restL (contL l blk) (rg lo hi e))).length := rfl
        omega
      have hcm : Comes (ps.map lfP) (partAt (rg lo hi e) cs j) := ha.comes.sub fun k hk => part_in hcut hj hk
      have htop := ha.top
      have hlow := ha.low
      have hpath := ha.path
      have hmem : 0 ≤ lastI x.nd.bf (cs.getD j []) → x.nd.bf.getD (lastI x.nd.bf (cs.getD j [])).toNat M.nil ∈ x.nd.bf := fun h0 => by
        rcases lastI_cases x.nd.bf (cs.getD j []) with ⟨i, e1, e2⟩ | e1
        · rw [e1, Int.toNat_natCast, getD_at e2]; exact List.getElem_mem e2
        · rw [e1] at h0; omega
      have hto2 : ∀ b', b' ∈ targetsL x.nd → ∃ y, findI l b' = some y ∧ (deepI y.nd).toNat ≤ D := fun b' hb' => by
        obtain ⟨y, hy, hlt⟩ := right_deep hr (find_in hx) hb'
        have := deep_pos (right_may hr (find_in hy))
        exact ⟨y, hy, by omega⟩
      have hc := tellPart101 g wk bm B most d1 d2 T hT.walks x.nd (pl blk) ps v' o' (tellsOf l ps blk (partAt (rg lo hi e) cs j)) (str (partAt (rg lo hi e) cs j).lo) (str (partAt (rg lo hi e) cs j).hi) (partAt (rg lo hi e) cs j).e u' hS' hp' hne' (by omega) (by omega) ha.few (by rw [str_sz]; omega) (by rw [str_sz]; omega) hsm.few hsm.kb
        (fun v out u h => hT.lies _ _ _ _ _ h hseen) (kidC x.nd.pv (cs.getD j [])) k1 (by exact k3)
        (fun h0 h1 => ⟨by
          unfold tellsOf
          rw [((hpi.1 h0 _ rfl).1 h1)]
          rfl, hcm⟩)
        (fun h0 h2 => by
          unfold tellsOf
          rw [((hpi.1 h0 _ rfl).2.1 h2)]
          rfl)
        (fun m hmm h0 h1 h2 => by
          have hmb := hmem h0
          rw [show x.nd.bf.getD (lastI x.nd.bf (cs.getD j [])).toNat M.nil = m from hmm.symm] at hmb
          have h3 : m.kind = 3 := by
            rcases may_kinds hm m hmb with h | h | h
            · exact absurd h h1
            · exact absurd h h2
            · exact h
          obtain ⟨s1, _, s2⟩ := msgs_small hm hmb
          obtain ⟨y, hy, hyd⟩ := hto2 m.blk (targ_goto hmb h3)
          refine toldBy (D := D) (N := N) hT (x := ⟨m.blk, 0, m.key, m.add⟩) (fun lo hi e u h4 h5 => ih y m.blk hy hyd _ _ lo hi e o' u h4 h5) s1 s2 ?_ (by omega) ha.few q1 q2 (by omega) (by omega) hA hne' hcm
          unfold tellsOf
          rw [((hpi.1 h0 m hmm).2.2 h3)]
          rfl)
        (fun h0 y hy => by
          obtain ⟨hlt, hye⟩ := List.getElem?_eq_some_iff.1 hy
          have hyk : y ∈ x.nd.ks := by rw [← hye]; exact List.getElem_mem hlt
          obtain ⟨s1, s2⟩ := edges_small hm hyk
          obtain ⟨z, hz, hzd⟩ := hto2 y.blk (targ_kid hyk)
          refine toldBy (D := D) (N := N) hT (x := y) (fun lo hi e u h4 h5 => ih z y.blk hz hzd _ _ lo hi e o' u h4 h5) s1 s2 ?_ (by omega) ha.few q1 q2 (by omega) (by omega) hA hne' hcm
          unfold tellsOf
          rw [hpi.2 h0 y (by rw [getD_at hlt]; exact hye.symm)]
          rfl)
      refine hc.mono ?_
      rintro y w' ⟨h1, ⟨v2, h2, h3⟩, h4⟩
      exact ⟨h1, ⟨v2, h2, h3⟩, h4⟩
    · rintro y w' ⟨cs, hcut, h1, h2, h3⟩
      have e1 : (partsN (rg lo hi e) cs cs.length).flatMap (tellsOf l ps blk) = tellsOf l ps blk (rg lo hi e) := by
        rw [flat_tells, parts_all hcut (cont_rise hr blk)]
        rfl
      rw [e1] at h1 h2
      exact ⟨h1, h2, h3⟩
  · have hcl := leaf_cont hr hx hlf
    refine tellLeaf84 g wk bm most _ (AtP g B T ps) hKp x.nd (pl blk) (tellsOf l ps blk (rg lo hi e)) out lo hi e u hS hlf ?_
    rintro u' ⟨v, hS', hp'⟩
    obtain ⟨pa, pc, rfl, hpc, hpm, hprs⟩ := hp'.mem
    have htop := ha.top
    have hpath := ha.path
    have hall := ha.len
    have hcw := hT.walks.cells hS'
    have hc := tellPairs99 g wk most d1 d2 (T _) (hT.walks.hears _) out (pl blk).a1 pa (pl blk).c1 pc x.nd.ps ps lo hi e u' hS' ha.ne (by omega) (by have := hsm.few.l1; omega) (hT.lies _ _ _ _ _ hS' hseen).h1 (fun q hq => by have := (pairs_small hm hlf hq).1; omega) hprs hcw.1 (by omega) hpc hpm ha.few ha.comes
    rw [← hcl] at hc
    rw [hcl] at hc
    unfold tellsOf
    rw [hcl]
    refine hc.mono ?_
    rintro y w' ⟨h1, h2, h3⟩
    obtain ⟨z0, z1, z3, hz⟩ := hT.walks.cell _ _ _ hS'
    exact ⟨h1, ⟨_, h2, hp'.kept h3 hT.walks.gB (fun b hb e => by
      obtain ⟨_, cs, hcs⟩ := row_ge hp'.own hb
      rw [← e, hcs] at hz
      simp only [Option.some.injEq, Obj.cells.injEq] at hz
      exact absurd hz.2.1 (by decide))⟩, h3.wide fun b o h => X0.to1 h⟩
end Go.Proofs.YtegmpfmhlpdmhaaGreat.Key

namespace Go.Proofs.YtegmpfmhlpdmhaaGreat.Key
open Go.RowKit Draw Go.Maps
open Go.ChangeMaps (setBlock heap_setBlock_same heap_setBlock_other)
set_option linter.unusedVariables false
set_option linter.unusedSimpArgs false

/-- the look-up of a place, at whatever world in which the map lies as it lay -/
theorem BMap.look {w : World} {b : Nat} {X : Plc → Prop} (h : BMap w b X) (p : Plc) (hp : p.Ok) :
    ∃ c, (c = true → X p) ∧ ∀ z : World, z.heap[b]? = w.heap[b]? → (Instr.lookup 74 (.map (some b)) p.v true).run Tryz.prog z = .ok (.tuple #[.agg #[], .bool c]) z := by
  obtain ⟨es, clock, hb, F⟩ := h
  obtain ⟨l, hk⟩ := key109 hp
  have hes : ∀ x ∈ es.toList, ∃ l, keyOf Tryz.prog 80 x.key = some l := fun x hx => by
    obtain ⟨q, h1, h2, _⟩ := F x hx
    rw [h2]; exact key109 h1
  have ht : Tryz.prog.underlying 74 = some (.map 80 99) := Tryz.underlying74
  by_cases hex : ∃ x ∈ es.toList, x.key = p.v
  · refine ⟨true, fun _ => ?_, fun z hz => ?_⟩
    · obtain ⟨x, hx, he⟩ := hex
      obtain ⟨q, q1, q2, q3, q4⟩ := F x hx
      obtain rfl : q = p := Plc.inj (q2.symm.trans he)
      exact q3
    · have hbz : z.heap[b]? = some (.map es clock) := hz.trans hb
      rcases law109.find z hk es.toList hes with ⟨h1, h2⟩ | ⟨j, e0, h1, h2, h3⟩
      · obtain ⟨x, hx, he⟩ := hex
        exact absurd he (h2 x hx)
      · obtain ⟨q, q1, q2, q3, q4⟩ := F e0 (List.mem_of_getElem? h2)
        simp [Instr.lookup, run_underlying ht, MapKept.run_getObj_map hbz, law109.check z _ hk, h1, q4, Result.andThen]
  · refine ⟨false, fun h => absurd h Bool.false_ne_true, fun z hz => ?_⟩
    have hbz : z.heap[b]? = some (.map es clock) := hz.trans hb
    rcases law109.find z hk es.toList hes with ⟨h1, h2⟩ | ⟨j, e0, h1, h2, h3⟩
    · simp [Instr.lookup, run_underlying ht, MapKept.run_getObj_map hbz, law109.check z _ hk, h1, zero99 z, Result.andThen]
    · exact absurd ⟨e0, List.mem_of_getElem? h2, h3⟩ hex
theorem KpR.map {g wk bm : Nat} {u : World} (o : Obj) (hg : bm ≠ g) : KpR g (X1 g wk bm) u (setBlock u bm o) := by
  refine ⟨rfl, rfl, rfl, by simp [setBlock], ?_, fun x hx => .inl ?_⟩
  · intro b o' hb _ hX _
    exact (show (setBlock u bm o).heap[b]? = u.heap[b]? by simp only [setBlock]; rw [Array.getElem?_setIfInBounds_ne (fun e => hX (.inr (.inr (.inl e.symm))))]).trans hb
  · rwa [rowOf_same (show (setBlock u bm o).heap[g]? = u.heap[g]? by simp only [setBlock]; rw [Array.getElem?_setIfInBounds_ne hg])] at hx
theorem PathR.map {g B bm : Nat} {u : World} {v : Value} {ps : List Pr} {o o' : Obj} (h : PathR g B u v ps) (hb : u.heap[bm]? = some o) (ho : isMapO o = true) (hg : bm ≠ g) : PathR g B (setBlock u bm o') v ps := by
  have hs : ∀ b, b ≠ bm → (setBlock u bm o').heap[b]? = u.heap[b]? := fun b hne => by simp only [setBlock]; rw [Array.getElem?_setIfInBounds_ne (fun e => hne e.symm)]
  have hne : ∀ b, v.ownBlock = some b → b ≠ bm := fun b hvb e => by
    obtain ⟨_, cs, hcs⟩ := row_ge h.own hvb
    rw [e, hb] at hcs
    cases hcs
    cases ho
  refine ⟨⟨h.own.1, ?_⟩, fun b hvb => ?_⟩
  · rcases h.own.2 with h2 | ⟨b, cap, cur, e1, hB, hh, r⟩
    · exact .inl h2
    · exact .inr ⟨b, cap, cur, e1, hB, (hs b (hne b (by rw [e1]; rfl))).trans hh, r⟩
  · rw [rowOf_same (hs g (fun e => hg e.symm))]
    exact h.off b hvb
set_option maxRecDepth 100000 in
set_option maxHeartbeats 4000000 in
theorem tellStep {l : List It} {f : Int → Option Value} {pl : Int → Pl} {g wk nm bm B : Nat} {most : Int} {d1 d2 : Value} {T : Value → List Pr → World → Prop} (hT : Walker l f pl g wk nm bm B most d1 d2 T) (hbg : bm ≠ g) (hnm : nm < B) (blk : Int) (hwf : (Lit.int .u32 blk).wf = true)
    (x : It) (hsn : seenI l blk = some x) (ps : List Pr) (lo hi : ByteArray) (e : Bool) (out : List Pr) (u : World) (hlo : lo.size ≤ maxLen) (hhi : hi.size ≤ maxLen) (hol : out.length ≤ 100000) (hol2 : (tellR most out (tellsOf l ps blk (rg lo hi e))).1.length ≤ 100000)
    (hS : AtP g B T ps out u)
    (hnode : ∀ u, AtP g B T ps out u → inR (rg lo hi e) lo.data.toList = true → Calls Tryz.prog 44 #[.pointer (some ⟨wk, 0, none⟩), nv x.nd (pl blk), av lo hi e, .func (.func 25) #[] #[d1, d2]] u fun y w' =>
      y = .returned (.bool (tellR most out (tellsOf l ps blk (rg lo hi e))).2) ∧ AtP g B T ps (tellR most out (tellsOf l ps blk (rg lo hi e))).1 w' ∧ KpR g (X1 g wk bm) u w') :
    TellC l g wk bm B most d1 d2 T ps blk lo hi e out u := by
  unfold TellC
  have hK := hT.keepsP ps
  have hg := hK.lg _ _ hS
  have hrow := hK.row _ _ hS
  have hwk := hK.lw _ _ hS
  have hbm := hK.lb _ _ hS
  obtain ⟨W, HW⟩ : ∃ u', Hid (u.alloc (.cells #[.int .u32 blk, .string lo, .string hi, .bool e] 80) = u') := ⟨_, hid rfl⟩
  have hb1 : Below u.heap.size u W := by rw [← HW.out]; exact below_box _ _
  have P1 : W.heap[u.heap.size]? = some (.cells #[.int .u32 blk, .string lo, .string hi, .bool e] 80 (0, 0)) := by rw [← HW.out]; exact Go.heap_alloc_new _ _
  have hSW := hK.later _ _ _ hS hb1
  have hkR := KpR.of_below (X := X1 g wk bm) hb1 hg
  have hrowW : ∀ x, rowOf g W = some x → x < u.heap.size := fun x hx => hrow x (by rwa [rowOf_same (hb1.block g hg)] at hx)
  have hPk := hid (fun (z : World) (hz : KpR g (X1 g wk bm) W z) => keep1 hz P1 (by decide) (Nat.le_refl _) hg hwk hbm hrowW)
  have HB := hid (fun u v (h : T v out u) => (hT.bare v out u h).look ⟨blk, lo, hi, e⟩ ⟨hwf, hlo, hhi⟩)
  have HBe : Hid (Bare l ⟨blk, lo, hi, e⟩ → tellsOf l ps blk (rg lo hi e) = []) := hid (fun h => by unfold tellsOf; rw [show restL (contL l blk) (rg lo hi e) = [] from h]; rfl)
  have HBn : Hid (tellsOf l ps blk (rg lo hi e) = [] → Bare l ⟨blk, lo, hi, e⟩) := hid (fun h => by unfold tellsOf at h; exact List.map_eq_nil_iff.1 h)
  have HEm : Hid (emptyR (rg lo hi e) = true → tellsOf l ps blk (rg lo hi e) = []) := hid (fun h => by unfold tellsOf; rw [rest_none h]; rfl)
  have HEi : Hid (emptyR (rg lo hi e) = !inR (rg lo hi e) lo.data.toList) := hid rfl
  have HE := hid (fun w => empty25 lo hi e w)
  have HND := hid hnode
  clear hnode
  obtain ⟨A, HA⟩ : ∃ A, Hid (tellsOf l ps blk (rg lo hi e) = A) := ⟨_, hid rfl⟩
  rw [HA.out] at HBe HBn HEm HND hol2 ⊢
  obtain ⟨v, hTW, hpW⟩ := hSW
  have hcW := hT.cells _ _ _ hTW
  obtain ⟨c, hcX, hlook⟩ := HB.out _ _ hTW
  have hlk := hid hlook
  have HcX := hid hcX
  clear HB hlook hcX
  have HPl : Hid (Plc.v ⟨blk, lo, hi, e⟩ = .agg #[.int .u32 blk, .string lo, .string hi, .bool e]) := hid rfl
  have hm133 := @zero99
  have hbW := hK.lb _ _ ⟨v, hTW, hpW⟩
  go_enter Tryz.func24, Tryz.ntmps24
  go_upto_region 1 with fail
  rw [HW.out]
  generalize hu0 : u.heap.size = u0 at *
  have HU0 := hid hu0
  clear hu0
  refine wp_region_eachI [(some 12, [], false), (some 13, [(0, 12)], false), (some 14, [(1, 13)], false), (some 15, [(2, 14)], false), (some 16, [], false), (some 17, [(3, 15), (4, 16)], false), (some 11, [(5, 17)], false), (some 18, [(6, 11)], false), (some 19, [(6, 11)], false), (some 7, [], false), (none, [(9, 7), (7, 18)], false), (some 8, [(8, 19)], true)]
    (fun _ z => Below W.heap.size W z) (fun _ z z' => Below z.heap.size z z')
    (fun i Y z => match i with | 0 => Y = .pointer (some ⟨wk, 0, none⟩) | 1 => Y = .pointer (some ⟨wk, 0, none⟩) | 2 => Y = .pointer (some ⟨wk, 1, none⟩) | 3 => Y = .map (some bm) | 4 => Y = (.agg #[.int .u32 blk, .string lo, .string hi, .bool e]) | 5 => Y = .tuple #[.agg #[], .bool c] | 6 => Y = .tuple #[.agg #[], .bool c] | 7 => Y = .agg #[] | 8 => Y = .bool c | 9 => ∃ k, Y = .pointer (some ⟨k, 0, none⟩) ∧ z.heap[k]? = some (.cells #[] 99 (0, 0)) ∧ W.heap.size ≤ k | 10 => True | 11 => Y = .bool c | _ => True)
    (by kernel_rfl) (by kernel_rfl) (fun _ => (Below.refl _ _).drew) (fun i j z z' _ h _ h' => h.trans (h'.mono h.size)) (fun i j v z z' hn h h' hv => ?_) ⟨?_, ?_, ?_, ?_, ?_, ?_, ?_, ?_, ?_, ?_, ?_, ?_, trivial⟩ ?_
  · match j with
    | 0 => exact hv
    | 1 => exact hv
    | 2 => exact hv
    | 3 => exact hv
    | 4 => exact hv
    | 5 => exact hv
    | 6 => exact hv
    | 7 => exact hv
    | 8 => exact hv
    | 9 => obtain ⟨k, e1, e2, e3⟩ := hv; exact ⟨k, e1, (h'.block k (Array.getElem?_eq_some_iff.1 e2).1).trans e2, e3⟩
    | 10 => exact hv
    | 11 => exact hv
    | _ + 12 => trivial
  · rintro z hz
    exact opYields_val _ (by kernel_rfl) (by go_simp) ⟨Below.refl _ _, rfl⟩
  · rintro z hz _ rfl
    exact opYields_val (.pointer (some ⟨wk, 0, none⟩)) (by kernel_rfl) (by go_simp) ⟨Below.refl _ _, rfl⟩
  · rintro z hz _ rfl
    exact opYields_val (.pointer (some ⟨wk, 1, none⟩)) (by kernel_rfl) (by go_simp) ⟨Below.refl _ _, rfl⟩
  · rintro z hz _ rfl
    replace hz : Below W.heap.size W z := hz
    have hc1 := cell_of_row _ _ 1 _ _ _ ((hz.block wk (Array.getElem?_eq_some_iff.1 hcW).1).trans hcW)
    exact opYields_val (.map (some bm)) (by kernel_rfl) (by go_simp) ⟨Below.refl _ _, rfl⟩
  · rintro z hz
    replace hz : Below W.heap.size W z := hz
    have hp4 := (hz.block u0 (Array.getElem?_eq_some_iff.1 P1).1).trans P1
    have h0 := cell_of_row _ _ 0 _ _ _ hp4
    have h1 := cell_of_row _ _ 1 _ _ _ hp4
    have h2 := cell_of_row _ _ 2 _ _ _ hp4
    have h3 := cell_of_row _ _ 3 _ _ _ hp4
    exact opYields_val ((.agg #[.int .u32 blk, .string lo, .string hi, .bool e])) (by kernel_rfl) (by go_simp) ⟨Below.refl _ _, rfl⟩
  · rintro z hz _ rfl _ rfl
    replace hz : Below W.heap.size W z := hz
    have hl := hlk.out z (hz.block bm hbW)
    rw [HPl.out] at hl
    exact opYields_val (.tuple #[.agg #[], .bool c]) (by kernel_rfl) (by simp [execOp, go_sem, hl, Result.andThen]) ⟨Below.refl _ _, rfl⟩
  · rintro z hz _ rfl
    exact opYields_val (.tuple #[.agg #[], .bool c]) (by kernel_rfl) (by go_simp) ⟨Below.refl _ _, rfl⟩
  · rintro z hz _ rfl
    exact opYields_val (.agg #[]) (by kernel_rfl) (by go_simp) ⟨Below.refl _ _, rfl⟩
  · rintro z hz _ rfl
    exact opYields_val (.bool c) (by kernel_rfl) (by go_simp) ⟨Below.refl _ _, rfl⟩
  · rintro z hz
    exact opYields_val (.pointer (some ⟨z.heap.size, 0, none⟩)) (u' := z.alloc (.cells #[] 99)) (by kernel_rfl) (by go_simp) ⟨below_box _ _, _, rfl, Go.heap_alloc_new _ _, Below.size hz⟩
  · rintro z hz _ ⟨k, rfl, hk, hkW⟩ _ rfl
    exact opYields_put (u' := z) (by kernel_rfl) (by go_simp) ⟨Below.refl _ _, trivial⟩
  · rintro z hz _ rfl
    exact opYields_val (.bool c) (by kernel_rfl) (by go_simp) ⟨Below.refl _ _, rfl⟩
  · rintro z hz x0 x1 x2 x3 x4 x5 x6 x7 x8 x9 x10 x11 h11
    replace hz : Below W.heap.size W z := hz
    replace h11 : x11 = .bool c := h11
    subst h11
    simp only [givingAll, Act.put, List.setIfInBounds_toArray, List.set_cons_zero, List.set_cons_succ, List.getElem_toArray, List.getElem_cons_succ, List.getElem_cons_zero]
    have hp4 := (hz.block u0 (Array.getElem?_eq_some_iff.1 P1).1).trans P1
    have h0 := cell_of_row _ _ 0 _ _ _ hp4
    have h1 := cell_of_row _ _ 1 _ _ _ hp4
    have h2 := cell_of_row _ _ 2 _ _ _ hp4
    have h3 := cell_of_row _ _ 3 _ _ _ hp4
    have hS0 := hK.later _ _ _ ⟨v, hTW, hpW⟩ hz
    have hk0 := hkR.trans (KpR.of_below (X := X1 g wk bm) hz (hK.lg _ _ ⟨v, hTW, hpW⟩))
    cases c
    case true =>
      have hA0 := HBe.out (HcX.out rfl)
      subst hA0
      go_wp2_with fail
      go_ret
      exact ⟨rfl, hS0, hk0⟩
    case false =>
    go_wp2_with fail
    refine (HE.out _).mono ?_
    rintro y w3 ⟨rfl, hb3⟩
    have hS3 := hK.later _ _ _ hS0 hb3
    have hk3 := hk0.trans (KpR.of_below (X := X1 g wk bm) hb3 (hK.lg _ _ hS0))
    obtain ⟨b, Hb⟩ : ∃ b, Hid (emptyR (rg lo hi e) = b) := ⟨_, hid rfl⟩
    rw [Hb.out]
    cases b
    case true =>
      have hA0 := HEm.out Hb.out
      subst hA0
      go_wp2_with fail
      go_ret
      exact ⟨rfl, hS3, hk3⟩
    case false =>
    have hin : inR (rg lo hi e) lo.data.toList = true := by have := HEi.out; rw [Hb.out] at this; simpa using this.symm
    obtain ⟨v3, hT3, hp3⟩ := hS3
    have hg3 := hK.lg _ _ ⟨v3, hT3, hp3⟩
    have hc3 := hT.cells _ _ _ hT3
    have q3 := cell_of_row _ _ 3 _ _ _ hc3
    have hpl3 := (hb3.block u0 (Array.getElem?_eq_some_iff.1 hp4).1).trans hp4
    clear h0 h1 h2 h3
    go_upto_region 5 with fail
    obtain ⟨⟨oR, bR⟩, HR⟩ : ∃ z, Hid (tellR most out A = z) := ⟨_, hid rfl⟩
    have hlenR := tellR_len most A out
    rw [HR.out] at HND hlenR hol2
    dsimp only at HND hlenR hol2
    refine wp_region_eachI [(some 30, [], false), (some 31, [], false), (some 32, [(1, 31)], false), (some 33, [(2, 32)], false), (some 34, [(3, 33)], false), (some 35, [], false), (some 36, [(5, 35)], false), (some 37, [(4, 34), (6, 36)], false), (some 38, [], false), (some 39, [(8, 38)], false), (some 40, [], false), (some 41, [(0, 30), (7, 37), (9, 39), (10, 40)], true), (some 10, [(11, 41)], true)]
      (fun i z => if i ≤ 11 then Below w3.heap.size w3 z else KpR g (X1 g wk bm) w3 z) (fun i z z' => if i = 11 then KpR g (X1 g wk bm) z z' else Below z.heap.size z z')
      (fun i Y z => match i with | 0 => Y = .pointer (some ⟨wk, 0, none⟩) | 1 => Y = .pointer (some ⟨wk, 0, none⟩) | 2 => Y = .pointer (some ⟨wk, 0, none⟩) | 3 => Y = .pointer (some ⟨wk, 0, none⟩) | 4 => Y = .map (some nm) | 5 => Y = .pointer (some ⟨u0, 0, none⟩) | 6 => Y = .int .u32 blk | 7 => Y = nv x.nd (pl blk) | 8 => Y = .pointer (some ⟨u0, 1, none⟩) | 9 => Y = av lo hi e | 10 => Y = .func (.func 25) #[] #[d1, d2] | 11 => Y = .bool bR ∧ AtP g B T ps oR z | 12 => Y = .bool bR | _ => True)
      (by kernel_rfl) (by kernel_rfl) (fun j => ?_) (fun i j z z' hl hi hj hr => ?_) (fun i j v z z' hn h h' hv => ?_) ⟨?_, ?_, ?_, ?_, ?_, ?_, ?_, ?_, ?_, ?_, ?_, ?_, ?_, trivial⟩ ?_
    · split
      · exact (Below.refl _ _).drew
      · exact KpR.of_below (Below.refl _ _).drew hg3
    · by_cases hia : i = 11
      · subst hia
        have hj2 : ¬ j ≤ 11 := by
          intro hle
          match j, hle, hl with
          | 0, _, hl => exact absurd hl (by decide)
          | 1, _, hl => exact absurd hl (by decide)
          | 2, _, hl => exact absurd hl (by decide)
          | 3, _, hl => exact absurd hl (by decide)
          | 4, _, hl => exact absurd hl (by decide)
          | 5, _, hl => exact absurd hl (by decide)
          | 6, _, hl => exact absurd hl (by decide)
          | 7, _, hl => exact absurd hl (by decide)
          | 8, _, hl => exact absurd hl (by decide)
          | 9, _, hl => exact absurd hl (by decide)
          | 10, _, hl => exact absurd hl (by decide)
          | 11, _, hl => exact absurd hl (by decide)
          | n + 12, hle, _ => omega
        rw [if_pos (by decide)] at hi
        rw [if_neg hj2] at hj ⊢
        rw [if_pos rfl] at hr
        exact hj.trans hr
      · rw [if_neg hia] at hr
        split at hj
        · rename_i hle; rw [if_pos hle]; exact hj.trans (hr.mono hj.size)
        · rename_i hle; rw [if_neg hle]; exact hj.trans (KpR.of_below hr (Nat.lt_of_lt_of_le hg3 hj.size))
    · by_cases hia : i = 11
      · subst hia
        match j with
        | 0 => exact absurd hn (by decide)
        | 1 => exact absurd hn (by decide)
        | 2 => exact absurd hn (by decide)
        | 3 => exact absurd hn (by decide)
        | 4 => exact absurd hn (by decide)
        | 5 => exact absurd hn (by decide)
        | 6 => exact absurd hn (by decide)
        | 7 => exact absurd hn (by decide)
        | 8 => exact absurd hn (by decide)
        | 9 => exact absurd hn (by decide)
        | 10 => exact absurd hn (by decide)
        | 11 => exact absurd hn (by decide)
        | 12 => exact hv
        | _ + 13 => trivial
      · rw [if_neg hia] at h'
        match j with
        | 0 => exact hv
        | 1 => exact hv
        | 2 => exact hv
        | 3 => exact hv
        | 4 => exact hv
        | 5 => exact hv
        | 6 => exact hv
        | 7 => exact hv
        | 8 => exact hv
        | 9 => exact hv
        | 10 => exact hv
        | 11 => exact ⟨hv.1, hK.later _ _ _ hv.2 h'⟩
        | 12 => exact hv
        | _ + 13 => trivial
    · rintro z hz
      exact opYields_val _ (by kernel_rfl) (by go_simp) ⟨Below.refl _ _, rfl⟩
    · rintro z hz
      exact opYields_val _ (by kernel_rfl) (by go_simp) ⟨Below.refl _ _, rfl⟩
    · rintro z hz _ rfl
      exact opYields_val (.pointer (some ⟨wk, 0, none⟩)) (by kernel_rfl) (by go_simp) ⟨Below.refl _ _, rfl⟩
    · rintro z hz _ rfl
      exact opYields_val (.pointer (some ⟨wk, 0, none⟩)) (by kernel_rfl) (by go_simp) ⟨Below.refl _ _, rfl⟩
    · rintro z hz _ rfl
      replace hz : Below w3.heap.size w3 z := hz
      have hc1 := cell_of_row _ _ 0 _ _ _ ((hz.block wk (Array.getElem?_eq_some_iff.1 hc3).1).trans hc3)
      exact opYields_val (.map (some nm)) (by kernel_rfl) (by go_simp) ⟨Below.refl _ _, rfl⟩
    · rintro z hz
      exact opYields_val _ (by kernel_rfl) (by go_simp) ⟨Below.refl _ _, rfl⟩
    · rintro z hz _ rfl
      replace hz : Below w3.heap.size w3 z := hz
      have h0 := cell_of_row _ _ 0 _ _ _ ((hz.block u0 (Array.getElem?_eq_some_iff.1 hpl3).1).trans hpl3)
      exact opYields_val (.int .u32 blk) (by kernel_rfl) (by go_simp) ⟨Below.refl _ _, rfl⟩
    · rintro z hz _ rfl _ rfl
      replace hz : Below w3.heap.size w3 z := hz
      obtain ⟨nn, hvm⟩ := hT.nodes _ _ _ ((hT.walks.keeps v3).later _ _ _ hT3 hz)
      have hl := hvm.lookup (t := 67) (e := 46) Tryz.underlying67 (zero46 _) blk hwf
      rw [hT.at_ blk x hsn] at hl
      exact opYields_val (nv x.nd (pl blk)) (by kernel_rfl) (by simp [execOp, go_sem, hl, Result.andThen]) ⟨Below.refl _ _, rfl⟩
    · rintro z hz
      exact opYields_val _ (by kernel_rfl) (by go_simp) ⟨Below.refl _ _, rfl⟩
    · rintro z hz _ rfl
      replace hz : Below w3.heap.size w3 z := hz
      have hpz := (hz.block u0 (Array.getElem?_eq_some_iff.1 hpl3).1).trans hpl3
      have h1 := cell_of_row _ _ 1 _ _ _ hpz
      have h2 := cell_of_row _ _ 2 _ _ _ hpz
      have h3 := cell_of_row _ _ 3 _ _ _ hpz
      exact opYields_val (av lo hi e) (by kernel_rfl) (by go_simp) ⟨Below.refl _ _, rfl⟩
    · rintro z hz
      exact opYields_val _ (by kernel_rfl) (by go_simp) ⟨Below.refl _ _, rfl⟩
    · rintro z hz _ rfl _ rfl _ rfl _ rfl
      replace hz : Below w3.heap.size w3 z := hz
      exact opYields_call 44 #[.pointer (some ⟨wk, 0, none⟩), nv x.nd (pl blk), av lo hi e, .func (.func 25) #[] #[d1, d2]] (by kernel_rfl) (by go_simp) ((HND.out z (hK.later _ _ _ ⟨v3, hT3, hp3⟩ hz) hin).mono fun y u' ⟨h1, h2, h3⟩ => ⟨_, h1, h3, rfl, h2⟩)
    · rintro z hz _ ⟨rfl, _⟩
      exact opYields_val (.bool bR) (by kernel_rfl) (by go_simp) ⟨Below.refl _ _, rfl⟩
    · rintro z2 hz2 x0 x1 x2 x3 x4 x5 x6 x7 x8 x9 x10 x11 h11 x12 h12
      replace hz2 : KpR g (X1 g wk bm) w3 z2 := hz2
      replace h12 : x12 = .bool bR := h12
      subst h12
      obtain ⟨rfl, hS2⟩ := h11
      obtain ⟨v2, hT2, hp2⟩ := hS2
      simp only [givingAll, Act.put, List.setIfInBounds_toArray, List.set_cons_zero, List.set_cons_succ, List.getElem_toArray, List.getElem_cons_succ, List.getElem_cons_zero]
      have hk2 := hk3.trans hz2
      have hc2 := hT.cells _ _ _ hT2
      have g3 := cell_of_row _ _ 3 _ _ _ hc2
      have hP2 := hPk.out z2 ((KpR.of_below (X := X1 g wk bm) (hz.trans (hb3.mono hz.size)) (hK.lg _ _ ⟨v, hTW, hpW⟩)).trans hz2)
      clear hpl3 hp4 P1 hc3 q3
      by_cases hq : oR.length = out.length
      · have hA0 : A = [] := by
          by_cases h : A = []
          · exact h
          · have := hlenR.2.2 h; omega
        have hqi : (oR.length : Int) = (out.length : Int) := by omega
        rw [hqi] at g3
        have hBr := HBn.out hA0
        go_upto_region 7 with fail
        refine wp_region_until [(some 48, [], false), (some 49, [(0, 48)], false), (some 50, [(1, 49)], false), (some 51, [(2, 50)], true), (some 52, [], true), (some 53, [], true), (none, [(3, 51), (4, 52), (5, 53)], false)]
          (fun _ y => Below z2.heap.size z2 y) (fun _ y y' => Below y.heap.size y y')
          (fun i Y y => match i with | 0 => Y = .pointer (some ⟨wk, 0, none⟩) | 1 => Y = .pointer (some ⟨wk, 0, none⟩) | 2 => Y = .pointer (some ⟨wk, 1, none⟩) | 3 => Y = .map (some bm) | 4 => Y = (.agg #[.int .u32 blk, .string lo, .string hi, .bool e]) | 5 => Y = .agg #[] | _ => True)
          (by kernel_rfl) (by kernel_rfl) (fun _ => (Below.refl _ _).drew) (fun i j u u' _ h _ h' => h.trans (h'.mono h.size)) (fun i j v u u' hn h h' hv => hv) [(some 48, [], false), (some 49, [(0, 48)], false), (some 50, [(1, 49)], false), (some 51, [(2, 50)], true), (some 52, [], true), (some 53, [], true)] 6 rfl _ rfl rfl (by kernel_rfl) (by kernel_rfl) ⟨?_, ?_, ?_, ?_, ?_, ?_, trivial⟩ ?_
        · rintro y hy
          exact opYields_val _ (by kernel_rfl) (by go_simp) ⟨Below.refl _ _, rfl⟩
        · rintro y hy _ rfl
          exact opYields_val (.pointer (some ⟨wk, 0, none⟩)) (by kernel_rfl) (by go_simp) ⟨Below.refl _ _, rfl⟩
        · rintro y hy _ rfl
          exact opYields_val (.pointer (some ⟨wk, 1, none⟩)) (by kernel_rfl) (by go_simp) ⟨Below.refl _ _, rfl⟩
        · rintro y hy _ rfl
          replace hy : Below z2.heap.size z2 y := hy
          have hc1 := cell_of_row _ _ 1 _ _ _ ((hy.block wk (Array.getElem?_eq_some_iff.1 hc2).1).trans hc2)
          exact opYields_val (.map (some bm)) (by kernel_rfl) (by go_simp) ⟨Below.refl _ _, rfl⟩
        · rintro y hy
          replace hy : Below z2.heap.size z2 y := hy
          have hpz := (hy.block u0 (Array.getElem?_eq_some_iff.1 hP2).1).trans hP2
          have h0 := cell_of_row _ _ 0 _ _ _ hpz
          have h1 := cell_of_row _ _ 1 _ _ _ hpz
          have h2 := cell_of_row _ _ 2 _ _ _ hpz
          have h3 := cell_of_row _ _ 3 _ _ _ hpz
          exact opYields_val ((.agg #[.int .u32 blk, .string lo, .string hi, .bool e])) (by kernel_rfl) (by go_simp) ⟨Below.refl _ _, rfl⟩
        · rintro y hy
          exact opYields_val (.agg #[]) (by kernel_rfl) (by go_simp) ⟨Below.refl _ _, rfl⟩
        · intro y hy x0 x1 x2 x3 e3 x4 e4 x5 e5
          replace hy : Below z2.heap.size z2 y := hy
          replace e3 : x3 = .map (some bm) := e3
          replace e4 : x4 = (.agg #[.int .u32 blk, .string lo, .string hi, .bool e]) := e4
          replace e5 : x5 = .agg #[] := e5
          subst e3 e4 e5
          have hT4 := (hT.walks.keeps v2).later _ _ _ hT2 hy
          have hp5 := hp2.later hy ((hT.walks.keeps v2).lg _ _ hT2)
          have hbm4 := hT.bare _ _ _ hT4
          obtain ⟨o4, ho4, hom⟩ := hbm4.isMap
          obtain ⟨es, clock, hrun, hbm5⟩ := hbm4.store Tryz.underlying74 ⟨blk, lo, hi, e⟩ ⟨hwf, hlo, hhi⟩ hBr
          rw [HPl.out] at hrun
          refine Puts.mk (setBlock y bm (.map es clock)) (by kernel_rfl) (by simp [execOp, go_sem, hrun, Result.andThen]) ?_
          have hT6 := hT.store _ _ _ es clock hT4 hbm5
          have hp6 := hp5.map (o' := .map es clock) ho4 hom hbg
          have hk6 := hk2.trans ((KpR.of_below (X := X1 g wk bm) hy ((hT.walks.keeps v2).lg _ _ hT2)).trans (KpR.map (.map es clock) hbg))
          generalize setBlock y bm (.map es clock) = y5 at *
          simp only [Act.put, List.setIfInBounds_toArray, List.set_cons_zero, List.set_cons_succ, List.getElem_toArray, List.getElem_cons_succ, List.getElem_cons_zero]
          go_wp2_with fail
          go_ret
          rw [HR.out]
          exact ⟨rfl, ⟨v2, hT6, hp6⟩, hk6⟩
      · have hqi : ((oR.length : Int) == (out.length : Int)) = false := by rw [beq_eq_false_iff_ne]; omega
        have hqd : decide ((oR.length : Int) = (out.length : Int)) = false := decide_eq_false (by omega)
        go_wp2_with fail
        go_ret
        rw [HR.out]
        exact ⟨rfl, ⟨v2, hT2, hp2⟩, hk2⟩
/-- a place of a right graph is told -/
theorem tell56 {l : List It} {f : Int → Option Value} {pl : Int → Pl} {g wk nm bm B : Nat} {most : Int} {d1 d2 : Value} {T : Value → List Pr → World → Prop} (hT : Walker l f pl g wk nm bm B most d1 d2 T) (hl : Fine l) (hr : rightB l = true) (hbg : bm ≠ g) (hnm : nm < B) :
    ∀ (D : Nat) (y : It) (b : Int), findI l b = some y → (deepI y.nd).toNat ≤ D → ∀ ps N lo hi e out u, Asks l most ps b D N lo hi e out → AtP g B T ps out u → TellC l g wk bm B most d1 d2 T ps b lo hi e out u := by
  intro D
  induction D with
  | zero =>
    intro y b hy hD
    have := deep_pos (right_may hr (find_in hy))
    omega
  | succ D ih =>
    intro y b hy hD ps N lo hi e out u ha hS
    have hyb : y.blk = b := by
      have := List.find?_some hy
      simpa using this
    have hwf := (hl.inn y (find_in hy)).blk
    rw [hyb] at hwf
    have hsn : seenI l b = some y := by unfold seenI; rw [if_pos hr]; exact hy
    have hN := ha.top
    have h1 := ha.los
    have h2 := ha.his
    have h3 := ha.len
    have h4 := (tellR_len most (tellsOf l ps b (rg lo hi e)) out).1
    refine tellStep hT hbg hnm b hwf y hsn ps lo hi e out u (by unfold maxLen; omega) (by unfold maxLen; omega) (by omega) (by omega) hS fun u' hS' hin => ?_
    exact node84 hT hl hr hy hD ih ps N lo hi e out u' ha hS' hin
end Go.Proofs.YtegmpfmhlpdmhaaGreat.Key

namespace Go.Proofs.YtegmpfmhlpdmhaaGreat.Key
open Go Go.RowKit
set_option linter.unusedVariables false
set_option linter.unusedSimpArgs false

/-- an iterator that stops when it is told to, and leaves alone what Imp says -/
def SeqY {α : Type} (F : Fence) (n : Nat) (P : Program) (g : Nat) (lb : Array Value) (encs : α → Array Value) (Kp : World → World → Prop) (S Sp : List α → Prop) (PJ PX : List α → World → Prop) (N : Nat) (w : World) (gc B : Nat) : Prop :=
  ∀ (l : Nat) (J Jx : List α → World → Prop) (W : World), Below w.heap.size w W → AbX gc B J → AbX gc B Jx → (∀ pre W, J pre W → PJ pre W) → (∀ pre W, Jx pre W → PX pre W) →
    (∀ pre x W1, J pre W1 → pre.length < N → YieldAt F (n - 1) P l (encs x) W1 fun e W' =>
      (e = .returned (.bool true) ∧ J (pre ++ [x]) W' ∧ Kp W1 W') ∨ (e = .returned (.bool false) ∧ Jx (pre ++ [x]) W' ∧ Kp W1 W')) →
    J [] W →
    CallsIn F n P g (#[.func (.yield l) #[] #[]] ++ lb) W fun e W' => (∃ v, e = .returned v) ∧ ((∃ xs, S xs ∧ J xs W') ∨ (∃ pre, Sp pre ∧ Jx pre W'))

set_option maxRecDepth 100000 in
set_option maxHeartbeats 1000000 in
theorem wpIn_rangeFunc_ownY {α : Type} {g : Operand} {ps : Array Tmp} {assign body : Code} {Q : Exit → Act → World → Prop} {a : Act} {w : World}
    {F : Fence} {n : Nat} {P : Program} (hro : F.round = none) (h1 : 1 ≤ n) {gf : Nat} {lb : Array Value} (hg : a.eval g = .func (.func gf) #[] lb) (hFg : F.fn gf) (eg : ∀ args w, (callFunc gf args).run P w = .ok (.enter gf args) w)
    {encs : α → Array Value} {Kp : World → World → Prop} {S Sp : List α → Prop} {PJ PX : List α → World → Prop} {N gc : Nat} {w0 : World} (hseq : SeqY F (n - 1) P gf lb encs Kp S Sp PJ PX N w0 gc w.heap.size)
    (hKt : ∀ {A B C : World}, Kp A B → Kp B C → Kp A C) (hKb : ∀ (W : World) (l : Nat) (o o' : Obj), w.heap.size ≤ l → W.heap[l]? = some o → o.isCells = false → o.isWalk = false → isMapO o = false → Kp W (W.putObj l o')) (hb0 : Below w0.heap.size w0 w) (hps : ∀ x, (encs x).size = ps.size)
    (I : List α → World → Prop) (Ix : Code → List α → World → Prop) (hI : OwnFrom w.heap.size I) (hIx : ∀ c, OwnFrom w.heap.size (Ix c)) (hIX : AbX gc w.heap.size I) (hIxX : ∀ c, AbX gc w.heap.size (Ix c)) (hPJ : ∀ pre W, I pre W → PJ pre W) (hPX : ∀ c pre W, Ix c pre W → PX pre W) (h0 : I [] w) (Ax : α → Act → World → Prop) (hAx : ∀ x a', OwnFrom w.heap.size (fun (_ : Unit) W => Ax x a' W))
    (hassign : ∀ (l : Nat) (pre : List α) (x : α) (W : World) (K : Act → World → Prop), I pre W → (∀ a' W', KeepsFrom w.heap.size W W' → Kp W W' → I pre W' → Ax x a' W' → K a' W') →
      assign.wpIn (F.inRound l) (n - 1 - 1) P (Exit.then K (fun _ _ _ => False)) { tmps := (ps.zip (encs x)).foldl (fun t (p, v) => t.setIfInBounds p v) a.tmps, defers := [] } W)
    (hbody : ∀ (l : Nat) (pre : List α) (x : α) (a' : Act) (W : World), w.heap.size ≤ l → (∃ r, W.heap[l]? = some (.loop r)) → I pre W → Ax x a' W → pre.length < N → body.wpIn (F.inRound l) (n - 1 - 1) P (ownPostX w.heap.size Kp I Ix (pre ++ [x]) W) a' W)
    (hdone : ∀ (D : Nat) (xs : List α) (W : World), w.heap.size ≤ D → S xs → I xs W → W.heap[D]? = some (.deferred (some [])) → Q .normal { a with defers := { target := .collected D, args := #[] } :: a.defers } W)
    (hstop : ∀ (D : Nat) (c : Code) (pre : List α) (W : World), w.heap.size ≤ D → Sp pre → Ix c pre W → W.heap[D]? = some (.deferred (some [])) → c.wpIn F n P Q { a with defers := { target := .collected D, args := #[] } :: a.defers } W) :
    (Code.rangeFunc g ps assign body).wpIn F n P Q a w := by
  refine wpIn_rangeFunc ?_
  intro fn hfn
  rw [hro]
  obtain ⟨rec, hrec⟩ : ∃ rec : LoopState → Option Code → Loop, rec = fun st pe => { state := st, pending := pe, fn, tmps := a.tmps, params := ps, assign, body, defers := w.heap.size } := ⟨_, rfl⟩
  obtain ⟨W1, hW1⟩ : ∃ W1, (w.alloc (.deferred (some []))).alloc (.loop (rec .ready none)) = W1 := ⟨_, rfl⟩
  have hL1 : W1.heap[w.heap.size + 1]? = some (.loop (rec .ready none)) := by
    rw [← hW1]; have := World.alloc_heap_new (w.alloc (.deferred (some []))) (.loop (rec .ready none)); rwa [World.size_alloc] at this
  have hK1 : W1.heap[w.heap.size]? = some (.deferred (some [])) := by
    rw [← hW1]; exact (Below.heap_alloc _ _ _ (by simp)).trans (World.alloc_heap_new w _)
  have hI1 : I [] W1 := by rw [← hW1]; exact hI.alloc _ (hI.alloc _ h0)
  have hb1 : Below w0.heap.size w0 W1 := by
    rw [← hW1]; exact hb0.trans ((((Below.refl _ w).alloc (Nat.le_refl _) _).alloc (by simp) _).mono hb0.size)
  refine ⟨w.heap.size + 1, [{ target := .collected w.heap.size, args := #[] }], W1, { target := .fn (.func gf) lb, args := #[.func (.yield (w.heap.size + 1)) #[] #[]] }, W1, gf,
    #[.func (.yield (w.heap.size + 1)) #[] #[]] ++ lb, W1, ?_, ?_, ?_, ?_, fun _ => h1, ?_⟩
  · rw [← hW1, hrec]; exact run_enterLoop_outer _ _ _ _ _
  · simp only [resolve, hg]
    simp [go_sem]
  · intro f' hf'; simp [Target.leads] at hf'; subst hf'; exact hFg
  · simp [invoke, go_sem, eg]
  · -- THE ITERATOR's CONTRACT, AT THE CALLER's INVARIANT WITH THE TWO FACTS OF BOOK-KEEPING BESIDE IT
    refine (hseq (w.heap.size + 1)
      (fun pre W => I pre W ∧ W.heap[w.heap.size + 1]? = some (.loop (rec .ready none)) ∧ W.heap[w.heap.size]? = some (.deferred (some [])))
      (fun pre W => ∃ c, Ix c pre W ∧ W.heap[w.heap.size + 1]? = some (.loop (rec .done (some c))) ∧ W.heap[w.heap.size]? = some (.deferred (some [])))
      W1 hb1
      (fun s X Y hs hk => ⟨hIX s X Y hs.1 hk, hk.same _ _ hs.2.1 (.inr (.inl ⟨rfl, rfl, rfl⟩)), hk.same _ _ hs.2.2 (.inr (.inl ⟨rfl, rfl, rfl⟩))⟩)
      (fun s X Y hs hk => by
        obtain ⟨c, hc, hl, hd⟩ := hs
        exact ⟨c, hIxX c s X Y hc hk, hk.same _ _ hl (.inr (.inl ⟨rfl, rfl, rfl⟩)), hk.same _ _ hd (.inr (.inl ⟨rfl, rfl, rfl⟩))⟩)
      (fun pre W h => hPJ pre W h.1) (fun pre W h => by
        obtain ⟨c, hc, _⟩ := h
        exact hPX c pre W hc)
      ?_ ⟨hI1, hL1, hK1⟩).mono ?_
    · -- ONE ROUND
      rintro pre x W ⟨hi, hl, hk⟩ hlen
      have hlt : w.heap.size + 1 < W.heap.size := (Array.getElem?_eq_some_iff.1 hl).1
      have hy := run_yield (P := P) (args := encs x) hl (by rw [hrec]; exact hps x)
      rw [hrec] at hy
      refine ⟨fn, _, assign, body, hy, roundIn_of_wpIn hfn (hassign _ pre x W _ hi ?_)⟩
      clear hy
      intro a' Wa hkfa hkpa hia hax
      -- THE ASSIGN CODE MAY HAVE LAID BLOCKS (a loop variable that an inner function captures is boxed): the two blocks of book-keeping lie as they lay
      replace hl := hkfa.same _ _ (by omega) hl rfl
      replace hk := hkfa.same _ _ (Nat.le_refl _) hk rfl
      replace hlt : w.heap.size + 1 < Wa.heap.size := (Array.getElem?_eq_some_iff.1 hl).1
      replace hi := hia
      clear hia
      revert hkpa hkfa
      generalize W = Wb
      intro hkfa hkpa
      obtain ⟨W, rfl⟩ : ∃ W, W = Wa := ⟨_, rfl⟩
      refine ⟨_, run_beginRound hl (by rw [hrec]), ?_⟩
      have hl2 : (W.putObj (w.heap.size + 1) (.loop { rec .ready none with state := .busy })).heap[w.heap.size + 1]? = some (.loop { rec .ready none with state := .busy }) := World.putObj_heap_same hlt
      have hk2 : (W.putObj (w.heap.size + 1) (.loop { rec .ready none with state := .busy })).heap[w.heap.size]? = some (.deferred (some [])) := (World.putObj_heap_other (by omega)).trans hk
      have hw2 : Kp W (W.putObj (w.heap.size + 1) (.loop { rec .ready none with state := .busy })) := hKb _ _ _ _ (by omega) hl rfl rfl rfl
      refine wpIn_mono (hbody _ pre x a' _ (by omega) ⟨_, hl2⟩ (hI.putObj _ hi (by omega) hl rfl) ((hAx x a').putObj (s := ()) _ hax (by omega) hl rfl) hlen) ?_
      have fin : ∀ (jump : Option Code) (W3 : World), KeepsFrom w.heap.size (W.putObj (w.heap.size + 1) (.loop { rec .ready none with state := .busy })) W3 →
          (Instr.endRound (w.heap.size + 1) jump).run P W3 = .ok (.bool jump.isNone) (W3.putObj (w.heap.size + 1) (.loop (rec (if jump.isNone then .ready else .done) jump))) ∧
          W3.heap[w.heap.size + 1]? = some (.loop { rec .ready none with state := .busy }) ∧
          (W3.putObj (w.heap.size + 1) (.loop (rec (if jump.isNone then .ready else .done) jump))).heap[w.heap.size + 1]? = some (.loop (rec (if jump.isNone then .ready else .done) jump)) ∧
          (W3.putObj (w.heap.size + 1) (.loop (rec (if jump.isNone then .ready else .done) jump))).heap[w.heap.size]? = some (.deferred (some [])) := fun jump W3 hk3 => by
        have hl3 := hk3.same _ _ (by omega) hl2 rfl
        have := run_endRound (P := P) jump hl3
        rw [hrec] at this ⊢
        exact ⟨this, by rw [hrec] at hl3; exact hl3, World.putObj_heap_same (Array.getElem?_eq_some_iff.1 hl3).1, (World.putObj_heap_other (by omega)).trans (hk3.same _ _ (Nat.le_refl _) hk2 rfl)⟩
      rintro e a3 W3 hp
      cases e with
      | normal =>
        obtain ⟨hk3, hkp3, hi3⟩ := hp
        obtain ⟨hr, hl3, hl4, hk4⟩ := fin none W3 hk3
        exact ⟨_, _, hr, .inl ⟨rfl, ⟨hI.putObj _ hi3 (by omega) hl3 rfl, hl4, hk4⟩, hKt hkpa (hKt (hKt hw2 hkp3) (hKb _ _ _ _ (by omega) hl3 rfl rfl rfl))⟩⟩
      | ret =>
        obtain ⟨hk3, hkp3, hi3⟩ := hp
        obtain ⟨hr, hl3, hl4, hk4⟩ := fin (some .ret) W3 hk3
        exact ⟨_, _, hr, .inr ⟨rfl, ⟨.ret, (hIx _).putObj _ hi3 (by omega) hl3 rfl, hl4, hk4⟩, hKt hkpa (hKt (hKt hw2 hkp3) (hKb _ _ _ _ (by omega) hl3 rfl rfl rfl))⟩⟩
      | exit id =>
        obtain ⟨hk3, hkp3, hi3⟩ := hp
        obtain ⟨hr, hl3, hl4, hk4⟩ := fin (some (.exit id)) W3 hk3
        exact ⟨_, _, hr, .inr ⟨rfl, ⟨.exit id, (hIx _).putObj _ hi3 (by omega) hl3 rfl, hl4, hk4⟩, hKt hkpa (hKt (hKt hw2 hkp3) (hKb _ _ _ _ (by omega) hl3 rfl rfl rfl))⟩⟩
      | goto t =>
        obtain ⟨hk3, hkp3, hi3⟩ := hp
        obtain ⟨hr, hl3, hl4, hk4⟩ := fin (some (.goto t)) W3 hk3
        exact ⟨_, _, hr, .inr ⟨rfl, ⟨.goto t, (hIx _).putObj _ hi3 (by omega) hl3 rfl, hl4, hk4⟩, hKt hkpa (hKt (hKt hw2 hkp3) (hKb _ _ _ _ (by omega) hl3 rfl rfl rfl))⟩⟩
      | panic ch => exact hp.elim
      | outgrown => exact hp.elim
    · -- BEHIND THE ITERATOR
      rintro e W2 ⟨⟨v, rfl⟩, (⟨xs, hS, hi, hl, hk⟩ | ⟨pre, hSp, c, hi, hl, hk⟩)⟩
      · exact ⟨none, _, by have := run_endLoop (P := P) hl (by rw [hrec]; simp); rw [hrec] at this; exact this, hdone _ xs _ (Nat.le_refl _) hS (hI.putObj _ hi (by omega) hl rfl) ((World.putObj_heap_other (by omega)).trans hk)⟩
      · exact ⟨some c, _, by have := run_endLoop (P := P) hl (by rw [hrec]; simp); rw [hrec] at this; exact this, hstop _ c pre _ (Nat.le_refl _) hSp ((hIx c).putObj _ hi (by omega) hl rfl) ((World.putObj_heap_other (by omega)).trans hk)⟩
end Go.Proofs.YtegmpfmhlpdmhaaGreat.Key

namespace Go.Proofs.YtegmpfmhlpdmhaaGreat.Key
open Go.RowKit
open Go.ChangeMaps (setBlock heap_setBlock_same heap_setBlock_other)
set_option linter.unusedVariables false
set_option linter.unusedSimpArgs false

/-- the loop's cell: a row of pairs, made since -/
def GcOk (g B0 : Nat) (u : World) : Prop := (∃ a n c, u.heap[g]? = some (.cells #[.slice a n c] 30 (0, 0))) ∧ ∀ b, rowOf g u = some b → B0 ≤ b ∧ ∃ cs m, u.heap[b]? = some (.cells cs 50 m)
/-- where the walker's blocks lie -/
structure Lay (w : World) (g wk bm tb yb nm B0 B : Nat) : Prop where
  g1 : g < w.heap.size
  w0 : w.heap.size ≤ B0
  n1 : nm < w.heap.size
  n2 : nm ≠ g
  wk1 : B0 ≤ wk
  bm1 : B0 ≤ bm
  tb1 : B0 ≤ tb
  yb1 : B0 ≤ yb
  wk2 : wk < B
  bm2 : bm < B
  tb2 : tb < B
  yb2 : yb < B
  d1 : wk ≠ bm
  d2 : wk ≠ tb
  d3 : wk ≠ yb
  d4 : bm ≠ tb
  d5 : bm ≠ yb
structure StW (l : List It) (w : World) (g wk bm tb yb nm B0 B lp : Nat) (most : Int) (J Jx : List Pr → World → Prop) (v : Value) (out : List Pr) (u : World) : Prop where
  j : (out.length : Int) ≠ most → J out u
  jx : (out.length : Int) = most → Jx out u
  gc : GcOk g B0 u
  base : ∀ b o, w.heap[b]? = some o → b ≠ g → (o.isCells = true ∨ isMapO o = true) → u.heap[b]? = some o
  walker : u.heap[wk]? = some (.cells #[.map (some nm), .map (some bm), v, .int .i64 out.length] 77 (0, 0))
  tcell : u.heap[tb]? = some (.cells #[.pointer (some ⟨wk, 0, none⟩)] 73 (0, 0))
  ycell : u.heap[yb]? = some (.cells #[.func (.yield lp) #[] #[]] 72 (0, 0))
  bare : BMap u bm (Bare l)
  sz : B ≤ u.heap.size
theorem GcOk.ne {g B0 : Nat} {u : World} (h : GcOk g B0 u) {b : Nat} {cs : Array Value} {t : TypeId} {m : Nat × Nat} (hb : u.heap[b]? = some (.cells cs t m)) (ht : t ≠ 50) : rowOf g u ≠ some b := fun e => by
  obtain ⟨_, cs', m', h2⟩ := h.2 b e
  rw [hb] at h2
  simp only [Option.some.injEq, Obj.cells.injEq] at h2
  exact ht h2.2.1
theorem GcOk.neM {g B0 : Nat} {u : World} (h : GcOk g B0 u) {b : Nat} {o : Obj} (hb : u.heap[b]? = some o) (ho : isMapO o = true) : rowOf g u ≠ some b := fun e => by
  obtain ⟨_, cs', m', h2⟩ := h.2 b e
  rw [hb] at h2
  cases h2
  cases ho
theorem GcOk.same {g B0 : Nat} {u u' : World} (h : GcOk g B0 u) (hg : u'.heap[g]? = u.heap[g]?) (hr : ∀ b, rowOf g u = some b → u'.heap[b]? = u.heap[b]?) : GcOk g B0 u' := by
  obtain ⟨⟨a, n, c, h1⟩, h2⟩ := h
  refine ⟨⟨a, n, c, hg.trans h1⟩, fun b hb => ?_⟩
  rw [rowOf_same hg] at hb
  obtain ⟨h3, cs, m, h4⟩ := h2 b hb
  exact ⟨h3, cs, m, (hr b hb).trans h4⟩
/-- kept by whatever leaves the caller's things alone, and the walker's -/
theorem StW.keep {l : List It} {w : World} {g wk bm tb yb nm B0 B lp : Nat} {most : Int} {J Jx : List Pr → World → Prop} {v v' : Value} {out : List Pr} {u u' : World} (hL : Lay w g wk bm tb yb nm B0 B) (hJ : AbX g B0 J) (hJx : AbX g B0 Jx)
    (h : StW l w g wk bm tb yb nm B0 B lp most J Jx v out u) (hK : KeepX g B0 u u') (hw : u'.heap[wk]? = some (.cells #[.map (some nm), .map (some bm), v', .int .i64 out.length] 77 (0, 0))) (hb : BMap u' bm (Bare l)) (ht : u'.heap[tb]? = u.heap[tb]?) (hy : u'.heap[yb]? = u.heap[yb]?) : StW l w g wk bm tb yb nm B0 B lp most J Jx v' out u' := by
  have h0 := hL.w0
  have hgl := hL.g1
  obtain ⟨⟨a, n, c, hg⟩, hr⟩ := h.gc
  have hgs := hK.same g _ hg (.inl (by omega))
  refine ⟨fun e => hJ _ _ _ (h.j e) hK, fun e => hJx _ _ _ (h.jx e) hK, ⟨⟨a, n, c, hgs⟩, fun b hb => ?_⟩, fun b o h1 h2 h3 => ?_, hw, ht.trans h.tcell, hy.trans h.ycell, hb, Nat.le_trans h.sz hK.size⟩
  · rw [rowOf_same (hgs.trans hg.symm)] at hb
    obtain ⟨q1, cs, m, q2⟩ := hr b hb
    exact ⟨q1, cs, m, hK.same b _ q2 (.inr (.inr hb))⟩
  · have hlt := (Array.getElem?_eq_some_iff.1 h1).1
    exact hK.same b o (h.base b o h1 h2 h3) (.inl (by omega))
/-- strings and numbers that lie as they lay -/
def Moved (w w' : World) : Prop := ∀ b i s, w.cell? ⟨b, i, none⟩ = some s → ((∃ t, s = .string t) ∨ ∃ k z, s = .int k z) → w'.cell? ⟨b, i, none⟩ = some s
theorem Lies.moved {w w' : World} {n : Nd} {p : Pl} (h : Lies w n p) (hm : Moved w w') : Lies w' n p := by
  have S : ∀ b i t, w.cell? ⟨b, i, none⟩ = some (.string t) → w'.cell? ⟨b, i, none⟩ = some (.string t) := fun b i t e => hm b i _ e (.inl ⟨t, rfl⟩)
  have I : ∀ b i k z, w.cell? ⟨b, i, none⟩ = some (.int k z) → w'.cell? ⟨b, i, none⟩ = some (.int k z) := fun b i k z e => hm b i _ e (.inr ⟨k, z, rfl⟩)
  refine ⟨?_, ?_, ?_, ?_⟩
  · rcases h.h1 with e | ⟨b, off, e, hc⟩
    · exact .inl e
    · exact .inr ⟨b, off, e, fun i hi => ⟨S _ _ _ (hc i hi).1, S _ _ _ (hc i hi).2⟩⟩
  · rcases h.h2 with e | ⟨b, off, e, hc⟩
    · exact .inl e
    · exact .inr ⟨b, off, e, fun i hi => S _ _ _ (hc i hi)⟩
  · rcases h.h3 with e | ⟨b, off, e, hc⟩
    · exact .inl e
    · exact .inr ⟨b, off, e, fun i hi => ⟨I _ _ _ _ (hc i hi).1, I _ _ _ _ (hc i hi).2, S _ _ _ (hc i hi).c2, S _ _ _ (hc i hi).c3⟩⟩
  · rcases h.h4 with e | ⟨b, off, e, hc⟩
    · exact .inl e
    · exact .inr ⟨b, off, e, fun i hi => ⟨I _ _ _ _ (hc i hi).1, S _ _ _ (hc i hi).2, S _ _ _ (hc i hi).c2, I _ _ _ _ (hc i hi).c3, I _ _ _ _ (hc i hi).c4, S _ _ _ (hc i hi).c5⟩⟩
theorem cells_of_cell {w : World} {b i : Nat} {s : Value} (h : w.cell? ⟨b, i, none⟩ = some s) : ∃ cs t m, w.heap[b]? = some (.cells cs t m) ∧ cs[i]? = some s := by
  unfold World.cell? at h
  simp only at h
  split at h
  · rename_i cs t m hb
    exact ⟨cs, t, m, hb, by simpa using h⟩
  all_goals first | cases h | skip
theorem StW.moved {l : List It} {w : World} {g wk bm tb yb nm B0 B lp : Nat} {most : Int} {J Jx : List Pr → World → Prop} {v : Value} {out : List Pr} {u : World} (h : StW l w g wk bm tb yb nm B0 B lp most J Jx v out u) (hg : ∃ a n c, w.heap[g]? = some (.cells #[.slice a n c] 30 (0, 0))) : Moved w u := by
  intro b i s hs hk
  obtain ⟨cs, t, m, hb, hi⟩ := cells_of_cell hs
  by_cases e : b = g
  · subst e
    obtain ⟨a, n, c, h1⟩ := hg
    rw [h1] at hb
    cases hb
    match i, hi with
    | 0, hi =>
      simp at hi
      subst hi
      rcases hk with ⟨t, e⟩ | ⟨k, z, e⟩ <;> cases e
    | i + 1, hi => simp at hi
  · rw [← hs]
    exact World.cell?_of_block (a := ⟨b, i, none⟩) ((h.base b _ hb e (.inl rfl)).trans hb.symm)
theorem VMap.same {w w' : World} {b n : Nat} {f : Int → Option Value} (h : VMap w b n f) (hb : w'.heap[b]? = w.heap[b]?) : VMap w' b n f := by
  obtain ⟨D, ⟨es, clock, h1, h2⟩, h3⟩ := h
  exact ⟨D, ⟨es, clock, hb.trans h1, h2⟩, h3⟩
theorem VMap.isMap {w : World} {b n : Nat} {f : Int → Option Value} (h : VMap w b n f) : ∃ o, w.heap[b]? = some o ∧ isMapO o = true := by
  obtain ⟨D, ⟨es, clock, h1, h2⟩, h3⟩ := h
  exact ⟨_, h1, rfl⟩
end Go.Proofs.YtegmpfmhlpdmhaaGreat.Key

namespace Go.Proofs.YtegmpfmhlpdmhaaGreat.Key
open Go.RowKit
open Go.ChangeMaps (setBlock heap_setBlock_same heap_setBlock_other)
set_option linter.unusedVariables false
set_option linter.unusedSimpArgs false

/-- a store into the walker, told by what the caller knows -/
theorem KeepX.walker {g B0 b i : Nat} {u : World} {cs : Array Value} {t : TypeId} {m : Nat × Nat} (x : Value) (hb : u.heap[b]? = some (.cells cs t m)) (h1 : B0 ≤ b) (h2 : rowOf g u ≠ some b) : KeepX g B0 u (u.setCell ⟨b, i, none⟩ x) := by
  refine ⟨rfl, rfl, rfl, by simp, fun k o hk hi => ?_⟩
  refine (heap_setCell_other u ⟨b, i, none⟩ k x (fun e => ?_)).trans hk
  subst e
  rw [hb] at hk
  cases hk
  rcases hi with h | ⟨h, _⟩ | h
  · exact absurd h (by omega)
  · cases h
  · exact h2 h
set_option maxRecDepth 100000 in
set_option maxHeartbeats 2000000 in
theorem hear57 {l : List It} {w : World} {g wk bm tb yb nm B0 B lp n N : Nat} {most : Int} {J Jx : List Pr → World → Prop} (hL : Lay w g wk bm tb yb nm B0 B) (hJ : AbX g B0 J) (hJx : AbX g B0 Jx)
    (hPJ : ∀ pre W, J pre W → GcOk g B0 W ∧ (pre.length : Int) ≠ most) (hPX : ∀ pre W, Jx pre W → GcOk g B0 W ∧ (pre.length : Int) = most) (hN : 100001 ≤ N)
    (hY : ∀ pre x W1, J pre W1 → pre.length < N → YieldAt Fence.wide n Tryz.prog lp #[pv x] W1 fun e W' => (e = .returned (.bool true) ∧ J (pre ++ [x]) W' ∧ KpR g (fun b _ => b = g) W1 W') ∨ (e = .returned (.bool false) ∧ Jx (pre ++ [x]) W' ∧ KpR g (fun b _ => b = g) W1 W'))
    (v : Value) (out : List Pr) (p : Pr) (u : World) (hS : StW l w g wk bm tb yb nm B0 B lp most J Jx v out u) (hne : (out.length : Int) ≠ most) (hol : out.length ≤ 100000) :
    Calls Tryz.prog 25 #[pv p, .pointer (some ⟨tb, 0, none⟩), .pointer (some ⟨yb, 0, none⟩)] u fun x w' => x = .returned (.bool (!decide ((out.length : Int) + 1 = most))) ∧ StW l w g wk bm tb yb nm B0 B lp most J Jx v (out ++ [p]) w' ∧ KpR g (X0 g wk) u w' := by
  have hu := hS.sz
  have h1 := hL.wk1
  have h2 := hL.wk2
  have h3 := hL.g1
  have h4 := hL.w0
  have hlg : g < u.heap.size := by omega
  have hb1 := below_box u (.cells #[.string p.key, .string p.val] 50)
  have hP1 := Go.heap_alloc_new u (.cells #[.string p.key, .string p.val] 50)
  have hS1 : StW l w g wk bm tb yb nm B0 B lp most J Jx v out (u.alloc (.cells #[.string p.key, .string p.val] 50)) := hS.keep hL hJ hJx (KeepX.of_below hb1) ((hb1.block _ (Array.getElem?_eq_some_iff.1 hS.walker).1).trans hS.walker) (hS.bare.later hb1) (hb1.block _ (Array.getElem?_eq_some_iff.1 hS.tcell).1) (hb1.block _ (Array.getElem?_eq_some_iff.1 hS.ycell).1)
  have hk1 := KpR.of_below (X := X0 g wk) hb1 hlg
  obtain ⟨W, HW⟩ : ∃ W, Hid (u.alloc (.cells #[.string p.key, .string p.val] 50) = W) := ⟨_, hid rfl⟩
  rw [HW.out] at hS1 hk1 hP1
  have hrw := hS1.gc.ne hS1.walker (by decide)
  have hJ2 := hJ _ _ _ (hS1.j hne) (KeepX.walker (i := 3) (.int .i64 ((out.length : Int) + 1)) hS1.walker h1 hrw)
  have hg2 := (hPJ _ _ hJ2).1
  have hY2 := hid (hY out p _ hJ2 (by omega))
  have hkw : KpR g (X0 g wk) W (W.setCell ⟨wk, 3, none⟩ (.int .i64 ((out.length : Int) + 1))) := by
    refine ⟨rfl, rfl, rfl, by simp, ?_, fun x hx => .inl ?_⟩
    · intro b o hb _ hX _
      exact (heap_setCell_other W ⟨wk, 3, none⟩ b _ (fun e => hX (.inr e))).trans hb
    · rwa [rowOf_same (heap_setCell_other W ⟨wk, 3, none⟩ g _ (show g ≠ wk by omega))] at hx
  obtain ⟨W2, HW2⟩ : ∃ W2, Hid (W.setCell ⟨wk, 3, none⟩ (.int .i64 ((out.length : Int) + 1)) = W2) := ⟨_, hid rfl⟩
  have ho : ∀ b, b ≠ wk → W2.heap[b]? = W.heap[b]? := fun b hb => by rw [← HW2.out]; exact heap_setCell_other W ⟨wk, 3, none⟩ b _ hb
  have hw2 : W2.heap[wk]? = some (.cells #[.map (some nm), .map (some bm), v, .int .i64 ((out.length : Int) + 1)] 77 (0, 0)) := by
    rw [← HW2.out]
    unfold World.setCell
    simp only [Array.getElem?_modify, if_pos, hS1.walker, Option.map_some]
    rfl
  rw [HW2.out] at hJ2 hg2 hY2 hkw
  have hk2 := hk1.trans hkw
  have hwk2 := hL.d2
  have hwk3 := hL.d3
  have hbmk := hL.d1
  have tc := cell_of_row _ _ 0 _ _ _ hS1.tcell
  have yc := cell_of_row _ _ 0 _ _ _ ((ho yb (Ne.symm hwk3)).trans hS1.ycell)
  have wc := cell_of_row _ _ 3 _ _ _ hS1.walker
  have wf := frozen_of_row _ _ 3 _ _ hS1.walker
  have hpe : u.heap.size ≠ wk := by omega
  have hP2 := (ho u.heap.size hpe).trans hP1
  have pc0 := cell_of_row _ _ 0 _ _ _ hP2
  have pc1 := cell_of_row _ _ 1 _ _ _ hP2
  have hwm : IntKind.i64.wrap ((out.length : Int) + 1) = (out.length : Int) + 1 := by rw [IntKind.wrap_i64]; omega
  obtain ⟨fn, tmps, assign, body, hy, hR⟩ := hY2.out
  have HR := hid hR
  obtain ⟨ky, vl⟩ := p
  dsimp only [pv] at *
  clear hR hY2
  refine (callsIn_wide (n := n + 1)).1 ?_
  refine callsIn_of_wp Tryz.func25 rfl trivial ?_ rfl
  simp only [Tryz.ntmps25, List.size_toArray, List.length_cons, List.length_nil, Nat.reduceAdd, Nat.reduceSub, Array.replicate_succ, Array.replicate_zero, List.push_toArray, List.append_toArray, List.nil_append, List.cons_append]
  gi_upto_region 1 with fail
  rw [HW.out]
  gi_upto_region 2 with fail
  rw [HW2.out]
  gi_wp2
  refine HR.out.mono ?_
  rintro e W3 hh
  have fin : ∀ (c : Bool), c = (!decide ((out.length : Int) + 1 = most)) → GcOk g B0 W3 → KpR g (fun b _ => b = g) W2 W3 → ((((out ++ [Pr.mk ky vl]).length : Int) ≠ most → J (out ++ [Pr.mk ky vl]) W3) ∧ (((out ++ [Pr.mk ky vl]).length : Int) = most → Jx (out ++ [Pr.mk ky vl]) W3)) →
      StW l w g wk bm tb yb nm B0 B lp most J Jx v (out ++ [Pr.mk ky vl]) W3 ∧ KpR g (X0 g wk) u W3 := by
    rintro c rfl hgc hk hj
    have hkeep : ∀ b cs t m, W2.heap[b]? = some (.cells cs t m) → t ≠ 50 → b ≠ g → W3.heap[b]? = some (.cells cs t m) := fun b cs t m hb ht hbg => (hk.keep hb (.inl rfl) hbg (hg2.ne hb ht)).1
    have hbm2 : BMap W2 bm (Bare l) := hS1.bare.same (ho bm (Ne.symm hbmk))
    obtain ⟨o, ho2, hom⟩ := hbm2.isMap
    have hb5 := hL.bm1
    have hb6 := hL.tb1
    have hb7 := hL.yb1
    refine ⟨⟨hj.1, hj.2, hgc, fun b o' e1 e2 e3 => ?_, ?_, hkeep _ _ _ _ ((ho tb (Ne.symm hwk2)).trans hS1.tcell) (by decide) (by omega), hkeep _ _ _ _ ((ho yb (Ne.symm hwk3)).trans hS1.ycell) (by decide) (by omega), ?_, ?_⟩, hk2.trans (hk.wide fun b o h => .inl h)⟩
    · have hlt := (Array.getElem?_eq_some_iff.1 e1).1
      have hb2 := (ho b (by omega)).trans (hS1.base b o' e1 e2 e3)
      exact hk.same b o' hb2 e3 e2 (fun e => by have := (hg2.2 b e).1; omega)
    · have := hkeep _ _ _ _ hw2 (by decide) (by omega)
      rw [this]
      simp
    · exact hbm2.same ((hk.keep ho2 (.inr hom) (by omega) (hg2.neM ho2 hom)).1.trans ho2.symm)
    · have := hk.size
      have := hk2.size
      omega
  have hlen : ((out ++ [Pr.mk ky vl]).length : Int) = (out.length : Int) + 1 := by simp
  rcases hh with ⟨rfl, hJ3, hk3⟩ | ⟨rfl, hJ3, hk3⟩
  · obtain ⟨q1, q2⟩ := hPJ _ _ hJ3
    have hq : (out.length : Int) + 1 ≠ most := by rw [← hlen]; exact q2
    have hd : decide ((out.length : Int) + 1 = most) = false := decide_eq_false hq
    obtain ⟨f1, f2⟩ := fin true (by rw [hd]; rfl) q1 hk3 ⟨fun _ => hJ3, fun h => absurd h q2⟩
    gi_wp2
    refine bodyPost_ret (v := .bool true) (by simp [results, go_sem]) rfl ?_
    exact ⟨by rw [hd]; rfl, f1, f2⟩
  · obtain ⟨q1, q2⟩ := hPX _ _ hJ3
    have hq : (out.length : Int) + 1 = most := by rw [← hlen]; exact q2
    have hd : decide ((out.length : Int) + 1 = most) = true := decide_eq_true hq
    obtain ⟨f1, f2⟩ := fin false (by rw [hd]; rfl) q1 hk3 ⟨fun h => absurd q2 h, fun _ => hJ3⟩
    gi_wp2
    refine bodyPost_ret (v := .bool false) (by simp [results, go_sem]) rfl ?_
    exact ⟨by rw [hd]; rfl, f1, f2⟩
end Go.Proofs.YtegmpfmhlpdmhaaGreat.Key

namespace Go.Proofs.YtegmpfmhlpdmhaaGreat.Key
open Go.RowKit
open Go.ChangeMaps (setBlock heap_setBlock_same heap_setBlock_other)
set_option linter.unusedVariables false
set_option linter.unusedSimpArgs false

theorem KeepX.grown {g B0 : Nat} {u u' : World} {b : Option Nat} (h : u.grownBy u' b) (hb : ∀ x, b = some x → B0 ≤ x ∧ rowOf g u ≠ some x ∧ ∃ cs m, u.heap[x]? = some (.cells cs 37 m)) : KeepX g B0 u u' := by
  refine ⟨h.os, h.tape, h.output, h.size, fun k o hk hi => (h.block k (Array.getElem?_eq_some_iff.1 hk).1 (fun e => ?_)).trans hk⟩
  obtain ⟨h1, h2, cs, m, h3⟩ := hb k e.symm
  rw [h3] at hk
  cases hk
  rcases hi with h | ⟨h, _⟩ | h
  · omega
  · cases h
  · exact h2 h
theorem setBlock_else {u : World} {b k : Nat} (o : Obj) (h : k ≠ b) : (setBlock u b o).heap[k]? = u.heap[k]? := by
  simp only [setBlock]
  rw [Array.getElem?_setIfInBounds_ne (fun e => h e.symm)]
theorem KeepX.map {g B0 bm : Nat} {u : World} {o : Obj} (o' : Obj) (hb : u.heap[bm]? = some o) (ho : isMapO o = true) (h1 : B0 ≤ bm) (h2 : rowOf g u ≠ some bm) : KeepX g B0 u (setBlock u bm o') := by
  refine ⟨rfl, rfl, rfl, by simp [setBlock], fun k q hk hi => ?_⟩
  refine (setBlock_else o' (fun e => ?_)).trans hk
  subst e
  rw [hb] at hk
  cases hk
  rcases hi with h | ⟨_, _, h⟩ | h
  · omega
  · rw [ho] at h; cases h
  · exact h2 h
theorem walker_is {l : List It} {w : World} {f : Int → Option Value} {pl : Int → Pl} {g wk bm tb yb nm B0 B lp n N k : Nat} {most : Int} {J Jx : List Pr → World → Prop} (hL : Lay w g wk bm tb yb nm B0 B) (hJ : AbX g B0 J) (hJx : AbX g B0 Jx)
    (hPJ : ∀ pre W, J pre W → GcOk g B0 W ∧ (pre.length : Int) ≠ most) (hPX : ∀ pre W, Jx pre W → GcOk g B0 W ∧ (pre.length : Int) = most) (hN : 100001 ≤ N)
    (hY : ∀ pre x W1, J pre W1 → pre.length < N → YieldAt Fence.wide n Tryz.prog lp #[pv x] W1 fun e W' => (e = .returned (.bool true) ∧ J (pre ++ [x]) W' ∧ KpR g (fun b _ => b = g) W1 W') ∨ (e = .returned (.bool false) ∧ Jx (pre ++ [x]) W' ∧ KpR g (fun b _ => b = g) W1 W'))
    (hgc : ∃ a n c, w.heap[g]? = some (.cells #[.slice a n c] 30 (0, 0))) (hV : VMap w nm k f) (hlies : ∀ z x, seenI l z = some x → Lies w x.nd (pl z)) (hat : ∀ z x, seenI l z = some x → f z = some (nv x.nd (pl z))) :
    Walker l f pl g wk nm bm B most (.pointer (some ⟨tb, 0, none⟩)) (.pointer (some ⟨yb, 0, none⟩)) (StW l w g wk bm tb yb nm B0 B lp most J Jx) := by
  have h1 := hL.g1
  have h2 := hL.w0
  have h3 := hL.wk1
  have h4 := hL.wk2
  have h5 := hL.bm1
  have h6 := hL.bm2
  have h7 := hL.tb1
  have h8 := hL.yb1
  have h7' := hL.tb2
  have h8' := hL.yb2
  have d1 := hL.d1
  have d2 := hL.d2
  have d3 := hL.d3
  have d4 := hL.d4
  have d5 := hL.d5
  have later : ∀ v out u u', StW l w g wk bm tb yb nm B0 B lp most J Jx v out u → Below u.heap.size u u' → StW l w g wk bm tb yb nm B0 B lp most J Jx v out u' := fun v out u u' h hb =>
    h.keep hL hJ hJx (KeepX.of_below hb) ((hb.block _ (Array.getElem?_eq_some_iff.1 h.walker).1).trans h.walker) (h.bare.later hb) (hb.block _ (Array.getElem?_eq_some_iff.1 h.tcell).1) (hb.block _ (Array.getElem?_eq_some_iff.1 h.ycell).1)
  refine ⟨⟨fun v => ⟨fun out u u' h hb => later v out u u' h hb, fun out u h => by have := h.sz; omega, fun out u h x hx => ?_, fun out p u h hne hol => hear57 hL hJ hJx hPJ hPX hN hY v out p u h hne hol⟩, fun v out u h => by have := h.sz; omega, fun v out u h => by have := h.sz; omega, fun v out u h => ⟨_, _, _, h.walker⟩, fun v out u h x hx => (h.gc.2 x hx).2, fun v out u u' b h hb hx => ?_, fun v v' out u h => ?_, by omega, fun v out u h => h.sz, by omega⟩, fun v out u h => h.walker, fun v out u h => ?_, fun v out u z x h hz => (hlies z x hz).moved (h.moved hgc), hat, fun v out u h => h.bare, fun v out u es clock h hb => ?_⟩
  · obtain ⟨_, cs, m, q⟩ := h.gc.2 x hx
    exact (Array.getElem?_eq_some_iff.1 q).1
  · have hk : KeepX g B0 u u' := KeepX.grown hb fun x e => by
      obtain ⟨q1, q2, q3⟩ := hx x e
      exact ⟨by omega, q2, q3⟩
    have hs : ∀ y, y < B → u'.heap[y]? = u.heap[y]? := fun y hy => hb.block y (by have := h.sz; omega) (fun e => by have := (hx y e.symm).1; omega)
    exact h.keep hL hJ hJx hk ((hs wk (by omega)).trans h.walker) (h.bare.same (hs bm (by omega))) (hs tb (by omega)) (hs yb (by omega))
  · have hk : KeepX g B0 u (u.setCell ⟨wk, 2, none⟩ v') := KeepX.walker v' h.walker h3 (h.gc.ne h.walker (by decide))
    have hs : ∀ y, y ≠ wk → (u.setCell ⟨wk, 2, none⟩ v').heap[y]? = u.heap[y]? := fun y hy => heap_setCell_other u ⟨wk, 2, none⟩ y v' hy
    refine h.keep hL hJ hJx hk ?_ (h.bare.same (hs bm (Ne.symm d1))) (hs tb (Ne.symm d2)) (hs yb (Ne.symm d3))
    unfold World.setCell
    simp only [Array.getElem?_modify, if_pos, h.walker, Option.map_some]
    rfl
  · obtain ⟨o, ho, hom⟩ := hV.isMap
    exact ⟨k, hV.same ((h.base nm o ho hL.n2 (.inr hom)).trans ho.symm)⟩
  · obtain ⟨o, ho, hom⟩ := h.bare.isMap
    have hk : KeepX g B0 u (setBlock u bm (.map es clock)) := KeepX.map _ ho hom h5 (h.gc.neM ho hom)
    have hs : ∀ y, y ≠ bm → (setBlock u bm (.map es clock)).heap[y]? = u.heap[y]? := fun y hy => setBlock_else _ hy
    exact h.keep hL hJ hJx hk ((hs wk d1).trans h.walker) hb (hs tb (Ne.symm d4)) (hs yb (Ne.symm d5))
end Go.Proofs.YtegmpfmhlpdmhaaGreat.Key

namespace Go.Proofs.YtegmpfmhlpdmhaaGreat.Key
open Go.RowKit Draw
open Go.ChangeMaps (setBlock heap_setBlock_same heap_setBlock_other)
set_option linter.unusedVariables false
set_option linter.unusedSimpArgs false

theorem tell_most {most : Int} : ∀ (A out o' : List Pr), tellR most out A = (o', false) → (o'.length : Int) = most
  | [], out, o', h => by
    rw [tellR_nil] at h
    cases h
  | p :: A, out, o', h => by
    rw [tellR] at h
    by_cases e : ((out.length : Int) + 1) = most
    · rw [if_pos e] at h
      cases h
      simpa using e
    · rw [if_neg e] at h
      exact tell_most A _ _ h
/-- all that an iterator tells -/
def totL (l : List It) (root : Int) (r : Rng) : List Pr := if (seenI l root).isSome then restL (contL l root) r else []
set_option maxRecDepth 100000 in
set_option maxHeartbeats 2000000 in
theorem all_seq {l : List It} {w : World} {f : Int → Option Value} {pl : Int → Pl} {g nm mc rc rb B0 n k : Nat} {most root : Int} {lo hi : ByteArray} {e : Bool} (hl : Fine l) (hlen : l.length ≤ 100) (hm0 : (0 : Int) ≠ most) (hwf : (Lit.int .u32 root).wf = true)
    (hlo : lo.size ≤ 2000) (hhi : hi.size ≤ 2000) (htot : (totL l root (rg lo hi e)).length ≤ 10000)
    (hgc : ∃ a n c, w.heap[g]? = some (.cells #[.slice a n c] 30 (0, 0))) (hV : VMap w nm k f) (hng : nm ≠ g) (hlies : ∀ z x, seenI l z = some x → Lies w x.nd (pl z)) (hat : ∀ z x, seenI l z = some x → f z = some (nv x.nd (pl z))) (hat0 : ∀ z, seenI l z = none → f z = none)
    (hmc : w.heap[mc]? = some (.cells #[.map (some nm)] 67 (0, 0))) (hrc : w.heap[rc]? = some (.cells #[.int .u32 root] 23 (0, 0))) (hrb : Box w rb (.string lo) (.string hi) (.bool e)) (hB0 : w.heap.size ≤ B0) :
    SeqY Fence.wide n Tryz.prog 23 #[.pointer (some ⟨mc, 0, none⟩), .pointer (some ⟨rc, 0, none⟩), .pointer (some ⟨rb, 0, none⟩)] (fun x : Pr => #[pv x]) (KpR g (fun b _ => b = g))
      (fun xs => tellR most [] (totL l root (rg lo hi e)) = (xs, true)) (fun pre => tellR most [] (totL l root (rg lo hi e)) = (pre, false))
      (fun pre W => GcOk g B0 W ∧ (pre.length : Int) ≠ most ∧ B0 ≤ W.heap.size) (fun pre W => GcOk g B0 W ∧ (pre.length : Int) = most) 1000000 w g B0 := by
  intro lp J Jx W hW hJ hJx hPJ hPX hY h0
  have hmm := @run_makeMap Tryz.prog
  have hmf : ∀ (fn : Fn) (first cap : Array Value) (w : World), (Instr.makeFunc fn first cap).run Tryz.prog w = .ok (.func fn first cap) w := fun _ _ _ _ => rfl
  refine callsIn_wide.2 ?_
  have hgl : g < w.heap.size := by obtain ⟨a, n, c, h⟩ := hgc; exact (Array.getElem?_eq_some_iff.1 h).1
  obtain ⟨u1, HU1⟩ : ∃ u, Hid (W.alloc (.cells #[.func (.yield lp) #[] #[]] 72) = u) := ⟨_, hid rfl⟩
  have b1 : Below W.heap.size W u1 := by rw [← HU1.out]; exact below_box _ _
  have y1 : u1.heap[W.heap.size]? = some (.cells #[.func (.yield lp) #[] #[]] 72 (0, 0)) := by rw [← HU1.out]; exact Go.heap_alloc_new _ _
  have s1 : u1.heap.size = W.heap.size + 1 := by rw [← HU1.out]; simp
  have hb1 := hW.trans (b1.mono hW.size)
  have hV1 := hV.later hb1
  have m1 := cell_of_row _ _ 0 _ _ _ ((hb1.block mc (Array.getElem?_eq_some_iff.1 hmc).1).trans hmc)
  have r1 := cell_of_row _ _ 0 _ _ _ ((hb1.block rc (Array.getElem?_eq_some_iff.1 hrc).1).trans hrc)
  have hTOT : Hid (totL l root (rg lo hi e) = if (seenI l root).isSome then restL (contL l root) (rg lo hi e) else []) := hid rfl
  cases hsn : seenI l root
  case none =>
    have hf0 := hat0 root hsn
    have hA0 : totL l root (rg lo hi e) = [] := by rw [hTOT.out, hsn]; rfl
    have hJ1 := h0
    go_enter Tryz.func23, Tryz.ntmps23
    go_upto_region 1 with fail
    rw [HU1.out]
    go_wp2_with (first | (at_lookup; refine lookVok rfl _ _ 67 rfl 46 Tryz.underlying67 (zero46 _) nm k f rfl hV1 root rfl hwf ?_; rw [hf0]; dsimp only [Option.getD, Option.isSome, nv]) | fail)
    go_end0
    refine ⟨⟨_, rfl⟩, .inl ⟨[], rfl, hJ [] W _ h0 (KeepX.of_below (b1.trans ((below_box u1 _).mono b1.size)))⟩⟩
  case some x =>
    obtain ⟨hr, hx⟩ := seen_some hsn
    have hf1 := hat root x hsn
    obtain ⟨A, HAA⟩ : ∃ A, Hid (totL l root (rg lo hi e) = A) := ⟨_, hid rfl⟩
    rw [HAA.out]
    obtain ⟨⟨o', b⟩, HO⟩ : ∃ z, Hid (tellR most [] A = z) := ⟨_, hid rfl⟩
    rw [HO.out]
    go_enter Tryz.func23, Tryz.ntmps23
    go_upto_region 1 with fail
    rw [HU1.out]
    go_upto_region 2 with (first | (at_lookup; refine lookVok rfl _ _ 67 rfl 46 Tryz.underlying67 (zero46 _) nm k f rfl hV1 root rfl hwf ?_; rw [hf1]; dsimp only [Option.getD, Option.isSome, nv]) | fail)
    obtain ⟨u2, HU2⟩ : ∃ u, Hid (u1.alloc (.cells #[.bool x.nd.leaf, .slice (pl root).a1 x.nd.ps.length (pl root).c1, .slice (pl root).a2 x.nd.pv.length (pl root).c2, .slice (pl root).a3 x.nd.ks.length (pl root).c3, .slice (pl root).a4 x.nd.bf.length (pl root).c4] 46) = u) := ⟨_, hid rfl⟩
    have b2 : Below W.heap.size W u2 := by rw [← HU2.out]; exact b1.trans ((below_box u1 _).mono b1.size)
    have s2 : u2.heap.size = W.heap.size + 2 := by rw [← HU2.out]; simp; omega
    have y2 : u2.heap[W.heap.size]? = some (.cells #[.func (.yield lp) #[] #[]] 72 (0, 0)) := by
      rw [← HU2.out]
      exact ((below_box u1 _).block _ (by omega)).trans y1
    rw [HU2.out]
    have hb2 := hW.trans (b2.mono hW.size)
    clear m1 r1
    have m2 := cell_of_row _ _ 0 _ _ _ ((hb2.block mc (Array.getElem?_eq_some_iff.1 hmc).1).trans hmc)
    go_upto_region 4 with fail
    have e3 := Go.heap_alloc_new u2 (.map #[] 0)
    have f3 := below_box u2 (.map #[] 0)
    obtain ⟨u3, HU3⟩ : ∃ u, Hid (u2.alloc (.map #[] 0) = u) := ⟨_, hid rfl⟩
    have hbm := BMap.made u2 (Bare l)
    have s3 : u3.heap.size = W.heap.size + 2 + 1 := by rw [← HU3.out]; simp [s2]
    rw [HU3.out] at e3 f3 hbm ⊢
    have e4 := Go.heap_alloc_new u3 (.cells #[.map (some nm), .map (some (W.heap.size + 2)), .slice none 0 0, .int .i64 0] 77)
    have f4 := below_box u3 (.cells #[.map (some nm), .map (some (W.heap.size + 2)), .slice none 0 0, .int .i64 0] 77)
    obtain ⟨u4, HU4⟩ : ∃ u, Hid (u3.alloc (.cells #[.map (some nm), .map (some (W.heap.size + 2)), .slice none 0 0, .int .i64 0] 77) = u) := ⟨_, hid rfl⟩
    have s4 : u4.heap.size = W.heap.size + 2 + 1 + 1 := by rw [← HU4.out]; simp [s3]
    rw [HU4.out] at e4 f4 ⊢
    have e5 := Go.heap_alloc_new u4 (.cells #[.pointer (some ⟨W.heap.size + 2 + 1, 0, none⟩)] 73)
    have f5 := below_box u4 (.cells #[.pointer (some ⟨W.heap.size + 2 + 1, 0, none⟩)] 73)
    obtain ⟨u5, HU5⟩ : ∃ u, Hid (u4.alloc (.cells #[.pointer (some ⟨W.heap.size + 2 + 1, 0, none⟩)] 73) = u) := ⟨_, hid rfl⟩
    have s5 : u5.heap.size = W.heap.size + 5 := by rw [← HU5.out]; simp [s4]
    rw [HU5.out] at e5 f5 ⊢
    rw [s2] at e3 hbm
    rw [s3] at e4
    rw [s4] at e5
    have b5 : Below W.heap.size W u5 := b2.trans ((f3.trans ((f4.trans (f5.mono f4.size)).mono f3.size)).mono b2.size)
    have hb5 := hW.trans (b5.mono hW.size)
    have e4' := (f5.block (W.heap.size + 2 + 1) (by omega)).trans e4
    have hbm5 := (hbm.later f4).later f5
    have y5 := (f5.block W.heap.size (by omega)).trans ((f4.block W.heap.size (by omega)).trans ((f3.block W.heap.size (by omega)).trans y2))
    have hJ5 := hJ [] W u5 h0 (KeepX.of_below b5)
    obtain ⟨hg5, hne5, _⟩ := hPJ _ _ hJ5
    have hBW := (hPJ _ _ h0).2.2
    have hnl := hV.lt
    have hLay : Lay w g (W.heap.size + 2 + 1) (W.heap.size + 2) (W.heap.size + 2 + 1 + 1) W.heap.size nm B0 (W.heap.size + 5) := ⟨hgl, hB0, hnl, hng, by omega, by omega, by omega, by omega, by omega, by omega, by omega, by omega, by omega, by omega, by omega, by omega, by omega⟩
    have hWk := walker_is (l := l) (N := 1000000) hLay hJ hJx (fun pre W h => ⟨(hPJ pre W h).1, (hPJ pre W h).2.1⟩) hPX (by omega) hY hgc hV hlies hat
    have hSt : StW l w g (W.heap.size + 2 + 1) (W.heap.size + 2) (W.heap.size + 2 + 1 + 1) W.heap.size nm B0 (W.heap.size + 5) lp most J Jx (.slice none 0 0) [] u5 :=
      ⟨fun _ => hJ5, fun h => absurd h hne5, hg5, fun b o h1 _ _ => (hb5.block b (Array.getElem?_eq_some_iff.1 h1).1).trans h1, e4', e5, y5, hbm5, by omega⟩
    have hPR : PathR g (W.heap.size + 5) u5 (.slice none 0 0) [] := ⟨World.ownsRow_nil _ _ _ _, fun b h => by cases h⟩
    have hdp := right_len hr (find_in hx)
    have hdp0 := deep_pos (right_may hr (find_in hx))
    have hA : tellsOf l [] root (rg lo hi e) = totL l root (rg lo hi e) := by
      rw [hTOT.out, hsn]
      unfold tellsOf
      rw [List.map_nil, back_map_nil]
      rfl
    have hask : Asks l most [] root (deepI x.nd).toNat 2000 lo hi e [] := ⟨by simp; omega, fun q hq => (by cases hq), hlo, hhi, by omega, by omega, by rw [hA]; simpa using htot, hne5, Comes.nil _⟩
    have HT := hid (tell56 hWk hl hr (by omega) (by omega) (deepI x.nd).toNat x root hx (Nat.le_refl _) [] 2000 lo hi e [] u5 hask ⟨_, hSt, hPR⟩)
    unfold TellC at HT
    rw [hA] at HT
    rw [HAA.out, HO.out] at HT
    dsimp only at HT
    have t0 := cell_of_row _ _ 0 _ _ _ e5
    have r5 := cell_of_row _ _ 0 _ _ _ ((hb5.block rc (Array.getElem?_eq_some_iff.1 hrc).1).trans hrc)
    obtain ⟨q0, q1, q2⟩ := Box.cells ((hb5.block rb hrb.lt).trans hrb)
    have HNE := hid (fun (h : b = true) => tell_ne A [] hne5 (by rw [HO.out]; exact h))
    have HMO := hid (fun (h : b = false) => tell_most A [] o' (by rw [HO.out, h]))
    rw [HO.out] at HNE
    clear hask hSt hWk hPR e3 e4 e4' e5 f3 f4 f5 hbm hbm5 m2 y1 y2 y5 hJ5 hg5 hY h0 hTOT
    go_wp2_with fail
    refine HT.out.mono ?_
    rintro y w6 ⟨rfl, ⟨v6, hS6, hp6⟩, hk6⟩
    go_wp2_with fail
    go_end0
    refine ⟨⟨_, rfl⟩, ?_⟩
    cases b
    · exact .inr ⟨o', rfl, hS6.jx (HMO.out rfl)⟩
    · exact .inl ⟨o', rfl, hS6.j (HNE.out rfl)⟩
end Go.Proofs.YtegmpfmhlpdmhaaGreat.Key

namespace Go.Proofs.YtegmpfmhlpdmhaaGreat.Key
open Go.RowKit Draw Go.Shelf
set_option linter.unusedVariables false
set_option linter.unusedSimpArgs false
attribute [local go_sem] Oper.semAt_some

/-- what an iterator over a place's pairs knows of the world that it was made in -/
structure Made (l : List It) (root : Int) (lo hi : ByteArray) (e : Bool) (nm mc rc rb : Nat) (f : Int → Option Value) (pl : Int → Pl) (k : Nat) (w : World) : Prop where
  vm : VMap w nm k f
  lies : ∀ z x, seenI l z = some x → Lies w x.nd (pl z)
  at1 : ∀ z x, seenI l z = some x → f z = some (nv x.nd (pl z))
  at0 : ∀ z, seenI l z = none → f z = none
  mc : w.heap[mc]? = some (.cells #[.map (some nm)] 67 (0, 0))
  rc : w.heap[rc]? = some (.cells #[.int .u32 root] 23 (0, 0))
  rb : Box w rb (.string lo) (.string hi) (.bool e)
set_option maxRecDepth 100000 in
set_option maxHeartbeats 1000000 in
theorem all35 (a : Option Addr) (c : Nat) (l : List It) (root : Int) (lo hi : ByteArray) (e : Bool) (w : World) (hl : Fine l) (h : Items w a l) :
    Calls Tryz.prog 13 #[.slice a l.length c, .int .u32 root, av lo hi e] w fun x w' => ∃ nm mc rc rb f pl k, x = .returned (.func (.func 23) #[] #[.pointer (some ⟨mc, 0, none⟩), .pointer (some ⟨rc, 0, none⟩), .pointer (some ⟨rb, 0, none⟩)]) ∧ Made l root lo hi e nm mc rc rb f pl k w' ∧ w.heap.size ≤ nm ∧ Below w.heap.size w w' := by
  have hmf : ∀ (fn : Fn) (first cap : Array Value) (w : World), (Instr.makeFunc fn first cap).run Tryz.prog w = .ok (.func fn first cap) w := fun _ _ _ _ => rfl
  obtain ⟨W, HW⟩ : ∃ u', Hid ((w.alloc (.cells #[.int .u32 root] 23)).alloc (.cells #[.string lo, .string hi, .bool e] 25) = u') := ⟨_, hid rfl⟩
  have hb1 : Below w.heap.size w W := by rw [← HW.out]; exact (below_box _ _).alloc (by simp) _
  have r1 : W.heap[w.heap.size]? = some (.cells #[.int .u32 root] 23 (0, 0)) := by
    rw [← HW.out]
    exact ((below_box (w.alloc (.cells #[.int .u32 root] 23)) _).block _ (by simp)).trans (Go.heap_alloc_new _ _)
  have R1 : Box W (w.heap.size + 1) (.string lo) (.string hi) (.bool e) := by
    rw [← HW.out]
    have := Box.new (w.alloc (.cells #[.int .u32 root] 23)) (.string lo) (.string hi) (.bool e)
    rwa [show (w.alloc (.cells #[.int .u32 root] 23)).heap.size = w.heap.size + 1 by simp] at this
  have HN := hid (nodes21 a c l W hl (h.later hb1))
  generalize l.length = n at *
  go_enter Tryz.func13, Tryz.ntmps13
  go_upto_region 1 with fail
  rw [HW.out]
  go_wp2_with fail
  refine HN.out.mono ?_
  rintro x w2 ⟨rfl, ⟨k, hM⟩, hb2⟩
  obtain ⟨f, hV, hf⟩ := hM.ex
  have b3 := below_box w2 (.cells #[.map (some W.heap.size)] 67)
  have m3 := Go.heap_alloc_new w2 (.cells #[.map (some W.heap.size)] 67)
  have hbW := hb1.size
  have r3 := (b3.block _ (Nat.lt_of_lt_of_le (Array.getElem?_eq_some_iff.1 r1).1 hb2.size)).trans ((hb2.block _ (Array.getElem?_eq_some_iff.1 r1).1).trans r1)
  have q3 : Box (w2.alloc (.cells #[.map (some W.heap.size)] 67)) (w.heap.size + 1) (.string lo) (.string hi) (.bool e) := (R1.later hb2).later b3
  have hch : ∀ z, ∃ p, ∀ x, seenI l z = some x → f z = some (nv x.nd p) ∧ Lies w2 x.nd p := fun z => by
    have := hf z
    cases hs : seenI l z with
    | none => exact ⟨⟨none, 0, none, 0, none, 0, none, 0⟩, fun x hx => by cases hx⟩
    | some x =>
      rw [hs] at this
      obtain ⟨p, h1, h2⟩ := this
      exact ⟨p, fun x' hx => by cases hx; exact ⟨h1, h2⟩⟩
  obtain ⟨pl, hpl⟩ := Classical.axiomOfChoice hch
  have hf0 : ∀ z, seenI l z = none → f z = none := fun z hz => by
    have := hf z
    rw [hz] at this
    exact this
  have hMade : Made l root lo hi e W.heap.size w2.heap.size w.heap.size (w.heap.size + 1) f pl k (w2.alloc (.cells #[.map (some W.heap.size)] 67)) :=
    ⟨hV.later b3, fun z x hx => (hpl z x hx).2.later b3, fun z x hx => (hpl z x hx).1, hf0, m3, r3, q3⟩
  have hb4 := hb1.trans ((hb2.trans (b3.mono hb2.size)).mono hb1.size)
  clear hM hf hch hpl hf0 hV m3 r3 q3
  go_wp2_with fail
  go_ret
  exact ⟨_, _, _, _, _, _, _, rfl, hMade, hbW, hb4⟩
/-- a row of one's own, in blocks that lie as they lay -/
theorem own_same {W W' : World} {B sz n : Nat} {t : TypeId} {v : Value} {xs : List Value} (h : W.ownsRow B t sz v n xs) (hb : ∀ b, v.ownBlock = some b → W'.heap[b]? = W.heap[b]?) : W'.ownsRow B t sz v n xs := by
  refine ⟨h.1, ?_⟩
  rcases h.2 with h2 | ⟨b, cap, cur, e1, hB, hh, r⟩
  · exact .inl h2
  · exact .inr ⟨b, cap, cur, e1, hB, (hb b (by rw [e1]; rfl)).trans hh, r⟩
/-- what the loop over an iterator has -/
structure PrI (w : World) (G B0 : Nat) (most : Int) (pre : List Pr) (W : World) : Prop where
  cel : ∃ v, W.heap[G]? = some (.cells #[v] 30 (0, 0)) ∧ W.ownsRow B0 50 2 v pre.length (pre.flatMap Pr.cells)
  mo : W.heap[w.heap.size + 1]? = some (.cells #[.int .i64 most] 3 (0, 0))
  bel : Below w.heap.size w W
  sz : B0 ≤ W.heap.size
theorem row_cel {G : Nat} {W : World} {v : Value} (h : W.heap[G]? = some (.cells #[v] 30 (0, 0))) : rowOf G W = v.ownBlock := by
  unfold rowOf
  rw [cell_of_row _ _ 0 _ _ _ h]
  rfl
/-- kept, if these blocks lie as they lay -/
theorem PrI.same {w W W' : World} {G B0 : Nat} {most : Int} {pre : List Pr} (h : PrI w G B0 most pre W) (hs : ∀ b cs t m, W.heap[b]? = some (.cells cs t m) → (b = G ∨ b = w.heap.size + 1 ∨ rowOf G W = some b) → W'.heap[b]? = W.heap[b]?) (hb : Below w.heap.size w W') (hz : W.heap.size ≤ W'.heap.size) : PrI w G B0 most pre W' := by
  obtain ⟨⟨v, h1, h2⟩, h3, h4, h5⟩ := h
  refine ⟨⟨v, (hs _ _ _ _ h1 (.inl rfl)).trans h1, own_same h2 fun b hb => ?_⟩, (hs _ _ _ _ h3 (.inr (.inl rfl))).trans h3, hb, by omega⟩
  obtain ⟨_, cs, hcs⟩ := row_ge h2 hb
  exact hs _ _ _ _ hcs (.inr (.inr (by rw [row_cel h1]; exact hb)))
theorem PrI.later {w W W' : World} {G B0 : Nat} {most : Int} {pre : List Pr} (h : PrI w G B0 most pre W) (hw : w.heap.size ≤ B0) (hb : Below W.heap.size W W') : PrI w G B0 most pre W' :=
  h.same (fun b cs t m h1 _ => hb.block b (Array.getElem?_eq_some_iff.1 h1).1) (h.bel.trans (hb.mono (Nat.le_trans hw h.sz))) hb.size
theorem PrI.own {w W W' : World} {G B0 : Nat} {most : Int} {pre : List Pr} {row : Option Nat} (h : PrI w G B0 most pre W) (hw : w.heap.size ≤ B0) (hg : W.grownBy W' row) (hr : ∀ r, row = some r → B0 ≤ r ∧ ∃ o : Obj, W.heap[r]? = some o ∧ o.isCells = false) : PrI w G B0 most pre W' := by
  have hb := ownFrom_below (β := Unit) (n₀ := w.heap.size) (B := B0) (w₀ := w) (Nat.le_refl _) hw () W W' row h.bel hg hr
  refine h.same (fun b cs t m h1 _ => hg.block b (Array.getElem?_eq_some_iff.1 h1).1 fun e => ?_) hb hg.size
  obtain ⟨_, o, ho, hc⟩ := hr b e.symm
  rw [h1] at ho
  cases ho
  cases hc
theorem PrI.keepX {w W W' : World} {G B0 : Nat} {most : Int} {pre : List Pr} (h : PrI w G B0 most pre W) (hw : w.heap.size + 2 ≤ B0) (hG : G < B0) (hk : KeepX G B0 W W') : PrI w G B0 most pre W' := by
  refine h.same (fun b cs t m h1 hb => (hk.same b _ h1 ?_).trans h1.symm) ⟨hk.os.trans h.bel.os, hk.tape.trans h.bel.tape, hk.output.trans h.bel.output, Nat.le_trans h.bel.size hk.size, fun k hk2 => ?_⟩ hk.size
  · rcases hb with rfl | rfl | hb
    · exact .inl hG
    · exact .inl (by omega)
    · exact .inr (.inr hb)
  · have e1 := h.bel.block k hk2
    have e2 : w.heap[k]? = some w.heap[k] := Array.getElem?_eq_getElem hk2
    rw [e2] at e1 ⊢
    exact hk.same k _ e1 (.inl (by omega))
theorem PrI.gc {w W : World} {G B0 : Nat} {most : Int} {pre : List Pr} (h : PrI w G B0 most pre W) : GcOk G B0 W := by
  obtain ⟨⟨v, h1, h2⟩, _⟩ := h
  obtain ⟨a, n, c, rfl⟩ := row_slice h2
  refine ⟨⟨a, n, c, h1⟩, fun b hb => ?_⟩
  rw [row_cel h1] at hb
  obtain ⟨q1, cs, q2⟩ := row_ge h2 hb
  exact ⟨q1, cs, _, q2⟩
/-- behind the loop -/
theorem PrI.done {w W : World} {G B0 D : Nat} {most : Int} {pre : List Pr} (h : PrI w G B0 most pre W) (hw : w.heap.size ≤ B0) (hD : B0 ≤ D) (hK : W.heap[D]? = some (.deferred (some []))) (v : Value) (hv : W.heap[G]? = some (.cells #[v] 30 (0, 0))) :
    (W.putObj D (.deferred none)).ownsRow w.heap.size 50 2 v pre.length (pre.flatMap Pr.cells) ∧ Below w.heap.size w (W.putObj D (.deferred none)) := by
  obtain ⟨⟨v', h1, h2⟩, h3, h4, h5⟩ := h
  rw [hv] at h1
  obtain rfl : v = v' := by simpa using h1
  have ho : ∀ b, b ≠ D → (W.putObj D (.deferred none)).heap[b]? = W.heap[b]? := fun b hb => World.putObj_heap_other hb
  refine ⟨own_base hw (own_same h2 fun b hb => ho b fun e => ?_), ⟨h4.os, h4.tape, h4.output, by simpa using h4.size, fun k hk => (ho k (by omega)).trans (h4.block k hk)⟩⟩
  obtain ⟨_, cs, hcs⟩ := row_ge h2 hb
  rw [e, hK] at hcs
  cases hcs
/-- behind an append to the loop's row -/
theorem prI_appended {w W w5 : World} {B0 : Nat} {most : Int} {pre : List Pr} {x : Pr} {v v' : Value} (h1 : W.heap[w.heap.size + 2]? = some (.cells #[v] 30 (0, 0))) (h2 : W.ownsRow B0 50 2 v pre.length (pre.flatMap Pr.cells)) (h3 : W.heap[w.heap.size + 1]? = some (.cells #[.int .i64 most] 3 (0, 0))) (h4 : Below w.heap.size w W) (h5 : B0 ≤ W.heap.size) (hB : w.heap.size + 2 < B0)
    (hown : w5.ownsRow B0 50 2 v' (pre.length + 1) (pre.flatMap Pr.cells ++ [.string x.key, .string x.val])) (hgrow : (W.alloc (.cells #[.string x.key, .string x.val] 50)).grownBy w5 v.ownBlock) (hat : v'.ownBlock = v.ownBlock ∨ v'.ownBlock = some (W.alloc (.cells #[.string x.key, .string x.val] 50)).heap.size) :
    ∃ oa oc, v' = .slice oa (pre ++ [x]).length oc ∧
      ((w5.setCell ⟨w.heap.size + 2, 0, none⟩ (.slice oa (pre ++ [x]).length oc)).cell? ⟨w.heap.size + 2, 0, none⟩ = some (.slice oa (pre ++ [x]).length oc) ∧ (w5.setCell ⟨w.heap.size + 2, 0, none⟩ (.slice oa (pre ++ [x]).length oc)).cell? ⟨w.heap.size + 1, 0, none⟩ = some (.int .i64 most) ∧
       PrI w (w.heap.size + 2) B0 most (pre ++ [x]) (w5.setCell ⟨w.heap.size + 2, 0, none⟩ (.slice oa (pre ++ [x]).length oc)) ∧ KeepsFrom B0 W (w5.setCell ⟨w.heap.size + 2, 0, none⟩ (.slice oa (pre ++ [x]).length oc)) ∧ KpR (w.heap.size + 2) (fun b _ => b = w.heap.size + 2) W (w5.setCell ⟨w.heap.size + 2, 0, none⟩ (.slice oa (pre ++ [x]).length oc))) ∧
      w5.cell? ⟨w.heap.size + 2, 0, none⟩ = some v ∧ w5.frozen? ⟨w.heap.size + 2, 0, none⟩ = false := by
  have hrc := row_cel h1
  have hvG : ∀ b, v.ownBlock = some b → b ≠ w.heap.size + 2 := fun b hb e => by
    obtain ⟨_, cs, hcs⟩ := row_ge h2 hb
    rw [e, h1] at hcs
    simp only [Option.some.injEq, Obj.cells.injEq] at hcs
    exact absurd hcs.2.1 (by decide)
  have hvB : ∀ b, v.ownBlock = some b → B0 ≤ b := fun b hb => (row_ge h2 hb).1
  have hO : w5.ownsRow B0 50 2 v' (pre ++ [x]).length ((pre ++ [x]).flatMap Pr.cells) := by
    have e1 : (pre ++ [x]).flatMap Pr.cells = pre.flatMap Pr.cells ++ [.string x.key, .string x.val] := by simp [Pr.cells]
    have e2 : (pre ++ [x]).length = pre.length + 1 := by simp
    rw [e1, e2]
    exact hown
  obtain ⟨oa, oc, rfl, _⟩ := row_cells Pr.cells 2 (fun _ => rfl) hO
  have hb8 := below_box W (.cells #[.string x.key, .string x.val] 50)
  have hs8 : (W.alloc (.cells #[.string x.key, .string x.val] 50)).heap.size = W.heap.size + 1 := by simp
  have hGW := (Array.getElem?_eq_some_iff.1 h1).1
  have hs5 := hgrow.size
  have hk : ∀ k, k < W.heap.size → v.ownBlock ≠ some k → w5.heap[k]? = W.heap[k]? := fun k hk hne => (hgrow.block k (by omega) (fun e => hne e.symm)).trans (hb8.block k hk)
  have hG5 := (hk _ hGW (fun e => hvG _ e rfl)).trans h1
  have hM5 := (hk _ (Array.getElem?_eq_some_iff.1 h3).1 (fun e => by have := hvB _ e; omega)).trans h3
  obtain ⟨W6, HW6⟩ : ∃ u, Hid (w5.setCell ⟨w.heap.size + 2, 0, none⟩ (.slice oa (pre ++ [x]).length oc) = u) := ⟨_, hid rfl⟩
  have ho : ∀ b, b ≠ w.heap.size + 2 → W6.heap[b]? = w5.heap[b]? := fun b hb => by rw [← HW6.out]; exact heap_setCell_other w5 ⟨w.heap.size + 2, 0, none⟩ b _ hb
  have hs6 : W6.heap.size = w5.heap.size := by rw [← HW6.out]; simp
  have hG6 : W6.heap[w.heap.size + 2]? = some (.cells #[.slice oa (pre ++ [x]).length oc] 30 (0, 0)) := by
    rw [← HW6.out]
    unfold World.setCell
    simp only [Array.getElem?_modify, if_pos, hG5, Option.map_some]
    rfl
  have hM6 := (ho (w.heap.size + 1) (by omega)).trans hM5
  have hoG : ∀ b, (Value.slice oa (pre ++ [x]).length oc).ownBlock = some b → b ≠ w.heap.size + 2 := fun b hb e => by
    obtain ⟨_, cs, hcs⟩ := row_ge hO hb
    rw [e, hG5] at hcs
    simp only [Option.some.injEq, Obj.cells.injEq] at hcs
    exact absurd hcs.2.1 (by decide)
  have hbel5 : Below w.heap.size w w5 := (h4.trans (hb8.mono h4.size)).grown hgrow (by have := h4.size; omega) (fun k hk => by have := hvB k hk; omega)
  have hbel6 : Below w.heap.size w W6 := by rw [← HW6.out]; exact hbel5.setCell (p := ⟨w.heap.size + 2, 0, none⟩) (by show w.heap.size ≤ w.heap.size + 2; omega) _
  have hP : PrI w (w.heap.size + 2) B0 most (pre ++ [x]) W6 := ⟨⟨_, hG6, own_same hO fun b hb => ho b (hoG b hb)⟩, hM6, hbel6, by omega⟩
  refine ⟨oa, oc, rfl, ?_, cell_of_row _ _ 0 _ _ _ hG5, frozen_of_row _ _ 0 _ _ hG5⟩
  rw [HW6.out]
  refine ⟨cell_of_row _ _ 0 _ _ _ hG6, cell_of_row _ _ 0 _ _ _ hM6, hP, ⟨by omega, fun k o hB2 hk2 hc => ?_⟩, ?_⟩
  · refine ((ho k (by omega)).trans (hk k (Array.getElem?_eq_some_iff.1 hk2).1 fun e => ?_)).trans hk2
    obtain ⟨_, cs, hcs⟩ := row_ge h2 e
    rw [hk2] at hcs
    cases hcs
    cases hc
  · have hos : W6.os = w5.os ∧ W6.tape = w5.tape ∧ W6.output = w5.output := by rw [← HW6.out]; exact ⟨rfl, rfl, rfl⟩
    refine ⟨hos.1.trans (hgrow.os.trans hb8.os), hos.2.1.trans (hgrow.tape.trans hb8.tape), hos.2.2.trans (hgrow.output.trans hb8.output), by omega, fun b o hb _ hX hr => ?_, fun y hy => ?_⟩
    · rw [hrc] at hr
      exact ((ho b hX).trans (hk b (Array.getElem?_eq_some_iff.1 hb).1 hr)).trans hb
    · rw [row_cel hG6] at hy
      rcases hat with e | e
      · exact .inl (by rw [hrc, ← e]; exact hy)
      · rw [e] at hy
        obtain ⟨_, cs, hcs⟩ := row_ge hO e
        have := (Array.getElem?_eq_some_iff.1 hcs).1
        simp only [Option.some.injEq] at hy
        exact .inr ⟨by omega, by omega⟩
theorem tot_pairs (l : List It) (root : Int) (r : Rng) (most : Int) : pairsL l root r most = firstL most (totL l root r) := by
  unfold pairsL totL
  cases hs : seenI l root with
  | some x =>
    rw [if_pos (seen_some hs).1]
    rfl
  | none =>
    have h0 : firstL most [] = [] := by unfold firstL; split <;> simp
    unfold seenI at hs
    split at hs
    · rename_i hr
      rw [if_pos hr, (cont_out hs _).1]
      show firstL most (restL [] r) = firstL most []
      rfl
    · rename_i hr
      rw [if_neg hr]
      exact h0.symm
set_option maxRecDepth 100000 in
set_option maxHeartbeats 2000000 in
theorem pairs14 (a : Option Addr) (c : Nat) (l : List It) (root most : Int) (lo hi : ByteArray) (e : Bool) (w : World) (hl : Fine l) (hlen : l.length ≤ 100) (hwf : (Lit.int .u32 root).wf = true) (hlo : lo.size ≤ 2000) (hhi : hi.size ≤ 2000) (htot : (totL l root (rg lo hi e)).length ≤ 10000) (h : Items w a l) :
    Calls Tryz.prog 8 #[.slice a l.length c, .int .u32 root, av lo hi e, .int .i64 most] w fun x w' => ∃ v, x = .returned v ∧ w'.ownsRow w.heap.size 50 2 v (pairsL l root (rg lo hi e) most).length ((pairsL l root (rg lo hi e) most).flatMap Pr.cells) ∧ Below w.heap.size w w' := by
  obtain ⟨W, HW⟩ : ∃ u', Hid ((w.alloc (.cells #[.string lo, .string hi, .bool e] 25)).alloc (.cells #[.int .i64 most] 3) = u') := ⟨_, hid rfl⟩
  have hb1 : Below w.heap.size w W := by rw [← HW.out]; exact (below_box _ _).alloc (by simp) _
  have sW : W.heap.size = w.heap.size + 2 := by rw [← HW.out]; simp
  have R1 : Box W w.heap.size (.string lo) (.string hi) (.bool e) := by
    rw [← HW.out]
    exact (Box.new w _ _ _).alloc _
  have M1 : W.heap[w.heap.size + 1]? = some (.cells #[.int .i64 most] 3 (0, 0)) := by
    rw [← HW.out]
    have := Go.heap_alloc_new (w.alloc (.cells #[.string lo, .string hi, .bool e] 25)) (.cells #[.int .i64 most] 3)
    rwa [show (w.alloc (.cells #[.string lo, .string hi, .bool e] 25)).heap.size = w.heap.size + 1 by simp] at this
  have HP := hid (tot_pairs l root (rg lo hi e) most)
  by_cases hm : most = 0
  · subst hm
    have hP0 : pairsL l root (rg lo hi e) 0 = [] := by rw [HP.out]; unfold firstL; simp
    rw [hP0]
    have hv0 := World.ownsRow_nil W w.heap.size 50 2
    have m0 := cell_of_row _ _ 0 _ _ _ M1
    generalize l.length = n at *
    go_enter Tryz.func8, Tryz.ntmps8
    go_upto_region 1 with fail
    rw [HW.out]
    go_wp2_with fail
    go_ret
    exact ⟨_, rfl, hv0, hb1⟩
  · have hm' : (most == 0) = false := by simpa using hm
    have hmd : decide (most = 0) = false := decide_eq_false hm
    have hF : pairsL l root (rg lo hi e) most = (tellR most [] (totL l root (rg lo hi e))).1 := by rw [HP.out, tellR_first hm]
    have hgn := Go.heap_alloc_new W (.cells #[.slice none 0 0] 30)
    have hgb := below_box W (.cells #[.slice none 0 0] 30)
    obtain ⟨W2, HW2⟩ : ∃ u', Hid (W.alloc (.cells #[.slice none 0 0] 30) = u') := ⟨_, hid rfl⟩
    rw [HW2.out] at hgn hgb
    have s2 : W2.heap.size = w.heap.size + 3 := by rw [← HW2.out]; simp [sW]
    have hb2 := hb1.trans (hgb.mono hb1.size)
    have HA := hid (all35 a c l root lo hi e W2 hl (h.later hb2))
    have m1 := cell_of_row _ _ 0 _ _ _ M1
    obtain ⟨q0, q1, q2⟩ := Box.cells ((hgb.block _ R1.lt).trans R1)
    rw [hF]
    obtain ⟨TT, HTT⟩ : ∃ T, Hid (totL l root (rg lo hi e) = T) := ⟨_, hid rfl⟩
    have HLN := hid hlen
    generalize hln : l.length = ln at *
    have HLn := hid hln
    clear hln
    refine (callsIn_wide (n := 9)).1 ?_
    refine callsIn_of_wp_marks Tryz.func8 rfl trivial ?_ rfl
    simp only [Tryz.ntmps8, List.size_toArray, List.length_cons, List.length_nil, Nat.reduceAdd, Nat.reduceSub, Array.replicate_succ, Array.replicate_zero, List.push_toArray, List.append_toArray, List.nil_append, List.cons_append]
    gi_upto_region 1 with fail
    rw [HW.out]
    gi_upto_region 4 with fail
    rw [HW2.out]
    gi_wp2_with (refine ⟨trivial, ?_⟩; gi_at_call 13; refine (callsIn_wide.2 HA.out).mono ?_; rintro y w3 ⟨nm, mc, rc, rb, f, pl, k, rfl, hMd, hnmg, hb3⟩)
    have hs3 := hb3.size
    have hg3 : w3.heap[w.heap.size + 2]? = some (.cells #[.slice none 0 0] 30 (0, 0)) := by
      have := hgn
      rw [sW] at this
      exact (hb3.block _ (by omega)).trans this
    have hM3 : w3.heap[w.heap.size + 1]? = some (.cells #[.int .i64 most] 3 (0, 0)) := (hb3.block _ (by omega)).trans ((hgb.block _ (by omega)).trans M1)
    have hbw3 := hb2.trans (hb3.mono hb2.size)
    have hI0 : PrI w (w.heap.size + 2) w3.heap.size most [] w3 := ⟨⟨_, hg3, World.ownsRow_nil _ _ _ _⟩, hM3, hbw3, Nat.le_refl _⟩
    have hSQ := all_seq (n := 8) (most := most) hl (by have := HLN.out; rw [HLn.out]; exact this) (Ne.symm hm) hwf hlo hhi htot ⟨_, _, _, hg3⟩ hMd.vm (by omega) hMd.lies hMd.at1 hMd.at0 hMd.mc hMd.rc hMd.rb (Nat.le_refl _)
    have h02 : w.heap.size + 2 ≤ w3.heap.size := by omega
    have h03 : w.heap.size + 2 < w3.heap.size := by omega
    have hfr := @PrI.own w
    refine wpIn_rangeFunc_ownY rfl (by omega) (gf := 23) (lb := #[.pointer (some ⟨mc, 0, none⟩), .pointer (some ⟨rc, 0, none⟩), .pointer (some ⟨rb, 0, none⟩)]) rfl trivial (enters_of Tryz.func23 (by kernel_rfl) rfl)
      hSQ (fun h k => h.trans k) (fun W l o o' hl1 hl2 hl3 hl4 hl5 => KpR.putObj hl2 hl3 hl5 (by omega)) (Below.refl _ _) (fun _ => rfl)
      (fun pre W => PrI w (w.heap.size + 2) w3.heap.size most pre W ∧ (pre.length : Int) ≠ most)
      (fun cc pre W => (cc = .exit 0 ∧ (pre.length : Int) = most) ∧ PrI w (w.heap.size + 2) w3.heap.size most pre W)
      (fun s X Y row hs hg hr => ⟨hs.1.own (by omega) hg hr, hs.2⟩)
      (fun cc s X Y row hs hg hr => ⟨hs.1, hs.2.own (by omega) hg hr⟩)
      (fun s X Y hs hk => ⟨hs.1.keepX h02 h03 hk, hs.2⟩)
      (fun cc s X Y hs hk => ⟨hs.1, hs.2.keepX h02 h03 hk⟩)
      (fun pre W h => ⟨h.1.gc, h.2, h.1.sz⟩)
      (fun cc pre W h => ⟨h.2.gc, h.1.2⟩)
      ⟨hI0, by simpa using Ne.symm hm⟩
      (fun x a' W => ∃ k, (w3.heap.size ≤ k ∧ W.heap[k]? = some (.cells #[.string x.key, .string x.val] 50 (0, 0))) ∧ a' = { tmps := #[.slice a ln c, .int .u32 root, av lo hi e, .int .i64 most, undef, undef, .pointer (some ⟨w.heap.size, 0, none⟩), .pointer (some ⟨w.heap.size + 1, 0, none⟩), .slice none 0 0, .pointer (some ⟨w.heap.size + 2, 0, none⟩), .pointer (some ⟨k, 0, none⟩), .int .i64 most, .bool false, .slice a ln c, .int .u32 root, .agg #[.string lo, .string hi, .bool e], .func (.func 23) #[] #[.pointer (some ⟨mc, 0, none⟩), .pointer (some ⟨rc, 0, none⟩), .pointer (some ⟨rb, 0, none⟩)], pv x, undef, undef, undef, undef, undef, undef, undef, undef, undef], defers := [] })
      (fun x a' _ X Y row hs hg hr => by
        obtain ⟨k, ⟨h1, h2⟩, h3⟩ := hs
        refine ⟨k, ⟨h1, (hg.block k (Array.getElem?_eq_some_iff.1 h2).1 fun e => ?_).trans h2⟩, h3⟩
        obtain ⟨_, o, ho, hc⟩ := hr k e.symm
        rw [h2] at ho
        cases ho
        cases hc)
      ?assign ?body ?done ?stop
    case assign =>
      rintro lp pre x W K ⟨hI, hne⟩ hK
      have hzz := hI.sz
      have hGl : w.heap.size + 2 < W.heap.size := by omega
      have hnb := Go.heap_alloc_new W (.cells #[.string x.key, .string x.val] 50)
      obtain ⟨ky, vl⟩ := x
      dsimp only [pv]
      gi_wp2
      exact hK _ _ ((KeepsOthers.alloc _ _).from _) (KpR.of_below (below_box _ _) hGl) ⟨hI.later (by omega) (below_box _ _), hne⟩ ⟨W.heap.size, ⟨hzz, hnb⟩, rfl⟩
    case body =>
      rintro lp pre x a' W hlp ⟨r, hr⟩ ⟨hI, hne⟩ ⟨k2, ⟨hk1, hk2⟩, rfl⟩ hlt
      obtain ⟨⟨v, h1, h2⟩, h3, h4, h5⟩ := hI
      have hrc := row_cel h1
      obtain ⟨i0, hi, hz0, hz1, hz2⟩ := info_parts info50
      have hvG : ∀ b, v.ownBlock = some b → b ≠ w.heap.size + 2 := fun b hb e => by
        obtain ⟨_, cs, hcs⟩ := row_ge h2 hb
        rw [e, h1] at hcs
        simp only [Option.some.injEq, Obj.cells.injEq] at hcs
        exact absurd hcs.2.1 (by decide)
      have hvM : ∀ b, v.ownBlock = some b → w3.heap.size ≤ b := fun b hb => (row_ge h2 hb).1
      obtain ⟨ky, vl⟩ := x
      have hb8 := below_box W (.cells #[.string ky, .string vl] 50)
      have hn8 := Go.heap_alloc_new W (.cells #[.string ky, .string vl] 50)
      have h28 := row_later h2 hb8
      have k0 := cell_of_row _ _ 0 _ _ _ hk2
      have k1 := cell_of_row _ _ 1 _ _ _ hk2
      have g0 := cell_of_row _ _ 0 _ _ _ h1
      have hnews : ∀ j u, ([Value.string ky, Value.string vl])[j]? = some u → (W.alloc (.cells #[.string ky, .string vl] 50)).cell? ((⟨W.heap.size, 0, none⟩ : Addr).add j) = some u := fun j u hu => by
        match j, hu with
        | 0, hu => simp at hu; subst hu; exact cell_of_row _ _ 0 _ _ _ hn8
        | 1, hu => simp at hu; subst hu; exact cell_of_row _ _ 1 _ _ _ hn8
        | j + 2, hu => simp at hu
      have hone : ∀ u ∈ [Value.string ky, Value.string vl], u.oneCell' = true := fun u hu => oneP ⟨ky, vl⟩ u hu
      have hsz8 : (W.alloc (.cells #[.string ky, .string vl] 50)).heap.size = W.heap.size + 1 := by simp
      have hG8 := (hb8.block _ (Array.getElem?_eq_some_iff.1 h1).1).trans h1
      have hM8 := (hb8.block _ (Array.getElem?_eq_some_iff.1 h3).1).trans h3
      dsimp only [pv]
      have hGW := (Array.getElem?_eq_some_iff.1 h1).1
      by_cases hq : ((pre.length : Int) + 1) = most
      all_goals
        have hqd : ((((pre ++ [Pr.mk ky vl]).length : Nat) : Int)) = (pre.length : Int) + 1 := by simp
        obtain ⟨L, HL⟩ : ∃ L, Hid ((pre ++ [Pr.mk ky vl]).length = L) := ⟨_, hid rfl⟩
        rw [HL.out] at hqd
        have hm1 := cell_of_row _ _ 0 _ _ _ h3
      case pos =>
        have hq1 : ((L : Int) == most) = true := by rw [beq_iff_eq]; omega
        have hq2 : decide ((L : Int) = most) = true := decide_eq_true (by omega)
        gi_wp2_with (gi_at_builtin; go_loud (refine wpListIn_append_own_at _ rfl _ _ 30 rfl w3.heap.size 50 i0 _ 2 32 Tryz.underlying30 hi hz0 hz1 hz2 rfl (by decide) _ _ _ rfl h28 ⟨W.heap.size, 0, none⟩ 1 1 [.string ky, .string vl] rfl rfl hnews hone (by unfold maxLen; omega) (by omega) (by omega) ?_); intro v' w5 hown' hgrow _ hat; have hAP := prI_appended (x := Pr.mk ky vl) h1 h2 h3 h4 h5 (by omega) hown' hgrow hat; obtain ⟨oa, oc, rfl, hAP2, c5, f5⟩ := hAP; rw [HL.out] at hAP2 ⊢; have c6 := hAP2.1; have m6 := hAP2.2.1)
        exact ⟨hAP2.2.2.2.1, hAP2.2.2.2.2, ⟨⟨rfl, by rw [HL.out]; omega⟩, hAP2.2.2.1⟩⟩
      case neg =>
        have hq1 : ((L : Int) == most) = false := by rw [beq_eq_false_iff_ne]; omega
        have hq2 : decide ((L : Int) = most) = false := decide_eq_false (by omega)
        gi_wp2_with (gi_at_builtin; go_loud (refine wpListIn_append_own_at _ rfl _ _ 30 rfl w3.heap.size 50 i0 _ 2 32 Tryz.underlying30 hi hz0 hz1 hz2 rfl (by decide) _ _ _ rfl h28 ⟨W.heap.size, 0, none⟩ 1 1 [.string ky, .string vl] rfl rfl hnews hone (by unfold maxLen; omega) (by omega) (by omega) ?_); intro v' w5 hown' hgrow _ hat; have hAP := prI_appended (x := Pr.mk ky vl) h1 h2 h3 h4 h5 (by omega) hown' hgrow hat; obtain ⟨oa, oc, rfl, hAP2, c5, f5⟩ := hAP; rw [HL.out] at hAP2 ⊢; have c6 := hAP2.1; have m6 := hAP2.2.1)
        exact ⟨hAP2.2.2.2.1, hAP2.2.2.2.2, hAP2.2.2.1, by rw [HL.out]; omega⟩
    case done =>
      rintro D xs W hD hS ⟨hI, hq⟩ hK
      have hfin := hI.done (by omega) hD hK
      obtain ⟨⟨v, h1, h2⟩, h3, h4, h5⟩ := hI
      have hrc := row_cel h1
      have g0 := cell_of_row _ _ 0 _ _ _ h1
      gi_wp2
      refine ⟨by simp, .inl ⟨_, _, rfl, run_takeDeferred hK, ?_⟩⟩
      refine ⟨v, by simp [results, go_sem], v, rfl, ?_⟩
      rw [hS]
      exact hfin v h1
    case stop =>
      rintro D cc pre W hD hSp ⟨⟨rfl, hq⟩, hI⟩ hK
      have hfin := hI.done (by omega) hD hK
      obtain ⟨⟨v, h1, h2⟩, h3, h4, h5⟩ := hI
      have g0 := cell_of_row _ _ 0 _ _ _ h1
      gi_wp2
      refine ⟨by simp, .inl ⟨_, _, rfl, run_takeDeferred hK, ?_⟩⟩
      refine ⟨v, by simp [results, go_sem], v, rfl, ?_⟩
      rw [hSp]
      exact hfin v h1
end Go.Proofs.YtegmpfmhlpdmhaaGreat.Key

namespace Go.Proofs.YtegmpfmhlpdmhaaGreat.Key
open Go.RowKit
set_option linter.unusedVariables false
set_option linter.unusedSimpArgs false

def smallB (l : List It) (root : Int) : Bool := !greatI l && decide (waysR l root ≤ 100)
def greatB (lo hi : ByteArray) : Bool := decide (300 < lo.size) || decide (300 < hi.size)
set_option maxRecDepth 100000 in
set_option maxHeartbeats 800000 in
theorem small12 (a : Option Addr) (c : Nat) (l : List It) (root : Int) (w : World) (wl : Items w a l) (wn : l.length ≤ maxLen) (wm : ∀ m ∈ l, It.In m) :
    Calls Tryz.prog 4 #[.slice a l.length c, .int .u32 root] w fun e w' => e = .returned (.bool (smallB l root)) ∧ Below w.heap.size w w' := by
  have HG := hid (great9 a c l w wn wl wm)
  cases hg : greatI l
  · obtain ⟨hf, h30⟩ := fine_of hg wm
    have H4 := hid (fun u (hu : Below w.heap.size w u) => rways11 a c l root u hf (by omega) (wl.later hu))
    have hS : smallB l root = decide (waysR l root ≤ 100) := by unfold smallB; rw [hg]; rfl
    rw [hg] at HG
    rw [hS]
    generalize waysR l root = R at *
    have hR : decide ((R : Int) ≤ 100) = decide (R ≤ 100) := decide_eq_decide.2 (by omega)
    generalize l.length = n at *
    go_enter Tryz.func4, Tryz.ntmps4
    go_wp2_with fail
    refine HG.out.mono ?_
    rintro x w1 ⟨rfl, hb1⟩
    go_wp2_with fail
    refine (H4.out _ hb1).mono ?_
    rintro x w2 ⟨rfl, hb2⟩
    have hb3 := hb1.trans (hb2.mono hb1.size)
    go_wp2_with fail
    go_ret
    first | exact ⟨rfl, hb3⟩ | exact ⟨by rw [hR], hb3⟩
  · have hS : smallB l root = false := by unfold smallB; rw [hg]; rfl
    rw [hg] at HG
    rw [hS]
    generalize l.length = n at *
    go_enter Tryz.func4, Tryz.ntmps4
    go_wp2_with fail
    refine HG.out.mono ?_
    rintro x w1 ⟨rfl, hb1⟩
    go_wp2_with fail
    go_ret
    exact ⟨rfl, hb1⟩
set_option maxRecDepth 100000 in
set_option maxHeartbeats 800000 in
theorem rgreat13 (lo hi : ByteArray) (e : Bool) (w : World) : Calls Tryz.prog 5 #[av lo hi e] w fun x w' => x = .returned (.bool (greatB lo hi)) ∧ Below w.heap.size w w' := by
  have hb0 := below_box w (.cells #[.string lo, .string hi, .bool e] 25)
  obtain ⟨c0, c1, c2⟩ := (Box.new w (.string lo) (.string hi) (.bool e)).cells
  unfold greatB
  have h2 : decide ((300 : Int) < (hi.size : Int)) = decide (300 < hi.size) := decide_eq_decide.2 (by omega)
  by_cases h : 300 < lo.size
  · have h1 : decide ((300 : Int) < (lo.size : Int)) = true := decide_eq_true (by omega)
    rw [decide_eq_true h]
    go_enter Tryz.func5, Tryz.ntmps5
    go_wp2_with fail
    go_ret
    exact ⟨rfl, hb0⟩
  · have h1 : decide ((300 : Int) < (lo.size : Int)) = false := decide_eq_false (by omega)
    rw [decide_eq_false h]
    generalize hB : decide (300 < hi.size) = B at *
    go_enter Tryz.func5, Tryz.ntmps5
    go_wp2_with fail
    go_ret
    exact ⟨rfl, hb0⟩
theorem prs_row {w : World} {B : Nat} {v : Value} {ps : List Pr} (h : w.ownsRow B 50 2 v ps.length (ps.flatMap Pr.cells)) : ∃ a c, v = .slice a ps.length c ∧ Prs w a ps := by
  obtain ⟨a, c, e, hc⟩ := row_cells Pr.cells 2 (fun _ => rfl) h
  refine ⟨a, c, e, ?_⟩
  rcases hc with h0 | ⟨b, rfl, _, _, hc⟩
  · exact .inl h0
  · refine .inr ⟨b, 0, rfl, fun i hi => ?_⟩
    have e0 := hc i hi 0 (.string ps[i].key) (by omega) rfl
    have e1 := hc i hi 1 (.string ps[i].val) (by omega) rfl
    exact ⟨by rw [Nat.add_zero] at e0; exact e0, e1⟩
end Go.Proofs.YtegmpfmhlpdmhaaGreat.Key
