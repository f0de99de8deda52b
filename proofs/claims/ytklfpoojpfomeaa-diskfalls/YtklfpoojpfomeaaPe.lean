/-
  Contracts of the program's disk: 'Barrier'.
-/
import Derived.Test.YtklfpoojpfomeaaPd
import Derived.Maps.Ext
namespace Go.Proofs.Ytklfpoojpfomeaa.Key
open Go.RowKit Draw Go.Maps
set_option linter.unusedVariables false
set_option linter.unusedSimpArgs false
/-- a store into a map, for the walk -/
theorem mapUp {w : World} {ops : Array Oper} {rest : List Oper} {o : Oper} {a : Act} {Q : Exit → Act → World → Prop} {X : World → Prop} (hg : o.guard = none) (hd : o.dst = none) (m x v : Operand) (hop : o.op = Op.mapUpdate 54 m x v)
    {mv kv vv : Value} (em : a.eval m = mv) (ek : a.eval x = kv) (ev : a.eval v = vv) (h : ∃ w', (Instr.mapUpdate 54 mv kv vv).run Try.prog w = .ok () w' ∧ X w') (hK : ∀ w', X w' → wpList Try.prog ops Q rest a w') : wpList Try.prog ops Q (o :: rest) a w := by
  refine wpList_plain hg fun K' hK' => ?_
  obtain ⟨w', hrun, hx⟩ := h
  unfold Oper.wp
  simp [execOp, hop, em, ek, ev, hrun, Result.andThen]
  refine hK' _ _ ?_
  rw [hd]
  exact hK w' hx
/-- an iterator's step -/
theorem Raw.iter {w w' : World} {B Z p : Nat} {g : Pg} {mk ml : Nat} {wv : Value} {nk nl : Nat} {r : Nat} (h : Raw w B Z p g mk ml wv nk nl) {b : Option Nat} {s c0 : Nat} {seen : Array Nat} (hr : w.heap[r]? = some (.mapIter b s seen c0)) (hg : w.grownBy w' (some r)) (hB : B ≤ r) : Raw w' B Z p g mk ml wv nk nl ∧ Soft B w w' := by
  have hcl : ∀ (j : Nat) (arr : Array Value) (ty : TypeId) (ly : Nat × Nat), w.heap[j]? = some (.cells arr ty ly) → j ≠ r := by
    intro j arr ty ly hj e
    subst e
    rw [hr] at hj
    cases hj
  have hmp : ∀ (j n : Nat) (f : Int → Option Value), VMap w j n f → some j ≠ some r := by
    intro j n f hv e
    obtain rfl := Option.some.inj e
    obtain ⟨es, c, hm⟩ := hv.isMap
    rw [hr] at hm
    cases hm
  have hbl : ∀ q, Blk w Z q → Blk w' Z q := fun q hq => hq.grown hg (fun k hk => by cases hk; exact hcl _ _ _ _ hq.1)
  refine ⟨⟨(hg.block p h.lt (fun e => hcl p _ _ _ h.box (Option.some.inj e))).trans h.box, h.hp, h.hk, h.hl, h.ne, h.km.kept hg (hmp _ _ _ h.km), h.lm.kept hg (hmp _ _ _ h.lm), fun z q hq => hbl q (h.kb z q hq), fun z q hq => hbl q (h.lb z q hq), h.row.kept hg (.inr fun e => ?_), fun x hx => hbl _ (h.wb x hx), h.hnl, h.ff, h.ix⟩, Soft.grown hg h.size fun k e => ⟨by cases e; exact hB, fun arr ty ly hc => by cases e; exact absurd rfl (hcl _ _ _ _ hc)⟩⟩
  obtain ⟨cur, hc⟩ := row_is h.row e
  exact hcl _ _ _ _ hc rfl
theorem ranges_iter {w : World} {r n cnt : Nat} {D : DataW Value} {left : Lit → Bool} {b : Nat} (h : w.ranges Try.prog 3 heldE b r n D left cnt) : ∃ b s seen c0, w.heap[r]? = some (.mapIter b s seen c0) := by
  obtain ⟨es, clock, since, seen, c0, _, _, _, _, hr, _⟩ := h
  exact ⟨_, _, _, _, hr⟩
/-- what is kept while those still come -/
def keptL (g : Pg) (left : Lit → Bool) : Int → Option Pb := fun z => if left (.int .i64 z) = true then g.kept z else findP g z
theorem keptL_start {D : DataW Value} (g : Pg) (h : Told D (fun z => (g.last z).map fun q => bval q.k)) : keptL g (Maps.has D) = g.kept := by
  funext z
  unfold keptL findP
  rw [(h z).1]
  rcases Option.eq_none_or_eq_some (g.last z) with hl | ⟨q, hl⟩ <;> simp [hl]
theorem keptL_end (g : Pg) {left : Lit → Bool} (h : ∀ kl, left kl = false) : keptL g left = findP g := by
  funext z
  unfold keptL
  rw [h, if_neg (by simp)]
theorem keptL_step (g : Pg) (left : Lit → Bool) (z : Int) (q : Pb) (hq : g.last z = some q) : putV (keptL g left) z q = keptL g (fun y => left y && !y.sameKey (.int .i64 z)) := by
  funext y
  unfold putV keptL
  by_cases e : z = y
  · subst e
    rw [if_pos rfl]
    have : (Lit.int .i64 z).sameKey (.int .i64 z) = true := by simp [Lit.sameKey]
    simp [this, findP, hq]
  · rw [if_neg e]
    have : (Lit.int .i64 y).sameKey (.int .i64 z) = false := by simp [Lit.sameKey]; omega
    simp [this]
/-- an entry of 'last' -/
theorem told_at {D : DataW Value} {f : Int → Option Value} (h : Told D f) {z : Int} {c : Value} (hat : ∀ zd, D.atKey (.int .i64 z) zd = .held c) : f z = some c := by
  cases hf : f z with
  | some v =>
    have h1 := (h z).2 (.bool true)
    rw [hat, hf] at h1
    simp only [Option.getD_some, DataW.held.injEq] at h1
    rw [h1]
  | none =>
    have h1 := (h z).2 (.bool true)
    have h2 := (h z).2 (.bool false)
    rw [hat, hf] at h1 h2
    simp only [Option.getD_none, DataW.held.injEq] at h1 h2
    rw [h1] at h2
    simp at h2
theorem heldE_inv (v : Value) (y : DataW Value × List MemPlace) (h : heldE v = some y) : y = (.held v, []) := by
  unfold heldE at h
  exact (Option.some.inj h).symm
set_option maxRecDepth 100000 in
set_option maxHeartbeats 2000000 in
theorem barrier18 {w : World} {B Z p : Nat} {g : Pg} {mk ml : Nat} {wv : Value} {nk nl : Nat} (h : Raw w B Z p g mk ml wv nk nl) (hn : nk + nl < maxLen) :
    Calls Try.prog 18 #[ptr p] w fun x w' => (if g.up = true then x = .returned (.int .i64 0) ∧ (∃ ml' nk', nk' ≤ nk + nl ∧ Raw w' B Z p (forgetP { g with kept := findP g }) mk ml' (.slice none 0 0) nk' 0) else x = .returned (.int .i64 17) ∧ Raw w' B Z p g mk ml wv nk nl) ∧ Soft B w w' := by
  have HU := up11 h
  have hB := h.size
  have HH := hid h
  clear h
  by_cases hu : g.up = true
  case neg =>
    simp only [if_neg hu]
    have hu' : g.up = false := by simpa using hu
    rw [hu'] at HU
    go_enter Try.func18, Try.ntmps18
    go_wp2_with fail
    refine HU.mono ?_
    rintro e w1 ⟨rfl, hb2⟩
    go_wp2_with fail
    go_ret
    exact ⟨⟨rfl, HH.out.later hb2⟩, Soft.new hb2 hB⟩
  case pos =>
    simp only [if_pos hu]
    rw [hu] at HU
    go_enter Try.func18, Try.ntmps18
    go_wp2_with fail
    refine HU.mono ?_
    rintro e w1 ⟨rfl, hb2⟩
    have R1 := HH.out.later hb2
    have S1 := Soft.new hb2 hB
    obtain ⟨c0, c1, c2, c3, c4, c5, c6⟩ := R1.cells
    obtain ⟨D, hown, htold⟩ := R1.lm
    have HR1 := hid R1
    have HS1 := hid S1
    clear R1 S1 HU hb2
    go_wp2_with (at_range; refine wpList_range_own _ rfl _ 54 rfl 3 34 law3 Try.underlying54 heldE ml nl D rfl hown ?_; intro w0 hrg0 hg0 hs0)
    go_frame
    have R0 := HR1.out.later (w' := w0) ⟨hg0.os, hg0.tape, hg0.output, hg0.size, fun i hi => hg0.block i hi (by simp)⟩
    have S0 : Soft B w w0 := HS1.out.trans (Soft.grown hg0 HR1.out.size (by simp))
    have hrB : B ≤ w1.heap.size := HR1.out.size
    have hmkr : mk ≠ w1.heap.size := by have := HR1.out.km.lt; omega
    have hSz := hown.size_le
    clear c0 c1 c2 c3 c4 c5 c6 hown hg0 hs0 HR1 HS1
    generalize w1.heap.size = r at *
    have HR0 := hid R0
    have HS0 := hid S0
    clear R0 S0
    go_loopw [3] (fun _ wr => ∃ (left : Lit → Bool) (cnt nk' : Nat), wr.ranges Try.prog 3 heldE ml r nl D left cnt ∧ nk' + cnt ≤ nk + nl ∧ Raw wr B Z p { g with kept := keptL g left } mk ml wv nk' nl ∧ Soft B w wr) (fun _ wr => wr.rangeLeft ml r)
    case atStart =>
      refine ⟨_, _, nk, hrg0, by omega, ?_, HS0.out⟩
      rw [keptL_start g htold]
      exact HR0.out
    case round =>
      obtain ⟨left, cnt, nk', hrg, hcs, R, S⟩ := hrel
      clear hrg0 HR0 HS0
      have HR := hid R
      have HS := hid S
      clear R S
      go_wp2_with (at_next; refine wpList_next_ranges _ rfl _ rfl 3 law3 heldE (Value.int .i64) (fun v => v) (fun key kl hkey => (by obtain ⟨x, rfl, _⟩ := Maps.keyOf_int_inv Try.underlying3 hkey; exact ⟨x, rfl⟩)) (fun v y hv => ⟨v, rfl⟩) ml r nl _ _ _ rfl hrg ?_ ?_)
      · intro hc0 hl0
        have R := HR.out
        rw [keptL_end g hl0] at R
        have HF := forget31 R
        clear R HR
        go_wp2_with fail
        refine HF.mono ?_
        rintro e w2 ⟨rfl, ⟨ml', r2⟩, s2⟩
        go_wp2_with fail
        go_ret
        exact ⟨⟨rfl, ml', nk', by omega, r2⟩, HS.out.trans s2⟩
      · intro x c kl yd yp w2 cnt1 hkey hlx hRy hat hrg1 hlt hg1 hs1 hen
        obtain ⟨x', ex, rfl, hwx⟩ := Maps.keyOf_int_inv Try.underlying3 hkey
        cases ex
        have hyd := heldE_inv c _ hRy
        cases hyd
        have hlast := told_at htold hat
        obtain ⟨q, hq, rfl⟩ : ∃ q, g.last x = some q ∧ bval q.k = c := by
          change (g.last x).map _ = _ at hlast
          cases hl : g.last x with
          | none => rw [hl] at hlast; simp at hlast
          | some q => rw [hl] at hlast; exact ⟨q, rfl, Option.some.inj hlast⟩
        obtain ⟨b', s', seen', c', hit⟩ := ranges_iter hrg
        obtain ⟨R2, S2⟩ := HR.out.iter hit hg1 hrB
        obtain ⟨c0, c1, c2, c3, c4, c5, c6⟩ := R2.cells
        have hst : ∃ w', (Instr.mapUpdate 54 (.map (some mk)) (.int .i64 x) (bval q.k)).run Try.prog w2 = .ok () w' ∧ (w2.grownBy w' (some mk) ∧ Raw w' B Z p { g with kept := keptL g (fun y => left y && !y.sameKey (.int .i64 x)) } mk ml wv (nk' + 1) nl ∧ Soft B w2 w') := by
          obtain ⟨w', r1, r2, r3⟩ := R2.km.store (by omega) x (bval q.k) hwx
          obtain ⟨r4, s4⟩ := R2.putK (R2.lb x q hq) r2 r3
          refine ⟨w', r1, r3, ?_, s4⟩
          rw [← keptL_step g left x q hq]
          exact r4
        have hne := R2.ne
        have HR2 := hid R2
        have HS2 := hid (HS.out.trans S2)
        clear R2 S2 HR HS hlast hat hRy hit
        go_wp2_with (at_mapUpdate; refine mapUp (mv := .map (some mk)) (kv := .int .i64 x) (vv := bval q.k) rfl rfl _ _ _ rfl rfl rfl rfl hst ?_; rintro w3 ⟨hg3, hr3, hs3⟩)
        have hrg2 := hrg1.kept hg3 (fun e => hne (Option.some.inj e).symm) (fun e => hmkr (Option.some.inj e).symm)
        go_roundw
        case rel => exact ⟨_, cnt1, nk' + 1, hrg2, by omega, hr3, HS2.out.trans hs3⟩
        case measure => rw [hrg2.left_eq, hrg.left_eq]; exact hlt
end Go.Proofs.Ytklfpoojpfomeaa.Key
