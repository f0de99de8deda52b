/-
  Contract of Trim, the program's.
-/
import Derived.Test.YtobbgndabmnbcaaShort
import Derived.Test.YtobbgndabmnbcaaLast
import Derived.Deep.CutRange
namespace Go.Proofs.Ytobbgndabmnbcaa.Key
open Go.RowKit
open Go.Op (bytesLess)

theorem cellsM_cons (m : M) (l : List M) : cellsM (m :: l) = .int .u8 m.kind :: .string m.key :: .string m.val :: .int .u32 m.blk :: .int .u16 m.deep :: .string m.add :: cellsM l := by simp [cellsM, M.cells]
/-- a message put in another one's place -/
def put6 (c : List Value) (o : Nat) (m : M) : List Value := (((((c.set o (.int .u8 m.kind)).set (o + 1) (.string m.key)).set (o + 2) (.string m.val)).set (o + 3) (.int .u32 m.blk)).set (o + 4) (.int .u16 m.deep)).set (o + 5) (.string m.add)
theorem put6_cons (v0 v1 v2 v3 v4 v5 : Value) (c : List Value) (o : Nat) (m : M) : put6 (v0 :: v1 :: v2 :: v3 :: v4 :: v5 :: c) (o + 6) m = v0 :: v1 :: v2 :: v3 :: v4 :: v5 :: put6 c o m := rfl
theorem cellsM_set (m : M) : ∀ (l : List M) (i : Nat), i < l.length → cellsM (l.set i m) = put6 (cellsM l) (i * 6) m
  | [], i, h => by simp at h
  | x :: l, 0, _ => by rw [List.set_cons_zero, cellsM_cons, cellsM_cons]; rfl
  | x :: l, i + 1, h => by
    rw [List.set_cons_succ, cellsM_cons, cellsM_cons, cellsM_set m l i (by simpa using h), show (i + 1) * 6 = i * 6 + 6 by omega, put6_cons]
/-- .. in memory -/
def World.put6 (w : World) (g o : Nat) (m : M) : World :=
  (((((w.setCell ⟨g, o, none⟩ (.int .u8 m.kind)).setCell ⟨g, o + 1, none⟩ (.string m.key)).setCell ⟨g, o + 2, none⟩ (.string m.val)).setCell ⟨g, o + 3, none⟩ (.int .u32 m.blk)).setCell ⟨g, o + 4, none⟩ (.int .u16 m.deep)).setCell ⟨g, o + 5, none⟩ (.string m.add)
theorem OwnM.stored {w : World} {B g n c : Nat} {l : List M} (h : OwnM w B (.slice (some ⟨g, 0, none⟩) n c) l) (hn : l.length = n) {i : Nat} (hi : i < n) (m : M) : OwnM (World.put6 w g (i * 6) m) B (.slice (some ⟨g, 0, none⟩) n c) (l.set i m) := by
  subst hn
  have h1 := (World.ownsRow.stored h (i * 6) (.int .u8 m.kind)).1
  have h2 := (World.ownsRow.stored h1 (i * 6 + 1) (.string m.key)).1
  have h3 := (World.ownsRow.stored h2 (i * 6 + 2) (.string m.val)).1
  have h4 := (World.ownsRow.stored h3 (i * 6 + 3) (.int .u32 m.blk)).1
  have h5 := (World.ownsRow.stored h4 (i * 6 + 4) (.int .u16 m.deep)).1
  have h6 := (World.ownsRow.stored h5 (i * 6 + 5) (.string m.add)).1
  unfold OwnM
  rw [cellsM_set m l i hi, List.length_set]
  exact h6
theorem OwnM.frozen {w : World} {B g n c : Nat} {l : List M} (h : OwnM w B (.slice (some ⟨g, 0, none⟩) n c) l) (hn : l.length = n) (j : Nat) : w.frozen? ⟨g, j, none⟩ = false := by
  subst hn
  exact World.ownsRow.frozenAt h j
theorem Below.put6 {B : Nat} {a w : World} (h : Below B a w) {g : Nat} (hg : B ≤ g) (o : Nat) (m : M) : Below B a (World.put6 w g o m) :=
  (((((h.setCell (p := ⟨g, o, none⟩) hg _).setCell (p := ⟨g, o + 1, none⟩) hg _).setCell (p := ⟨g, o + 2, none⟩) hg _).setCell (p := ⟨g, o + 3, none⟩) hg _).setCell (p := ⟨g, o + 4, none⟩) hg _).setCell (p := ⟨g, o + 5, none⟩) hg _

/-- what is left of messages -/
def some' (l : List M) (r : Rng) : List M := l.filter fun m => touch m r
def trimL (l : List M) (r : Rng) (a : ByteArray) : List M := (some' l r).map fun m => shortM m a
def trimB (l : List M) (r : Rng) (a : ByteArray) : Bool := (some' l r).all fun m => shortB m a
/-- .. half way -/
def half (f : List M) (a : ByteArray) (j : Nat) : List M := (f.take j).map (fun m => shortM m a) ++ f.drop j
theorem half_length (f : List M) (a : ByteArray) (j : Nat) : (half f a j).length = f.length := by
  simp [half]; omega
theorem half_at {f : List M} {a : ByteArray} {j : Nat} (h : j < f.length) (h' : j < (half f a j).length) : (half f a j)[j] = f[j] := by
  have e : (half f a j)[j]? = some f[j] := by
    unfold half
    rw [List.getElem?_append_right (by simp; omega)]
    simp [Nat.min_eq_left (Nat.le_of_lt h)]
  rw [List.getElem?_eq_getElem h'] at e
  exact Option.some.inj e
theorem half_set {f : List M} {a : ByteArray} {j : Nat} (h : j < f.length) : (half f a j).set j (shortM f[j] a) = half f a (j + 1) := by
  unfold half
  have hl : ((f.take j).map (fun m => shortM m a)).length = j := by simp; omega
  rw [List.set_append_right _ _ (by omega), hl, Nat.sub_self, List.drop_eq_getElem_cons h, List.set_cons_zero, List.take_succ_eq_append_getElem h, List.map_append, List.append_assoc]
  rfl
theorem all_take_succ {α : Type} (l : List α) (p : α → Bool) {j : Nat} (h : j < l.length) : (l.take (j + 1)).all p = ((l.take j).all p && p l[j]) := by
  rw [List.take_succ_eq_append_getElem h, List.all_append]
  simp only [List.all_cons, List.all_nil, Bool.and_true]
theorem all_not {α : Type} (l : List α) (p : α → Bool) {j : Nat} (h : j < l.length) (hp : p l[j] = false) : l.all p = false := by
  rw [Bool.eq_false_iff]
  intro h'
  rw [List.all_eq_true.1 h' _ (List.getElem_mem h)] at hp
  cases hp

/-- what Trim answers -/
def TrimPost (w w' : World) (x : Ending) (L : List M) (b : Bool) : Prop :=
  (b = true → ∃ v, x = .returned (.tuple #[v, .int .i64 0]) ∧ OwnM w' w.heap.size v L) ∧ (b = false → x = .returned (.tuple #[.slice none 0 0, .int .i64 1]))

set_option maxHeartbeats 2000000 in
theorem trim23 (a : Option Addr) (c : Nat) (l : List M) (lo hi : ByteArray) (e : Bool) (s : ByteArray) (w : World) (hl : l.length ≤ 1000) (hm : Msgs w a l) (hk : ∀ m ∈ l, m.key.size ≤ 1000 ∧ m.add.size ≤ 1000) (hs : s.size ≤ 1000) :
    Calls Try.prog 23 #[.slice a l.length c, av lo hi e, .string s] w fun x w' => TrimPost w w' x (trimL l (rg lo hi e) s) (trimB l (rg lo hi e) s) ∧ Below w.heap.size w w' := by
  have hmf : ∀ (fn : Fn) (first cap : Array Value) (w : World), (Instr.makeFunc fn first cap).run Try.prog w = .ok (.func fn first cap) w := fun _ _ _ _ => rfl
  have hR0 := Box.new w (.string lo) (.string hi) (.bool e)
  have hb0 := below_box w (.cells #[.string lo, .string hi, .bool e] 34)
  have HC := fun w' (h : Below (w.alloc (.cells #[.string lo, .string hi, .bool e] 34)).heap.size (w.alloc (.cells #[.string lo, .string hi, .bool e] 34)) w') =>
    choose29 38 #[.pointer (some ⟨w.heap.size, 0, none⟩)] (fun m => touch m (rg lo hi e)) a c l w' hl (hm.later (hb0.trans (h.mono hb0.size))) (enters_of Try.func38 (by kernel_rfl) rfl)
      (fun m hmm w2 h2 => touch38 m w.heap.size lo hi e w2 (hk m hmm).1 ((hR0.later h).later h2))
  have HL := hid (show trimL l (rg lo hi e) s = (l.filter fun m => touch m (rg lo hi e)).map (fun m => shortM m s) from rfl)
  have HB := hid (show trimB l (rg lo hi e) s = (l.filter fun m => touch m (rg lo hi e)).all (fun m => shortB m s) from rfl)
  have hfl : (l.filter fun m => touch m (rg lo hi e)).length ≤ 1000 := Nat.le_trans (List.length_filter_le _ _) hl
  have hfk : ∀ m ∈ (l.filter fun m => touch m (rg lo hi e)), m.key.size ≤ 1000 ∧ m.add.size ≤ 1000 := fun m h => hk m (List.mem_filter.1 h).1
  have HC1 := HC _ (Below.refl _ _)
  clear HC
  generalize trimL l (rg lo hi e) s = TL at *
  generalize trimB l (rg lo hi e) s = TB at *
  generalize (l.filter fun m => touch m (rg lo hi e)) = f at *
  go_enter Try.func23, Try.ntmps23
  go_wp2_with fail
  refine HC1.mono ?_
  clear HC1
  rintro x w1 ⟨v, rfl, ho1, hb1⟩
  replace ho1 : OwnM w1 w.heap.size v f := by
    refine ⟨ho1.1, ?_⟩
    rcases ho1.2 with h | ⟨g, cap, cur, h1, h2, h3⟩
    · exact .inl h
    · exact .inr ⟨g, cap, cur, h1, by simp at h2; omega, h3⟩
  replace hb1 := hb0.trans (hb1.mono hb0.size)
  clear hR0 hb0
  obtain ⟨fa, cap, rfl, hfm, hnil, hpos, hcap⟩ := ho1.form
  generalize hn : f.length = n at *
  have HN := hid hn
  clear hn
  go_wp2_with fail
  go_loopw [20] (fun i wr => ∃ j : Nat, j ≤ n ∧ i = .int .i64 j ∧ OwnM wr w.heap.size (.slice fa n cap) (half f s j) ∧ Hid ((f.take j).all (fun m => shortB m s) = true) ∧ Below w.heap.size w wr) (fun i _ => n - (intOf i).toNat)
  case atStart => exact ⟨0, Nat.zero_le _, rfl, by simpa [half] using ho1, by simp [Hid], hb1⟩
  case round =>
    obtain ⟨j, hj, rfl, ho, hall, hb⟩ := hrel
    by_cases hlt : j < n
    · have hlt' : j < f.length := by rw [HN.out]; exact hlt
      have hh' : j < (half f s j).length := by rw [half_length]; exact hlt'
      have hhn : (half f s j).length = n := by rw [half_length]; exact HN.out
      obtain ⟨g, rfl⟩ : ∃ g, fa = some ⟨g, 0, none⟩ := by
        cases fa with
        | none => have := (hnil rfl).1; rw [this] at hlt'; simp at hlt'
        | some ad => obtain ⟨_, _, h3, h4⟩ := hpos ad rfl; obtain ⟨b, o, sp⟩ := ad; dsimp only at h3 h4; subst h3 h4; exact ⟨b, rfl⟩
      have hg := hpos _ rfl
      have h6 : Six wr g (j * 6) f[j] := by
        obtain ⟨a', cap', e1, hms, _⟩ := ho.form
        simp only [Value.slice.injEq] at e1
        obtain ⟨rfl, _, rfl⟩ := e1
        obtain ⟨b, off, e2, h6⟩ := hms.at hh'
        simp only [Option.some.injEq, Addr.mk.injEq, and_true] at e2
        obtain ⟨rfl, rfl⟩ := e2
        rw [half_at hlt' hh', Nat.zero_add] at h6
        exact h6
      have HS := fun w => short40 f[j] s w (hfk _ (List.getElem_mem hlt')).1 (hfk _ (List.getElem_mem hlt')).2 hs
      have HA := hid (all_take_succ f (fun m => shortB m s) hlt')
      have HF := hid (fun h => all_not f (fun m => shortB m s) hlt' h)
      have HP := hid (@half_set f s j hlt')
      obtain ⟨m, HM⟩ : ∃ m, Hid (f[j] = m) := ⟨_, hid rfl⟩
      rw [HM.out] at h6 HS HA HF HP
      generalize shortM m s = m' at *
      generalize shortB m s = sb at *
      have hx := MBox.new wr m
      have hy := fun w => MBox.new w m'
      obtain ⟨kd, ky, vl, bk, dp, ad⟩ := m
      obtain ⟨kd', ky', vl', bk', dp', ad'⟩ := m'
      obtain ⟨c0, c1, c2, c3, c4, c5⟩ := h6
      dsimp only at c0 c1 c2 c3 c4 c5 hx hy
      have hbs := hb.size
      clear hm hk hfk hl hs
      go_wp2_with fail
      refine (HS _).mono ?_
      clear HS
      rintro x w2 ⟨rfl, hb2⟩
      have ho2 : OwnM w2 w.heap.size (.slice (some ⟨g, 0, none⟩) n cap) (half f s j) := OwnM.later (World.ownsRow.alloc ho _) hb2
      replace hb2 : Below w.heap.size w w2 := (hb.alloc hbs _).trans (hb2.mono (by simp; omega))
      have ho3 := World.ownsRow.alloc ho2 (.cells #[.int .u8 kd', .string ky', .string vl', .int .u32 bk', .int .u16 dp', .string ad'] 26)
      have hb3 := hb2.alloc hb2.size (.cells #[.int .u8 kd', .string ky', .string vl', .int .u32 bk', .int .u16 dp', .string ad'] 26)
      have hy2 := hy w2
      clear hy hx ho ho2 hb c0 c1 c2 c3 c4 c5 ho1
      cases sb
      · have HTB : TB = false := by rw [HB.out]; exact HF.out rfl
        clear hy2 ho3
        go_wp2_with fail
        go_ret2
        exact ⟨⟨fun h => (by rw [HTB] at h; cases h), fun _ => rfl⟩, hb3⟩
      · go_upto_region 9 with fail
        have hbs3 := hb3.size
        generalize w2.alloc (.cells #[.int .u8 kd', .string ky', .string vl', .int .u32 bk', .int .u16 dp', .string ad'] 26) = w3 at *
        generalize w2.heap.size = k2 at *
        obtain ⟨d0, d1, d2, d3, d4, d5⟩ := hy2.six
        dsimp only at d0 d1 d2 d3 d4 d5
        have h6 : Six w3 g (j * 6) f[j] := by
          obtain ⟨a', cap', e1, hms, _⟩ := OwnM.form ho3
          simp only [Value.slice.injEq] at e1
          obtain ⟨rfl, _, rfl⟩ := e1
          obtain ⟨b, off, e2, h6⟩ := hms.at hh'
          simp only [Option.some.injEq, Addr.mk.injEq, and_true] at e2
          obtain ⟨rfl, rfl⟩ := e2
          rw [half_at hlt' hh', Nat.zero_add] at h6
          exact h6
        rw [HM.out] at h6
        obtain ⟨c0, c1, c2, c3, c4, c5⟩ := h6
        dsimp only at c0 c1 c2 c3 c4 c5
        have fz := OwnM.frozen ho3 hhn
        have f0 := fz (j * 6)
        have f1 := fz (j * 6 + 1)
        have f2 := fz (j * 6 + 2)
        have f3 := fz (j * 6 + 3)
        have f4 := fz (j * 6 + 4)
        have f5 := fz (j * 6 + 5)
        have ho4 := hid (OwnM.stored ho3 hhn hlt ⟨kd', ky', vl', bk', dp', ad'⟩)
        have hb4 := hid (Below.put6 hb3 hg.1 (j * 6) ⟨kd', ky', vl', bk', dp', ad'⟩)
        clear fz ho3 hb3 hpos hnil hfm hb1 hmf
        go_wp2_with fail
        go_roundw
        case rel => exact ⟨j + 1, by omega, by go_num, by rw [← HP.out]; exact ho4.out, by unfold Hid; rw [HA.out, hall.out]; rfl, hb4.out⟩
        case measure => simp [intOf]; omega
    · obtain rfl : j = n := by omega
      have HTB : TB = true := by rw [HB.out, ← hall.out, ← HN.out, List.take_length]
      go_wp2_with fail
      go_ret2
      refine ⟨⟨fun _ => ⟨_, rfl, ?_⟩, fun h => (by rw [HTB] at h; cases h)⟩, hb⟩
      rw [HL.out]
      have e : half f s j = f.map fun m => shortM m s := by unfold half; rw [← HN.out, List.take_length, List.drop_length, List.append_nil]
      rw [← e]
      exact ho
end Go.Proofs.Ytobbgndabmnbcaa.Key
