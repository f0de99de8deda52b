/-
  Contract of the function that Trim hands on: does a message speak of a key of a range? Steps through a region that draws.
  Contract of shorten: a message with a beginning taken away.
  Contract of Trim, the program's.
  Plain facts: what trimmed messages say is what they said.
-/
import Derived.Test.YtlkcoaencliajaaMs
import Derived.Test.YtlkcoaencliajaaLCutRef
import Derived.Test.YtlkcoaencliajaaQt
import Derived.Deep.Quiet
import Derived.Deep.CutRange
namespace Go.Proofs.Ytlkcoaencliajaa.Key
open Go.RowKit
open Go.Op (bytesLess)

/-- does a message speak of a key of a range? -/
def touch (m : M) (r : Rng) : Bool := !emptyR (cutR (aboutR m) r)

set_option maxRecDepth 100000 in
set_option maxHeartbeats 1000000 in
theorem touch38 (m : M) (k : Nat) (lo hi : ByteArray) (e : Bool) (w : World) (hk : m.key.size ≤ 1000) (hB : Box w k (.string lo) (.string hi) (.bool e)) :
    Calls Try.prog 84 #[mv m, .pointer (some ⟨k, 0, none⟩)] w fun x w' => x = .returned (.bool (touch m (rg lo hi e))) ∧ Below w.heap.size w w' := by
  have HT := hid (show touch m (rg lo hi e) = !emptyR (cutR (aboutR m) (rg lo hi e)) from rfl)
  have HA := hid (fun w => about57 m w hk)
  have HC := hid (cut23 (str (aboutR m).lo) (str (aboutR m).hi) (aboutR m).e lo hi e)
  rw [show rg (str (aboutR m).lo) (str (aboutR m).hi) (aboutR m).e = aboutR m from rfl] at HC
  have HE := hid (empty25 (str (cutR (aboutR m) (rg lo hi e)).lo) (str (cutR (aboutR m) (rg lo hi e)).hi) (cutR (aboutR m) (rg lo hi e)).e)
  rw [show rg (str (cutR (aboutR m) (rg lo hi e)).lo) (str (cutR (aboutR m) (rg lo hi e)).hi) (cutR (aboutR m) (rg lo hi e)).e = cutR (aboutR m) (rg lo hi e) from rfl] at HE
  unfold rv at HA HC
  generalize touch m (rg lo hi e) = t at *
  generalize emptyR (cutR (aboutR m) (rg lo hi e)) = b at *
  generalize str (cutR (aboutR m) (rg lo hi e)).lo = C0 at *
  generalize str (cutR (aboutR m) (rg lo hi e)).hi = C1 at *
  generalize (cutR (aboutR m) (rg lo hi e)).e = C2 at *
  generalize str (aboutR m).lo = A0 at *
  generalize str (aboutR m).hi = A1 at *
  generalize (aboutR m).e = A2 at *
  clear hk
  have M1 := MBox.new w m
  obtain ⟨kd, ky, vl, bk, dp, ad⟩ := m
  have R1 := hB.alloc (.cells #[.int .u8 kd, .string ky, .string vl, .int .u32 bk, .int .u16 dp, .string ad] 90)
  dsimp only at M1
  have hb1 : Below w.heap.size w (w.alloc (.cells #[.int .u8 kd, .string ky, .string vl, .int .u32 bk, .int .u16 dp, .string ad] 90)) := below_box w _
  go_enter Try.func84, Try.ntmps84
  go_wp2_with fail
  generalize w.heap.size = k1 at M1 ⊢
  generalize w.alloc (.cells #[.int .u8 kd, .string ky, .string vl, .int .u32 bk, .int .u16 dp, .string ad] 90) = w1 at *
  refine wp_region_quiet (C := fun u => Below w1.heap.size w1 u) (by kernel_rfl) (by kernel_rfl) ((Below.refl _ w1).drew) ?_
  change wpQuiet _ _ _ _ (_ :: _) _
  refine wpQuiet_step (fun K hK => ?_)
  refine quiet_val (.agg #[.int .u8 kd, .string ky, .string vl, .int .u32 bk, .int .u16 dp, .string ad]) (by kernel_rfl) (fun u hu => by obtain ⟨c0, c1, c2, c3, c4, c5⟩ := (M1.later hu).six; go_simp) ?_
  go_simp
  refine hK _ ?_
  clear hK K
  refine wpQuiet_step (fun K hK => ?_)
  refine quiet_call (.agg #[.string A0, .string A1, .bool A2]) 85 #[.agg #[.int .u8 kd, .string ky, .string vl, .int .u32 bk, .int .u16 dp, .string ad]] (by kernel_rfl) (fun u hu => by go_simp) (fun u hu => (HA.out u).mono fun x u' h => ⟨h.1, hu.trans (h.2.mono hu.size)⟩) ?_
  go_simp
  refine hK _ ?_
  clear hK K
  refine wpQuiet_step (fun K hK => ?_)
  refine quiet_val (.agg #[.string lo, .string hi, .bool e]) (by kernel_rfl) (fun u hu => by obtain ⟨c0, c1, c2⟩ := (R1.later hu).cells; go_simp) ?_
  go_simp
  refine hK _ ?_
  clear hK K
  refine wpQuiet_step (fun K hK => ?_)
  refine quiet_call (.agg #[.string C0, .string C1, .bool C2]) 74 #[.agg #[.string A0, .string A1, .bool A2], .agg #[.string lo, .string hi, .bool e]] (by kernel_rfl) (fun u hu => by go_simp) (fun u hu => (HC.out u).mono fun x u' h => ⟨h.1, hu.trans (h.2.mono hu.size)⟩) ?_
  go_simp
  refine hK _ ?_
  clear hK K
  refine wpQuiet_step (fun K hK => ?_)
  refine quiet_call (.bool b) 43 #[.agg #[.string C0, .string C1, .bool C2]] (by kernel_rfl) (fun u hu => by go_simp) (fun u hu => (HE.out u).mono fun x u' h => ⟨h.1, hu.trans (h.2.mono hu.size)⟩) ?_
  go_simp
  refine hK _ ?_
  clear hK K
  refine wpQuiet_step (fun K hK => ?_)
  refine quiet_val (.bool (!b)) (by kernel_rfl) (fun u hu => by go_simp) ?_
  go_simp
  refine hK _ ?_
  clear hK K
  refine wpQuiet_step (fun K hK => ?_)
  refine quiet_val (.bool (!b)) (by kernel_rfl) (fun u hu => by go_simp) ?_
  go_simp
  refine hK _ ?_
  clear hK K
  refine wpQuiet_nil (fun u hu => ?_)
  go_wp2_with fail
  go_ret
  exact ⟨ret_bool HT.out.symm, hb1.trans (hu.mono hb1.size)⟩
end Go.Proofs.Ytlkcoaencliajaa.Key

namespace Go.Proofs.Ytlkcoaencliajaa.Key
open Go.RowKit
open Go.Op (bytesLess)

/-- a message that says of keys what m says of them with a ahead; whether it may be -/
def shortM (m : M) (a : ByteArray) : M :=
  if has m.key.data.toList a.data.toList then ⟨m.kind, m.key.extract a.size m.key.size, m.val, m.blk, m.deep, m.add⟩
  else if m.kind = 3 ∧ has a.data.toList m.key.data.toList = true then ⟨m.kind, ⟨#[]⟩, m.val, m.blk, m.deep, m.add ++ a.extract m.key.size a.size⟩
  else M.nil
def shortB (m : M) (a : ByteArray) : Bool :=
  if has m.key.data.toList a.data.toList then decide (m.add.size ≤ 16)
  else if m.kind = 3 ∧ has a.data.toList m.key.data.toList = true then decide ((m.add ++ a.extract m.key.size a.size).size ≤ 16)
  else false
theorem le_int {n : Nat} {b : Bool} (h : decide (n ≤ 16) = b) : decide ((n : Int) ≤ (16 : Int)) = b := by rw [← h]; exact decide_eq_decide.2 (by omega)

set_option maxRecDepth 100000 in
set_option maxHeartbeats 2000000 in
theorem short40 (m : M) (a : ByteArray) (w : World) (h1 : m.key.size ≤ 1000) (h2 : m.add.size ≤ 1000) (h3 : a.size ≤ 1000) :
    Calls Try.prog 87 #[mv m, .string a] w fun x w' => x = .returned (.tuple #[mv (shortM m a), .bool (shortB m a)]) ∧ Below w.heap.size w w' := by
  obtain ⟨kd, ky, vl, bk, dp, ad⟩ := m
  dsimp only at h1 h2
  have C1 := has58 ky a
  have C2 := has58 a ky
  have hb : Below w.heap.size w ((w.alloc (.cells #[.int .u8 kd, .string ky, .string vl, .int .u32 bk, .int .u16 dp, .string ad] 90)).alloc (.cells #[.int .u8 0, .string ⟨#[]⟩, .string ⟨#[]⟩, .int .u32 0, .int .u16 0, .string ⟨#[]⟩] 90)) := (below_box w _).alloc (by simp) _
  cases hh : has ky.data.toList a.data.toList
  · rw [hh] at C1
    by_cases h4 : kd = 3
    · cases hg : has a.data.toList ky.data.toList
      · rw [hg] at C2
        have hM : shortM ⟨kd, ky, vl, bk, dp, ad⟩ a = M.nil := by simp [shortM, hh, hg]
        have hS : shortB ⟨kd, ky, vl, bk, dp, ad⟩ a = false := by simp [shortB, hh, hg]
        rw [hM, hS]
        clear hM hS
        subst h4
        go_enter Try.func87, Try.ntmps87
        go_wp2_with fail
        refine (C1 _).mono ?_
        rintro x w1 ⟨rfl, rfl⟩
        go_wp2_with fail
        refine (C2 _).mono ?_
        rintro x w1 ⟨rfl, rfl⟩
        go_wp2_with fail
        refine bodyPost_ret (v := .tuple #[.agg #[.int .u8 0, .string ⟨#[]⟩, .string ⟨#[]⟩, .int .u32 0, .int .u16 0, .string ⟨#[]⟩], .bool false]) (by simp [results, Try.results87, go_sem]) rfl ⟨rfl, ?_⟩
        exact (below_box _ _).alloc (by simp) _
      · rw [hg] at C2
        have hz := has_size hg
        have hM : shortM ⟨kd, ky, vl, bk, dp, ad⟩ a = ⟨kd, ⟨#[]⟩, vl, bk, dp, ad ++ a.extract ky.size a.size⟩ := by simp [shortM, hh, hg, h4]
        have hS : shortB ⟨kd, ky, vl, bk, dp, ad⟩ a = decide ((ad ++ a.extract ky.size a.size).size ≤ 16) := by simp [shortB, hh, hg, h4]
        have he : (a.extract ky.size a.size).size ≤ 1000 := by simp; omega
        rw [hM, hS]
        clear hM hS
        subst h4
        cases k : decide ((ad ++ a.extract ky.size a.size).size ≤ 16)
        all_goals
          have k' := le_int k
          clear k
          go_enter Try.func87, Try.ntmps87
          go_wp2_with fail
          refine (C1 _).mono ?_
          rintro x w1 ⟨rfl, rfl⟩
          go_wp2_with fail
          refine (C2 _).mono ?_
          rintro x w1 ⟨rfl, rfl⟩
          go_wp2_with fail
          go_region
          all_goals go_wp2
          all_goals go_region
          all_goals go_wp2
          all_goals
            refine bodyPost_ret (v := .tuple #[.agg #[.int .u8 3, .string ⟨#[]⟩, .string vl, .int .u32 bk, .int .u16 dp, .string (ad ++ a.extract ky.size a.size)], _]) (by simp [results, Try.results87, go_sem]; simpa using k') rfl ⟨rfl, ?_⟩
            exact ((below_box _ _).alloc (by simp) _).drew.drew
    · have h4' : (kd == 3) = false := by simp; omega
      have hM : shortM ⟨kd, ky, vl, bk, dp, ad⟩ a = M.nil := by simp [shortM, hh, h4]
      have hS : shortB ⟨kd, ky, vl, bk, dp, ad⟩ a = false := by simp [shortB, hh, h4]
      rw [hM, hS]
      clear hM hS C2
      go_enter Try.func87, Try.ntmps87
      go_wp2_with fail
      refine (C1 _).mono ?_
      rintro x w1 ⟨rfl, rfl⟩
      go_wp2_with fail
      refine bodyPost_ret (v := .tuple #[.agg #[.int .u8 0, .string ⟨#[]⟩, .string ⟨#[]⟩, .int .u32 0, .int .u16 0, .string ⟨#[]⟩], .bool false]) (by simp [results, Try.results87, go_sem]) rfl ⟨rfl, ?_⟩
      exact (below_box _ _).alloc (by simp) _
  · rw [hh] at C1
    have hz := has_size hh
    have hM : shortM ⟨kd, ky, vl, bk, dp, ad⟩ a = ⟨kd, ky.extract a.size ky.size, vl, bk, dp, ad⟩ := by simp [shortM, hh]
    have hS : shortB ⟨kd, ky, vl, bk, dp, ad⟩ a = decide (ad.size ≤ 16) := by simp [shortB, hh]
    rw [hM, hS]
    clear hM hS C2
    cases k : decide (ad.size ≤ 16)
    all_goals
      have k' := le_int k
      clear k
      go_enter Try.func87, Try.ntmps87
      go_wp2_with fail
      refine (C1 _).mono ?_
      rintro x w1 ⟨rfl, rfl⟩
      go_wp2_with fail
      go_region
      all_goals go_wp2
      all_goals
        refine bodyPost_ret (v := .tuple #[.agg #[.int .u8 kd, .string (ky.extract a.size ky.size), .string vl, .int .u32 bk, .int .u16 dp, .string ad], _]) (by simp [results, Try.results87, go_sem]) rfl ⟨rfl, ?_⟩
        exact ((below_box _ _).alloc (by simp) _).drew
end Go.Proofs.Ytlkcoaencliajaa.Key

namespace Go.Proofs.Ytlkcoaencliajaa.Key
open Go.RowKit
open Go.Op (bytesLess)

theorem cellsM_cons (m : M) (l : List M) : cellsM (m :: l) = .int .u8 m.kind :: .string m.key :: .string m.val :: .int .u32 m.blk :: .int .u16 m.deep :: .string m.add :: cellsM l := by simp [cellsM, M.cells]
/-- a message put in another one's place -/
def put6 (c : List Value) (o : Nat) (m : M) : List Value := (((((c.set o (.int .u8 m.kind)).set (o + 1) (.string m.key)).set (o + 2) (.string m.val)).set (o + 3) (.int .u32 m.blk)).set (o + 4) (.int .u16 m.deep)).set (o + 5) (.string m.add)
theorem put6_cons (v0 v1 v2 v3 v4 v5 : Value) (c : List Value) (o : Nat) (m : M) : put6 (v0 :: v1 :: v2 :: v3 :: v4 :: v5 :: c) (o + 6) m = v0 :: v1 :: v2 :: v3 :: v4 :: v5 :: put6 c o m := rfl
theorem cellsM_set (m : M) : ∀ (l : List M) (i : Nat), i < l.length → cellsM (l.set i m) = put6 (cellsM l) (i * 6) m
  | [], i, h => by simp at h
  | x :: l, 0, _ => by rw [List.set_cons_zero, cellsM_cons, cellsM_cons]; rfl
  | x :: l, i + 1, h => by
    rw [List.set_cons_succ, cellsM_cons, cellsM_cons, cellsM_set m l i (by simpa using h), show (i + 1) * 6 = i * 6 + 6 by omega, put6_cons]
/-- .. in memory -/
def World.put6 (w : World) (g o : Nat) (m : M) : World :=
  (((((w.setCell ⟨g, o, none⟩ (.int .u8 m.kind)).setCell ⟨g, o + 1, none⟩ (.string m.key)).setCell ⟨g, o + 2, none⟩ (.string m.val)).setCell ⟨g, o + 3, none⟩ (.int .u32 m.blk)).setCell ⟨g, o + 4, none⟩ (.int .u16 m.deep)).setCell ⟨g, o + 5, none⟩ (.string m.add)
theorem OwnM.stored {w : World} {B g n c : Nat} {l : List M} (h : OwnM w B (.slice (some ⟨g, 0, none⟩) n c) l) (hn : l.length = n) {i : Nat} (hi : i < n) (m : M) : OwnM (World.put6 w g (i * 6) m) B (.slice (some ⟨g, 0, none⟩) n c) (l.set i m) := by
  subst hn
  have h1 := (World.ownsRow.stored h (i * 6) (.int .u8 m.kind)).1
  have h2 := (World.ownsRow.stored h1 (i * 6 + 1) (.string m.key)).1
  have h3 := (World.ownsRow.stored h2 (i * 6 + 2) (.string m.val)).1
  have h4 := (World.ownsRow.stored h3 (i * 6 + 3) (.int .u32 m.blk)).1
  have h5 := (World.ownsRow.stored h4 (i * 6 + 4) (.int .u16 m.deep)).1
  have h6 := (World.ownsRow.stored h5 (i * 6 + 5) (.string m.add)).1
  unfold OwnM
  rw [cellsM_set m l i hi, List.length_set]
  exact h6
theorem OwnM.frozen {w : World} {B g n c : Nat} {l : List M} (h : OwnM w B (.slice (some ⟨g, 0, none⟩) n c) l) (hn : l.length = n) (j : Nat) : w.frozen? ⟨g, j, none⟩ = false := by
  subst hn
  exact World.ownsRow.frozenAt h j
theorem Below.put6 {B : Nat} {a w : World} (h : Below B a w) {g : Nat} (hg : B ≤ g) (o : Nat) (m : M) : Below B a (World.put6 w g o m) :=
  (((((h.setCell (p := ⟨g, o, none⟩) hg _).setCell (p := ⟨g, o + 1, none⟩) hg _).setCell (p := ⟨g, o + 2, none⟩) hg _).setCell (p := ⟨g, o + 3, none⟩) hg _).setCell (p := ⟨g, o + 4, none⟩) hg _).setCell (p := ⟨g, o + 5, none⟩) hg _

/-- what is left of messages -/
def some' (l : List M) (r : Rng) : List M := l.filter fun m => touch m r
def trimL (l : List M) (r : Rng) (a : ByteArray) : List M := (some' l r).map fun m => shortM m a
def trimB (l : List M) (r : Rng) (a : ByteArray) : Bool := (some' l r).all fun m => shortB m a
/-- .. half way -/
def half (f : List M) (a : ByteArray) (j : Nat) : List M := (f.take j).map (fun m => shortM m a) ++ f.drop j
theorem half_length (f : List M) (a : ByteArray) (j : Nat) : (half f a j).length = f.length := by
  simp [half]; omega
theorem half_at {f : List M} {a : ByteArray} {j : Nat} (h : j < f.length) (h' : j < (half f a j).length) : (half f a j)[j] = f[j] := by
  have e : (half f a j)[j]? = some f[j] := by
    unfold half
    rw [List.getElem?_append_right (by simp; omega)]
    simp [Nat.min_eq_left (Nat.le_of_lt h)]
  rw [List.getElem?_eq_getElem h'] at e
  exact Option.some.inj e
theorem half_set {f : List M} {a : ByteArray} {j : Nat} (h : j < f.length) : (half f a j).set j (shortM f[j] a) = half f a (j + 1) := by
  unfold half
  have hl : ((f.take j).map (fun m => shortM m a)).length = j := by simp; omega
  rw [List.set_append_right _ _ (by omega), hl, Nat.sub_self, List.drop_eq_getElem_cons h, List.set_cons_zero, List.take_succ_eq_append_getElem h, List.map_append, List.append_assoc]
  rfl
theorem all_take_succ {α : Type} (l : List α) (p : α → Bool) {j : Nat} (h : j < l.length) : (l.take (j + 1)).all p = ((l.take j).all p && p l[j]) := by
  rw [List.take_succ_eq_append_getElem h, List.all_append]
  simp only [List.all_cons, List.all_nil, Bool.and_true]
theorem all_not {α : Type} (l : List α) (p : α → Bool) {j : Nat} (h : j < l.length) (hp : p l[j] = false) : l.all p = false := by
  rw [Bool.eq_false_iff]
  intro h'
  rw [List.all_eq_true.1 h' _ (List.getElem_mem h)] at hp
  cases hp

/-- what Trim answers -/
def TrimPost (w w' : World) (x : Ending) (L : List M) (b : Bool) : Prop :=
  (b = true → ∃ v, x = .returned (.tuple #[v, .int .i64 0]) ∧ OwnM w' w.heap.size v L) ∧ (b = false → x = .returned (.tuple #[.slice none 0 0, .int .i64 1]))

set_option maxRecDepth 100000 in
set_option maxHeartbeats 2000000 in
theorem trim23 (a : Option Addr) (c : Nat) (l : List M) (lo hi : ByteArray) (e : Bool) (s : ByteArray) (w : World) (hl : l.length ≤ 1000) (hm : Msgs w a l) (hk : ∀ m ∈ l, m.key.size ≤ 1000 ∧ m.add.size ≤ 1000) (hs : s.size ≤ 1000) :
    Calls Try.prog 77 #[.slice a l.length c, av lo hi e, .string s] w fun x w' => TrimPost w w' x (trimL l (rg lo hi e) s) (trimB l (rg lo hi e) s) ∧ Below w.heap.size w w' := by
  have hmf : ∀ (fn : Fn) (first cap : Array Value) (w : World), (Instr.makeFunc fn first cap).run Try.prog w = .ok (.func fn first cap) w := fun _ _ _ _ => rfl
  have hR0 := Box.new w (.string lo) (.string hi) (.bool e)
  have hb0 := below_box w (.cells #[.string lo, .string hi, .bool e] 29)
  have HC := fun w' (h : Below (w.alloc (.cells #[.string lo, .string hi, .bool e] 29)).heap.size (w.alloc (.cells #[.string lo, .string hi, .bool e] 29)) w') =>
    choose46 84 #[.pointer (some ⟨w.heap.size, 0, none⟩)] (fun m => touch m (rg lo hi e)) a c l w' hl (hm.later (hb0.trans (h.mono hb0.size))) (enters_of Try.func84 (by kernel_rfl) rfl)
      (fun m hmm w2 h2 => touch38 m w.heap.size lo hi e w2 (hk m hmm).1 ((hR0.later h).later h2))
  have HL := hid (show trimL l (rg lo hi e) s = (l.filter fun m => touch m (rg lo hi e)).map (fun m => shortM m s) from rfl)
  have HB := hid (show trimB l (rg lo hi e) s = (l.filter fun m => touch m (rg lo hi e)).all (fun m => shortB m s) from rfl)
  have hfl : (l.filter fun m => touch m (rg lo hi e)).length ≤ 1000 := Nat.le_trans (List.length_filter_le _ _) hl
  have hfk : ∀ m ∈ (l.filter fun m => touch m (rg lo hi e)), m.key.size ≤ 1000 ∧ m.add.size ≤ 1000 := fun m h => hk m (List.mem_filter.1 h).1
  have HC1 := HC _ (Below.refl _ _)
  clear HC
  generalize trimL l (rg lo hi e) s = TL at *
  generalize trimB l (rg lo hi e) s = TB at *
  generalize (l.filter fun m => touch m (rg lo hi e)) = f at *
  go_enter Try.func77, Try.ntmps77
  go_wp2_with fail
  refine HC1.mono ?_
  clear HC1
  rintro x w1 ⟨v, rfl, ho1, hb1⟩
  replace ho1 : OwnM w1 w.heap.size v f := by
    refine ⟨ho1.1, ?_⟩
    rcases ho1.2 with h | ⟨g, cap, cur, h1, h2, h3⟩
    · exact .inl h
    · exact .inr ⟨g, cap, cur, h1, by simp at h2; omega, h3⟩
  replace hb1 := hb0.trans (hb1.mono hb0.size)
  clear hR0 hb0
  obtain ⟨fa, cap, rfl, hfm, hnil, hpos, hcap⟩ := ho1.form
  generalize hn : f.length = n at *
  have HN := hid hn
  clear hn
  go_wp2_with fail
  go_loopw [20] (fun i wr => ∃ j : Nat, j ≤ n ∧ i = .int .i64 j ∧ OwnM wr w.heap.size (.slice fa n cap) (half f s j) ∧ Hid ((f.take j).all (fun m => shortB m s) = true) ∧ Below w.heap.size w wr) (fun i _ => n - (intOf i).toNat)
  case atStart => exact ⟨0, Nat.zero_le _, rfl, by simpa [half] using ho1, by simp [Hid], hb1⟩
  case round =>
    obtain ⟨j, hj, rfl, ho, hall, hb⟩ := hrel
    by_cases hlt : j < n
    · have hlt' : j < f.length := by rw [HN.out]; exact hlt
      have hh' : j < (half f s j).length := by rw [half_length]; exact hlt'
      have hhn : (half f s j).length = n := by rw [half_length]; exact HN.out
      obtain ⟨g, rfl⟩ : ∃ g, fa = some ⟨g, 0, none⟩ := by
        cases fa with
        | none => have := (hnil rfl).1; rw [this] at hlt'; simp at hlt'
        | some ad => obtain ⟨_, _, h3, h4⟩ := hpos ad rfl; obtain ⟨b, o, sp⟩ := ad; dsimp only at h3 h4; subst h3 h4; exact ⟨b, rfl⟩
      have hg := hpos _ rfl
      have h6 : Six wr g (j * 6) f[j] := by
        obtain ⟨a', cap', e1, hms, _⟩ := ho.form
        simp only [Value.slice.injEq] at e1
        obtain ⟨rfl, _, rfl⟩ := e1
        obtain ⟨b, off, e2, h6⟩ := hms.at hh'
        simp only [Option.some.injEq, Addr.mk.injEq, and_true] at e2
        obtain ⟨rfl, rfl⟩ := e2
        rw [half_at hlt' hh', Nat.zero_add] at h6
        exact h6
      have HS := fun w => short40 f[j] s w (hfk _ (List.getElem_mem hlt')).1 (hfk _ (List.getElem_mem hlt')).2 hs
      have HA := hid (all_take_succ f (fun m => shortB m s) hlt')
      have HF := hid (fun h => all_not f (fun m => shortB m s) hlt' h)
      have HP := hid (@half_set f s j hlt')
      obtain ⟨m, HM⟩ : ∃ m, Hid (f[j] = m) := ⟨_, hid rfl⟩
      rw [HM.out] at h6 HS HA HF HP
      generalize shortM m s = m' at *
      generalize shortB m s = sb at *
      have hx := MBox.new wr m
      have hy := fun w => MBox.new w m'
      obtain ⟨kd, ky, vl, bk, dp, ad⟩ := m
      obtain ⟨kd', ky', vl', bk', dp', ad'⟩ := m'
      obtain ⟨c0, c1, c2, c3, c4, c5⟩ := h6
      dsimp only at c0 c1 c2 c3 c4 c5 hx hy
      have hbs := hb.size
      clear hm hk hfk hl hs
      go_wp2_with fail
      refine (HS _).mono ?_
      clear HS
      rintro x w2 ⟨rfl, hb2⟩
      have ho2 : OwnM w2 w.heap.size (.slice (some ⟨g, 0, none⟩) n cap) (half f s j) := OwnM.later (World.ownsRow.alloc ho _) hb2
      replace hb2 : Below w.heap.size w w2 := (hb.alloc hbs _).trans (hb2.mono (by simp; omega))
      have ho3 := World.ownsRow.alloc ho2 (.cells #[.int .u8 kd', .string ky', .string vl', .int .u32 bk', .int .u16 dp', .string ad'] 90)
      have hb3 := hb2.alloc hb2.size (.cells #[.int .u8 kd', .string ky', .string vl', .int .u32 bk', .int .u16 dp', .string ad'] 90)
      have hy2 := hy w2
      clear hy hx ho ho2 hb c0 c1 c2 c3 c4 c5 ho1
      cases sb
      · have HTB : TB = false := by rw [HB.out]; exact HF.out rfl
        clear hy2 ho3
        go_wp2_with fail
        go_ret2
        exact ⟨⟨fun h => (by rw [HTB] at h; cases h), fun _ => rfl⟩, hb3⟩
      · go_upto_region 9 with fail
        have hbs3 := hb3.size
        generalize w2.alloc (.cells #[.int .u8 kd', .string ky', .string vl', .int .u32 bk', .int .u16 dp', .string ad'] 90) = w3 at *
        generalize w2.heap.size = k2 at *
        obtain ⟨d0, d1, d2, d3, d4, d5⟩ := hy2.six
        dsimp only at d0 d1 d2 d3 d4 d5
        have h6 : Six w3 g (j * 6) f[j] := by
          obtain ⟨a', cap', e1, hms, _⟩ := OwnM.form ho3
          simp only [Value.slice.injEq] at e1
          obtain ⟨rfl, _, rfl⟩ := e1
          obtain ⟨b, off, e2, h6⟩ := hms.at hh'
          simp only [Option.some.injEq, Addr.mk.injEq, and_true] at e2
          obtain ⟨rfl, rfl⟩ := e2
          rw [half_at hlt' hh', Nat.zero_add] at h6
          exact h6
        rw [HM.out] at h6
        obtain ⟨c0, c1, c2, c3, c4, c5⟩ := h6
        dsimp only at c0 c1 c2 c3 c4 c5
        have fz := OwnM.frozen ho3 hhn
        have f0 := fz (j * 6)
        have f1 := fz (j * 6 + 1)
        have f2 := fz (j * 6 + 2)
        have f3 := fz (j * 6 + 3)
        have f4 := fz (j * 6 + 4)
        have f5 := fz (j * 6 + 5)
        have ho4 := hid (OwnM.stored ho3 hhn hlt ⟨kd', ky', vl', bk', dp', ad'⟩)
        have hb4 := hid (Below.put6 hb3 hg.1 (j * 6) ⟨kd', ky', vl', bk', dp', ad'⟩)
        clear fz ho3 hb3 hpos hnil hfm hb1 hmf
        go_wp2_with fail
        go_roundw
        case rel => exact ⟨j + 1, by omega, by go_num, by rw [← HP.out]; exact ho4.out, by unfold Hid; rw [HA.out, hall.out]; rfl, hb4.out⟩
        case measure => simp [intOf]; omega
    · obtain rfl : j = n := by omega
      have HTB : TB = true := by rw [HB.out, ← hall.out, ← HN.out, List.take_length]
      go_wp2_with fail
      go_ret2
      refine ⟨⟨fun _ => ⟨_, rfl, ?_⟩, fun h => (by rw [HTB] at h; cases h)⟩, hb⟩
      rw [HL.out]
      have e : half f s j = f.map fun m => shortM m s := by unfold half; rw [← HN.out, List.take_length, List.drop_length, List.append_nil]
      rw [← e]
      exact ho
end Go.Proofs.Ytlkcoaencliajaa.Key

namespace Go.Proofs.Ytlkcoaencliajaa.Key
open Go.RowKit
open Go.Op (bytesLess)

theorem lastP_append {l l' : List M} {k : List UInt8} : ∀ {n : Nat}, n ≤ l.length → lastP (l ++ l') k n = lastP l k n
  | 0, _ => rfl
  | n + 1, h => by
    have h' : n < l.length := h
    rw [lastP, lastP, List.getElem?_append_left h', lastP_append (by omega)]
theorem lastI_snoc (l : List M) (m : M) (k : List UInt8) : lastI (l ++ [m]) k = if speaks m k then (l.length : Int) else lastI l k := by
  unfold lastI
  rw [List.length_append, List.length_singleton, lastP, List.getElem?_append_right (Nat.le_refl _), Nat.sub_self, lastP_append (Nat.le_refl _)]
  rfl
/-- the newest one that speaks: none, or the one at that place -/
theorem lastP_is (l : List M) (k : List UInt8) : ∀ n, n ≤ l.length → lastP l k n = -1 ∨ ∃ (j : Nat) (h : j < l.length), lastP l k n = j ∧ speaks l[j] k = true
  | 0, _ => .inl rfl
  | n + 1, h => by
    rw [lastP_succ (by omega)]
    cases hs : speaks (l[n]'(by omega)) k with
    | true => exact .inr ⟨n, by omega, rfl, hs⟩
    | false => exact lastP_is l k n (by omega)
theorem lastI_is (l : List M) (k : List UInt8) : lastI l k = -1 ∨ ∃ (n : Nat) (h : n < l.length), lastI l k = n ∧ speaks l[n] k = true := lastP_is l k _ (Nat.le_refl _)
theorem snoc_rec {α : Type} {p : List α → Prop} (h0 : p []) (h1 : ∀ l m, p l → p (l ++ [m])) (l : List α) : p l := by
  have h : ∀ r : List α, p r.reverse := fun r => by
    induction r with
    | nil => exact h0
    | cons x r ih => rw [List.reverse_cons]; exact h1 _ _ ih
  have := h l.reverse
  rwa [List.reverse_reverse] at this

/-- messages of which some are left, and changed: the newest one of a key is that one, changed -/
theorem last_kept (t : M → Bool) (g : M → M) (k k' : List UInt8) (l : List M) : (∀ m ∈ l, t m = true → speaks (g m) k = speaks m k') → (∀ m ∈ l, speaks m k' = true → t m = true) →
    (lastI ((l.filter t).map g) k = -1 ∧ lastI l k' = -1) ∨ ∃ (i n : Nat) (hi : i < ((l.filter t).map g).length) (hn : n < l.length), lastI ((l.filter t).map g) k = i ∧ lastI l k' = n ∧ ((l.filter t).map g)[i] = g l[n] ∧ speaks l[n] k' = true ∧ t l[n] = true := by
  induction l using snoc_rec with
  | h0 => intro _ _; exact .inl ⟨rfl, rfl⟩
  | h1 l m ih =>
    intro h1 h2
    have ih' := ih (fun x hx => h1 x (List.mem_append_left _ hx)) (fun x hx => h2 x (List.mem_append_left _ hx))
    have hm : m ∈ l ++ [m] := List.mem_append_right _ (List.mem_singleton.2 rfl)
    rw [lastI_snoc l m k', List.filter_append, List.map_append]
    cases hs : speaks m k' with
    | true =>
      have ht := h2 m hm hs
      have e : (List.filter t [m]).map g = [g m] := by simp [ht]
      rw [e, lastI_snoc, h1 m hm ht, hs]
      refine .inr ⟨((l.filter t).map g).length, l.length, by simp, by simp, rfl, rfl, ?_, ?_, ?_⟩
      · rw [List.getElem_append_right (Nat.le_refl _), List.getElem_append_right (Nat.le_refl _)]
        simp
      · rw [List.getElem_append_right (Nat.le_refl _)]; simpa using hs
      · rw [List.getElem_append_right (Nat.le_refl _)]; simpa using ht
    | false =>
      have e : lastI ((l.filter t).map g ++ (List.filter t [m]).map g) k = lastI ((l.filter t).map g) k := by
        cases ht : t m with
        | true =>
          have e : (List.filter t [m]).map g = [g m] := by simp [ht]
          rw [e, lastI_snoc, h1 m hm ht, hs]
          rfl
        | false =>
          have e : (List.filter t [m]).map g = [] := by simp [ht]
          rw [e, List.append_nil]
      rw [e]
      simp only [Bool.false_eq_true, if_false]
      rcases ih' with h | ⟨i, n, hi, hn, a1, a2, a3, a4, a5⟩
      · exact .inl h
      · refine .inr ⟨i, n, by rw [List.length_append]; omega, by rw [List.length_append]; omega, a1, a2, ?_, ?_, ?_⟩
        · rw [List.getElem_append_left hi, List.getElem_append_left hn]; exact a3
        · rw [List.getElem_append_left hn]; exact a4
        · rw [List.getElem_append_left hn]; exact a5

theorem has_split {k p : List UInt8} (h : has k p = true) : k = p ++ k.drop p.length := by
  obtain ⟨t, rfl⟩ := List.isPrefixOf_iff_prefix.1 h
  simp
theorem has_mk (p t : List UInt8) : has (p ++ t) p = true := List.isPrefixOf_iff_prefix.2 ⟨t, rfl⟩
theorem ext_data (s : ByteArray) (n : Nat) : (s.extract n s.size).data.toList = s.data.toList.drop n := by
  have e : s.size = s.data.toList.length := Lib.size_eq s
  rw [Lib.extract_eq, e]
  exact List.take_of_length_le (by rw [List.length_drop]; exact Nat.le_refl _)
theorem app_data (a b : ByteArray) : (a ++ b).data.toList = a.data.toList ++ b.data.toList := by rw [str_append, str_data]
/-- trimmed, a message speaks of a key just if it spoke of it with the beginning ahead -/
theorem speaks_short {m : M} {a : ByteArray} (k : List UInt8) (h : shortB m a = true) : speaks (shortM m a) k = speaks m (a.data.toList ++ k) := by
  unfold shortB at h
  unfold shortM speaks
  split at h
  · rename_i h1
    rw [if_pos h1]
    have hs := has_split h1
    have e : (m.key.extract a.size m.key.size).data.toList = m.key.data.toList.drop a.data.toList.length := by rw [ext_data, Lib.size_eq]
    dsimp only
    rw [e]
    generalize m.key.data.toList.drop a.data.toList.length = x at *
    rw [hs, has_two]
    by_cases h3 : m.kind = 3
    · rw [if_pos h3, if_pos h3]
    · rw [if_neg h3, if_neg h3]
      by_cases h12 : m.kind = 1 ∨ m.kind = 2
      · rw [if_pos h12, if_pos h12, Bool.eq_iff_iff]
        simp
      · rw [if_neg h12, if_neg h12]
  · rename_i h1
    split at h
    · rename_i h2
      rw [if_neg h1, if_pos h2]
      dsimp only
      rw [if_pos h2.1, if_pos h2.1]
      have hs := has_split h2.2
      have : has (a.data.toList ++ k) m.key.data.toList = true := by
        rw [hs, List.append_assoc]
        exact has_mk _ _
      rw [this]
      exact List.isPrefixOf_iff_prefix.2 ⟨k, rfl⟩
    · cases h
theorem touch_of {m : M} {r : Rng} {k : List UInt8} (hr : inR r k = true) (hs : speaks m k = true) : touch m r = true := by
  unfold touch
  cases he : emptyR (cutR (aboutR m) r) with
  | false => rfl
  | true =>
    have := in_empty he k
    rw [in_cut, in_about, hs, hr] at this
    cases this
/-- what the newest one says: the same -/
theorem keeps (l : List M) (r : Rng) (a : ByteArray) (k : List UInt8) (hr : inR r (a.data.toList ++ k) = true) (hB : trimB l r a = true) :
    (lastI (trimL l r a) k = -1 ∧ lastI l (a.data.toList ++ k) = -1) ∨ ∃ (i n : Nat) (hi : i < (trimL l r a).length) (hn : n < l.length), lastI (trimL l r a) k = i ∧ lastI l (a.data.toList ++ k) = n ∧ (trimL l r a)[i] = shortM l[n] a ∧ speaks l[n] (a.data.toList ++ k) = true ∧ shortB l[n] a = true := by
  have hall : ∀ m ∈ l, touch m r = true → shortB m a = true := fun m hm ht => List.all_eq_true.1 hB m (List.mem_filter.2 ⟨hm, ht⟩)
  rcases last_kept (fun m => touch m r) (fun m => shortM m a) k (a.data.toList ++ k) l (fun m hm ht => speaks_short k (hall m hm ht)) (fun m _ hs => touch_of hr hs) with h | ⟨i, n, hi, hn, a1, a2, a3, a4, a5⟩
  · exact .inl h
  · exact .inr ⟨i, n, hi, hn, a1, a2, a3, a4, hall _ (List.getElem_mem hn) a5⟩
/-- its fields -/
theorem short_fields {m : M} {a : ByteArray} (h : shortB m a = true) : (shortM m a).kind = m.kind ∧ (shortM m a).val = m.val ∧ (shortM m a).blk = m.blk ∧ (shortM m a).deep = m.deep := by
  unfold shortB at h
  unfold shortM
  split at h
  · rename_i h1; rw [if_pos h1]; exact ⟨rfl, rfl, rfl, rfl⟩
  · rename_i h1
    split at h
    · rename_i h2; rw [if_neg h1, if_pos h2]; exact ⟨rfl, rfl, rfl, rfl⟩
    · cases h
theorem short_size (m : M) (a : ByteArray) : (shortM m a).key.size ≤ m.key.size := by
  unfold shortM
  split
  · dsimp only
    rw [ByteArray.size_extract]
    omega
  · split
    · exact Nat.zero_le _
    · exact Nat.zero_le _
theorem short_add {m : M} {a : ByteArray} (h : shortB m a = true) : (shortM m a).add.size ≤ 16 := by
  unfold shortB at h
  unfold shortM
  split at h
  · rename_i h1
    rw [if_pos h1]
    simpa using h
  · rename_i h1
    split at h
    · rename_i h2
      rw [if_neg h1, if_pos h2]
      exact of_decide_eq_true h
    · cases h
theorem trim_sizes {l : List M} {r : Rng} {a : ByteArray} {n : Nat} (h : ∀ m ∈ l, m.key.size ≤ n) : ∀ m ∈ trimL l r a, m.key.size ≤ n := by
  intro m hm
  obtain ⟨x, hx, rfl⟩ := List.mem_map.1 hm
  exact Nat.le_trans (short_size x a) (h x (List.mem_filter.1 hx).1)
theorem trim_length (l : List M) (r : Rng) (a : ByteArray) : (trimL l r a).length ≤ l.length := by
  unfold trimL some'
  rw [List.length_map]
  exact List.length_filter_le _ _
/-- its key, where it is no Goto -/
theorem short_key {m : M} {a : ByteArray} (h : shortB m a = true) (h3 : m.kind ≠ 3) : a ++ (shortM m a).key = m.key := by
  unfold shortB at h
  unfold shortM
  split at h
  · rename_i h1
    rw [if_pos h1, ← str_eq (a ++ _), app_data]
    dsimp only
    rw [ext_data, Lib.size_eq, ← has_split h1, str_eq]
  · rename_i h1
    split at h
    · rename_i h2; exact absurd h2.1 h3
    · cases h
/-- where a Goto leads -/
theorem short_goto {m : M} {a k : ByteArray} (h : shortB m a = true) (h3 : m.kind = 3) (hs : speaks m (a.data.toList ++ k.data.toList) = true) :
    has k.data.toList (shortM m a).key.data.toList = true ∧ m.key.size ≤ (a ++ k).size ∧
      (shortM m a).add ++ k.extract (shortM m a).key.size k.size = m.add ++ (a ++ k).extract m.key.size (a ++ k).size := by
  have hs' := speaks_short k.data.toList h
  rw [hs] at hs'
  have hk : has k.data.toList (shortM m a).key.data.toList = true := by
    unfold speaks at hs'
    rw [if_pos ((short_fields h).1.trans h3)] at hs'
    exact hs'
  have hm : has (a.data.toList ++ k.data.toList) m.key.data.toList = true := by
    unfold speaks at hs
    rw [if_pos h3] at hs
    exact hs
  refine ⟨hk, ?_, ?_⟩
  · have := (List.isPrefixOf_iff_prefix.1 hm).length_le
    rw [Lib.size_eq, Lib.size_eq, app_data]
    exact this
  · rw [← str_eq (_ ++ _), ← str_eq (m.add ++ _)]
    congr 1
    rw [app_data, app_data, ext_data, ext_data, app_data, Lib.size_eq, Lib.size_eq]
    unfold shortB at h
    unfold shortM at hk ⊢
    split at h
    · rename_i h1
      rw [if_pos h1] at hk ⊢
      dsimp only at hk ⊢
      have hs := has_split h1
      rw [ext_data, Lib.size_eq] at *
      generalize m.key.data.toList.drop a.data.toList.length = x at *
      rw [hs, List.length_append, ← List.drop_drop, List.drop_left]
    · rename_i h1
      split at h
      · rename_i h2
        rw [if_neg h1, if_pos h2] at hk ⊢
        dsimp only at hk ⊢
        have hs := has_split h2.2
        rw [app_data, ext_data, Lib.size_eq]
        have hl : m.key.data.toList.length ≤ a.data.toList.length := (List.isPrefixOf_iff_prefix.1 h2.2).length_le
        rw [List.drop_append_of_le_length hl]
        simp
      · cases h
end Go.Proofs.Ytlkcoaencliajaa.Key
