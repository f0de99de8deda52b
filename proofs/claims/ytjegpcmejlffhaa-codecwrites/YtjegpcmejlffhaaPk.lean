/-
  Plain arithmetic of a number's writing: 'be size n' (so many bytes, the highest first) and 'val' (what bytes say as a number). No program is named here.
  Bytes in memory ('Bytes'), rows of bytes of the call's own ('Own'), and what an append to such a row leaves; strings made of bytes.
  A reader in memory ('Rd'), and the contracts of Left, Fail and ahead.
  Contracts of pack.width, pack.room, pack.put, Put8 .. Put64, PutText, of marcotref02.Put and PutText, and of awake.
  Contracts of take and of Get8 .. Get64.
  Contracts of GetText, End and New.
  The contract of New: a reader in new memory, of bytes of its own.
  Contracts of marcotref02.Put and PutText, and of awake.
  Contracts of marcotref02.PutText and of awake.
  What PackBack wants besides: puts of a number that is cut to its kind, and what a reader takes where a writing stands.
  Contracts of the document's reader: marcotref02's R.Get, R.GetText and R.End.
  The contract of the document's reader's GetText.
-/
import Derived.Below
import Derived.Test.YtjegpcmejlffhaaRows
import Derived.WalkKit
import Derived.WalkSpells
import Derived.WalkLawsBesides
import Derived.Lib.SlBytesConst
import Derived.Lib.AppendStr
import Derived.Laws.AppendOwnNone
import Derived.Laws.BytesArg
import Derived.BigQuiet
import Derived.RegionTactic
import Derived.WalkSmall
import Derived.Laws.BitsAllLaws
import Derived.BigRegion
import Derived.Deep.Cut
namespace Go.Proofs.Ytjegpcmejlffhaa.Pack

def Byt (zs : List Int) : Prop := ∀ z ∈ zs, 0 ≤ z ∧ z ≤ 255
theorem Byt.append {xs ys : List Int} (h : Byt xs) (h' : Byt ys) : Byt (xs ++ ys) := fun z hz => by
  rcases List.mem_append.1 hz with h1 | h1
  · exact h z h1
  · exact h' z h1
theorem Byt.take {xs : List Int} (h : Byt xs) (k : Nat) : Byt (xs.take k) := fun z hz => h z (List.mem_of_mem_take hz)
theorem Byt.drop {xs : List Int} (h : Byt xs) (k : Nat) : Byt (xs.drop k) := fun z hz => h z (List.mem_of_mem_drop hz)
theorem byt_getD {zs : List Int} (h : Byt zs) (k : Nat) : 0 ≤ zs.getD k 0 ∧ zs.getD k 0 ≤ 255 := by
  by_cases hk : k < zs.length
  · simp only [List.getD, List.getElem?_eq_getElem hk, Option.getD_some]
    exact h _ (List.getElem_mem hk)
  · simp [List.getD, List.getElem?_eq_none (Nat.le_of_not_lt hk)]

/-- a number's writing of so many bytes, the highest first -/
def be : Nat → Nat → List Int
  | 0, _ => []
  | k + 1, n => be k (n / 256) ++ [((n % 256 : Nat) : Int)]
/-- the number that bytes say -/
def val (zs : List Int) : Nat := zs.foldl (fun n x => 256 * n + x.toNat) 0

theorem be_length (k : Nat) : ∀ n, (be k n).length = k := by
  induction k with
  | zero => intro n; rfl
  | succ k ih => intro n; simp [be, ih]
theorem byt_be (k : Nat) : ∀ n, Byt (be k n) := by
  induction k with
  | zero => intro n z hz; simp [be] at hz
  | succ k ih =>
    intro n
    refine (ih _).append fun z hz => ?_
    simp at hz
    omega
theorem val_snoc (zs : List Int) (x : Int) : val (zs ++ [x]) = 256 * val zs + x.toNat := by simp [val, List.foldl_append]
theorem val_be (k : Nat) : ∀ n, val (be k n) = n % 256 ^ k := by
  induction k with
  | zero => intro n; simp [be, val, Nat.mod_one]
  | succ k ih =>
    intro n
    rw [be, val_snoc, ih, Int.toNat_natCast, Nat.pow_succ, Nat.mul_comm (256 ^ k) 256, Nat.mod_mul]
    omega
theorem be_mod (k : Nat) : ∀ n, be k (n % 256 ^ k) = be k n := by
  induction k with
  | zero => intro n; rfl
  | succ k ih =>
    intro n
    have e1 : n % 256 ^ (k + 1) / 256 = n / 256 % 256 ^ k := by rw [Nat.pow_succ, Nat.mul_comm (256 ^ k) 256, Nat.mod_mul_right_div_self]
    have e2 : n % 256 ^ (k + 1) % 256 = n % 256 := by rw [Nat.pow_succ]; exact Nat.mod_mod_of_dvd _ (Nat.dvd_mul_left _ _)
    rw [be, e1, e2, ih, be]
theorem take_snoc (zs : List Int) (k : Nat) (h : k < zs.length) : zs.take (k + 1) = zs.take k ++ [zs.getD k 0] := by
  rw [List.take_succ_eq_append_getElem h]
  simp [List.getD, List.getElem?_eq_getElem h]
theorem val_take (zs : List Int) (k : Nat) (h : k < zs.length) : val (zs.take (k + 1)) = 256 * val (zs.take k) + (zs.getD k 0).toNat := by rw [take_snoc zs k h, val_snoc]
theorem val_take_lt {zs : List Int} (h : Byt zs) (k : Nat) : val (zs.take k) < 256 ^ k := by
  induction k with
  | zero => simp [val]
  | succ k ih =>
    rw [Nat.pow_succ]
    by_cases hk : k < zs.length
    · have hb := byt_getD h k
      rw [val_take zs k hk]
      omega
    · rw [List.take_of_length_le (by omega)]
      rw [List.take_of_length_le (by omega)] at ih
      omega
theorem val_lt {zs : List Int} (h : Byt zs) : val zs < 256 ^ zs.length := by
  have := val_take_lt h zs.length
  rwa [List.take_length] at this
/-- the last bytes of eight -/
theorem be_drop (k j : Nat) : ∀ n, (be (k + j) n).drop j = be k n := by
  induction k with
  | zero => intro n; rw [Nat.zero_add]; exact List.drop_eq_nil_of_le (by rw [be_length]; exact Nat.le_refl _)
  | succ k ih =>
    intro n
    rw [show k + 1 + j = k + j + 1 by omega, be, List.drop_append_of_le_length (by rw [be_length]; omega), ih, be]
theorem be_1 (n : Nat) (h : n < 256) : [(n : Int)] = be 1 n := by
  simp only [be, List.nil_append, List.cons.injEq, and_true]
  omega
theorem be_2 (n : Nat) (h : n < 65536) : [(n : Int) / 256, (n : Int) % 256] = be 2 n := by
  simp only [be, List.nil_append, List.cons_append, List.cons.injEq, and_true]
  omega
theorem be_4 (n : Nat) (h : n < 4294967296) : [(n : Int) / 16777216, (n : Int) / 65536 % 256, (n : Int) / 256 % 256, (n : Int) % 256] = be 4 n := by
  simp only [be, List.nil_append, List.cons_append, List.cons.injEq, and_true, Nat.div_div_eq_div_mul, Nat.reduceMul]
  omega
theorem be_8 (n : Nat) (h : n < 18446744073709551616) : [(n : Int) / 72057594037927936, (n : Int) / 281474976710656 % 256, (n : Int) / 1099511627776 % 256, (n : Int) / 4294967296 % 256, (n : Int) / 16777216 % 256, (n : Int) / 65536 % 256, (n : Int) / 256 % 256, (n : Int) % 256] = be 8 n := by
  simp only [be, List.nil_append, List.cons_append, List.cons.injEq, and_true, Nat.div_div_eq_div_mul, Nat.reduceMul]
  omega
/-- a string's bytes, as numbers -/
def nums (s : ByteArray) : List Int := s.data.toList.map fun b => (b.toNat : Int)
theorem nums_length (s : ByteArray) : (nums s).length = s.size := by simp [nums]
theorem byt_nums (s : ByteArray) : Byt (nums s) := by
  intro z hz
  simp only [nums, List.mem_map] at hz
  obtain ⟨b, _, rfl⟩ := hz
  have := b.toNat_lt
  omega
/-- what a reader of zs, at p, with the error e, takes for a number of s bytes; its place and its error then -/
def gV (zs : List Int) (p : Nat) (e : Int) (s : Nat) : Nat := if e = 0 ∧ p + s ≤ zs.length then val ((zs.drop p).take s) else 0
def gP (zs : List Int) (p : Nat) (e : Int) (s : Nat) : Nat := if e = 0 ∧ p + s ≤ zs.length then p + s else p
def gE (zs : List Int) (p : Nat) (e : Int) (s : Nat) : Int := if e ≠ 0 then e else if p + s ≤ zs.length then 0 else 2
theorem g_ok {zs : List Int} {p s : Nat} (h : p + s ≤ zs.length) : gV zs p 0 s = val ((zs.drop p).take s) ∧ gP zs p 0 s = p + s ∧ gE zs p 0 s = 0 := by simp [gV, gP, gE, h]
theorem g_short {zs : List Int} {p s : Nat} (h : zs.length < p + s) : gV zs p 0 s = 0 ∧ gP zs p 0 s = p ∧ gE zs p 0 s = 2 := by
  have : ¬ p + s ≤ zs.length := by omega
  simp [gV, gP, gE, this]
theorem g_bad {zs : List Int} {p s : Nat} {e : Int} (h : e ≠ 0) : gV zs p e s = 0 ∧ gP zs p e s = p ∧ gE zs p e s = e := by simp [gV, gP, gE, h]
end Go.Proofs.Ytjegpcmejlffhaa.Pack

namespace Go.Proofs.Ytjegpcmejlffhaa.Pack
open Go.RowKit

theorem hid {p : Prop} (h : p) : Hid p := h
/-- what a slice of bytes holds -/
def Bytes (w : World) (a : Option Addr) (zs : List Int) : Prop :=
  zs = [] ∨ ∃ b off, a = some ⟨b, off, none⟩ ∧ ∀ i, i < zs.length → w.cell? ⟨b, off + i, none⟩ = some (.int .u8 (zs.getD i 0))
theorem digits_lie (w : World) (C : Array Value) (fr : Nat × Nat) (zs : List Int) (h : C = (zs.map (Value.int .u8)).toArray) : Bytes (w.alloc (.cells C 5 fr)) (some ⟨w.heap.size, 0, none⟩) zs := by
  refine .inr ⟨w.heap.size, 0, rfl, fun i hi => ?_⟩
  rw [Nat.zero_add, World.cell?_alloc_mark, h]
  simp [List.getD, List.getElem?_eq_getElem hi]
theorem info5 : (Try.prog.info? 5).map (fun i => (i.zero, i.size, i.bytes)) = some (some (.int .u8 0), 1, 1) := by kernel_rfl

/-- a row of bytes of the call's own -/
def Own (w : World) (base : Nat) (v : Value) (zs : List Int) : Prop := w.ownsRow base 5 1 v zs.length (zs.map (Value.int .u8))

theorem add_plain (b off j : Nat) : (⟨b, off, none⟩ : Addr).add j = ⟨b, off + j, none⟩ := by unfold Addr.add; split <;> simp_all
theorem Bytes.news {w : World} {ad : Addr} {zs : List Int} (h : Bytes w (some ad) zs) : ∀ j u, (zs.map (Value.int .u8))[j]? = some u → w.cell? (ad.add j) = some u := by
  intro j u hu
  rcases h with rfl | ⟨b, off, he, hc⟩
  · simp at hu
  · have hj : j < zs.length := by
      rcases Nat.lt_or_ge j zs.length with h | h
      · exact h
      · simp [List.getElem?_eq_none h] at hu
    simp only [Option.some.injEq] at he
    subst he
    have := hc j hj
    simp [List.getElem?_eq_getElem hj] at hu
    subst hu
    rw [add_plain]
    simpa [List.getD, List.getElem?_eq_getElem hj] using this

/-- 'out = append(out, src...)', out of the call's own, src whatever bytes -/
theorem app {w : World} {ops : Array Oper} {rest : List Oper} {o : Oper} {a : Act} {Q : Exit → Act → World → Prop} (hgd : o.guard = none) (s x : Operand)
    (ho : o.op = .call { callee := .builtin .append, args := #[s, x], argTypes := #[30, 30] })
    (base : Nat) (v : Value) (zs : List Int) (hs : a.eval s = v) (hown : Own w base v zs)
    (ad : Option Addr) (m c : Nat) (ys : List Int) (hx : a.eval x = .slice ad m c) (hnil : ad = none → m = 0 ∧ c = 0) (hl : ys.length = m) (hb : Bytes w ad ys) (hsz : zs.length + m ≤ 1000000) (hbase : base ≤ w.heap.size)
    (h : ∀ v' w', Own w' base v' (zs ++ ys) → w.grownBy w' v.ownBlock → wpList Try.prog ops Q rest (a.put o.dst v') w') : wpList Try.prog ops Q (o :: rest) a w := by
  obtain ⟨i0, hi, hz0, hz1, hz2⟩ := info_parts info5
  cases ad with
  | none =>
    obtain ⟨rfl, rfl⟩ := hnil rfl
    have hy : ys = [] := List.eq_nil_of_length_eq_zero hl
    subst hy
    refine wpList_append_own_none hgd s x 30 ho base 5 i0 1 Try.underlying30 hi v _ _ hs hown hx ?_
    exact h v w (by simpa using hown) ⟨rfl, rfl, rfl, Nat.le_refl _, fun _ _ _ => rfl⟩
  | some ad =>
    refine wpList_append_own _ hgd s x 30 ho base 5 i0 (.int .u8 0) 1 1 Try.underlying30 hi hz0 hz1 hz2 rfl (by decide) v _ _ hs hown ad m c (ys.map (Value.int .u8)) hx (by simp [hl]) hb.news (by intro u hu; simp at hu; obtain ⟨_, _, rfl⟩ := hu; rfl)
      (by unfold maxLen; omega) (by omega) hbase ?_
    intro v' w' h1 h2 _
    refine h v' w' ?_ h2
    unfold Own
    rw [List.map_append, List.length_append, hl]
    exact h1

theorem Own.form {w : World} {base : Nat} {v : Value} {zs : List Int} (h : Own w base v zs) : ∃ a cap, v = .slice a zs.length cap ∧ Bytes w a zs ∧ (a = none → zs.length = 0 ∧ cap = 0) ∧ (∀ k, v.ownBlock = some k → base ≤ k ∧ k < w.heap.size) ∧ zs.length ≤ cap := by
  have hlt := World.ownsRow.lt h
  have hc := fun g hg => World.ownsRow.cells h (g := g) hg
  rcases h.2 with ⟨rfl, h0⟩ | ⟨g, cap, cur, rfl, _, _, hcap, _, _, _⟩
  · have hy : zs = [] := List.eq_nil_of_length_eq_zero h0
    subst hy
    exact ⟨none, 0, rfl, .inl rfl, fun _ => ⟨rfl, rfl⟩, hlt, Nat.le_refl _⟩
  · refine ⟨_, cap, rfl, .inr ⟨g, 0, rfl, fun i hi => ?_⟩, (fun h => by cases h), hlt, hcap⟩
    have := hc g rfl i (.int .u8 (zs.getD i 0)) (by simp [List.getD, List.getElem?_eq_getElem hi])
    rw [add_plain] at this
    exact this

theorem Bytes.below {w w' : World} {B : Nat} {a : Option Addr} {zs : List Int} (h : Bytes w a zs) (hlt : ∀ ad, a = some ad → zs ≠ [] → ad.block < B) (hb : Below B w w') : Bytes w' a zs := by
  rcases h with rfl | ⟨b, off, rfl, hc⟩
  · exact .inl rfl
  · by_cases hz : zs = []
    · exact .inl hz
    · have := hlt _ rfl hz
      exact .inr ⟨b, off, rfl, fun i hi => (hb.cell (p := ⟨b, off + i, none⟩) this).trans (hc i hi)⟩
/-- what bytes lie in memory lie below its end -/
theorem Bytes.lt {w : World} {a : Option Addr} {zs : List Int} (h : Bytes w a zs) : ∀ ad, a = some ad → zs ≠ [] → ad.block < w.heap.size := by
  rintro ad rfl hz
  rcases h with rfl | ⟨b, off, he, hc⟩
  · exact absurd rfl hz
  · simp only [Option.some.injEq] at he
    subst he
    have h0 := hc 0 (List.length_pos_iff.2 hz)
    rcases Nat.lt_or_ge b w.heap.size with h | h
    · exact h
    · simp [World.cell?, Array.getElem?_eq_none h] at h0
theorem Bytes.later {w w' : World} {a : Option Addr} {zs : List Int} (h : Bytes w a zs) (hb : Below w.heap.size w w') : Bytes w' a zs := h.below h.lt hb
theorem Bytes.grown {w w' : World} {row : Option Nat} {a : Option Addr} {zs : List Int} (h : Bytes w a zs) (hg : w.grownBy w' row) (hne : ∀ ad, a = some ad → zs ≠ [] → some ad.block ≠ row) : Bytes w' a zs := by
  have hlt := h.lt
  rcases h with rfl | ⟨b, off, rfl, hc⟩
  · exact .inl rfl
  · by_cases hz : zs = []
    · exact .inl hz
    · exact .inr ⟨b, off, rfl, fun i hi => (World.cell?_of_block (w := w) (hg.block b (hlt _ rfl hz) (hne _ rfl hz))).trans (hc i hi)⟩

/-- a slice of bytes that came in, as the shell's 'IsRow' tells it -/
theorem opened {w : World} {a : Option Addr} {len cap : Nat} {z : List Int}
    (h : (a = none ∧ len = 0 ∧ cap = 0 ∧ z = []) ∨
      ∃ x, a = some x ∧ len ≤ cap ∧ cap ≤ maxLen ∧ z.length = cap ∧ (∀ i, i < z.length → w.cell? (x.add i) = some (.int .u8 (z.getD i 0))) ∧ ∀ n ∈ z, (Lit.int .u8 n).wf = true) :
    ∃ zs : List Int, zs.length = len ∧ Bytes w a zs ∧ Byt zs ∧ (a = none → len = 0 ∧ cap = 0) ∧ len ≤ maxLen ∧ len ≤ cap := by
  rcases h with ⟨rfl, rfl, rfl, rfl⟩ | ⟨x, rfl, hl, hm, hz, hcell, hwz⟩
  · exact ⟨[], rfl, .inl rfl, (fun z hz => by simp at hz), (fun _ => ⟨rfl, rfl⟩), Nat.zero_le _, Nat.le_refl _⟩
  · refine ⟨z.take len, by simp; omega, ?_, fun n hn => ?_, (fun h => by cases h), Nat.le_trans hl hm, hl⟩
    · by_cases h0 : len = 0
      · exact .inl (by simp [h0])
      · obtain ⟨b, off, spot⟩ := x
        have hc := hcell 0 (by omega)
        have hspot : spot = none := by simpa [Addr.add] using World.cell?_spot hc
        subst hspot
        refine .inr ⟨b, off, rfl, fun i hi => ?_⟩
        have hi' : i < len := by simp at hi; omega
        have := hcell i (by omega)
        rw [add_plain] at this
        rw [this]
        simp [List.getD, hi']
    · have := hwz n (List.mem_of_mem_take hn)
      simpa [Lit.wf, IntKind.min, IntKind.max, IntKind.signed, IntKind.bits] using this

theorem Own.made (w : World) : Own (w.alloc (.cells #[] 5)) w.heap.size (.slice (some ⟨w.heap.size, 0, none⟩) 0 0) [] :=
  World.ownsRow_made (size := 1) w #[] 0 (Nat.le_refl _) (Nat.zero_le _) (by simp)
theorem Own.below {B base : Nat} {w wa w1 : World} {v : Value} {zs : List Int} (ho : Own wa base v zs) (h : Below B w wa) (hB : B ≤ base) (hs : B ≤ wa.heap.size) (hg : wa.grownBy w1 v.ownBlock) : Below B w w1 :=
  h.grown hg hs fun k hk => Nat.le_trans hB (World.ownsRow.lt ho k hk).1

/-- string(b) -/
theorem conv_str {w : World} {a : Option Addr} {zs : List Int} (h : Bytes w a zs) (n c : Nat) (hn : zs.length = n) (hnil : a = none → n = 0 ∧ c = 0) :
    (convert 30 9 (.slice a n c)).run Try.prog w = .ok (.string (strOfNums zs)) w := by
  subst hn
  cases a with
  | none =>
    have hy : zs = [] := List.eq_nil_of_length_eq_zero (hnil rfl).1
    subst hy
    exact run_convert_bytes_nil w 30 5 Try.underlying30 Try.underlying5 _ _ 9 Try.underlying9
  | some ad =>
    have hl : (loadCells ad zs.length).run Try.prog w = .ok (zs.map (Value.int .u8)).toArray w := by
      have := run_loadCells_list (P := Try.prog) w ad (zs.map (Value.int .u8)) h.news
      simpa using this
    rw [run_convert_bytes_string w 30 9 5 _ _ c Try.underlying30 Try.underlying5 Try.underlying9, run_bytesToString w _ _ c zs hl, foldl_push_bytes]
    simp [strOfNums, ByteArray.empty, ByteArray.emptyWithCapacity]
    rfl

theorem Own.later {w w' : World} {base : Nat} {v : Value} {zs : List Int} (h : Own w base v zs) (hb : Below w.heap.size w w') : Own w' base v zs :=
  World.ownsRow.kept (row := none) h ⟨hb.os, hb.tape, hb.output, hb.size, fun k hk _ => hb.block k hk⟩ (by cases hv : v.ownBlock <;> simp)
/-- 'out = append(out, b)', out of the call's own -/
theorem app1 {w0 w : World} {ops : Array Oper} {rest : List Oper} {o : Oper} {a : Act} {Q : Exit → Act → World → Prop} (hgd : o.guard = none) (s x : Operand)
    (ho : o.op = .call { callee := .builtin .append, args := #[s, x], argTypes := #[30, 30] })
    (B : Nat) (v : Value) (zs : List Int) (hs : a.eval s = v) (hown : Own w B v zs) (b : Int) (hx : a.eval x = .slice (some ⟨w.heap.size, 0, none⟩) 1 1) (hsz : zs.length ≤ 900000) (hB : B ≤ w0.heap.size) (hbel : Below B w0 w)
    (h : ∀ v' w', Own w' B v' (zs ++ [b]) → Below B w0 w' → wpList Try.prog ops Q rest (a.put o.dst v') w') : wpList Try.prog ops Q (o :: rest) a (w.alloc (.cells #[.int .u8 b] 5)) := by
  have hBw : B ≤ w.heap.size := Nat.le_trans hB hbel.size
  have hown' : Own (w.alloc (.cells #[.int .u8 b] 5)) B v zs := World.ownsRow.alloc hown _
  have hbel' : Below B w0 (w.alloc (.cells #[.int .u8 b] 5)) := hbel.alloc hBw _
  refine app hgd s x ho B v zs hs hown' (some ⟨w.heap.size, 0, none⟩) 1 1 [b] hx (fun h => by cases h) rfl (digits_lie w _ _ [b] rfl) (by omega) (by simp; omega) ?_
  intro v' w' h1 h2
  exact h v' w' h1 (hown'.below hbel' (Nat.le_refl _) (by simp; omega) h2)


theorem nums_cells (s : ByteArray) : Lib.strCells s = (nums s).map (Value.int .u8) := by simp [Lib.strCells, nums]
theorem str_nums (s : ByteArray) : strOfNums (nums s) = s := by
  obtain ⟨⟨l⟩⟩ := s
  have h : ((fun n : Int => UInt8.ofNat n.toNat) ∘ fun b : UInt8 => (b.toNat : Int)) = id := by funext b; simp
  simp [strOfNums, nums, h]
theorem Own.mono {w : World} {B B' : Nat} {v : Value} {zs : List Int} (h : Own w B v zs) (hB : B' ≤ B) : Own w B' v zs := by
  refine ⟨h.1, ?_⟩
  rcases h.2 with h | ⟨g, cap, cur, hv, hb, r⟩
  · exact .inl h
  · exact .inr ⟨g, cap, cur, hv, by omega, r⟩
/-- a row that isn't empty -/
theorem Own.row {w : World} {B : Nat} {v : Value} {zs : List Int} (h : Own w B v zs) (hz : 0 < zs.length) : ∃ g cap, v = .slice (some ⟨g, 0, none⟩) zs.length cap ∧ B ≤ g ∧ g < w.heap.size ∧ zs.length ≤ cap ∧ cap ≤ maxLen ∧ Bytes w (some ⟨g, 0, none⟩) zs := by
  have hc := fun g hg => World.ownsRow.cells h (g := g) hg
  rcases h.2 with ⟨_, h0⟩ | ⟨g, cap, cur, rfl, hb, hg, hcap, hm, _, _⟩
  · omega
  · refine ⟨g, cap, rfl, hb, (Array.getElem?_eq_some_iff.1 hg).1, hcap, hm, .inr ⟨g, 0, rfl, fun i hi => ?_⟩⟩
    have := hc g rfl i (.int .u8 (zs.getD i 0)) (by simp [List.getD, List.getElem?_eq_getElem hi])
    rw [add_plain] at this
    exact this
theorem Own.rowAt {w : World} {B : Nat} {v : Value} {zs : List Int} {k : Nat} (h : Own w B v zs) (hk : zs.length = k) (hz : 0 < k) : ∃ g cap, v = .slice (some ⟨g, 0, none⟩) k cap ∧ B ≤ g ∧ g < w.heap.size ∧ k ≤ cap ∧ cap ≤ maxLen ∧ Bytes w (some ⟨g, 0, none⟩) zs := by
  subst hk
  exact h.row hz
theorem Bytes.drop {w : World} {b off : Nat} {zs : List Int} (h : Bytes w (some ⟨b, off, none⟩) zs) (k : Nat) : Bytes w (some ⟨b, off + k, none⟩) (zs.drop k) := by
  rcases h with rfl | ⟨b', off', he, hc⟩
  · exact .inl (by simp)
  · simp only [Option.some.injEq, Addr.mk.injEq, and_true] at he
    obtain ⟨rfl, rfl⟩ := he
    refine .inr ⟨b, off + k, rfl, fun i hi => ?_⟩
    have hi' : k + i < zs.length := by simp at hi; omega
    have := hc (k + i) hi'
    rw [show off + k + i = off + (k + i) by omega, this]
    simp [List.getD, List.getElem?_drop]
theorem Bytes.take {w : World} {a : Option Addr} {zs : List Int} (h : Bytes w a zs) (k : Nat) : Bytes w a (zs.take k) := by
  rcases h with rfl | ⟨b, off, rfl, hc⟩
  · exact .inl (by simp)
  · refine .inr ⟨b, off, rfl, fun i hi => ?_⟩
    have hi' : i < zs.length := by simp at hi; omega
    have hk : i < k := by simp at hi; omega
    rw [hc i hi']
    simp [List.getD, hk]
theorem Bytes.drew {w : World} {a : Option Addr} {zs : List Int} (h : Bytes w a zs) : Bytes w.drew a zs := h
theorem Own.drew {w : World} {B : Nat} {v : Value} {zs : List Int} (h : Own w B v zs) : Own w.drew B v zs := h

/-- 'out = append(out, s...)', s a string -/
theorem appS {w0 w : World} {ops : Array Oper} {rest : List Oper} {o : Oper} {a : Act} {Q : Exit → Act → World → Prop} (hgd : o.guard = none) (sl x : Operand)
    (ho : o.op = .call { callee := .builtin .append, args := #[sl, x], argTypes := #[30, 9] })
    (B : Nat) (v : Value) (zs : List Int) (hs : a.eval sl = v) (hown : Own w B v zs) (s : ByteArray) (hx : a.eval x = .string s) (hsz : zs.length + s.size ≤ 1000000) (hB : B ≤ w0.heap.size) (hbel : Below B w0 w)
    (h : ∀ v' w', Own w' B v' (zs ++ nums s) → Below B w0 w' → wpList Try.prog ops Q rest (a.put o.dst v') w') : wpList Try.prog ops Q (o :: rest) a w := by
  obtain ⟨i0, hi, hz0, hz1, hz2⟩ := info_parts info5
  have hBw : B ≤ w.heap.size := Nat.le_trans hB hbel.size
  refine Lib.wpList_append_own_string w hgd sl x 30 9 ho B 5 i0 Try.underlying30 Try.underlying9 hi hz0 hz1 hz2 v _ _ hs hown s hx (by unfold maxLen; omega) (by omega) hBw ?_
  intro v' w' h1 h2 _
  refine h v' w' ?_ (hown.below hbel (Nat.le_refl _) hBw h2)
  unfold Own
  rw [List.map_append, List.length_append, nums_length, ← nums_cells]
  exact h1

/-- 'append(next, all...)', next a new row of one byte, all of the call's own -/
theorem app2 {w0 w : World} {ops : Array Oper} {rest : List Oper} {o : Oper} {a : Act} {Q : Exit → Act → World → Prop} (hgd : o.guard = none) (s x : Operand)
    (ho : o.op = .call { callee := .builtin .append, args := #[s, x], argTypes := #[30, 30] })
    (B : Nat) (b : Int) (hs : a.eval s = .slice (some ⟨w.heap.size, 0, none⟩) 1 1) (v : Value) (ys : List Int) (hx : a.eval x = v) (hown : Own w B v ys) (hsz : ys.length ≤ 1000) (hB : B ≤ w0.heap.size) (hbel : Below B w0 w)
    (h : ∀ v' w', Own w' B v' (b :: ys) → Below B w0 w' → wpList Try.prog ops Q rest (a.put o.dst v') w') : wpList Try.prog ops Q (o :: rest) a (w.alloc (.cells #[.int .u8 b] 5)) := by
  have hBw : B ≤ w.heap.size := Nat.le_trans hB hbel.size
  have hbel' : Below B w0 (w.alloc (.cells #[.int .u8 b] 5)) := hbel.alloc hBw _
  have hn : Own (w.alloc (.cells #[.int .u8 b] 5)) B (.slice (some ⟨w.heap.size, 0, none⟩) 1 1) [b] :=
    World.ownsRow_lit (size := 1) w #[.int .u8 b] 1 hBw (by unfold maxLen; omega) rfl
  obtain ⟨ad, c, rfl, hby, hnil, _, _⟩ := hown.form
  refine app hgd s x ho B _ [b] hs hn ad ys.length c ys hx hnil rfl (hby.later ((Below.refl _ _).alloc (Nat.le_refl _) _)) (by simp; omega) (by simp; omega) ?_
  intro v' w' h1 h2
  exact h v' w' h1 (hn.below hbel' (Nat.le_refl _) (by simp; omega) h2)
end Go.Proofs.Ytjegpcmejlffhaa.Pack

namespace Go.Proofs.Ytjegpcmejlffhaa.Pack
open Go.RowKit

theorem grown_trans {a b c : World} {row : Option Nat} (h : a.grownBy b row) (k : b.grownBy c row) : a.grownBy c row :=
  ⟨k.os.trans h.os, k.tape.trans h.tape, k.output.trans h.output, Nat.le_trans h.size k.size, fun i hi hne => (k.block i (Nat.lt_of_lt_of_le hi h.size) hne).trans (h.block i hi hne)⟩
theorem grown_below {w w' : World} (h : Below w.heap.size w w') (row : Option Nat) : w.grownBy w' row :=
  ⟨h.os, h.tape, h.output, h.size, fun i hi _ => h.block i hi⟩

/-- a reader of the bytes zs, at the place p, with the error e: its struct is block k, its bytes lie in a block from B on and ahead of k -/
def Rd (w : World) (B k : Nat) (zs : List Int) (p : Nat) (e : Int) : Prop :=
  ∃ a cap, w.heap[k]? = some (.cells #[.slice a zs.length cap, .int .i64 (p : Int), .int .i64 e] 89 (0, 0)) ∧ Bytes w a zs ∧ Byt zs ∧ (∀ ad, a = some ad → zs ≠ [] → B ≤ ad.block ∧ ad.block < k) ∧
    B ≤ k ∧ p ≤ zs.length ∧ zs.length ≤ cap ∧ zs.length ≤ 100000 ∧ cap ≤ 9223372036854775807

theorem Rd.grown {w w' : World} {B k p g : Nat} {zs : List Int} {e : Int} (h : Rd w B k zs p e) (hg : w.grownBy w' (some g)) (hne : g < B ∨ k < g) : Rd w' B k zs p e := by
  obtain ⟨a, cap, h1, h2, h3, h4, h5, h6⟩ := h
  have hk : k < w.heap.size := (Array.getElem?_eq_some_iff.1 h1).1
  refine ⟨a, cap, (hg.block k hk (by simp; omega)).trans h1, h2.grown hg (fun ad had hz => ?_), h3, h4, h5, h6⟩
  have := h4 ad had hz
  simp
  omega
theorem Rd.later {w w' : World} {B k p : Nat} {zs : List Int} {e : Int} (h : Rd w B k zs p e) (hb : Below w.heap.size w w') : Rd w' B k zs p e := by
  obtain ⟨a, cap, h1, h2, h6⟩ := h
  have hk : k < w.heap.size := (Array.getElem?_eq_some_iff.1 h1).1
  exact ⟨a, cap, (hb.block k hk).trans h1, h2.later hb, h6⟩
theorem Rd.lt {w : World} {B k p : Nat} {zs : List Int} {e : Int} (h : Rd w B k zs p e) : k < w.heap.size ∧ B ≤ k := by
  obtain ⟨a, cap, h1, h2, h3, h4, h5, h6⟩ := h
  exact ⟨(Array.getElem?_eq_some_iff.1 h1).1, h5⟩
/-- what the walk reads of it -/
theorem Rd.cells {w : World} {B k p : Nat} {zs : List Int} {e : Int} (h : Rd w B k zs p e) : ∃ a cap, w.cell? ⟨k, 0, none⟩ = some (.slice a zs.length cap) ∧ w.cell? ⟨k, 1, none⟩ = some (.int .i64 (p : Int)) ∧ w.cell? ⟨k, 2, none⟩ = some (.int .i64 e) ∧
    w.frozen? ⟨k, 1, none⟩ = false ∧ w.frozen? ⟨k, 2, none⟩ = false ∧ Bytes w a zs ∧ (∀ ad, a = some ad → zs ≠ [] → B ≤ ad.block ∧ ad.block < k) ∧ p ≤ zs.length ∧ zs.length ≤ cap ∧ zs.length ≤ 100000 ∧ cap ≤ 9223372036854775807 := by
  obtain ⟨a, cap, h1, h2, h3, h4, h5, h6⟩ := h
  exact ⟨a, cap, cell_of_row w k 0 _ 89 _ h1, cell_of_row w k 1 _ 89 _ h1, cell_of_row w k 2 _ 89 _ h1, frozen_of_row w k 1 _ 89 h1, frozen_of_row w k 2 _ 89 h1, h2, h4, h6⟩
theorem Rd.setP {w : World} {B k p : Nat} {zs : List Int} {e : Int} (h : Rd w B k zs p e) (q : Nat) (hq : q ≤ zs.length) : Rd (w.setCell ⟨k, 1, none⟩ (.int .i64 (q : Int))) B k zs q e ∧ w.grownBy (w.setCell ⟨k, 1, none⟩ (.int .i64 (q : Int))) (some k) := by
  have hg : w.grownBy (w.setCell ⟨k, 1, none⟩ (.int .i64 (q : Int))) (some k) := ⟨rfl, rfl, rfl, by simp, fun i _ hi => heap_setCell_other w ⟨k, 1, none⟩ i _ (fun e => hi (by simp [e]))⟩
  obtain ⟨a, cap, h1, h2, h3, h4, h5, h6, h7⟩ := h
  refine ⟨⟨a, cap, by rw [heap_setCell_same w k 1 _ 89 _ h1]; rfl, h2.grown hg (fun ad had hz => ?_), h3, h4, h5, hq, h7⟩, hg⟩
  have := h4 ad had hz
  simp
  omega
theorem Rd.setE {w : World} {B k p : Nat} {zs : List Int} {e : Int} (h : Rd w B k zs p e) (x : Int) : Rd (w.setCell ⟨k, 2, none⟩ (.int .i64 x)) B k zs p x ∧ w.grownBy (w.setCell ⟨k, 2, none⟩ (.int .i64 x)) (some k) := by
  have hg : w.grownBy (w.setCell ⟨k, 2, none⟩ (.int .i64 x)) (some k) := ⟨rfl, rfl, rfl, by simp, fun i _ hi => heap_setCell_other w ⟨k, 2, none⟩ i _ (fun e => hi (by simp [e]))⟩
  obtain ⟨a, cap, h1, h2, h3, h4, h5, h6⟩ := h
  refine ⟨⟨a, cap, by rw [heap_setCell_same w k 2 _ 89 _ h1]; rfl, h2.grown hg (fun ad had hz => ?_), h3, h4, h5, h6⟩, hg⟩
  have := h4 ad had hz
  simp
  omega

theorem left_any {w : World} {B k p : Nat} {zs : List Int} {e : Int} (h : Rd w B k zs p e) :
    Calls Try.prog 46 #[.pointer (some ⟨k, 0, none⟩)] w fun x w' => x = .returned (.int .i64 ((zs.length - p : Nat) : Int)) ∧ Below w.heap.size w w' := by
  obtain ⟨a, cap, c0, c1, c2, f1, f2, hb, hlt, hp, hc, hm, hm'⟩ := h.cells
  have e0 : ((zs.length : Int) - (p : Int)) = ((zs.length - p : Nat) : Int) := by omega
  go_enter Try.func46, Try.ntmps46
  go_wp2
  go_quiet (fail)
  go_wp2
  go_ret
  exact ⟨rfl, below_drewN (Below.refl _ _) _⟩
/-- the error behind Fail -/
def failE (e x : Int) : Int := if e = 0 then x else e
theorem fail_any {w : World} {B k p : Nat} {zs : List Int} {e : Int} (h : Rd w B k zs p e) (x : Int) :
    Calls Try.prog 45 #[.pointer (some ⟨k, 0, none⟩), .int .i64 x] w fun y w' => y = .returned (.tuple #[]) ∧ Rd w' B k zs p (failE e x) ∧ w.grownBy w' (some k) := by
  obtain ⟨a, cap, c0, c1, c2, f1, f2, _⟩ := h.cells
  by_cases he : e = 0
  · subst he
    have R := hid (h.setE x)
    clear h
    go_enter Try.func45, Try.ntmps45
    go_wp2
    go_end0
    exact ⟨rfl, R.out⟩
  · have hd : (e == 0) = false := by simpa using he
    have e1 : failE e x = e := if_neg he
    rw [e1]
    have R := hid h
    clear h
    go_enter Try.func45, Try.ntmps45
    go_wp2
    go_end0
    exact ⟨rfl, R.out, World.grownBy.refl _ _⟩
theorem ahead_bad {w : World} {B k p : Nat} {zs : List Int} {e : Int} (h : Rd w B k zs p e) (he : e ≠ 0) (m : Int) :
    Calls Try.prog 63 #[.pointer (some ⟨k, 0, none⟩), .int .i64 m] w fun x w' => x = .returned (.slice none 0 0) ∧ w' = w := by
  obtain ⟨a, cap, c0, c1, c2, f1, f2, _⟩ := h.cells
  have hd : (e == 0) = false := by simpa using he
  have hd' : (e != 0) = true := by simpa using he
  go_enter Try.func63, Try.ntmps63
  go_wp2
  go_ret
  exact ⟨rfl, rfl⟩
theorem ahead_short {w : World} {B k p : Nat} {zs : List Int} (h : Rd w B k zs p 0) (m : Nat) (hm : zs.length < p + m) :
    Calls Try.prog 63 #[.pointer (some ⟨k, 0, none⟩), .int .i64 (m : Int)] w fun x w' => x = .returned (.slice none 0 0) ∧ Rd w' B k zs p 2 ∧ w.grownBy w' (some k) := by
  obtain ⟨a, cap, c0, c1, c2, f1, f2, _, _, hp, _, hz, _⟩ := h.cells
  have hd : zs.length - p < m := by omega
  go_enter Try.func63, Try.ntmps63
  go_wp2_with fail
  refine (left_any h).mono ?_
  rintro x w1 ⟨rfl, hb⟩
  have h1 := h.later hb
  generalize zs.length - p = d at *
  go_wp2_with fail
  refine (fail_any h1 2).mono ?_
  rintro x w2 ⟨rfl, hr, hg⟩
  go_wp2
  go_ret
  exact ⟨rfl, hr, grown_trans (grown_below hb _) hg⟩
theorem ahead_ok {w : World} {B k p : Nat} {zs : List Int} (h : Rd w B k zs p 0) (m : Nat) (hm0 : 0 < m) (hm : p + m ≤ zs.length) :
    Calls Try.prog 63 #[.pointer (some ⟨k, 0, none⟩), .int .i64 (m : Int)] w fun x w' => ∃ b off c, x = .returned (.slice (some ⟨b, off, none⟩) m c) ∧ Bytes w' (some ⟨b, off, none⟩) ((zs.drop p).take m) ∧ Below w.heap.size w w' ∧ b < k ∧ m ≤ c ∧ c ≤ 9223372036854775807 := by
  obtain ⟨a, cap, c0, c1, c2, f1, f2, _, _, hp, _, hz, _⟩ := h.cells
  have hd : ¬ zs.length - p < m := by omega
  have hpm : p + m - p = m := by omega
  go_enter Try.func63, Try.ntmps63
  go_wp2_with fail
  refine (left_any h).mono ?_
  rintro x w1 ⟨rfl, hb⟩
  have h1 := h.later hb
  clear c0 c1 c2 f1 f2
  obtain ⟨a, cap, c0, c1, c2, f1, f2, hby, hbl, hp, hc, hz, hcm⟩ := h1.cells
  have hne : zs ≠ [] := fun e => by subst e; simp at hm; omega
  obtain ⟨b, off, rfl, hcell⟩ : ∃ b off, a = some ⟨b, off, none⟩ ∧ Bytes w1 (some ⟨b, off, none⟩) zs := by
    rcases hby with rfl | ⟨b, off, rfl, hc⟩
    · exact absurd rfl hne
    · exact ⟨b, off, rfl, .inr ⟨b, off, rfl, hc⟩⟩
  have hbk := (hbl _ rfl hne).2
  have hout := hid ((hcell.drop p).take m)
  clear hbl hby hcell h h1
  go_wp2_with fail
  go_quiet (fail)
  go_wp2
  go_ret
  exact ⟨b, off + p, cap - p, (by show Ending.returned (Value.slice (some ⟨b, off + p, none⟩) (p + m - p) (cap - p)) = _; rw [hpm]), hout.out, below_drewN hb _, hbk, by omega, by omega⟩
end Go.Proofs.Ytjegpcmejlffhaa.Pack

namespace Go.Proofs.Ytjegpcmejlffhaa.Pack
open Go.RowKit

set_option maxRecDepth 100000 in
theorem len_1 (w : World) : Calls Try.prog 66 #[.int .u64 255] w fun e w' => e = .returned (.int .i64 8) ∧ w' = w := by
  go_enter Try.func66, Try.ntmps66
  go_wp2
  go_ret
  exact ⟨by kernel_rfl, rfl⟩
set_option maxRecDepth 100000 in
theorem len_2 (w : World) : Calls Try.prog 66 #[.int .u64 65535] w fun e w' => e = .returned (.int .i64 16) ∧ w' = w := by
  go_enter Try.func66, Try.ntmps66
  go_wp2
  go_ret
  exact ⟨by kernel_rfl, rfl⟩
set_option maxRecDepth 100000 in
theorem len_4 (w : World) : Calls Try.prog 66 #[.int .u64 4294967295] w fun e w' => e = .returned (.int .i64 32) ∧ w' = w := by
  go_enter Try.func66, Try.ntmps66
  go_wp2
  go_ret
  exact ⟨by kernel_rfl, rfl⟩
theorem width_1 (w : World) : Calls Try.prog 60 #[] w fun e w' => e = .returned (.int .i64 1) ∧ w' = w := by
  have H := hid (len_1 w)
  go_enter Try.func60, Try.ntmps60
  go_wp2_with (go_at_call 66; refine H.out.mono ?_; rintro e w' ⟨rfl, rfl⟩)
  go_ret
  exact ⟨rfl, rfl⟩
theorem width_2 (w : World) : Calls Try.prog 68 #[] w fun e w' => e = .returned (.int .i64 2) ∧ w' = w := by
  have H := hid (len_2 w)
  go_enter Try.func68, Try.ntmps68
  go_wp2_with (go_at_call 66; refine H.out.mono ?_; rintro e w' ⟨rfl, rfl⟩)
  go_ret
  exact ⟨rfl, rfl⟩
theorem width_4 (w : World) : Calls Try.prog 67 #[] w fun e w' => e = .returned (.int .i64 4) ∧ w' = w := by
  have H := hid (len_4 w)
  go_enter Try.func67, Try.ntmps67
  go_wp2_with (go_at_call 66; refine H.out.mono ?_; rintro e w' ⟨rfl, rfl⟩)
  go_ret
  exact ⟨rfl, rfl⟩
/-- 'make([]byte, 0, n)' -/
theorem make_room (n : Nat) (hn : n ≤ 1000000) (x : Int) (hx : x = (n : Int)) : ∀ u : World, (Instr.makeSlice 30 (.int .i64 0) (.int .i64 x)).run Try.prog u =
      .ok (.slice (some ⟨u.heap.size, 0, none⟩) 0 n) (u.alloc (.cells (madeCells #[.int .u8 0] n) 5)) := fun u => by
  obtain ⟨i0, hi, hz0, hz1, hz2⟩ := info_parts info5
  subst hx
  have h := run_make (P := Try.prog) u 30 5 i0 (.int .u8 0) Try.underlying30 hi hz0 .i64 .i64 0 (n : Int) (by omega) (by omega) (by rw [hz2]; omega) (by omega)
  rw [Int.toNat_natCast] at h
  simpa [hz1, Value.cells] using h

set_option maxHeartbeats 1000000 in
theorem room_any (a : Option Addr) (n cap m : Nat) (zs : List Int) (w : World) (hn : zs.length = n) (hb : Bytes w a zs) (hnil : a = none → n = 0 ∧ cap = 0) (hm : n ≤ 100000) (hm' : m ≤ 1000) :
    Calls Try.prog 50 #[.slice a n cap, .int .i64 (m : Int)] w fun e w' => ∃ v, e = .returned v ∧ Own w' w.heap.size v zs ∧ Below w.heap.size w w' := by
  have hmk := make_room (n + m) (by omega) ((n : Int) + (m : Int)) (by omega)
  have hb0 : Below w.heap.size w (w.alloc (.cells (madeCells #[.int .u8 0] (n + m)) 5)) := (Below.refl _ _).alloc (Nat.le_refl _) _
  have ho0 : Own (w.alloc (.cells (madeCells #[.int .u8 0] (n + m)) 5)) w.heap.size (.slice (some ⟨w.heap.size, 0, none⟩) 0 (n + m)) [] :=
    World.ownsRow_made (size := 1) w _ (n + m) (Nat.le_refl _) (by unfold maxLen; omega) (by simp [size_madeCells])
  generalize madeCells #[.int .u8 0] (n + m) = C at *
  go_enter Try.func50, Try.ntmps50
  go_wp2_with (first | (at_builtin; refine app rfl (.tmp 11) (.tmp 12) rfl w.heap.size _ [] rfl ho0 a n cap zs rfl hnil hn (hb.later hb0) (by simp; omega) (by simp) ?_; intro v1 w1 ho1 hg1; have hb1 := ho0.below hb0 (Nat.le_refl _) (by simp) hg1; clear hg1; rw [List.nil_append] at ho1) | fail)
  obtain ⟨a6, c6, rfl, _, _, _⟩ := ho1.form
  go_ret
  exact ⟨_, rfl, ho1, hb1⟩

set_option maxHeartbeats 4000000 in
theorem put_1 (n : Nat) (hn : n < 256) (a : Option Addr) (l cap : Nat) (zs : List Int) (w : World) (hl : zs.length = l) (hb : Bytes w a zs) (hnil : a = none → l = 0 ∧ cap = 0) (hm : l ≤ 100000) :
    Calls Try.prog 49 #[.slice a l cap, .int .u8 (n : Int)] w fun e w' => ∃ v, e = .returned v ∧ Own w' w.heap.size v (zs ++ be 1 n) ∧ Below w.heap.size w w' := by
  go_enter Try.func49, Try.ntmps49
  go_wp2_with fail
  refine (width_1 _).mono ?_
  rintro e w' ⟨rfl, rfl⟩
  go_wp2_with fail
  refine (room_any a l cap 1 zs _ hl hb hnil hm (by omega)).mono ?_
  rintro e w1 ⟨v1, rfl, ho0, hb0⟩
  clear hb
  go_wp2_with fail
  refine wp_loop_rounds 2 ?_
  rw [rounds_succ]
  go_wp2_with (at_builtin; refine app1 rfl (.tmp 18) (.tmp 25) rfl _ _ _ rfl ho0 _ rfl (by first | omega | (simp; omega)) (Nat.le_refl _) hb0 ?_; intro v2 w2 ho1 hb1; clear ho0 hb0)
  rw [rounds_succ]
  go_wp2
  obtain ⟨a6, c6, rfl, _, _, _⟩ := ho1.form
  go_ret
  refine ⟨_, rfl, ?_, hb1⟩
  rw [← be_1 n hn]
  simpa using ho1

set_option maxHeartbeats 4000000 in
theorem put_2 (n : Nat) (hn : n < 65536) (a : Option Addr) (l cap : Nat) (zs : List Int) (w : World) (hl : zs.length = l) (hb : Bytes w a zs) (hnil : a = none → l = 0 ∧ cap = 0) (hm : l ≤ 100000) :
    Calls Try.prog 62 #[.slice a l cap, .int .u16 (n : Int)] w fun e w' => ∃ v, e = .returned v ∧ Own w' w.heap.size v (zs ++ be 2 n) ∧ Below w.heap.size w w' := by
  go_enter Try.func62, Try.ntmps62
  go_wp2_with fail
  refine (width_2 _).mono ?_
  rintro e w' ⟨rfl, rfl⟩
  go_wp2_with fail
  refine (room_any a l cap 2 zs _ hl hb hnil hm (by omega)).mono ?_
  rintro e w1 ⟨v1, rfl, ho0, hb0⟩
  clear hb
  go_wp2_with fail
  refine wp_loop_rounds 3 ?_
  rw [rounds_succ]
  go_wp2_with (at_builtin; refine app1 rfl (.tmp 18) (.tmp 25) rfl _ _ _ rfl ho0 _ rfl (by first | omega | (simp; omega)) (Nat.le_refl _) hb0 ?_; intro v2 w2 ho1 hb1; clear ho0 hb0)
  rw [rounds_succ]
  go_wp2_with (at_builtin; refine app1 rfl (.tmp 18) (.tmp 25) rfl _ _ _ rfl ho1 _ rfl (by first | omega | (simp; omega)) (Nat.le_refl _) hb1 ?_; intro v3 w3 ho2 hb2; clear ho1 hb1)
  rw [rounds_succ]
  go_wp2
  obtain ⟨a6, c6, rfl, _, _, _⟩ := ho2.form
  go_ret
  refine ⟨_, rfl, ?_, hb2⟩
  rw [← be_2 n hn]
  simpa using ho2

set_option maxHeartbeats 4000000 in
theorem put_4 (n : Nat) (hn : n < 4294967296) (a : Option Addr) (l cap : Nat) (zs : List Int) (w : World) (hl : zs.length = l) (hb : Bytes w a zs) (hnil : a = none → l = 0 ∧ cap = 0) (hm : l ≤ 100000) :
    Calls Try.prog 61 #[.slice a l cap, .int .u32 (n : Int)] w fun e w' => ∃ v, e = .returned v ∧ Own w' w.heap.size v (zs ++ be 4 n) ∧ Below w.heap.size w w' := by
  go_enter Try.func61, Try.ntmps61
  go_wp2_with fail
  refine (width_4 _).mono ?_
  rintro e w' ⟨rfl, rfl⟩
  go_wp2_with fail
  refine (room_any a l cap 4 zs _ hl hb hnil hm (by omega)).mono ?_
  rintro e w1 ⟨v1, rfl, ho0, hb0⟩
  clear hb
  go_wp2_with fail
  refine wp_loop_rounds 5 ?_
  rw [rounds_succ]
  go_wp2_with (at_builtin; refine app1 rfl (.tmp 18) (.tmp 25) rfl _ _ _ rfl ho0 _ rfl (by first | omega | (simp; omega)) (Nat.le_refl _) hb0 ?_; intro v2 w2 ho1 hb1; clear ho0 hb0)
  rw [rounds_succ]
  go_wp2_with (at_builtin; refine app1 rfl (.tmp 18) (.tmp 25) rfl _ _ _ rfl ho1 _ rfl (by first | omega | (simp; omega)) (Nat.le_refl _) hb1 ?_; intro v3 w3 ho2 hb2; clear ho1 hb1)
  rw [rounds_succ]
  go_wp2_with (at_builtin; refine app1 rfl (.tmp 18) (.tmp 25) rfl _ _ _ rfl ho2 _ rfl (by first | omega | (simp; omega)) (Nat.le_refl _) hb2 ?_; intro v4 w4 ho3 hb3; clear ho2 hb2)
  rw [rounds_succ]
  go_wp2_with (at_builtin; refine app1 rfl (.tmp 18) (.tmp 25) rfl _ _ _ rfl ho3 _ rfl (by first | omega | (simp; omega)) (Nat.le_refl _) hb3 ?_; intro v5 w5 ho4 hb4; clear ho3 hb3)
  rw [rounds_succ]
  go_wp2
  obtain ⟨a6, c6, rfl, _, _, _⟩ := ho4.form
  go_ret
  refine ⟨_, rfl, ?_, hb4⟩
  rw [← be_4 n hn]
  simpa using ho4

theorem Put_1 (n : Nat) (hn : n < 256) (a : Option Addr) (l cap : Nat) (zs : List Int) (w : World) (hl : zs.length = l) (hb : Bytes w a zs) (hnil : a = none → l = 0 ∧ cap = 0) (hm : l ≤ 100000) :
    Calls Try.prog 37 #[.slice a l cap, .int .u8 (n : Int)] w fun e w' => ∃ v, e = .returned v ∧ Own w' w.heap.size v (zs ++ be 1 n) ∧ Below w.heap.size w w' := by
  go_enter Try.func37, Try.ntmps37
  go_wp2_with fail
  refine (put_1 n hn a l cap zs _ hl hb hnil hm).mono ?_
  rintro e w1 ⟨v1, rfl, ho, hb1⟩
  go_wp2
  obtain ⟨a6, c6, rfl, _, _, _⟩ := ho.form
  go_ret
  exact ⟨_, rfl, ho, hb1⟩
theorem Put_2 (n : Nat) (hn : n < 65536) (a : Option Addr) (l cap : Nat) (zs : List Int) (w : World) (hl : zs.length = l) (hb : Bytes w a zs) (hnil : a = none → l = 0 ∧ cap = 0) (hm : l ≤ 100000) :
    Calls Try.prog 52 #[.slice a l cap, .int .u16 (n : Int)] w fun e w' => ∃ v, e = .returned v ∧ Own w' w.heap.size v (zs ++ be 2 n) ∧ Below w.heap.size w w' := by
  go_enter Try.func52, Try.ntmps52
  go_wp2_with fail
  refine (put_2 n hn a l cap zs _ hl hb hnil hm).mono ?_
  rintro e w1 ⟨v1, rfl, ho, hb1⟩
  go_wp2
  obtain ⟨a6, c6, rfl, _, _, _⟩ := ho.form
  go_ret
  exact ⟨_, rfl, ho, hb1⟩
theorem Put_4 (n : Nat) (hn : n < 4294967296) (a : Option Addr) (l cap : Nat) (zs : List Int) (w : World) (hl : zs.length = l) (hb : Bytes w a zs) (hnil : a = none → l = 0 ∧ cap = 0) (hm : l ≤ 100000) :
    Calls Try.prog 51 #[.slice a l cap, .int .u32 (n : Int)] w fun e w' => ∃ v, e = .returned v ∧ Own w' w.heap.size v (zs ++ be 4 n) ∧ Below w.heap.size w w' := by
  go_enter Try.func51, Try.ntmps51
  go_wp2_with fail
  refine (put_4 n hn a l cap zs _ hl hb hnil hm).mono ?_
  rintro e w1 ⟨v1, rfl, ho, hb1⟩
  go_wp2
  obtain ⟨a6, c6, rfl, _, _, _⟩ := ho.form
  go_ret
  exact ⟨_, rfl, ho, hb1⟩
/-- a text's writing -/
def txt (s : ByteArray) : List Int := ((min s.size 255 : Nat) : Int) :: nums (s.extract 0 (min s.size 255))

theorem txt_short (s : ByteArray) (h : s.size ≤ 255) : txt s = (s.size : Int) :: nums s := by
  unfold txt
  rw [Nat.min_eq_left h]
  congr
  exact ByteArray.extract_zero_size
theorem txt_long (s : ByteArray) (h : 255 < s.size) : txt s = 255 :: nums (s.extract 0 255) := by
  unfold txt
  rw [Nat.min_eq_right (by omega)]
  rfl

set_option maxHeartbeats 4000000 in
theorem PutText_any (s : ByteArray) (hs : s.size ≤ maxLen) (a : Option Addr) (l cap : Nat) (zs : List Int) (w : World) (hl : zs.length = l) (hb : Bytes w a zs) (hnil : a = none → l = 0 ∧ cap = 0) (hm : l ≤ 100000) :
    Calls Try.prog 38 #[.slice a l cap, .string s] w fun e w' => ∃ v, e = .returned v ∧ Own w' w.heap.size v (zs ++ txt s) ∧ Below w.heap.size w w' := by
  unfold maxLen at hs
  by_cases h : s.size ≤ 255
  · rw [txt_short s h]
    have H := hid (room_any a l cap (1 + s.size) zs w hl hb hnil hm (by omega))
    rw [Int.natCast_add] at H
    go_enter Try.func38, Try.ntmps38
    go_wp2_with fail
    refine H.out.mono ?_
    rintro e w1 ⟨v1, rfl, ho0, hb0⟩
    clear hb H
    go_wp2_with (at_builtin; first | (refine app1 rfl (.tmp 16) (.tmp 20) rfl _ _ _ rfl ho0 _ rfl (by first | omega | (simp; omega)) (Nat.le_refl _) hb0 ?_; intro v2 w2 ho1 hb1; clear ho0 hb0) | (refine appS rfl (.tmp 22) (.tmp 23) rfl _ _ _ rfl ho1 s rfl (by simp; omega) (Nat.le_refl _) hb1 ?_; intro v3 w3 ho2 hb2; clear ho1 hb1))
    obtain ⟨a6, c6, rfl, _, _, _⟩ := ho2.form
    go_ret
    exact ⟨_, rfl, by simpa using ho2, hb2⟩
  · rw [txt_long s (by omega)]
    have H := hid (room_any a l cap 256 zs w hl hb hnil hm (by omega))
    have hz : (s.extract 0 255).size = 255 := by simp [ByteArray.size_extract]; omega
    have hd : decide ((s.size : Int) ≤ 255) = false := by simp; omega
    go_enter Try.func38, Try.ntmps38
    go_wp2_with fail
    refine H.out.mono ?_
    rintro e w1 ⟨v1, rfl, ho0, hb0⟩
    clear hb H
    go_wp2_with (at_builtin; first | (refine app1 rfl (.tmp 16) (.tmp 20) rfl _ _ _ rfl ho0 _ rfl (by first | omega | (simp; omega)) (Nat.le_refl _) hb0 ?_; intro v2 w2 ho1 hb1; clear ho0 hb0) | (refine appS rfl (.tmp 22) (.tmp 23) rfl _ _ _ rfl ho1 (s.extract 0 255) rfl (by rw [hz]; simp; omega) (Nat.le_refl _) hb1 ?_; intro v3 w3 ho2 hb2; clear ho1 hb1))
    obtain ⟨a6, c6, rfl, _, _, _⟩ := ho2.form
    go_ret
    exact ⟨_, rfl, by simpa using ho2, hb2⟩
end Go.Proofs.Ytjegpcmejlffhaa.Pack

namespace Go.Proofs.Ytjegpcmejlffhaa.Pack
open Go.RowKit

theorem slice_nil_eq (w : World) (a : Option Addr) (n c : Nat) : (binOp .eql 30 (.slice a n c) (.slice none 0 0)).run Try.prog w = .ok (.bool a.isNone) w := Lib.run_eql_slice_nil w 30 5 a n c 0 0 Try.underlying30
theorem or_byte (y : Nat) (x : Int) (hy : y < 256 ^ 7) (h0 : 0 ≤ x) (h1 : x ≤ 255) : bits .or .u64 ((y : Int) * 256) x = ((256 * y + x.toNat : Nat) : Int) := by
  obtain ⟨x, rfl⟩ := Int.eq_ofNat_of_zero_le h0
  have hx : x < 2 ^ 8 := by omega
  have e1 : y <<< 8 = y * 256 := Nat.shiftLeft_eq y 8
  have e2 := Nat.shiftLeft_add_eq_or_of_lt hx y
  rw [e1] at e2
  have h := u64_or_nat (y * 256) x (by omega) (by omega)
  rw [← e2, Int.natCast_mul] at h
  rw [Int.toNat_natCast, Nat.mul_comm 256 y]
  exact h
theorem val_u64 {a b : Int} (h : a = b) : Value.int .u64 a = .int .u64 b := by rw [h]

set_option maxHeartbeats 1000000 in
theorem take_1 {w : World} {B k p : Nat} {zs : List Int} {e : Int} (h : Rd w B k zs p e) :
    Calls Try.prog 53 #[.pointer (some ⟨k, 0, none⟩)] w fun x w' => x = .returned (.int .u8 ((gV zs p e 1 : Nat) : Int)) ∧ Rd w' B k zs (gP zs p e 1) (gE zs p e 1) ∧ w.grownBy w' (some k) := by
  have hq := slice_nil_eq
  by_cases he : e = 0
  · subst he
    by_cases hl : p + 1 ≤ zs.length
    · obtain ⟨g1, g2, g3⟩ := g_ok hl
      rw [g1, g2, g3]
      clear g1 g2 g3
      have hz : Byt zs := by obtain ⟨_, _, _, _, hz, _⟩ := h; exact hz
      go_enter Try.func53, Try.ntmps53
      go_wp2_with fail
      refine (width_1 _).mono ?_
      rintro x w' ⟨rfl, rfl⟩
      go_wp2_with fail
      refine (ahead_ok h 1 (by omega) hl).mono ?_
      rintro x w1 ⟨b, off, c, rfl, hby, hb, hbk, hc1, hc2⟩
      have h1 := h.later hb
      have hyz : Byt ((zs.drop p).take 1) := (hz.drop p).take 1
      have hyl : ((zs.drop p).take 1).length = 1 := by simp; omega
      generalize hY : (zs.drop p).take 1 = ys at *
      have HY := hid hY
      clear hY
      go_wp2_with fail
      go_loop [4, 6, 14] (fun v _ i => ∃ j : Nat, j ≤ 1 ∧ i = .int .i64 j ∧ v = .int .u64 ((val (ys.take j) : Nat) : Int)) (fun _ _ i => 1 - (intOf i).toNat)
      case atStart => exact ⟨0, Nat.zero_le _, rfl, rfl⟩
      case round =>
        obtain ⟨j, hj, rfl, rfl⟩ := hrel
        by_cases hlt : j < 1
        · have hy := val_take_lt hyz j
          have hg := byt_getD hyz j
          have hck : w1.cell? ⟨b, off + j, none⟩ = some (.int .u8 (ys.getD j 0)) := by
            rcases hby with h0 | ⟨b', off', he, hc⟩
            · subst h0; simp at hyl
            · simp only [Option.some.injEq, Addr.mk.injEq, and_true] at he
              obtain ⟨rfl, rfl⟩ := he
              exact hc j (by omega)
          have HT := hid (val_take ys j (by omega))
          have hy8 : val (ys.take j) < 256 ^ 7 := Nat.lt_of_lt_of_le hy (Nat.pow_le_pow_right (by omega) (by omega))
          clear hy
          generalize ys.getD j 0 = x at *
          generalize val (ys.take j) = y at *
          go_wp2
          go_round
          case rel => exact ⟨j + 1, by omega, by go_num, val_u64 (by rw [HT.out]; exact or_byte y x hy8 hg.1 hg.2)⟩
          case measure => simp [intOf]; omega
        · obtain rfl : j = 1 := by omega
          have hv := val_lt hyz
          rw [hyl] at hv
          rw [List.take_of_length_le (by omega)]
          have R := h1.setP (p + 1) hl
          rw [Int.natCast_add] at R
          have RH := hid R
          obtain ⟨a, cap, c0, c1, c2, f1, f2, _, _, hp, _, hz100, _⟩ := h1.cells
          clear R hby hyl hyz
          generalize hV : val ys = V at *
          have HV := hid hV
          clear hV
          have hv' : V < 256 := hv
          clear hv
          go_wp2
          go_ret
          exact ⟨by rw [HY.out, HV.out]; rfl, RH.out.1, grown_trans (grown_below hb _) RH.out.2⟩
    · obtain ⟨g1, g2, g3⟩ := g_short (zs := zs) (p := p) (s := 1) (by omega)
      rw [g1, g2, g3]
      clear g1 g2 g3
      go_enter Try.func53, Try.ntmps53
      go_wp2_with fail
      refine (width_1 _).mono ?_
      rintro x w' ⟨rfl, rfl⟩
      go_wp2_with fail
      refine (ahead_short h 1 (by omega)).mono ?_
      rintro x w1 ⟨rfl, hr, hg⟩
      go_wp2
      go_ret
      exact ⟨rfl, hr, hg⟩
  · obtain ⟨g1, g2, g3⟩ := g_bad (zs := zs) (p := p) (s := 1) he
    rw [g1, g2, g3]
    clear g1 g2 g3
    go_enter Try.func53, Try.ntmps53
    go_wp2_with fail
    refine (width_1 _).mono ?_
    rintro x w' ⟨rfl, rfl⟩
    go_wp2_with fail
    refine (ahead_bad h he 1).mono ?_
    rintro x w1 ⟨rfl, rfl⟩
    go_wp2
    go_ret
    exact ⟨rfl, h, World.grownBy.refl _ _⟩
set_option maxHeartbeats 1000000 in
theorem take_2 {w : World} {B k p : Nat} {zs : List Int} {e : Int} (h : Rd w B k zs p e) :
    Calls Try.prog 72 #[.pointer (some ⟨k, 0, none⟩)] w fun x w' => x = .returned (.int .u16 ((gV zs p e 2 : Nat) : Int)) ∧ Rd w' B k zs (gP zs p e 2) (gE zs p e 2) ∧ w.grownBy w' (some k) := by
  have hq := slice_nil_eq
  by_cases he : e = 0
  · subst he
    by_cases hl : p + 2 ≤ zs.length
    · obtain ⟨g1, g2, g3⟩ := g_ok hl
      rw [g1, g2, g3]
      clear g1 g2 g3
      have hz : Byt zs := by obtain ⟨_, _, _, _, hz, _⟩ := h; exact hz
      go_enter Try.func72, Try.ntmps72
      go_wp2_with fail
      refine (width_2 _).mono ?_
      rintro x w' ⟨rfl, rfl⟩
      go_wp2_with fail
      refine (ahead_ok h 2 (by omega) hl).mono ?_
      rintro x w1 ⟨b, off, c, rfl, hby, hb, hbk, hc1, hc2⟩
      have h1 := h.later hb
      have hyz : Byt ((zs.drop p).take 2) := (hz.drop p).take 2
      have hyl : ((zs.drop p).take 2).length = 2 := by simp; omega
      generalize hY : (zs.drop p).take 2 = ys at *
      have HY := hid hY
      clear hY
      go_wp2_with fail
      go_loop [4, 6, 14] (fun v _ i => ∃ j : Nat, j ≤ 2 ∧ i = .int .i64 j ∧ v = .int .u64 ((val (ys.take j) : Nat) : Int)) (fun _ _ i => 2 - (intOf i).toNat)
      case atStart => exact ⟨0, Nat.zero_le _, rfl, rfl⟩
      case round =>
        obtain ⟨j, hj, rfl, rfl⟩ := hrel
        by_cases hlt : j < 2
        · have hy := val_take_lt hyz j
          have hg := byt_getD hyz j
          have hck : w1.cell? ⟨b, off + j, none⟩ = some (.int .u8 (ys.getD j 0)) := by
            rcases hby with h0 | ⟨b', off', he, hc⟩
            · subst h0; simp at hyl
            · simp only [Option.some.injEq, Addr.mk.injEq, and_true] at he
              obtain ⟨rfl, rfl⟩ := he
              exact hc j (by omega)
          have HT := hid (val_take ys j (by omega))
          have hy8 : val (ys.take j) < 256 ^ 7 := Nat.lt_of_lt_of_le hy (Nat.pow_le_pow_right (by omega) (by omega))
          clear hy
          generalize ys.getD j 0 = x at *
          generalize val (ys.take j) = y at *
          go_wp2
          go_round
          case rel => exact ⟨j + 1, by omega, by go_num, val_u64 (by rw [HT.out]; exact or_byte y x hy8 hg.1 hg.2)⟩
          case measure => simp [intOf]; omega
        · obtain rfl : j = 2 := by omega
          have hv := val_lt hyz
          rw [hyl] at hv
          rw [List.take_of_length_le (by omega)]
          have R := h1.setP (p + 2) hl
          rw [Int.natCast_add] at R
          have RH := hid R
          obtain ⟨a, cap, c0, c1, c2, f1, f2, _, _, hp, _, hz100, _⟩ := h1.cells
          clear R hby hyl hyz
          generalize hV : val ys = V at *
          have HV := hid hV
          clear hV
          have hv' : V < 65536 := hv
          clear hv
          go_wp2
          go_ret
          exact ⟨by rw [HY.out, HV.out]; rfl, RH.out.1, grown_trans (grown_below hb _) RH.out.2⟩
    · obtain ⟨g1, g2, g3⟩ := g_short (zs := zs) (p := p) (s := 2) (by omega)
      rw [g1, g2, g3]
      clear g1 g2 g3
      go_enter Try.func72, Try.ntmps72
      go_wp2_with fail
      refine (width_2 _).mono ?_
      rintro x w' ⟨rfl, rfl⟩
      go_wp2_with fail
      refine (ahead_short h 2 (by omega)).mono ?_
      rintro x w1 ⟨rfl, hr, hg⟩
      go_wp2
      go_ret
      exact ⟨rfl, hr, hg⟩
  · obtain ⟨g1, g2, g3⟩ := g_bad (zs := zs) (p := p) (s := 2) he
    rw [g1, g2, g3]
    clear g1 g2 g3
    go_enter Try.func72, Try.ntmps72
    go_wp2_with fail
    refine (width_2 _).mono ?_
    rintro x w' ⟨rfl, rfl⟩
    go_wp2_with fail
    refine (ahead_bad h he 2).mono ?_
    rintro x w1 ⟨rfl, rfl⟩
    go_wp2
    go_ret
    exact ⟨rfl, h, World.grownBy.refl _ _⟩
set_option maxHeartbeats 1000000 in
theorem take_4 {w : World} {B k p : Nat} {zs : List Int} {e : Int} (h : Rd w B k zs p e) :
    Calls Try.prog 71 #[.pointer (some ⟨k, 0, none⟩)] w fun x w' => x = .returned (.int .u32 ((gV zs p e 4 : Nat) : Int)) ∧ Rd w' B k zs (gP zs p e 4) (gE zs p e 4) ∧ w.grownBy w' (some k) := by
  have hq := slice_nil_eq
  by_cases he : e = 0
  · subst he
    by_cases hl : p + 4 ≤ zs.length
    · obtain ⟨g1, g2, g3⟩ := g_ok hl
      rw [g1, g2, g3]
      clear g1 g2 g3
      have hz : Byt zs := by obtain ⟨_, _, _, _, hz, _⟩ := h; exact hz
      go_enter Try.func71, Try.ntmps71
      go_wp2_with fail
      refine (width_4 _).mono ?_
      rintro x w' ⟨rfl, rfl⟩
      go_wp2_with fail
      refine (ahead_ok h 4 (by omega) hl).mono ?_
      rintro x w1 ⟨b, off, c, rfl, hby, hb, hbk, hc1, hc2⟩
      have h1 := h.later hb
      have hyz : Byt ((zs.drop p).take 4) := (hz.drop p).take 4
      have hyl : ((zs.drop p).take 4).length = 4 := by simp; omega
      generalize hY : (zs.drop p).take 4 = ys at *
      have HY := hid hY
      clear hY
      go_wp2_with fail
      go_loop [4, 6, 14] (fun v _ i => ∃ j : Nat, j ≤ 4 ∧ i = .int .i64 j ∧ v = .int .u64 ((val (ys.take j) : Nat) : Int)) (fun _ _ i => 4 - (intOf i).toNat)
      case atStart => exact ⟨0, Nat.zero_le _, rfl, rfl⟩
      case round =>
        obtain ⟨j, hj, rfl, rfl⟩ := hrel
        by_cases hlt : j < 4
        · have hy := val_take_lt hyz j
          have hg := byt_getD hyz j
          have hck : w1.cell? ⟨b, off + j, none⟩ = some (.int .u8 (ys.getD j 0)) := by
            rcases hby with h0 | ⟨b', off', he, hc⟩
            · subst h0; simp at hyl
            · simp only [Option.some.injEq, Addr.mk.injEq, and_true] at he
              obtain ⟨rfl, rfl⟩ := he
              exact hc j (by omega)
          have HT := hid (val_take ys j (by omega))
          have hy8 : val (ys.take j) < 256 ^ 7 := Nat.lt_of_lt_of_le hy (Nat.pow_le_pow_right (by omega) (by omega))
          clear hy
          generalize ys.getD j 0 = x at *
          generalize val (ys.take j) = y at *
          go_wp2
          go_round
          case rel => exact ⟨j + 1, by omega, by go_num, val_u64 (by rw [HT.out]; exact or_byte y x hy8 hg.1 hg.2)⟩
          case measure => simp [intOf]; omega
        · obtain rfl : j = 4 := by omega
          have hv := val_lt hyz
          rw [hyl] at hv
          rw [List.take_of_length_le (by omega)]
          have R := h1.setP (p + 4) hl
          rw [Int.natCast_add] at R
          have RH := hid R
          obtain ⟨a, cap, c0, c1, c2, f1, f2, _, _, hp, _, hz100, _⟩ := h1.cells
          clear R hby hyl hyz
          generalize hV : val ys = V at *
          have HV := hid hV
          clear hV
          have hv' : V < 4294967296 := hv
          clear hv
          go_wp2
          go_ret
          exact ⟨by rw [HY.out, HV.out]; rfl, RH.out.1, grown_trans (grown_below hb _) RH.out.2⟩
    · obtain ⟨g1, g2, g3⟩ := g_short (zs := zs) (p := p) (s := 4) (by omega)
      rw [g1, g2, g3]
      clear g1 g2 g3
      go_enter Try.func71, Try.ntmps71
      go_wp2_with fail
      refine (width_4 _).mono ?_
      rintro x w' ⟨rfl, rfl⟩
      go_wp2_with fail
      refine (ahead_short h 4 (by omega)).mono ?_
      rintro x w1 ⟨rfl, hr, hg⟩
      go_wp2
      go_ret
      exact ⟨rfl, hr, hg⟩
  · obtain ⟨g1, g2, g3⟩ := g_bad (zs := zs) (p := p) (s := 4) he
    rw [g1, g2, g3]
    clear g1 g2 g3
    go_enter Try.func71, Try.ntmps71
    go_wp2_with fail
    refine (width_4 _).mono ?_
    rintro x w' ⟨rfl, rfl⟩
    go_wp2_with fail
    refine (ahead_bad h he 4).mono ?_
    rintro x w1 ⟨rfl, rfl⟩
    go_wp2
    go_ret
    exact ⟨rfl, h, World.grownBy.refl _ _⟩
theorem Get_1 {w : World} {B k p : Nat} {zs : List Int} {e : Int} (h : Rd w B k zs p e) :
    Calls Try.prog 42 #[.pointer (some ⟨k, 0, none⟩)] w fun x w' => x = .returned (.int .u8 ((gV zs p e 1 : Nat) : Int)) ∧ Rd w' B k zs (gP zs p e 1) (gE zs p e 1) ∧ w.grownBy w' (some k) := by
  go_enter Try.func42, Try.ntmps42
  go_wp2_with fail
  refine (take_1 h).mono ?_
  rintro x w' ⟨rfl, hr, hg⟩
  go_wp2
  go_ret
  exact ⟨rfl, hr, hg⟩
theorem Get_2 {w : World} {B k p : Nat} {zs : List Int} {e : Int} (h : Rd w B k zs p e) :
    Calls Try.prog 70 #[.pointer (some ⟨k, 0, none⟩)] w fun x w' => x = .returned (.int .u16 ((gV zs p e 2 : Nat) : Int)) ∧ Rd w' B k zs (gP zs p e 2) (gE zs p e 2) ∧ w.grownBy w' (some k) := by
  go_enter Try.func70, Try.ntmps70
  go_wp2_with fail
  refine (take_2 h).mono ?_
  rintro x w' ⟨rfl, hr, hg⟩
  go_wp2
  go_ret
  exact ⟨rfl, hr, hg⟩
theorem Get_4 {w : World} {B k p : Nat} {zs : List Int} {e : Int} (h : Rd w B k zs p e) :
    Calls Try.prog 69 #[.pointer (some ⟨k, 0, none⟩)] w fun x w' => x = .returned (.int .u32 ((gV zs p e 4 : Nat) : Int)) ∧ Rd w' B k zs (gP zs p e 4) (gE zs p e 4) ∧ w.grownBy w' (some k) := by
  go_enter Try.func69, Try.ntmps69
  go_wp2_with fail
  refine (take_4 h).mono ?_
  rintro x w' ⟨rfl, hr, hg⟩
  go_wp2
  go_ret
  exact ⟨rfl, hr, hg⟩
end Go.Proofs.Ytjegpcmejlffhaa.Pack

namespace Go.Proofs.Ytjegpcmejlffhaa.Pack
open Go.RowKit

/-- what a reader of zs, at p, with the error e, takes for a text of at most so many bytes; its place and its error then -/
def tN (zs : List Int) (p : Nat) : Nat := (zs.getD p 0).toNat
def tS (zs : List Int) (p : Nat) (e most : Int) : ByteArray := if e = 0 ∧ p + 1 ≤ zs.length ∧ (tN zs p : Int) ≤ max most 0 ∧ p + 1 + tN zs p ≤ zs.length then strOfNums ((zs.drop (p + 1)).take (tN zs p)) else ⟨#[]⟩
def tP (zs : List Int) (p : Nat) (e most : Int) : Nat := if e = 0 ∧ p + 1 ≤ zs.length ∧ (tN zs p : Int) ≤ max most 0 ∧ p + 1 + tN zs p ≤ zs.length then p + 1 + tN zs p else p
def tE (zs : List Int) (p : Nat) (e most : Int) : Int := if e ≠ 0 then e else if ¬ p + 1 ≤ zs.length then 2 else if max most 0 < (tN zs p : Int) then 4 else if p + 1 + tN zs p ≤ zs.length then 0 else 2
theorem t_ok {zs : List Int} {p : Nat} {most : Int} (h1 : p + 1 ≤ zs.length) (h2 : (tN zs p : Int) ≤ max most 0) (h3 : p + 1 + tN zs p ≤ zs.length) :
    tS zs p 0 most = strOfNums ((zs.drop (p + 1)).take (tN zs p)) ∧ tP zs p 0 most = p + 1 + tN zs p ∧ tE zs p 0 most = 0 := by
  have h2' : ¬ max most 0 < (tN zs p : Int) := by omega
  unfold tS tP tE
  rw [if_pos ⟨rfl, h1, h2, h3⟩, if_pos ⟨rfl, h1, h2, h3⟩, if_neg (by omega), if_neg (by omega), if_neg h2', if_pos h3]
  exact ⟨rfl, rfl, rfl⟩
theorem t_bad {zs : List Int} {p : Nat} {e most : Int} (h : e ≠ 0) : tS zs p e most = ⟨#[]⟩ ∧ tP zs p e most = p ∧ tE zs p e most = e := by
  unfold tS tP tE
  rw [if_neg (fun x => h x.1), if_neg (fun x => h x.1), if_pos h]
  exact ⟨rfl, rfl, rfl⟩
theorem t_none {zs : List Int} {p : Nat} {most : Int} (h : ¬ p + 1 ≤ zs.length) : tS zs p 0 most = ⟨#[]⟩ ∧ tP zs p 0 most = p ∧ tE zs p 0 most = 2 := by
  unfold tS tP tE
  rw [if_neg (fun x => h x.2.1), if_neg (fun x => h x.2.1), if_neg (by omega), if_pos h]
  exact ⟨rfl, rfl, rfl⟩
theorem t_long {zs : List Int} {p : Nat} {most : Int} (h1 : p + 1 ≤ zs.length) (h : max most 0 < (tN zs p : Int)) : tS zs p 0 most = ⟨#[]⟩ ∧ tP zs p 0 most = p ∧ tE zs p 0 most = 4 := by
  have h' : ¬ (tN zs p : Int) ≤ max most 0 := by omega
  unfold tS tP tE
  rw [if_neg (fun x => h' x.2.2.1), if_neg (fun x => h' x.2.2.1), if_neg (by omega), if_neg (by omega), if_pos h]
  exact ⟨rfl, rfl, rfl⟩
theorem t_short {zs : List Int} {p : Nat} {most : Int} (h1 : p + 1 ≤ zs.length) (h2 : (tN zs p : Int) ≤ max most 0) (h3 : ¬ p + 1 + tN zs p ≤ zs.length) : tS zs p 0 most = ⟨#[]⟩ ∧ tP zs p 0 most = p ∧ tE zs p 0 most = 2 := by
  have h2' : ¬ max most 0 < (tN zs p : Int) := by omega
  unfold tS tP tE
  rw [if_neg (fun x => h3 x.2.2.2), if_neg (fun x => h3 x.2.2.2), if_neg (by omega), if_neg (by omega), if_neg h2', if_neg h3]
  exact ⟨rfl, rfl, rfl⟩

theorem head_of (zs : List Int) (p : Nat) (h : p + 1 ≤ zs.length) : ((zs.drop p).take 1) = [zs.getD p 0] := by
  rw [List.drop_eq_getElem_cons (by omega), List.take_succ_cons, List.take_zero]
  simp [List.getD, List.getElem?_eq_getElem (show p < zs.length by omega)]
theorem tN_le {zs : List Int} (hz : Byt zs) (p : Nat) : zs.getD p 0 = ((tN zs p : Nat) : Int) ∧ tN zs p ≤ 255 := by
  have := byt_getD hz p
  unfold tN
  omega

set_option maxHeartbeats 1000000 in
theorem GetText_ok {w : World} {B k p : Nat} {zs : List Int} {most : Int} (h : Rd w B k zs p 0) (h1 : p + 1 ≤ zs.length) (h2 : (tN zs p : Int) ≤ max most 0) (h3 : p + 1 + tN zs p ≤ zs.length) :
    Calls Try.prog 56 #[.pointer (some ⟨k, 0, none⟩), .int .i64 most] w fun x w' => x = .returned (.string (strOfNums ((zs.drop (p + 1)).take (tN zs p)))) ∧ Rd w' B k zs (p + 1 + tN zs p) 0 ∧ w.grownBy w' (some k) := by
  have hq := slice_nil_eq
  have hz : Byt zs := by obtain ⟨_, _, _, _, hz, _⟩ := h; exact hz
  obtain ⟨hn, hn'⟩ := tN_le hz p
  go_enter Try.func56, Try.ntmps56
  go_wp2_with fail
  refine (ahead_ok h 1 (by omega) h1).mono ?_
  rintro x w1 ⟨b, off, c, rfl, hby, hb, hbk, hc1, hc2⟩
  rw [head_of zs p h1, hn] at hby
  have hr1 := h.later hb
  generalize hN : tN zs p = N at *
  have HN := hid hN
  clear hN
  have hc0 : w1.cell? ⟨b, off, none⟩ = some (.int .u8 (N : Int)) := by
    rcases hby with h0 | ⟨b', off', he, hc⟩
    · simp at h0
    · simp only [Option.some.injEq, Addr.mk.injEq, and_true] at he
      obtain ⟨rfl, rfl⟩ := he
      exact hc 0 (by simp)
  clear hby hn
  have HA := hid (ahead_ok hr1 (1 + N) (by omega) (by omega))
  rw [Int.natCast_add] at HA
  have e3 : ((p + 1 + N : Nat) : Int) = (p : Int) + (1 + (N : Int)) := by omega
  have R := fun w2 (hb2 : Below w1.heap.size w1 w2) => (hr1.later hb2).setP (p + 1 + N) h3
  rw [e3] at R
  have RH := hid R
  clear R e3
  have hmo : ¬ max most 0 < (N : Int) := by omega
  by_cases hm : most < 0
  all_goals
    go_wp2_with fail
    refine HA.out.mono ?_
    rintro x w2 ⟨b2, off2, cc, rfl, hby, hb2, hbk2, hcc1, hcc2⟩
    obtain ⟨a, cap, c0, c1, c2, f1, f2, _, _, hp, _, hz100, _⟩ := (hr1.later hb2).cells
    obtain ⟨hr3, hg3⟩ := RH.out w2 hb2
    have hby3 := (hby.drop 1).grown hg3 (fun ad had _ => by simp at had; subst had; simp; omega)
    rw [List.drop_take, List.drop_drop, show 1 + N - 1 = N by omega] at hby3
    have hl3 : ((zs.drop (p + 1)).take N).length = N := by simp; omega
    have HR := hid (And.intro hr3 (grown_trans (grown_below (hb.trans (hb2.mono hb.size)) _) hg3))
    clear HA hr3 hg3 hby RH
    by_cases hcc : cc = 1
    · obtain rfl : N = 0 := by omega
      subst hcc
      rw [List.take_zero] at hby3
      have hcv := fun W : World => conv_str (w := W) (a := some ⟨b2, off2, none⟩) (zs := []) (.inl rfl) 0 0 rfl (fun h => by cases h)
      go_wp2
      go_ret
      exact ⟨by rw [HN.out]; rfl, by rw [HN.out]; exact HR.out.1, HR.out.2⟩
    · have hcv := conv_str hby3 N (cc - 1) hl3 (fun h => by cases h)
      generalize hS : strOfNums ((zs.drop (p + 1)).take N) = S at hcv
      have HS := hid hS
      clear hS hby3 hl3
      go_wp2
      go_ret
      exact ⟨by rw [HN.out, HS.out]; rfl, by rw [HN.out]; exact HR.out.1, HR.out.2⟩

set_option maxHeartbeats 1000000 in
theorem GetText_any {w : World} {B k p : Nat} {zs : List Int} {e : Int} (h : Rd w B k zs p e) (most : Int) :
    Calls Try.prog 56 #[.pointer (some ⟨k, 0, none⟩), .int .i64 most] w fun x w' => x = .returned (.string (tS zs p e most)) ∧ Rd w' B k zs (tP zs p e most) (tE zs p e most) ∧ w.grownBy w' (some k) := by
  have hq := slice_nil_eq
  have hz : Byt zs := by obtain ⟨_, _, _, _, hz, _⟩ := h; exact hz
  obtain ⟨hn, hn'⟩ := tN_le hz p
  by_cases he : e = 0
  case neg =>
    obtain ⟨g1, g2, g3⟩ := t_bad (zs := zs) (p := p) (most := most) he
    rw [g1, g2, g3]
    clear g1 g2 g3
    go_enter Try.func56, Try.ntmps56
    go_wp2_with fail
    refine (ahead_bad h he 1).mono ?_
    rintro x w1 ⟨rfl, rfl⟩
    go_wp2
    go_ret
    exact ⟨rfl, h, World.grownBy.refl _ _⟩
  subst he
  by_cases h1 : p + 1 ≤ zs.length
  case neg =>
    obtain ⟨g1, g2, g3⟩ := t_none (most := most) h1
    rw [g1, g2, g3]
    clear g1 g2 g3
    go_enter Try.func56, Try.ntmps56
    go_wp2_with fail
    refine (ahead_short h 1 (by omega)).mono ?_
    rintro x w1 ⟨rfl, hr, hg⟩
    go_wp2
    go_ret
    exact ⟨rfl, hr, hg⟩
  by_cases h2 : (tN zs p : Int) ≤ max most 0
  case neg =>
    obtain ⟨g1, g2, g3⟩ := t_long (zs := zs) (p := p) (most := most) h1 (by omega)
    rw [g1, g2, g3]
    clear g1 g2 g3
    go_enter Try.func56, Try.ntmps56
    go_wp2_with fail
    refine (ahead_ok h 1 (by omega) h1).mono ?_
    rintro x w1 ⟨b, off, c, rfl, hby, hb, hbk, hc1, hc2⟩
    rw [head_of zs p h1, hn] at hby
    have hr1 := h.later hb
    generalize tN zs p = N at *
    have hc0 : w1.cell? ⟨b, off, none⟩ = some (.int .u8 (N : Int)) := by
      rcases hby with h0 | ⟨b', off', he, hc⟩
      · simp at h0
      · simp only [Option.some.injEq, Addr.mk.injEq, and_true] at he
        obtain ⟨rfl, rfl⟩ := he
        exact hc 0 (by simp)
    clear hby hn
    by_cases hm : most < 0
    · have h0 : 0 < N := by omega
      clear h2
      go_wp2_with fail
      refine (fail_any hr1 4).mono ?_
      rintro x w2 ⟨rfl, hr, hg⟩
      go_wp2
      go_ret
      exact ⟨rfl, hr, grown_trans (grown_below hb _) hg⟩
    · have h0 : most < (N : Int) := by omega
      clear h2
      go_wp2_with fail
      refine (fail_any hr1 4).mono ?_
      rintro x w2 ⟨rfl, hr, hg⟩
      go_wp2
      go_ret
      exact ⟨rfl, hr, grown_trans (grown_below hb _) hg⟩
  by_cases h3 : p + 1 + tN zs p ≤ zs.length
  case neg =>
    obtain ⟨g1, g2, g3⟩ := t_short (most := most) h1 h2 h3
    rw [g1, g2, g3]
    clear g1 g2 g3
    go_enter Try.func56, Try.ntmps56
    go_wp2_with fail
    refine (ahead_ok h 1 (by omega) h1).mono ?_
    rintro x w1 ⟨b, off, c, rfl, hby, hb, hbk, hc1, hc2⟩
    rw [head_of zs p h1, hn] at hby
    have hr1 := h.later hb
    generalize tN zs p = N at *
    have hc0 : w1.cell? ⟨b, off, none⟩ = some (.int .u8 (N : Int)) := by
      rcases hby with h0 | ⟨b', off', he, hc⟩
      · simp at h0
      · simp only [Option.some.injEq, Addr.mk.injEq, and_true] at he
        obtain ⟨rfl, rfl⟩ := he
        exact hc 0 (by simp)
    clear hby hn
    have HA := hid (ahead_short hr1 (1 + N) (by omega))
    rw [Int.natCast_add] at HA
    by_cases hm : most < 0
    · have h0 : ¬ 0 < N := by omega
      clear h2
      go_wp2_with fail
      refine HA.out.mono ?_
      rintro x w2 ⟨rfl, hr, hg⟩
      go_wp2
      go_ret
      exact ⟨rfl, hr, grown_trans (grown_below hb _) hg⟩
    · have h0 : ¬ most < (N : Int) := by omega
      clear h2
      go_wp2_with fail
      refine HA.out.mono ?_
      rintro x w2 ⟨rfl, hr, hg⟩
      go_wp2
      go_ret
      exact ⟨rfl, hr, grown_trans (grown_below hb _) hg⟩
  obtain ⟨g1, g2, g3⟩ := t_ok h1 h2 h3
  rw [g1, g2, g3]
  exact GetText_ok h h1 h2 h3
/-- what End tells -/
def endE (n p : Nat) (e : Int) : Int := if e = 0 ∧ p < n then 4 else e
set_option maxHeartbeats 1000000 in
theorem End_any {w : World} {B k p : Nat} {zs : List Int} {e : Int} (h : Rd w B k zs p e) :
    Calls Try.prog 23 #[.pointer (some ⟨k, 0, none⟩)] w fun x w' => x = .returned (.int .i64 (endE zs.length p e)) ∧ Below w.heap.size w w' := by
  obtain ⟨a, cap, c0, c1, c2, f1, f2, _, _, hp, _, hz, _⟩ := h.cells
  by_cases he : e = 0
  · subst he
    by_cases hpn : p < zs.length
    · rw [show endE zs.length p 0 = 4 from if_pos ⟨rfl, hpn⟩]
      have hd : 0 < zs.length - p := by omega
      go_enter Try.func23, Try.ntmps23
      go_wp2_with fail
      refine (left_any h).mono ?_
      rintro x w1 ⟨rfl, hb⟩
      generalize zs.length - p = d at *
      go_wp2
      go_ret
      exact ⟨rfl, hb⟩
    · rw [show endE zs.length p 0 = 0 from if_neg (fun x => hpn x.2)]
      have hd : zs.length - p = 0 := by omega
      go_enter Try.func23, Try.ntmps23
      go_wp2_with fail
      refine (left_any h).mono ?_
      rintro x w1 ⟨rfl, hb⟩
      rw [hd]
      obtain ⟨a, cap, c0, c1, c2, f1, f2, _⟩ := (h.later hb).cells
      go_wp2
      go_ret
      exact ⟨rfl, hb⟩
  · rw [show endE zs.length p e = e from if_neg (fun x => he x.1)]
    have hd : (e == 0) = false := by simpa using he
    go_enter Try.func23, Try.ntmps23
    go_wp2
    go_ret
    exact ⟨rfl, Below.refl _ _⟩
theorem End_nil (w : World) : Calls Try.prog 23 #[.pointer none] w fun x w' => x = .returned (.int .i64 1) ∧ w' = w := by
  go_enter Try.func23, Try.ntmps23
  go_wp2
  go_ret
  exact ⟨rfl, rfl⟩
end Go.Proofs.Ytjegpcmejlffhaa.Pack

namespace Go.Proofs.Ytjegpcmejlffhaa.Pack
open Go.RowKit

set_option maxHeartbeats 1000000 in
theorem clone_any (a : Option Addr) (n cap : Nat) (zs : List Int) (w : World) (hn : zs.length = n) (hb : Bytes w a zs) (hnil : a = none → n = 0 ∧ cap = 0) (hm : n ≤ 100000) :
    Calls Try.prog 41 #[.slice a n cap] w fun e w' => ∃ v, e = .returned v ∧ Own w' w.heap.size v zs ∧ Below w.heap.size w w' := by
  have hq := slice_nil_eq
  cases a with
  | none =>
    obtain ⟨rfl, rfl⟩ := hnil rfl
    have hz : zs = [] := List.eq_nil_of_length_eq_zero hn
    subst hz
    go_enter Try.func41, Try.ntmps41
    go_wp2
    go_ret
    exact ⟨_, rfl, World.ownsRow_nil _ _ _ _, Below.refl _ _⟩
  | some ad =>
    have ho0 := Own.made w
    have hb0 : Below w.heap.size w (w.alloc (.cells #[] 5)) := (Below.refl _ _).alloc (Nat.le_refl _) _
    go_enter Try.func41, Try.ntmps41
    go_wp2_with (at_builtin; refine app rfl (.tmp 5) (.tmp 6) rfl w.heap.size _ [] rfl ho0 (some ad) n cap zs rfl hnil hn (hb.later hb0) (by simp; omega) (by simp) ?_; intro v1 w1 ho1 hg1; have hb1 := ho0.below hb0 (Nat.le_refl _) (by simp) hg1; clear hg1; rw [List.nil_append] at ho1)
    obtain ⟨a6, c6, rfl, _, _, _⟩ := ho1.form
    go_ret
    exact ⟨_, rfl, ho1, hb1⟩

theorem Own.cap {w : World} {B : Nat} {a : Option Addr} {n c : Nat} {zs : List Int} (h : Own w B (.slice a n c) zs) : c ≤ maxLen := by
  rcases h.2 with ⟨h1, _⟩ | ⟨g, cap, cur, h1, _, _, _, hm, _⟩
  · simp at h1
    omega
  · simp at h1
    omega

set_option maxHeartbeats 1000000 in
theorem New_any (a : Option Addr) (n cap : Nat) (zs : List Int) (w : World) (hn : zs.length = n) (hb : Bytes w a zs) (hz : Byt zs) (hnil : a = none → n = 0 ∧ cap = 0) (hm : n ≤ 100000) :
    Calls Try.prog 21 #[.slice a n cap] w fun e w' => ∃ k, e = .returned (.pointer (some ⟨k, 0, none⟩)) ∧ Rd w' w.heap.size k zs 0 0 ∧ Below w.heap.size w w' := by
  go_enter Try.func21, Try.ntmps21
  go_wp2_with fail
  refine (clone_any a n cap zs w hn hb hnil hm).mono ?_
  rintro e w1 ⟨v, rfl, ho, hb1⟩
  have hcap : ∀ a' n' c', v = .slice a' n' c' → c' ≤ maxLen := fun a' n' c' h => by subst h; exact ho.cap
  obtain ⟨a6, c6, rfl, hby, hnil6, hlt, hc6⟩ := ho.form
  have hcm := hcap _ _ _ rfl
  unfold maxLen at hcm
  have hb2 : Below w.heap.size w (w1.alloc (.cells #[.slice a6 zs.length c6, .int .i64 0, .int .i64 0] 89)) := hb1.alloc hb1.size _
  have R : Rd (w1.alloc (.cells #[.slice a6 zs.length c6, .int .i64 0, .int .i64 0] 89)) w.heap.size w1.heap.size zs 0 0 := by
    refine ⟨a6, c6, heap_alloc_new _ _, hby.later ((Below.refl _ _).alloc (Nat.le_refl _) _), hz, fun ad had _ => ?_, hb1.size, Nat.zero_le _, hc6, by omega, by omega⟩
    subst had
    exact hlt _ rfl
  have RH := hid R
  clear R hlt hby hnil6 ho hcap
  subst hn
  go_wp2
  go_ret
  exact ⟨_, rfl, RH.out, hb2⟩
end Go.Proofs.Ytjegpcmejlffhaa.Pack

namespace Go.Proofs.Ytjegpcmejlffhaa.Pack
open Go.RowKit

theorem be_8' (n : Nat) (_h : n < 18446744073709551616) : [(n : Int) / 256 / 256 / 256 / 256 / 256 / 256 / 256 % 256, (n : Int) / 256 / 256 / 256 / 256 / 256 / 256 % 256, (n : Int) / 256 / 256 / 256 / 256 / 256 % 256, (n : Int) / 256 / 256 / 256 / 256 % 256, (n : Int) / 256 / 256 / 256 % 256, (n : Int) / 256 / 256 % 256, (n : Int) / 256 % 256, (n : Int) % 256] = be 8 n := by
  simp only [be, List.nil_append, List.cons_append, List.cons.injEq, and_true]
  omega

set_option maxHeartbeats 4000000 in
theorem ref_put_1 (n : Nat) (hn : n < 18446744073709551616) (a : Option Addr) (l cap : Nat) (zs : List Int) (w : World) (hl : zs.length = l) (hb : Bytes w a zs) (hnil : a = none → l = 0 ∧ cap = 0) (hm : l ≤ 100000) :
    Calls Try.prog 20 #[.slice a l cap, .int .u64 (n : Int), .int .i64 1] w fun e w' => ∃ v, e = .returned v ∧ Own w' w.heap.size v (zs ++ be 1 n) ∧ Below w.heap.size w w' := by
  have ho0 := Own.made w
  have hb0 : Below w.heap.size w (w.alloc (.cells #[] 5)) := (Below.refl _ _).alloc (Nat.le_refl _) _
  go_enter Try.func20, Try.ntmps20
  go_wp2_with fail
  generalize hW : w.alloc (.cells #[] 5) = W at ho0 hb0 ⊢
  clear hW
  refine wp_loop_rounds 9 ?_
  rw [rounds_succ]
  go_wp2_with (at_builtin; refine app2 rfl (.tmp 20) (.tmp 21) rfl _ _ rfl _ _ rfl ho0 (by simp) (Nat.le_refl _) hb0 ?_; intro v1 w1 ho1 hb1; clear ho0 hb0)
  rw [rounds_succ]
  go_wp2_with (at_builtin; refine app2 rfl (.tmp 20) (.tmp 21) rfl _ _ rfl _ _ rfl ho1 (by simp) (Nat.le_refl _) hb1 ?_; intro v2 w2 ho2 hb2; clear ho1 hb1)
  rw [rounds_succ]
  go_wp2_with (at_builtin; refine app2 rfl (.tmp 20) (.tmp 21) rfl _ _ rfl _ _ rfl ho2 (by simp) (Nat.le_refl _) hb2 ?_; intro v3 w3 ho3 hb3; clear ho2 hb2)
  rw [rounds_succ]
  go_wp2_with (at_builtin; refine app2 rfl (.tmp 20) (.tmp 21) rfl _ _ rfl _ _ rfl ho3 (by simp) (Nat.le_refl _) hb3 ?_; intro v4 w4 ho4 hb4; clear ho3 hb3)
  rw [rounds_succ]
  go_wp2_with (at_builtin; refine app2 rfl (.tmp 20) (.tmp 21) rfl _ _ rfl _ _ rfl ho4 (by simp) (Nat.le_refl _) hb4 ?_; intro v5 w5 ho5 hb5; clear ho4 hb4)
  rw [rounds_succ]
  go_wp2_with (at_builtin; refine app2 rfl (.tmp 20) (.tmp 21) rfl _ _ rfl _ _ rfl ho5 (by simp) (Nat.le_refl _) hb5 ?_; intro v6 w6 ho6 hb6; clear ho5 hb5)
  rw [rounds_succ]
  go_wp2_with (at_builtin; refine app2 rfl (.tmp 20) (.tmp 21) rfl _ _ rfl _ _ rfl ho6 (by simp) (Nat.le_refl _) hb6 ?_; intro v7 w7 ho7 hb7; clear ho6 hb6)
  rw [rounds_succ]
  go_wp2_with (at_builtin; refine app2 rfl (.tmp 20) (.tmp 21) rfl _ _ rfl _ _ rfl ho7 (by simp) (Nat.le_refl _) hb7 ?_; intro v8 w8 ho8 hb8; clear ho7 hb7)
  rw [rounds_succ]
  rw [be_8' n hn] at ho8
  obtain ⟨g, c8, rfl, hg1, hg2, hc8, hcm, hby⟩ := ho8.rowAt (be_length 8 n) (by omega)
  clear ho8
  unfold maxLen at hcm
  have hbx := hb.later hb8
  have hoM := Own.made w8
  have hbM : Below w8.heap.size w8 (w8.alloc (.cells #[] 5)) := (Below.refl _ _).alloc (Nat.le_refl _) _
  clear hb
  go_wp2_with (first | (at_builtin; refine app rfl (.tmp 29) (.tmp 33) rfl w8.heap.size _ zs rfl ho9 (some ⟨g, 7, none⟩) 1 (c8 - 7) (be 1 n) rfl (fun h => by cases h) (be_length 1 n) hby10 (by omega) hb9.size ?_; intro v10 w10 ho10 hg10; have hb10 := ho9.below hb9 (Nat.le_refl _) hb9.size hg10; clear hg10 ho9 hb9 hby9 hby10) | (at_builtin; refine app rfl (.tmp 26) (.tmp 27) rfl w8.heap.size _ [] rfl hoM a l cap zs rfl hnil hl (hbx.later hbM) (by simp; omega) (by simp) ?_; intro v9 w9 ho9 hg9; have hb9 := hoM.below hbM (Nat.le_refl _) (by simp) hg9; clear hg9 hoM hbM; rw [List.nil_append] at ho9; have hby9 := hby.later hb9; have hby10 := hby9.drop 7; rw [Nat.zero_add, be_drop 1 7 n] at hby10) | fail)
  obtain ⟨a6, c6, rfl, _, _, _⟩ := ho10.form
  go_ret
  exact ⟨_, rfl, ho10.mono hb8.size, hb8.trans (hb10.mono hb8.size)⟩

set_option maxHeartbeats 4000000 in
theorem ref_put_2 (n : Nat) (hn : n < 18446744073709551616) (a : Option Addr) (l cap : Nat) (zs : List Int) (w : World) (hl : zs.length = l) (hb : Bytes w a zs) (hnil : a = none → l = 0 ∧ cap = 0) (hm : l ≤ 100000) :
    Calls Try.prog 20 #[.slice a l cap, .int .u64 (n : Int), .int .i64 2] w fun e w' => ∃ v, e = .returned v ∧ Own w' w.heap.size v (zs ++ be 2 n) ∧ Below w.heap.size w w' := by
  have ho0 := Own.made w
  have hb0 : Below w.heap.size w (w.alloc (.cells #[] 5)) := (Below.refl _ _).alloc (Nat.le_refl _) _
  go_enter Try.func20, Try.ntmps20
  go_wp2_with fail
  generalize hW : w.alloc (.cells #[] 5) = W at ho0 hb0 ⊢
  clear hW
  refine wp_loop_rounds 9 ?_
  rw [rounds_succ]
  go_wp2_with (at_builtin; refine app2 rfl (.tmp 20) (.tmp 21) rfl _ _ rfl _ _ rfl ho0 (by simp) (Nat.le_refl _) hb0 ?_; intro v1 w1 ho1 hb1; clear ho0 hb0)
  rw [rounds_succ]
  go_wp2_with (at_builtin; refine app2 rfl (.tmp 20) (.tmp 21) rfl _ _ rfl _ _ rfl ho1 (by simp) (Nat.le_refl _) hb1 ?_; intro v2 w2 ho2 hb2; clear ho1 hb1)
  rw [rounds_succ]
  go_wp2_with (at_builtin; refine app2 rfl (.tmp 20) (.tmp 21) rfl _ _ rfl _ _ rfl ho2 (by simp) (Nat.le_refl _) hb2 ?_; intro v3 w3 ho3 hb3; clear ho2 hb2)
  rw [rounds_succ]
  go_wp2_with (at_builtin; refine app2 rfl (.tmp 20) (.tmp 21) rfl _ _ rfl _ _ rfl ho3 (by simp) (Nat.le_refl _) hb3 ?_; intro v4 w4 ho4 hb4; clear ho3 hb3)
  rw [rounds_succ]
  go_wp2_with (at_builtin; refine app2 rfl (.tmp 20) (.tmp 21) rfl _ _ rfl _ _ rfl ho4 (by simp) (Nat.le_refl _) hb4 ?_; intro v5 w5 ho5 hb5; clear ho4 hb4)
  rw [rounds_succ]
  go_wp2_with (at_builtin; refine app2 rfl (.tmp 20) (.tmp 21) rfl _ _ rfl _ _ rfl ho5 (by simp) (Nat.le_refl _) hb5 ?_; intro v6 w6 ho6 hb6; clear ho5 hb5)
  rw [rounds_succ]
  go_wp2_with (at_builtin; refine app2 rfl (.tmp 20) (.tmp 21) rfl _ _ rfl _ _ rfl ho6 (by simp) (Nat.le_refl _) hb6 ?_; intro v7 w7 ho7 hb7; clear ho6 hb6)
  rw [rounds_succ]
  go_wp2_with (at_builtin; refine app2 rfl (.tmp 20) (.tmp 21) rfl _ _ rfl _ _ rfl ho7 (by simp) (Nat.le_refl _) hb7 ?_; intro v8 w8 ho8 hb8; clear ho7 hb7)
  rw [rounds_succ]
  rw [be_8' n hn] at ho8
  obtain ⟨g, c8, rfl, hg1, hg2, hc8, hcm, hby⟩ := ho8.rowAt (be_length 8 n) (by omega)
  clear ho8
  unfold maxLen at hcm
  have hbx := hb.later hb8
  have hoM := Own.made w8
  have hbM : Below w8.heap.size w8 (w8.alloc (.cells #[] 5)) := (Below.refl _ _).alloc (Nat.le_refl _) _
  clear hb
  go_wp2_with (first | (at_builtin; refine app rfl (.tmp 29) (.tmp 33) rfl w8.heap.size _ zs rfl ho9 (some ⟨g, 6, none⟩) 2 (c8 - 6) (be 2 n) rfl (fun h => by cases h) (be_length 2 n) hby10 (by omega) hb9.size ?_; intro v10 w10 ho10 hg10; have hb10 := ho9.below hb9 (Nat.le_refl _) hb9.size hg10; clear hg10 ho9 hb9 hby9 hby10) | (at_builtin; refine app rfl (.tmp 26) (.tmp 27) rfl w8.heap.size _ [] rfl hoM a l cap zs rfl hnil hl (hbx.later hbM) (by simp; omega) (by simp) ?_; intro v9 w9 ho9 hg9; have hb9 := hoM.below hbM (Nat.le_refl _) (by simp) hg9; clear hg9 hoM hbM; rw [List.nil_append] at ho9; have hby9 := hby.later hb9; have hby10 := hby9.drop 6; rw [Nat.zero_add, be_drop 2 6 n] at hby10) | fail)
  obtain ⟨a6, c6, rfl, _, _, _⟩ := ho10.form
  go_ret
  exact ⟨_, rfl, ho10.mono hb8.size, hb8.trans (hb10.mono hb8.size)⟩

set_option maxHeartbeats 4000000 in
theorem ref_put_4 (n : Nat) (hn : n < 18446744073709551616) (a : Option Addr) (l cap : Nat) (zs : List Int) (w : World) (hl : zs.length = l) (hb : Bytes w a zs) (hnil : a = none → l = 0 ∧ cap = 0) (hm : l ≤ 100000) :
    Calls Try.prog 20 #[.slice a l cap, .int .u64 (n : Int), .int .i64 4] w fun e w' => ∃ v, e = .returned v ∧ Own w' w.heap.size v (zs ++ be 4 n) ∧ Below w.heap.size w w' := by
  have ho0 := Own.made w
  have hb0 : Below w.heap.size w (w.alloc (.cells #[] 5)) := (Below.refl _ _).alloc (Nat.le_refl _) _
  go_enter Try.func20, Try.ntmps20
  go_wp2_with fail
  generalize hW : w.alloc (.cells #[] 5) = W at ho0 hb0 ⊢
  clear hW
  refine wp_loop_rounds 9 ?_
  rw [rounds_succ]
  go_wp2_with (at_builtin; refine app2 rfl (.tmp 20) (.tmp 21) rfl _ _ rfl _ _ rfl ho0 (by simp) (Nat.le_refl _) hb0 ?_; intro v1 w1 ho1 hb1; clear ho0 hb0)
  rw [rounds_succ]
  go_wp2_with (at_builtin; refine app2 rfl (.tmp 20) (.tmp 21) rfl _ _ rfl _ _ rfl ho1 (by simp) (Nat.le_refl _) hb1 ?_; intro v2 w2 ho2 hb2; clear ho1 hb1)
  rw [rounds_succ]
  go_wp2_with (at_builtin; refine app2 rfl (.tmp 20) (.tmp 21) rfl _ _ rfl _ _ rfl ho2 (by simp) (Nat.le_refl _) hb2 ?_; intro v3 w3 ho3 hb3; clear ho2 hb2)
  rw [rounds_succ]
  go_wp2_with (at_builtin; refine app2 rfl (.tmp 20) (.tmp 21) rfl _ _ rfl _ _ rfl ho3 (by simp) (Nat.le_refl _) hb3 ?_; intro v4 w4 ho4 hb4; clear ho3 hb3)
  rw [rounds_succ]
  go_wp2_with (at_builtin; refine app2 rfl (.tmp 20) (.tmp 21) rfl _ _ rfl _ _ rfl ho4 (by simp) (Nat.le_refl _) hb4 ?_; intro v5 w5 ho5 hb5; clear ho4 hb4)
  rw [rounds_succ]
  go_wp2_with (at_builtin; refine app2 rfl (.tmp 20) (.tmp 21) rfl _ _ rfl _ _ rfl ho5 (by simp) (Nat.le_refl _) hb5 ?_; intro v6 w6 ho6 hb6; clear ho5 hb5)
  rw [rounds_succ]
  go_wp2_with (at_builtin; refine app2 rfl (.tmp 20) (.tmp 21) rfl _ _ rfl _ _ rfl ho6 (by simp) (Nat.le_refl _) hb6 ?_; intro v7 w7 ho7 hb7; clear ho6 hb6)
  rw [rounds_succ]
  go_wp2_with (at_builtin; refine app2 rfl (.tmp 20) (.tmp 21) rfl _ _ rfl _ _ rfl ho7 (by simp) (Nat.le_refl _) hb7 ?_; intro v8 w8 ho8 hb8; clear ho7 hb7)
  rw [rounds_succ]
  rw [be_8' n hn] at ho8
  obtain ⟨g, c8, rfl, hg1, hg2, hc8, hcm, hby⟩ := ho8.rowAt (be_length 8 n) (by omega)
  clear ho8
  unfold maxLen at hcm
  have hbx := hb.later hb8
  have hoM := Own.made w8
  have hbM : Below w8.heap.size w8 (w8.alloc (.cells #[] 5)) := (Below.refl _ _).alloc (Nat.le_refl _) _
  clear hb
  go_wp2_with (first | (at_builtin; refine app rfl (.tmp 29) (.tmp 33) rfl w8.heap.size _ zs rfl ho9 (some ⟨g, 4, none⟩) 4 (c8 - 4) (be 4 n) rfl (fun h => by cases h) (be_length 4 n) hby10 (by omega) hb9.size ?_; intro v10 w10 ho10 hg10; have hb10 := ho9.below hb9 (Nat.le_refl _) hb9.size hg10; clear hg10 ho9 hb9 hby9 hby10) | (at_builtin; refine app rfl (.tmp 26) (.tmp 27) rfl w8.heap.size _ [] rfl hoM a l cap zs rfl hnil hl (hbx.later hbM) (by simp; omega) (by simp) ?_; intro v9 w9 ho9 hg9; have hb9 := hoM.below hbM (Nat.le_refl _) (by simp) hg9; clear hg9 hoM hbM; rw [List.nil_append] at ho9; have hby9 := hby.later hb9; have hby10 := hby9.drop 4; rw [Nat.zero_add, be_drop 4 4 n] at hby10) | fail)
  obtain ⟨a6, c6, rfl, _, _, _⟩ := ho10.form
  go_ret
  exact ⟨_, rfl, ho10.mono hb8.size, hb8.trans (hb10.mono hb8.size)⟩

end Go.Proofs.Ytjegpcmejlffhaa.Pack

namespace Go.Proofs.Ytjegpcmejlffhaa.Pack
open Go.RowKit

set_option maxHeartbeats 4000000 in
theorem ref_putText (s : ByteArray) (hs : s.size ≤ maxLen) (a : Option Addr) (l cap : Nat) (zs : List Int) (w : World) (hl : zs.length = l) (hb : Bytes w a zs) (hnil : a = none → l = 0 ∧ cap = 0) (hm : l ≤ 100000) :
    Calls Try.prog 19 #[.slice a l cap, .string s] w fun e w' => ∃ v, e = .returned v ∧ Own w' w.heap.size v (zs ++ txt s) ∧ Below w.heap.size w w' := by
  unfold maxLen at hs
  by_cases h : s.size ≤ 255
  · rw [txt_short s h]
    have H := hid (ref_put_1 s.size (by omega) a l cap zs w hl hb hnil hm)
    have hd : decide ((255 : Int) < (s.size : Int)) = false := by simp; omega
    go_enter Try.func19, Try.ntmps19
    go_wp2_with fail
    refine H.out.mono ?_
    rintro e w1 ⟨v1, rfl, ho0, hb0⟩
    rw [← be_1 s.size (by omega)] at ho0
    clear hb H
    go_wp2_with (at_builtin; refine appS rfl (.tmp 16) (.tmp 17) rfl _ _ _ rfl ho0 s rfl (by simp; omega) (Nat.le_refl _) hb0 ?_; intro v3 w3 ho2 hb2; clear ho0 hb0)
    obtain ⟨a6, c6, rfl, _, _, _⟩ := ho2.form
    go_ret
    exact ⟨_, rfl, by simpa using ho2, hb2⟩
  · rw [txt_long s (by omega)]
    have H := hid (ref_put_1 255 (by omega) a l cap zs w hl hb hnil hm)
    have hz : (s.extract 0 255).size = 255 := by simp [ByteArray.size_extract]; omega
    have hd : decide ((255 : Int) < (s.size : Int)) = true := by simp; omega
    go_enter Try.func19, Try.ntmps19
    go_wp2_with fail
    refine H.out.mono ?_
    rintro e w1 ⟨v1, rfl, ho0, hb0⟩
    clear hb H
    go_wp2_with (at_builtin; refine appS rfl (.tmp 16) (.tmp 17) rfl _ _ _ rfl ho0 (s.extract 0 255) rfl (by rw [hz]; simp [be_length]; omega) (Nat.le_refl _) hb0 ?_; intro v3 w3 ho2 hb2; clear ho0 hb0)
    have hE : zs ++ be 1 255 ++ nums (s.extract 0 255) = zs ++ 255 :: nums (s.extract 0 255) := by rw [List.append_assoc]; rfl
    rw [hE] at ho2
    obtain ⟨a6, c6, rfl, _, _, _⟩ := ho2.form
    go_ret
    exact ⟨_, rfl, ho2, hb2⟩

end Go.Proofs.Ytjegpcmejlffhaa.Pack

namespace Go.Proofs.Ytjegpcmejlffhaa.Pack
open Go.RowKit

theorem Put_1m (n : Nat) (a : Option Addr) (l cap : Nat) (zs : List Int) (w : World) (hl : zs.length = l) (hb : Bytes w a zs) (hnil : a = none → l = 0 ∧ cap = 0) (hm : l ≤ 100000) :
    Calls Try.prog 37 #[.slice a l cap, .int .u8 ((n : Int) % 256)] w fun e w' => ∃ v, e = .returned v ∧ Own w' w.heap.size v (zs ++ be 1 n) ∧ Below w.heap.size w w' := by
  have H := Put_1 (n % 256) (by omega) a l cap zs w hl hb hnil hm
  rw [Int.natCast_emod, show be 1 (n % 256) = be 1 n from be_mod 1 n] at H
  exact H
theorem Put_2m (n : Nat) (a : Option Addr) (l cap : Nat) (zs : List Int) (w : World) (hl : zs.length = l) (hb : Bytes w a zs) (hnil : a = none → l = 0 ∧ cap = 0) (hm : l ≤ 100000) :
    Calls Try.prog 52 #[.slice a l cap, .int .u16 ((n : Int) % 65536)] w fun e w' => ∃ v, e = .returned v ∧ Own w' w.heap.size v (zs ++ be 2 n) ∧ Below w.heap.size w w' := by
  have H := Put_2 (n % 65536) (by omega) a l cap zs w hl hb hnil hm
  rw [Int.natCast_emod, show be 2 (n % 65536) = be 2 n from be_mod 2 n] at H
  exact H
theorem Put_4m (n : Nat) (a : Option Addr) (l cap : Nat) (zs : List Int) (w : World) (hl : zs.length = l) (hb : Bytes w a zs) (hnil : a = none → l = 0 ∧ cap = 0) (hm : l ≤ 100000) :
    Calls Try.prog 51 #[.slice a l cap, .int .u32 ((n : Int) % 4294967296)] w fun e w' => ∃ v, e = .returned v ∧ Own w' w.heap.size v (zs ++ be 4 n) ∧ Below w.heap.size w w' := by
  have H := Put_4 (n % 4294967296) (by omega) a l cap zs w hl hb hnil hm
  rw [Int.natCast_emod, show be 4 (n % 4294967296) = be 4 n from be_mod 4 n] at H
  exact H

/-- a number where its writing stands -/
theorem g_at (A C : List Int) (s n p : Nat) (hp : A.length = p) : gV (A ++ (be s n ++ C)) p 0 s = n % 256 ^ s ∧ gP (A ++ (be s n ++ C)) p 0 s = p + s ∧ gE (A ++ (be s n ++ C)) p 0 s = 0 := by
  subst hp
  have hl : A.length + s ≤ (A ++ (be s n ++ C)).length := by simp [be_length]
  obtain ⟨g1, g2, g3⟩ := g_ok hl
  refine ⟨?_, g2, g3⟩
  rw [g1, List.drop_left]
  have : (be s n ++ C).take s = be s n := by
    have h := List.take_left (l₁ := be s n) (l₂ := C)
    rwa [be_length] at h
  rw [this, val_be]
theorem getD_at (A C : List Int) (x : Int) (p : Nat) (hp : A.length = p) : (A ++ x :: C).getD p 0 = x := by
  subst hp
  simp [List.getD]
/-- a text where its writing stands, at the end -/
theorem t_at (A : List Int) (s : ByteArray) (hs : s.size ≤ 255) (p : Nat) (hp : A.length = p) : tS (A ++ txt s) p 0 255 = s ∧ tP (A ++ txt s) p 0 255 = (A ++ txt s).length ∧ tE (A ++ txt s) p 0 255 = 0 := by
  rw [txt_short s hs]
  have hN : tN (A ++ (s.size : Int) :: nums s) p = s.size := by
    unfold tN
    rw [getD_at A _ _ p hp]
    simp
  have hl : (A ++ (s.size : Int) :: nums s).length = p + 1 + s.size := by simp [nums_length, hp]; omega
  obtain ⟨g1, g2, g3⟩ := t_ok (zs := A ++ (s.size : Int) :: nums s) (p := p) (most := 255) (by omega) (by rw [hN]; omega) (by rw [hN]; omega)
  refine ⟨?_, by rw [g2, hN, hl], g3⟩
  rw [g1, hN]
  have h1 : (A ++ (s.size : Int) :: nums s).drop (p + 1) = nums s := by
    subst hp
    rw [List.drop_append]
    simp
  rw [h1, List.take_of_length_le (by rw [nums_length]; exact Nat.le_refl _), str_nums]
end Go.Proofs.Ytjegpcmejlffhaa.Pack

namespace Go.Proofs.Ytjegpcmejlffhaa.Pack
open Go.RowKit

/-- a reader of the document's, as a value -/
def rv (a : Option Addr) (n c : Nat) (p : Nat) (e : Int) : Value := .agg #[.slice a n c, .int .i64 (p : Int), .int .i64 e]

theorem below2 (w : World) (o1 o2 : Obj) : Below w.heap.size w ((w.alloc o1).alloc o2).drew := (((Below.refl _ _).alloc (Nat.le_refl _) o1).alloc (by simp) o2).drew
set_option maxHeartbeats 1000000 in
theorem ref_get_bad {w : World} {a : Option Addr} {n c p s : Nat} {e : Int} (he : e ≠ 0) :
    Calls Try.prog 26 #[.agg #[.slice a n c, .int .i64 (p : Int), .int .i64 e], .int .i64 (s : Int)] w fun x w' => x = .returned (.tuple #[.int .u64 0, .agg #[.slice a n c, .int .i64 (p : Int), .int .i64 e]]) ∧ Below w.heap.size w w' := by
  have hd : (e == 0) = false := by simpa using he
  have hd' : (e != 0) = true := by simpa using he
  go_enter Try.func26, Try.ntmps26
  go_wp2
  go_region
  all_goals go_wp2
  exact bodyPost_ret (v := .tuple #[.int .u64 0, .agg #[.slice a n c, .int .i64 (p : Int), .int .i64 e]]) (by simp [results, Try.results26, go_sem]) rfl ⟨rfl, below2 _ _ _⟩

set_option maxHeartbeats 1000000 in
theorem ref_get_short {w : World} {a : Option Addr} {n c p s : Nat} (hp : p ≤ n) (hn : n ≤ 100000) (hs : n < p + s) :
    Calls Try.prog 26 #[.agg #[.slice a n c, .int .i64 (p : Int), .int .i64 0], .int .i64 (s : Int)] w fun x w' => x = .returned (.tuple #[.int .u64 0, .agg #[.slice a n c, .int .i64 (p : Int), .int .i64 2]]) ∧ Below w.heap.size w w' := by
  have hd : (n : Int) - (p : Int) < (s : Int) := by omega
  go_enter Try.func26, Try.ntmps26
  go_wp2
  go_region
  all_goals go_wp2
  exact bodyPost_ret (v := .tuple #[.int .u64 0, .agg #[.slice a n c, .int .i64 (p : Int), .int .i64 2]]) (by simp [results, Try.results26, go_sem]) rfl ⟨rfl, below2 _ _ _⟩

set_option maxHeartbeats 1000000 in
theorem ref_get_ok {w : World} {a : Option Addr} {n c p s : Nat} {zs : List Int} (hz : Byt zs) (hb : Bytes w a zs) (hl : zs.length = n) (hn : n ≤ 100000) (hs : p + s ≤ n) (hs8 : s ≤ 8) (hs1 : 1 ≤ s) :
    Calls Try.prog 26 #[.agg #[.slice a n c, .int .i64 (p : Int), .int .i64 0], .int .i64 (s : Int)] w fun x w' => x = .returned (.tuple #[.int .u64 ((val ((zs.drop p).take s) : Nat) : Int), .agg #[.slice a n c, .int .i64 ((p + s : Nat) : Int), .int .i64 0]]) ∧ Below w.heap.size w w' := by
  have hd : ¬ (n : Int) - (p : Int) < (s : Int) := by omega
  obtain ⟨b, off, rfl, hc⟩ : ∃ b off, a = some ⟨b, off, none⟩ ∧ ∀ i, i < zs.length → w.cell? ⟨b, off + i, none⟩ = some (.int .u8 (zs.getD i 0)) := by
    rcases hb with rfl | h
    · simp at hl; omega
    · exact h
  have hyz : Byt ((zs.drop p).take s) := (hz.drop p).take s
  have hyl : ((zs.drop p).take s).length = s := by simp; omega
  have hcy : ∀ j, j < s → w.cell? ⟨b, off + (p + j), none⟩ = some (.int .u8 (((zs.drop p).take s).getD j 0)) := fun j hj => by
    rw [hc (p + j) (by omega)]
    simp [List.getD, hj]
  generalize hY : (zs.drop p).take s = ys at *
  have HY := hid hY
  clear hY
  have hbl : b < w.heap.size := World.block_lt_of_cell? w _ (hcy 0 (by omega))
  go_enter Try.func26, Try.ntmps26
  go_wp2
  go_loop [6, 7] (fun v i => ∃ j : Nat, j ≤ s ∧ i = .int .i64 j ∧ v = .int .u64 ((val (ys.take j) : Nat) : Int)) (fun _ i => s - (intOf i).toNat)
  case atStart => exact ⟨0, Nat.zero_le _, rfl, rfl⟩
  case round =>
    obtain ⟨j, hj, rfl, rfl⟩ := hrel
    by_cases hlt : j < s
    · have hy := val_take_lt hyz j
      have hg := byt_getD hyz j
      have hck : ∀ o1 o2, ((w.alloc o1).alloc o2).cell? ⟨b, off + (p + j), none⟩ = some (.int .u8 (ys.getD j 0)) := fun o1 o2 =>
        cell_later (((Below.refl _ _).alloc (Nat.le_refl _) o1).alloc (by simp) o2) (hcy j hlt)
      have HT := hid (val_take ys j (by omega))
      have hy8 : val (ys.take j) < 256 ^ 7 := Nat.lt_of_lt_of_le hy (Nat.pow_le_pow_right (by omega) (by omega))
      clear hy hcy hc
      generalize ys.getD j 0 = x at *
      generalize val (ys.take j) = y at *
      go_wp2
      go_round
      case rel => exact ⟨j + 1, by omega, by go_num, val_u64 (by rw [HT.out]; omega)⟩
      case measure => simp [intOf]; omega
    · obtain rfl : j = s := by omega
      rw [List.take_of_length_le (by omega)]
      generalize hV : val ys = V at *
      have HV := hid hV
      clear hV hcy hc
      go_wp2
      go_region
      all_goals go_wp2
      exact bodyPost_ret (v := .tuple #[.int .u64 (V : Int), .agg #[.slice (some ⟨b, off, none⟩) n c, .int .i64 ((p : Int) + (j : Int)), .int .i64 0]]) (by simp [results, Try.results26, go_sem]) rfl ⟨by rw [HV.out, Int.natCast_add], below2 _ _ _⟩

theorem ref_get {w : World} {a : Option Addr} {n c p : Nat} {zs : List Int} {e : Int} (s : Nat) (hz : Byt zs) (hb : Bytes w a zs) (hl : zs.length = n) (hn : n ≤ 100000) (hp : p ≤ n) (hs8 : s ≤ 8) (hs1 : 1 ≤ s) :
    Calls Try.prog 26 #[.agg #[.slice a n c, .int .i64 (p : Int), .int .i64 e], .int .i64 (s : Int)] w fun x w' => x = .returned (.tuple #[.int .u64 ((gV zs p e s : Nat) : Int), .agg #[.slice a n c, .int .i64 ((gP zs p e s : Nat) : Int), .int .i64 (gE zs p e s)]]) ∧ Below w.heap.size w w' := by
  subst hl
  by_cases he : e = 0
  · subst he
    by_cases hs : p + s ≤ zs.length
    · obtain ⟨g1, g2, g3⟩ := g_ok hs
      rw [g1, g2, g3]
      exact ref_get_ok hz hb rfl hn hs hs8 hs1
    · obtain ⟨g1, g2, g3⟩ := g_short (zs := zs) (p := p) (s := s) (by omega)
      rw [g1, g2, g3]
      exact ref_get_short hp hn (by omega)
  · obtain ⟨g1, g2, g3⟩ := g_bad (zs := zs) (p := p) (s := s) he
    rw [g1, g2, g3]
    exact ref_get_bad he

set_option maxHeartbeats 1000000 in
theorem ref_end {w : World} {a : Option Addr} {n c p : Nat} {e : Int} :
    Calls Try.prog 32 #[.agg #[.slice a n c, .int .i64 (p : Int), .int .i64 e]] w fun x w' => x = .returned (.int .i64 (endE n p e)) ∧ Below w.heap.size w w' := by
  by_cases he : e = 0
  · subst he
    by_cases hpn : p < n
    · rw [show endE n p 0 = 4 from if_pos ⟨rfl, hpn⟩]
      go_enter Try.func32, Try.ntmps32
      go_wp2
      go_ret
      exact ⟨rfl, (Below.refl _ _).alloc (Nat.le_refl _) _⟩
    · rw [show endE n p 0 = 0 from if_neg (fun x => hpn x.2)]
      go_enter Try.func32, Try.ntmps32
      go_wp2
      go_ret
      exact ⟨rfl, (Below.refl _ _).alloc (Nat.le_refl _) _⟩
  · rw [show endE n p e = e from if_neg (fun x => he x.1)]
    have hd : (e == 0) = false := by simpa using he
    go_enter Try.func32, Try.ntmps32
    go_wp2
    go_ret
    exact ⟨rfl, (Below.refl _ _).alloc (Nat.le_refl _) _⟩
end Go.Proofs.Ytjegpcmejlffhaa.Pack

namespace Go.Proofs.Ytjegpcmejlffhaa.Pack
open Go.RowKit

/-- what lies in the two boxes behind the inner call -/
theorem boxes {w w1 : World} {C0 C1 : Array Value} (h : Below ((w.alloc (.cells C0 70)).alloc (.cells C1 70)).heap.size ((w.alloc (.cells C0 70)).alloc (.cells C1 70)) w1) :
    w1.heap[w.heap.size]? = some (.cells C0 70 (0, 0)) ∧ w1.heap[w.heap.size + 1]? = some (.cells C1 70 (0, 0)) ∧ w.heap.size + 2 ≤ w1.heap.size ∧ Below w.heap.size w w1 := by
  have e1 : (w.alloc (.cells C0 70)).heap.size = w.heap.size + 1 := by simp
  have e2 : ((w.alloc (.cells C0 70)).alloc (.cells C1 70)).heap.size = w.heap.size + 2 := by simp
  have hs := h.size
  rw [e2] at hs
  refine ⟨?_, ?_, hs, (((Below.refl _ _).alloc (Nat.le_refl _) _).alloc (by simp) _).trans (h.mono (by rw [e2]; omega))⟩
  · rw [h.block _ (by rw [e2]; omega), Go.heap_alloc_old _ _ (by rw [e1]; omega)]
    exact Go.heap_alloc_new _ _
  · rw [h.block _ (by rw [e2]; omega), ← e1]
    exact Go.heap_alloc_new _ _

/-- the three boxes: the reader's own, the result's, the next one's -/
structure Three (W : World) (k0 k1 k2 : Nat) (v0 x0 y0 v2 x2 y2 : Value) : Prop where
  a0 : W.cell? ⟨k0, 0, none⟩ = some v0
  a1 : W.cell? ⟨k0, 1, none⟩ = some x0
  a2 : W.cell? ⟨k0, 2, none⟩ = some y0
  f2 : W.frozen? ⟨k0, 2, none⟩ = false
  b0 : W.cell? ⟨k1, 0, none⟩ = some (.slice none 0 0)
  b1 : W.cell? ⟨k1, 1, none⟩ = some (.int .i64 0)
  b2 : W.cell? ⟨k1, 2, none⟩ = some (.int .i64 0)
  g0 : W.frozen? ⟨k1, 0, none⟩ = false
  g1 : W.frozen? ⟨k1, 1, none⟩ = false
  g2 : W.frozen? ⟨k1, 2, none⟩ = false
  c0 : W.cell? ⟨k2, 0, none⟩ = some v2
  c1 : W.cell? ⟨k2, 1, none⟩ = some x2
  c2 : W.cell? ⟨k2, 2, none⟩ = some y2
  e1 : W.frozen? ⟨k2, 1, none⟩ = false
  n01 : k0 ≠ k1
  n02 : k0 ≠ k2
  n12 : k1 ≠ k2
theorem three {w w1 : World} {v0 x0 y0 : Value} (v2 x2 y2 : Value) (h : Below ((w.alloc (.cells #[v0, x0, y0] 70)).alloc (.cells #[.slice none 0 0, .int .i64 0, .int .i64 0] 70)).heap.size ((w.alloc (.cells #[v0, x0, y0] 70)).alloc (.cells #[.slice none 0 0, .int .i64 0, .int .i64 0] 70)) w1) :
    Three (w1.alloc (.cells #[v2, x2, y2] 70)) w.heap.size (w.heap.size + 1) w1.heap.size v0 x0 y0 v2 x2 y2 ∧ Below w.heap.size w (w1.alloc (.cells #[v2, x2, y2] 70)) ∧ w.heap.size + 2 ≤ w1.heap.size := by
  obtain ⟨q0, q1, hs, hb⟩ := boxes h
  have r0 : (w1.alloc (.cells #[v2, x2, y2] 70)).heap[w.heap.size]? = some (.cells #[v0, x0, y0] 70 (0, 0)) := (Below.heap_alloc _ _ _ (by omega)).trans q0
  have r1 : (w1.alloc (.cells #[v2, x2, y2] 70)).heap[w.heap.size + 1]? = some (.cells #[.slice none 0 0, .int .i64 0, .int .i64 0] 70 (0, 0)) := (Below.heap_alloc _ _ _ (by omega)).trans q1
  have r2 : (w1.alloc (.cells #[v2, x2, y2] 70)).heap[w1.heap.size]? = some (.cells #[v2, x2, y2] 70 (0, 0)) := Go.heap_alloc_new _ _
  exact ⟨⟨cell_of_row _ _ 0 _ _ _ r0, cell_of_row _ _ 1 _ _ _ r0, cell_of_row _ _ 2 _ _ _ r0, frozen_of_row _ _ 2 _ _ r0, cell_of_row _ _ 0 _ _ _ r1, cell_of_row _ _ 1 _ _ _ r1, cell_of_row _ _ 2 _ _ _ r1,
    frozen_of_row _ _ 0 _ _ r1, frozen_of_row _ _ 1 _ _ r1, frozen_of_row _ _ 2 _ _ r1, cell_of_row _ _ 0 _ _ _ r2, cell_of_row _ _ 1 _ _ _ r2, cell_of_row _ _ 2 _ _ _ r2, frozen_of_row _ _ 1 _ _ r2, by omega, by omega, by omega⟩,
    hb.alloc (by omega) _, hs⟩

set_option maxHeartbeats 1000000 in
/-- the inner Get told an error -/
theorem ref_text_err {w : World} {a : Option Addr} {n c p : Nat} {zs : List Int} {e : Int} (most : Int) (hz : Byt zs) (hb : Bytes w a zs) (hl : zs.length = n) (hn : n ≤ 100000) (hp : p ≤ n) (E : Int) (hE : E ≠ 0) (g1 : gV zs p e 1 = 0) (g2 : gP zs p e 1 = p) (g3 : gE zs p e 1 = E) :
    Calls Try.prog 28 #[.agg #[.slice a n c, .int .i64 (p : Int), .int .i64 e], .int .i64 most] w fun x w' => x = .returned (.tuple #[.string ⟨#[]⟩, .agg #[.slice a n c, .int .i64 (p : Int), .int .i64 E]]) ∧ Below w.heap.size w w' := by
  have hd : (E == 0) = false := by simpa using hE
  have hd' : (E != 0) = true := by simpa using hE
  have HG := hid (And.intro g1 (And.intro g2 g3))
  clear g1 g2 g3
  go_enter Try.func28, Try.ntmps28
  go_wp2_with fail
  refine (ref_get (zs := zs) (n := n) 1 hz (hb.later (((Below.refl _ _).alloc (Nat.le_refl _) _).alloc (by simp) _)) hl hn hp (by omega) (by omega)).mono ?_
  rintro x w1 ⟨rfl, hbw⟩
  rw [HG.out.1, HG.out.2.1, HG.out.2.2]
  obtain ⟨T, hb1, hs⟩ := three (.slice a n c) (.int .i64 (p : Int)) (.int .i64 E) hbw
  clear hbw
  go_upto_region 2 with fail
  generalize w1.alloc (.cells #[.slice a n c, .int .i64 (p : Int), .int .i64 E] 70) = W2 at *
  obtain ⟨a0, a1, a2, f2, b0, b1, b2, g0, g1, g2, c0, c1, c2, e1, n01, n02, n12⟩ := T
  generalize hK1 : w.heap.size + 1 = K1 at *
  have hk1 : w.heap.size ≤ K1 := by omega
  clear hK1
  go_wp2_with fail
  go_region
  all_goals go_wp2
  exact bodyPost_ret (v := .tuple #[.string ⟨#[]⟩, .agg #[.slice a n c, .int .i64 (p : Int), .int .i64 E]]) (by simp [results, Try.results28, go_sem, b0, b1, b2]) rfl ⟨rfl, (((hb1.setCell (by exact hk1) _).setCell (by exact hk1) _).setCell (by exact hk1) _).drew⟩

theorem g_one {zs : List Int} {p : Nat} (h : p + 1 ≤ zs.length) : gV zs p 0 1 = tN zs p ∧ gP zs p 0 1 = p + 1 ∧ gE zs p 0 1 = 0 := by
  obtain ⟨g1, g2, g3⟩ := g_ok h
  refine ⟨?_, g2, g3⟩
  rw [g1, head_of zs p h]
  simp [val, tN]

set_option maxHeartbeats 1000000 in
/-- the text is too long, or ends too early -/
theorem ref_text_no {w : World} {a : Option Addr} {n c p : Nat} {zs : List Int} (most : Int) (hz : Byt zs) (hb : Bytes w a zs) (hl : zs.length = n) (hn : n ≤ 100000) (hp : p + 1 ≤ n) :
    (max most 0 < (tN zs p : Int) → Calls Try.prog 28 #[.agg #[.slice a n c, .int .i64 (p : Int), .int .i64 0], .int .i64 most] w fun x w' => x = .returned (.tuple #[.string ⟨#[]⟩, .agg #[.slice a n c, .int .i64 (p : Int), .int .i64 4]]) ∧ Below w.heap.size w w') ∧
    ((tN zs p : Int) ≤ max most 0 → n < p + 1 + tN zs p → Calls Try.prog 28 #[.agg #[.slice a n c, .int .i64 (p : Int), .int .i64 0], .int .i64 most] w fun x w' => x = .returned (.tuple #[.string ⟨#[]⟩, .agg #[.slice a n c, .int .i64 (p : Int), .int .i64 2]]) ∧ Below w.heap.size w w') := by
  have hN := (tN_le hz p).2
  have HG := hid (g_one (zs := zs) (p := p) (by omega))
  generalize tN zs p = N at *
  constructor
  · intro hlong
    go_enter Try.func28, Try.ntmps28
    go_wp2_with fail
    refine (ref_get (zs := zs) (n := n) 1 hz (hb.later (((Below.refl _ _).alloc (Nat.le_refl _) _).alloc (by simp) _)) hl hn (by omega) (by omega) (by omega)).mono ?_
    rintro x w1 ⟨rfl, hbw⟩
    rw [HG.out.1, HG.out.2.1, HG.out.2.2]
    generalize hP : p + 1 = P1 at *
    obtain ⟨T, hb1, hs⟩ := three (.slice a n c) (.int .i64 (P1 : Int)) (.int .i64 0) hbw
    clear hbw hP
    go_upto_region 2 with fail
    generalize w1.alloc (.cells #[.slice a n c, .int .i64 (P1 : Int), .int .i64 0] 70) = W2 at *
    obtain ⟨a0, a1, a2, f2, b0, b1, b2, g0, g1, g2, c0, c1, c2, e1, n01, n02, n12⟩ := T
    generalize hK1 : w.heap.size + 1 = K1 at *
    have hk1 : w.heap.size ≤ K1 := by omega
    clear hK1
    by_cases hm : most < 0
    · have h0 : (0 : Int) < (N : Int) := by omega
      clear hlong
      go_wp2_with fail
      go_region
      all_goals go_wp2
      exact bodyPost_ret (v := .tuple #[.string ⟨#[]⟩, .agg #[.slice a n c, .int .i64 (p : Int), .int .i64 4]]) (by simp [results, Try.results28, go_sem, b0, b1, b2]) rfl ⟨rfl, ((((hb1.setCell (by exact Nat.le_refl _) _).setCell (by exact hk1) _).setCell (by exact hk1) _).setCell (by exact hk1) _).drew⟩
    · have h0 : most < (N : Int) := by omega
      clear hlong
      go_wp2_with fail
      go_region
      all_goals go_wp2
      exact bodyPost_ret (v := .tuple #[.string ⟨#[]⟩, .agg #[.slice a n c, .int .i64 (p : Int), .int .i64 4]]) (by simp [results, Try.results28, go_sem, b0, b1, b2]) rfl ⟨rfl, ((((hb1.setCell (by exact Nat.le_refl _) _).setCell (by exact hk1) _).setCell (by exact hk1) _).setCell (by exact hk1) _).drew⟩
  · intro hlong hshort
    go_enter Try.func28, Try.ntmps28
    go_wp2_with fail
    refine (ref_get (zs := zs) (n := n) 1 hz (hb.later (((Below.refl _ _).alloc (Nat.le_refl _) _).alloc (by simp) _)) hl hn (by omega) (by omega) (by omega)).mono ?_
    rintro x w1 ⟨rfl, hbw⟩
    rw [HG.out.1, HG.out.2.1, HG.out.2.2]
    generalize hP : p + 1 = P1 at *
    obtain ⟨T, hb1, hs⟩ := three (.slice a n c) (.int .i64 (P1 : Int)) (.int .i64 0) hbw
    clear hbw hP
    go_upto_region 2 with fail
    generalize w1.alloc (.cells #[.slice a n c, .int .i64 (P1 : Int), .int .i64 0] 70) = W2 at *
    obtain ⟨a0, a1, a2, f2, b0, b1, b2, g0, g1, g2, c0, c1, c2, e1, n01, n02, n12⟩ := T
    generalize hK1 : w.heap.size + 1 = K1 at *
    have hk1 : w.heap.size ≤ K1 := by omega
    have hsh : (n : Int) - (P1 : Int) < (N : Int) := by omega
    clear hK1
    by_cases hm : most < 0
    · exfalso
      omega
    · have h0 : ¬ most < (N : Int) := by omega
      clear hlong
      go_wp2_with fail
      go_region
      all_goals go_wp2
      exact bodyPost_ret (v := .tuple #[.string ⟨#[]⟩, .agg #[.slice a n c, .int .i64 (p : Int), .int .i64 2]]) (by simp [results, Try.results28, go_sem, b0, b1, b2]) rfl ⟨rfl, ((((hb1.setCell (by exact Nat.le_refl _) _).setCell (by exact hk1) _).setCell (by exact hk1) _).setCell (by exact hk1) _).drew⟩

set_option maxHeartbeats 1000000 in
theorem ref_text_ok {w : World} {a : Option Addr} {n c p : Nat} {zs : List Int} (most : Int) (hz : Byt zs) (hb : Bytes w a zs) (hl : zs.length = n) (hn : n ≤ 100000) (hnc : n ≤ c) (_hc : c ≤ 9223372036854775807) (h1 : p + 1 ≤ n) (h2 : (tN zs p : Int) ≤ max most 0) (h3 : p + 1 + tN zs p ≤ n) :
    Calls Try.prog 28 #[.agg #[.slice a n c, .int .i64 (p : Int), .int .i64 0], .int .i64 most] w fun x w' => x = .returned (.tuple #[.string (strOfNums ((zs.drop (p + 1)).take (tN zs p))), .agg #[.slice a n c, .int .i64 ((p + 1 + tN zs p : Nat) : Int), .int .i64 0]]) ∧ Below w.heap.size w w' := by
  have hN := (tN_le hz p).2
  have HG := hid (g_one (zs := zs) (p := p) (by omega))
  generalize tN zs p = N at *
  obtain ⟨b, off, rfl, hbb⟩ : ∃ b off, a = some ⟨b, off, none⟩ ∧ Bytes w (some ⟨b, off, none⟩) zs := by
    rcases hb with rfl | ⟨b, off, rfl, h⟩
    · simp at hl; omega
    · exact ⟨b, off, rfl, .inr ⟨b, off, rfl, h⟩⟩
  have hby := (hbb.drop (p + 1)).take N
  have hyl : ((zs.drop (p + 1)).take N).length = N := by simp; omega
  have hN0 : N = 0 → strOfNums ((zs.drop (p + 1)).take N) = ⟨#[]⟩ := fun h => by subst h; rfl
  go_enter Try.func28, Try.ntmps28
  go_wp2_with fail
  refine (ref_get (zs := zs) (n := n) 1 hz (hb.later (((Below.refl _ _).alloc (Nat.le_refl _) _).alloc (by simp) _)) hl hn (by omega) (by omega) (by omega)).mono ?_
  rintro x w1 ⟨rfl, hbw⟩
  rw [HG.out.1, HG.out.2.1, HG.out.2.2]
  obtain ⟨T, hb1, hs⟩ := three (.slice (some ⟨b, off, none⟩) n c) (.int .i64 ((p + 1 : Nat) : Int)) (.int .i64 0) hbw
  have hby2 := hby.later hb1
  have HP := hid (Int.natCast_add (p + 1) N)
  generalize hS : strOfNums ((zs.drop (p + 1)).take N) = S at *
  have HS := hid hS
  have hcv : ∀ cc, (convert 30 9 (.slice (some ⟨b, off + (p + 1), none⟩) N cc)).run Try.prog (w1.alloc (.cells #[.slice (some ⟨b, off, none⟩) n c, .int .i64 ((p + 1 : Nat) : Int), .int .i64 0] 70)) = .ok (.string S) (w1.alloc (.cells #[.slice (some ⟨b, off, none⟩) n c, .int .i64 ((p + 1 : Nat) : Int), .int .i64 0] 70)) := fun cc => by
    rw [← hS]
    exact conv_str hby2 N cc hyl (fun h => by cases h)
  have hcv0 : N = 0 → ∀ (W : World) (ad : Addr) cc, (convert 30 9 (.slice (some ad) 0 cc)).run Try.prog W = .ok (.string S) W := fun h W ad cc => by
    have := conv_str (w := W) (a := some ad) (zs := []) (.inl rfl) 0 cc rfl (fun h => by cases h)
    rw [this, hN0 h]
    rfl
  clear hS hby2 hby hbb hyl hN0
  generalize hP : p + 1 = P1 at *
  have HP1 := hid hP
  clear hbw hP
  go_upto_region 2 with fail
  generalize w1.alloc (.cells #[.slice (some ⟨b, off, none⟩) n c, .int .i64 (P1 : Int), .int .i64 0] 70) = W2 at *
  obtain ⟨a0, a1, a2, f2, b0, b1, b2, g0, g1, g2, c0, c1, c2, e1, n01, n02, n12⟩ := T
  generalize hK1 : w.heap.size + 1 = K1 at *
  have hk1 : w.heap.size ≤ K1 := by omega
  have hk2 : w.heap.size ≤ w1.heap.size := by omega
  have hsh : ¬ (n : Int) - (P1 : Int) < (N : Int) := by omega
  have hpn : P1 + N - P1 = N := by omega
  clear hK1
  by_cases hcp : c = P1
  · obtain rfl : N = 0 := by omega
    have hcv1 := hcv0 rfl
    subst hcp
    clear hcv0 hcv
    by_cases hm : most < 0
    all_goals
      go_wp2_with fail
      go_region
      all_goals go_wp2
      exact bodyPost_ret (v := .tuple #[.string S, .agg #[.slice (some ⟨b, off, none⟩) n c, .int .i64 (c : Int), .int .i64 0]]) (by simp [results, Try.results28, go_sem, b0, b1, b2]) rfl ⟨by rw [HP1.out, HS.out], ((((hb1.setCell (by exact hk2) _).setCell (by exact hk1) _).setCell (by exact hk1) _).setCell (by exact hk1) _).drew⟩
  · clear hcv0
    by_cases hm : most < 0
    all_goals
      go_wp2_with fail
      go_region
      all_goals go_wp2
      exact bodyPost_ret (v := .tuple #[.string S, .agg #[.slice (some ⟨b, off, none⟩) n c, .int .i64 ((P1 : Int) + (N : Int)), .int .i64 0]]) (by simp [results, Try.results28, go_sem, b0, b1, b2]) rfl ⟨by rw [HP1.out, HS.out, HP.out], ((((hb1.setCell (by exact hk2) _).setCell (by exact hk1) _).setCell (by exact hk1) _).setCell (by exact hk1) _).drew⟩

theorem ref_text {w : World} {a : Option Addr} {n c p : Nat} {zs : List Int} {e : Int} (most : Int) (hz : Byt zs) (hb : Bytes w a zs) (hl : zs.length = n) (hn : n ≤ 100000) (hnc : n ≤ c) (hc : c ≤ 9223372036854775807) (hp : p ≤ n) :
    Calls Try.prog 28 #[.agg #[.slice a n c, .int .i64 (p : Int), .int .i64 e], .int .i64 most] w fun x w' => x = .returned (.tuple #[.string (tS zs p e most), .agg #[.slice a n c, .int .i64 ((tP zs p e most : Nat) : Int), .int .i64 (tE zs p e most)]]) ∧ Below w.heap.size w w' := by
  subst hl
  by_cases he : e = 0
  · subst he
    by_cases h1 : p + 1 ≤ zs.length
    · by_cases h2 : (tN zs p : Int) ≤ max most 0
      · by_cases h3 : p + 1 + tN zs p ≤ zs.length
        · obtain ⟨g1, g2, g3⟩ := t_ok h1 h2 h3
          rw [g1, g2, g3]
          exact ref_text_ok most hz hb rfl hn hnc hc h1 h2 h3
        · obtain ⟨g1, g2, g3⟩ := t_short (most := most) h1 h2 h3
          rw [g1, g2, g3]
          exact (ref_text_no most hz hb rfl hn h1).2 h2 (by omega)
      · obtain ⟨g1, g2, g3⟩ := t_long (zs := zs) (p := p) (most := most) h1 (by omega)
        rw [g1, g2, g3]
        exact (ref_text_no most hz hb rfl hn h1).1 (by omega)
    · obtain ⟨g1, g2, g3⟩ := t_none (most := most) h1
      obtain ⟨k1, k2, k3⟩ := g_short (zs := zs) (p := p) (s := 1) (by omega)
      rw [g1, g2, g3]
      exact ref_text_err most hz hb rfl hn hp 2 (by omega) k1 k2 k3
  · obtain ⟨g1, g2, g3⟩ := t_bad (zs := zs) (p := p) (most := most) he
    obtain ⟨k1, k2, k3⟩ := g_bad (zs := zs) (p := p) (s := 1) he
    rw [g1, g2, g3]
    exact ref_text_err most hz hb rfl hn hp e he k1 k2 k3
end Go.Proofs.Ytjegpcmejlffhaa.Pack
