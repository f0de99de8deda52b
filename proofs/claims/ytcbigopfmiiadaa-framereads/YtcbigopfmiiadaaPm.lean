/-
  Plain: numbers as bytes, the highest first (stage 2's). It names no program.
-/
import Derived.Below
namespace Go.Proofs.Ytcbigopfmiiadaa.Pack

def Byt (zs : List Int) : Prop := ∀ z ∈ zs, 0 ≤ z ∧ z ≤ 255
theorem Byt.append {xs ys : List Int} (h : Byt xs) (h' : Byt ys) : Byt (xs ++ ys) := fun z hz => by
  rcases List.mem_append.1 hz with h1 | h1
  · exact h z h1
  · exact h' z h1
theorem Byt.take {xs : List Int} (h : Byt xs) (k : Nat) : Byt (xs.take k) := fun z hz => h z (List.mem_of_mem_take hz)
theorem Byt.drop {xs : List Int} (h : Byt xs) (k : Nat) : Byt (xs.drop k) := fun z hz => h z (List.mem_of_mem_drop hz)
theorem byt_getD {zs : List Int} (h : Byt zs) (k : Nat) : 0 ≤ zs.getD k 0 ∧ zs.getD k 0 ≤ 255 := by
  by_cases hk : k < zs.length
  · simp only [List.getD, List.getElem?_eq_getElem hk, Option.getD_some]
    exact h _ (List.getElem_mem hk)
  · simp [List.getD, List.getElem?_eq_none (Nat.le_of_not_lt hk)]

/-- a number's writing of so many bytes, the highest first -/
def be : Nat → Nat → List Int
  | 0, _ => []
  | k + 1, n => be k (n / 256) ++ [((n % 256 : Nat) : Int)]
/-- the number that bytes say -/
def val (zs : List Int) : Nat := zs.foldl (fun n x => 256 * n + x.toNat) 0

theorem be_length (k : Nat) : ∀ n, (be k n).length = k := by
  induction k with
  | zero => intro n; rfl
  | succ k ih => intro n; simp [be, ih]
theorem byt_be (k : Nat) : ∀ n, Byt (be k n) := by
  induction k with
  | zero => intro n z hz; simp [be] at hz
  | succ k ih =>
    intro n
    refine (ih _).append fun z hz => ?_
    simp at hz
    omega
theorem val_snoc (zs : List Int) (x : Int) : val (zs ++ [x]) = 256 * val zs + x.toNat := by simp [val, List.foldl_append]
theorem val_be (k : Nat) : ∀ n, val (be k n) = n % 256 ^ k := by
  induction k with
  | zero => intro n; simp [be, val, Nat.mod_one]
  | succ k ih =>
    intro n
    rw [be, val_snoc, ih, Int.toNat_natCast, Nat.pow_succ, Nat.mul_comm (256 ^ k) 256, Nat.mod_mul]
    omega
theorem be_mod (k : Nat) : ∀ n, be k (n % 256 ^ k) = be k n := by
  induction k with
  | zero => intro n; rfl
  | succ k ih =>
    intro n
    have e1 : n % 256 ^ (k + 1) / 256 = n / 256 % 256 ^ k := by rw [Nat.pow_succ, Nat.mul_comm (256 ^ k) 256, Nat.mod_mul_right_div_self]
    have e2 : n % 256 ^ (k + 1) % 256 = n % 256 := by rw [Nat.pow_succ]; exact Nat.mod_mod_of_dvd _ (Nat.dvd_mul_left _ _)
    rw [be, e1, e2, ih, be]
theorem take_snoc (zs : List Int) (k : Nat) (h : k < zs.length) : zs.take (k + 1) = zs.take k ++ [zs.getD k 0] := by
  rw [List.take_succ_eq_append_getElem h]
  simp [List.getD, List.getElem?_eq_getElem h]
theorem val_take (zs : List Int) (k : Nat) (h : k < zs.length) : val (zs.take (k + 1)) = 256 * val (zs.take k) + (zs.getD k 0).toNat := by rw [take_snoc zs k h, val_snoc]
theorem val_take_lt {zs : List Int} (h : Byt zs) (k : Nat) : val (zs.take k) < 256 ^ k := by
  induction k with
  | zero => simp [val]
  | succ k ih =>
    rw [Nat.pow_succ]
    by_cases hk : k < zs.length
    · have hb := byt_getD h k
      rw [val_take zs k hk]
      omega
    · rw [List.take_of_length_le (by omega)]
      rw [List.take_of_length_le (by omega)] at ih
      omega
theorem val_lt {zs : List Int} (h : Byt zs) : val zs < 256 ^ zs.length := by
  have := val_take_lt h zs.length
  rwa [List.take_length] at this
/-- the last bytes of eight -/
theorem be_drop (k j : Nat) : ∀ n, (be (k + j) n).drop j = be k n := by
  induction k with
  | zero => intro n; rw [Nat.zero_add]; exact List.drop_eq_nil_of_le (by rw [be_length]; exact Nat.le_refl _)
  | succ k ih =>
    intro n
    rw [show k + 1 + j = k + j + 1 by omega, be, List.drop_append_of_le_length (by rw [be_length]; omega), ih, be]
theorem be_1 (n : Nat) (h : n < 256) : [(n : Int)] = be 1 n := by
  simp only [be, List.nil_append, List.cons.injEq, and_true]
  omega
theorem be_2 (n : Nat) (h : n < 65536) : [(n : Int) / 256, (n : Int) % 256] = be 2 n := by
  simp only [be, List.nil_append, List.cons_append, List.cons.injEq, and_true]
  omega
theorem be_4 (n : Nat) (h : n < 4294967296) : [(n : Int) / 16777216, (n : Int) / 65536 % 256, (n : Int) / 256 % 256, (n : Int) % 256] = be 4 n := by
  simp only [be, List.nil_append, List.cons_append, List.cons.injEq, and_true, Nat.div_div_eq_div_mul, Nat.reduceMul]
  omega
theorem be_8 (n : Nat) (h : n < 18446744073709551616) : [(n : Int) / 72057594037927936, (n : Int) / 281474976710656 % 256, (n : Int) / 1099511627776 % 256, (n : Int) / 4294967296 % 256, (n : Int) / 16777216 % 256, (n : Int) / 65536 % 256, (n : Int) / 256 % 256, (n : Int) % 256] = be 8 n := by
  simp only [be, List.nil_append, List.cons_append, List.cons.injEq, and_true, Nat.div_div_eq_div_mul, Nat.reduceMul]
  omega
/-- a string's bytes, as numbers -/
def nums (s : ByteArray) : List Int := s.data.toList.map fun b => (b.toNat : Int)
theorem nums_length (s : ByteArray) : (nums s).length = s.size := by simp [nums]
theorem byt_nums (s : ByteArray) : Byt (nums s) := by
  intro z hz
  simp only [nums, List.mem_map] at hz
  obtain ⟨b, _, rfl⟩ := hz
  have := b.toNat_lt
  omega
/-- what a reader of zs, at p, with the error e, takes for a number of s bytes; its place and its error then -/
def gV (zs : List Int) (p : Nat) (e : Int) (s : Nat) : Nat := if e = 0 ∧ p + s ≤ zs.length then val ((zs.drop p).take s) else 0
def gP (zs : List Int) (p : Nat) (e : Int) (s : Nat) : Nat := if e = 0 ∧ p + s ≤ zs.length then p + s else p
def gE (zs : List Int) (p : Nat) (e : Int) (s : Nat) : Int := if e ≠ 0 then e else if p + s ≤ zs.length then 0 else 2
theorem g_ok {zs : List Int} {p s : Nat} (h : p + s ≤ zs.length) : gV zs p 0 s = val ((zs.drop p).take s) ∧ gP zs p 0 s = p + s ∧ gE zs p 0 s = 0 := by simp [gV, gP, gE, h]
theorem g_short {zs : List Int} {p s : Nat} (h : zs.length < p + s) : gV zs p 0 s = 0 ∧ gP zs p 0 s = p ∧ gE zs p 0 s = 2 := by
  have : ¬ p + s ≤ zs.length := by omega
  simp [gV, gP, gE, this]
theorem g_bad {zs : List Int} {p s : Nat} {e : Int} (h : e ≠ 0) : gV zs p e s = 0 ∧ gP zs p e s = p ∧ gE zs p e s = e := by simp [gV, gP, gE, h]
end Go.Proofs.Ytcbigopfmiiadaa.Pack
