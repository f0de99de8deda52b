/-
  Plain: sums, what is marked, what fits, bytes spoilt (stage 1's). It names no program.
-/
import Derived.WalkKit
import Derived.Laws.BitsAllLaws
namespace Go.Proofs.Ytcbigopfmiiadaa.Crc

def sh (r : Nat) : Nat := if r % 2 = 1 then r / 2 ^^^ 2197175160 else r / 2
def shN : Nat → Nat → Nat
  | 0, r => r
  | k + 1, r => sh (shN k r)
def feed (r x : Nat) : Nat := shN 8 (r ^^^ x)
def rowOf (r : Nat) (zs : List Int) : Nat := zs.foldl (fun r z => feed r z.toNat) r
def more (s : Nat) (zs : List Int) : Nat := 4294967295 - rowOf (4294967295 - s) zs
def Byt (zs : List Int) : Prop := ∀ z ∈ zs, 0 ≤ z ∧ z ≤ 255
/-- a sum's four bytes, the lowest first -/
def le (s : Nat) : List Int := [((s % 256 : Nat) : Int), ((s / 256 % 256 : Nat) : Int), ((s / 65536 % 256 : Nat) : Int), ((s / 16777216 % 256 : Nat) : Int)]

theorem xor_lt {a b : Nat} (ha : a < 4294967296) (hb : b < 4294967296) : a ^^^ b < 4294967296 :=
  Nat.xor_lt_two_pow (n := 32) ha hb
theorem sh_lt {r : Nat} (h : r < 4294967296) : sh r < 4294967296 := by
  unfold sh
  split
  · exact xor_lt (by omega) (by omega)
  · omega
theorem shN_lt (k : Nat) {r : Nat} (h : r < 4294967296) : shN k r < 4294967296 := by
  induction k with
  | zero => exact h
  | succ k ih => exact sh_lt ih
theorem feed_lt {r x : Nat} (h : r < 4294967296) (hx : x < 4294967296) : feed r x < 4294967296 := shN_lt 8 (xor_lt h hx)

theorem sh_xor (a b : Nat) : sh (a ^^^ b) = sh a ^^^ sh b := by
  unfold sh
  have h2 : (a ^^^ b) / 2 = a / 2 ^^^ b / 2 := Nat.xor_div_two
  rcases Nat.mod_two_eq_zero_or_one a with ha | ha <;> rcases Nat.mod_two_eq_zero_or_one b with hb | hb
  · have h1 : ¬ (a ^^^ b) % 2 = 1 := by rw [Nat.xor_mod_two_eq_one]; omega
    simp [ha, hb, h1, h2]
  · have h1 : (a ^^^ b) % 2 = 1 := by rw [Nat.xor_mod_two_eq_one]; omega
    simp [ha, hb, h1, h2, Nat.xor_assoc]
  · have h1 : (a ^^^ b) % 2 = 1 := by rw [Nat.xor_mod_two_eq_one]; omega
    have e : a / 2 ^^^ b / 2 ^^^ 2197175160 = a / 2 ^^^ 2197175160 ^^^ b / 2 := by rw [Nat.xor_assoc, Nat.xor_comm (b / 2), Nat.xor_assoc]
    simp [ha, hb, h1, h2, e]
  · have h1 : ¬ (a ^^^ b) % 2 = 1 := by rw [Nat.xor_mod_two_eq_one]; omega
    have e : a / 2 ^^^ 2197175160 ^^^ (b / 2 ^^^ 2197175160) = a / 2 ^^^ b / 2 := by
      rw [Nat.xor_assoc, Nat.xor_comm (b / 2), ← Nat.xor_assoc 2197175160, Nat.xor_self, Nat.zero_xor]
    simp [ha, hb, h1, h2, e]
theorem shN_xor (k a b : Nat) : shN k (a ^^^ b) = shN k a ^^^ shN k b := by
  induction k with
  | zero => rfl
  | succ k ih => simp only [shN, ih, sh_xor]
theorem shN_add (j k r : Nat) : shN (j + k) r = shN j (shN k r) := by
  induction j with
  | zero => simp [shN]
  | succ j ih => rw [Nat.succ_add]; simp only [shN, ih]
theorem sh_even (m : Nat) : sh (2 * m) = m := by
  unfold sh
  rw [if_neg (by omega)]; omega
theorem shN_pow (k m : Nat) : shN k (2 ^ k * m) = m := by
  induction k generalizing m with
  | zero => simp [shN]
  | succ k ih =>
    have e : 2 ^ (k + 1) * m = 2 ^ k * (2 * m) := by rw [Nat.pow_succ, Nat.mul_assoc]
    rw [e]; simp only [shN]; rw [ih, sh_even]
theorem split_xor (k c : Nat) : c = c % 2 ^ k ^^^ 2 ^ k * (c / 2 ^ k) := by
  have h := Nat.two_pow_add_eq_or_of_lt (i := k) (b := c % 2 ^ k) (Nat.mod_lt _ (Nat.two_pow_pos k)) (c / 2 ^ k)
  apply Nat.eq_of_testBit_eq
  intro i
  rw [Nat.testBit_xor, Nat.testBit_mod_two_pow, Nat.testBit_two_pow_mul, Nat.testBit_div_two_pow]
  by_cases hi : i < k
  · have : ¬ k ≤ i := by omega
    simp [hi, this]
  · have h2 : k ≤ i := by omega
    simp [hi, h2]
/-- the bits of c beyond k may be put on the row behind k shifts -/
theorem shN_low (k r c : Nat) : shN k (r ^^^ c) = shN k (r ^^^ c % 2 ^ k) ^^^ c / 2 ^ k := by
  have e : r ^^^ c = (r ^^^ c % 2 ^ k) ^^^ 2 ^ k * (c / 2 ^ k) := by rw [Nat.xor_assoc, ← split_xor]
  rw [e, shN_xor, shN_pow]
theorem sh_low (r c : Nat) : sh (r ^^^ c) = sh (r ^^^ c % 2) ^^^ c / 2 := shN_low 1 r c

theorem sh_inj {a b : Nat} (ha : a < 4294967296) (hb : b < 4294967296) (h : sh a = sh b) : a = b := by
  have top : ∀ r, r < 4294967296 → (sh r).testBit 31 = decide (r % 2 = 1) := by
    intro r hr
    have hd : (r / 2).testBit 31 = false := Nat.testBit_lt_two_pow (by omega)
    have hp : (2197175160 : Nat).testBit 31 = true := by decide
    unfold sh
    by_cases h1 : r % 2 = 1
    · simp [h1, Nat.testBit_xor, hd, hp]
    · simp [h1, hd]
  have t1 := top a ha
  have t2 := top b hb
  rw [h, t2] at t1
  have hm : (a % 2 = 1) ↔ (b % 2 = 1) := by simpa [eq_comm] using t1
  unfold sh at h
  by_cases h1 : a % 2 = 1
  · have h2 := hm.1 h1
    rw [if_pos h1, if_pos h2] at h
    have h3 := congrArg (fun x => x ^^^ 2197175160) h
    simp only [Nat.xor_assoc, Nat.xor_self, Nat.xor_zero] at h3
    omega
  · have h2 : ¬ b % 2 = 1 := fun x => h1 (hm.2 x)
    rw [if_neg h1, if_neg h2] at h
    omega
theorem shN_inj (k : Nat) {a b : Nat} (ha : a < 4294967296) (hb : b < 4294967296) (h : shN k a = shN k b) : a = b := by
  induction k with
  | zero => exact h
  | succ k ih => exact ih (sh_inj (shN_lt k ha) (shN_lt k hb) h)
theorem shN_zero (k : Nat) : shN k 0 = 0 := by
  induction k with
  | zero => rfl
  | succ k ih => simp [shN, ih, sh]

theorem not_xor {r : Nat} (h : r < 4294967296) : 4294967295 ^^^ r = 4294967295 - r := by
  have e := BitVec.toNat_not (x := BitVec.ofNat 32 r)
  rw [← BitVec.allOnes_xor, BitVec.toNat_xor, BitVec.toNat_allOnes, BitVec.toNat_ofNat, Nat.mod_eq_of_lt (by omega)] at e
  simpa using e

theorem rowOf_nil (r : Nat) : rowOf r [] = r := rfl
theorem rowOf_append (r : Nat) (xs ys : List Int) : rowOf r (xs ++ ys) = rowOf (rowOf r xs) ys := by simp [rowOf]
theorem rowOf_cons (r : Nat) (x : Int) (ys : List Int) : rowOf r (x :: ys) = rowOf (feed r x.toNat) ys := by simp [rowOf]
theorem Byt.cons {x : Int} {xs : List Int} (h : Byt (x :: xs)) : (0 ≤ x ∧ x ≤ 255) ∧ Byt xs := ⟨h x (by simp), fun z hz => h z (by simp [hz])⟩
theorem Byt.append {xs ys : List Int} (h : Byt xs) (h' : Byt ys) : Byt (xs ++ ys) := fun z hz => by
  rcases List.mem_append.1 hz with a | a
  · exact h z a
  · exact h' z a
theorem Byt.of_append {xs ys : List Int} (h : Byt (xs ++ ys)) : Byt xs ∧ Byt ys := ⟨fun z hz => h z (by simp [hz]), fun z hz => h z (by simp [hz])⟩
theorem Byt.take {xs : List Int} (h : Byt xs) (k : Nat) : Byt (xs.take k) := fun z hz => h z (List.mem_of_mem_take hz)
theorem rowOf_lt (zs : List Int) : ∀ {r : Nat}, r < 4294967296 → Byt zs → rowOf r zs < 4294967296 := by
  induction zs with
  | nil => intro r h _; exact h
  | cons z zs ih => intro r h hb; rw [rowOf_cons]; exact ih (feed_lt h (by have := hb.cons.1; omega)) hb.cons.2
theorem more_lt (s : Nat) (zs : List Int) : more s zs < 4294967296 := by unfold more; omega
theorem byt_le (s : Nat) : Byt (le s) := by
  intro z hz
  simp only [le, List.mem_cons, List.not_mem_nil, or_false] at hz
  rcases hz with rfl | rfl | rfl | rfl <;> omega

theorem rowOf_inj (zs : List Int) : ∀ {a b : Nat}, a < 4294967296 → b < 4294967296 → Byt zs → rowOf a zs = rowOf b zs → a = b := by
  induction zs with
  | nil => intro a b _ _ _ h; exact h
  | cons z zs ih =>
    intro a b ha hb hz h
    rw [rowOf_cons, rowOf_cons] at h
    have hx : z.toNat < 4294967296 := by have := hz.cons.1; omega
    have h1 := ih (feed_lt ha hx) (feed_lt hb hx) hz.cons.2 h
    have h2 := shN_inj 8 (xor_lt ha hx) (xor_lt hb hx) h1
    have h3 := congrArg (fun y => y ^^^ z.toNat) h2
    simpa only [Nat.xor_assoc, Nat.xor_self, Nat.xor_zero] using h3

/-- a word's four bytes put the word on the row -/
theorem rowOf_le (r s : Nat) (hs : s < 4294967296) : rowOf r (le s) = shN 32 (r ^^^ s) := by
  have e1 : shN 32 (r ^^^ s) = shN 8 (shN 8 (shN 8 (shN 8 (r ^^^ s)))) := by
    rw [← shN_add, ← shN_add, ← shN_add]
  have l := fun r c => shN_low 8 r c
  simp only [show (2 : Nat) ^ 8 = 256 from rfl] at l
  have d1 : s / 256 / 256 = s / 65536 := by omega
  have d2 : s / 65536 / 256 = s / 16777216 := by omega
  have d3 : s / 16777216 / 256 = 0 := by omega
  rw [e1, l r s, l _ (s / 256), d1, l _ (s / 65536), d2, l _ (s / 16777216), d3, Nat.xor_zero]
  simp only [rowOf, le, feed, List.foldl_cons, List.foldl_nil, Int.toNat_natCast]

theorem more_more (s : Nat) (xs ys : List Int) (hs : s < 4294967296) (hx : Byt xs) : more (more s xs) ys = more s (xs ++ ys) := by
  unfold more
  rw [rowOf_append]
  have := rowOf_lt xs (r := 4294967295 - s) (by omega) hx
  rw [show 4294967295 - (4294967295 - rowOf (4294967295 - s) xs) = rowOf (4294967295 - s) xs from by omega]

/-- whatever is marked, the sum of all is the same -/
theorem ends (zs : List Int) (hz : Byt zs) : more 0 (zs ++ le (more 0 zs)) = more 0 [0, 0, 0, 0] := by
  have hr := rowOf_lt zs (r := 4294967295) (by omega) hz
  have hm : more 0 zs = 4294967295 - rowOf 4294967295 zs := rfl
  have e1 : rowOf 4294967295 (zs ++ le (more 0 zs)) = shN 32 4294967295 := by
    rw [rowOf_append, rowOf_le _ _ (more_lt _ _), hm, ← not_xor hr]
    rw [Nat.xor_comm 4294967295, ← Nat.xor_assoc, Nat.xor_self, Nat.zero_xor]
  have e2 : rowOf 4294967295 [0, 0, 0, 0] = shN 32 4294967295 := by
    have := rowOf_le 4294967295 0 (by omega)
    simpa [le] using this
  show 4294967295 - rowOf 4294967295 (zs ++ le (more 0 zs)) = 4294967295 - rowOf 4294967295 [0, 0, 0, 0]
  rw [e1, e2]

theorem feed_xor (r d x e : Nat) : feed (r ^^^ d) (x ^^^ e) = feed r x ^^^ feed d e := by
  unfold feed
  rw [← shN_xor]
  congr 1
  rw [Nat.xor_assoc, Nat.xor_assoc, ← Nat.xor_assoc d, Nat.xor_comm d x, Nat.xor_assoc]

/-- bytes spoilt within four -/
def spoilt (a b c d : Int) (by_ : Nat) : List Int :=
  [((a.toNat ^^^ by_ % 256 : Nat) : Int), ((b.toNat ^^^ by_ / 256 % 256 : Nat) : Int), ((c.toNat ^^^ by_ / 65536 % 256 : Nat) : Int), ((d.toNat ^^^ by_ / 16777216 % 256 : Nat) : Int)]
theorem row_spoilt (r : Nat) (a b c d : Int) (y : Nat) (hy : y < 4294967296) : rowOf r (spoilt a b c d y) = rowOf r [a, b, c, d] ^^^ shN 32 y := by
  have h := rowOf_le 0 y hy
  rw [Nat.zero_xor] at h
  rw [← h]
  simp only [rowOf, spoilt, le, List.foldl_cons, List.foldl_nil, Int.toNat_natCast]
  rw [← feed_xor, ← feed_xor, ← feed_xor, ← feed_xor, Nat.xor_zero]
theorem byt_spoilt {a b c d : Int} (h : Byt [a, b, c, d]) (y : Nat) : Byt (spoilt a b c d y) := by
  have x8 : ∀ p q : Nat, p < 256 → q < 256 → p ^^^ q < 256 := fun p q hp hq => Nat.xor_lt_two_pow (n := 8) hp hq
  have ha := h a (by simp)
  have hb := h b (by simp)
  have hc := h c (by simp)
  have hd := h d (by simp)
  intro z hz
  simp only [spoilt, List.mem_cons, List.not_mem_nil, or_false] at hz
  rcases hz with rfl | rfl | rfl | rfl
  · have := x8 a.toNat (y % 256) (by omega) (by omega); omega
  · have := x8 b.toNat (y / 256 % 256) (by omega) (by omega); omega
  · have := x8 c.toNat (y / 65536 % 256) (by omega) (by omega); omega
  · have := x8 d.toNat (y / 16777216 % 256) (by omega) (by omega); omega
theorem spoils (p q : List Int) (a b c d : Int) (y : Nat) (hy : y < 4294967296) (hy0 : y ≠ 0) (hp : Byt p) (hq : Byt q) (hm : Byt [a, b, c, d]) :
    more 0 (p ++ spoilt a b c d y ++ q) ≠ more 0 (p ++ [a, b, c, d] ++ q) := by
  intro h
  unfold more at h
  have hpr := rowOf_lt p (r := 4294967295) (by omega) hp
  have hs := byt_spoilt hm y
  have b1 := rowOf_lt (p ++ spoilt a b c d y ++ q) (r := 4294967295) (by omega) ((hp.append hs).append hq)
  have b2 := rowOf_lt (p ++ [a, b, c, d] ++ q) (r := 4294967295) (by omega) ((hp.append hm).append hq)
  have h1 : rowOf 4294967295 (p ++ spoilt a b c d y ++ q) = rowOf 4294967295 (p ++ [a, b, c, d] ++ q) := by
    simp only [Nat.sub_zero] at h
    omega
  rw [rowOf_append, rowOf_append, rowOf_append, rowOf_append] at h1
  have h2 := rowOf_inj q (rowOf_lt _ hpr hs) (rowOf_lt _ hpr hm) hq h1
  rw [row_spoilt _ _ _ _ _ _ hy] at h2
  have h3 := congrArg (fun x => rowOf (rowOf 4294967295 p) [a, b, c, d] ^^^ x) h2
  simp only [← Nat.xor_assoc, Nat.xor_self, Nat.zero_xor] at h3
  exact hy0 (shN_inj 32 hy (by omega) (h3.trans (shN_zero 32).symm))

theorem byt_getD {zs : List Int} (h : Byt zs) (k : Nat) : 0 ≤ zs.getD k 0 ∧ zs.getD k 0 ≤ 255 := by
  by_cases hk : k < zs.length
  · simp only [List.getD, List.getElem?_eq_getElem hk, Option.getD_some]
    exact h _ (List.getElem_mem hk)
  · simp [List.getD, List.getElem?_eq_none (Nat.le_of_not_lt hk)]
theorem four (zs : List Int) (m : Nat) (h : zs.length = m + 4) : ∃ p c0 c1 c2 c3, zs = p ++ [c0, c1, c2, c3] ∧ p.length = m := by
  refine ⟨zs.take m, zs.getD m 0, zs.getD (m + 1) 0, zs.getD (m + 2) 0, zs.getD (m + 3) 0, ?_, by simp; omega⟩
  apply List.ext_getElem
  · simp; omega
  · intro i h1 h2
    by_cases hi : i < m
    · rw [List.getElem_append_left (by simp; omega)]; simp
    · rw [List.getElem_append_right (by simp; omega)]
      have e : (zs.take m).length = m := by simp; omega
      have : i = m ∨ i = m + 1 ∨ i = m + 2 ∨ i = m + 3 := by omega
      rcases this with rfl | rfl | rfl | rfl <;> simp [e, List.getD, List.getElem?_eq_getElem h1]
/-- whether bytes end with their sum -/
def fitsB (zs : List Int) : Bool := decide (4 ≤ zs.length) && decide (zs.drop (zs.length - 4) = le (more 0 (zs.take (zs.length - 4))))
theorem fitsB_four (p : List Int) (c0 c1 c2 c3 : Int) : fitsB (p ++ [c0, c1, c2, c3]) = decide ([c0, c1, c2, c3] = le (more 0 p)) := by
  have e : (p ++ [c0, c1, c2, c3]).length - 4 = p.length := by simp
  unfold fitsB
  rw [e]
  simp
def spl (zs : List Int) (k y : Nat) : Nat → List Int
  | 0 => zs
  | j + 1 => (spl zs k y j).set (k + j) ((((spl zs k y j).getD (k + j) 0).toNat ^^^ y / 256 ^ j % 256 : Nat) : Int)
theorem spl_length (zs : List Int) (k y j : Nat) : (spl zs k y j).length = zs.length := by
  induction j with
  | zero => rfl
  | succ j ih => simp [spl, ih]
theorem xor_u8_lt {a b : Nat} (ha : a < 256) (hb : b < 256) : a ^^^ b < 256 := Nat.xor_lt_two_pow (n := 8) ha hb
theorem spl_byt (zs : List Int) (k y j : Nat) (hz : Byt zs) : Byt (spl zs k y j) := by
  induction j with
  | zero => exact hz
  | succ j ih =>
    intro z h
    rcases List.mem_or_eq_of_mem_set h with h | h
    · exact ih z h
    · subst h
      have := byt_getD ih (k + j)
      have := xor_u8_lt (a := ((spl zs k y j).getD (k + j) 0).toNat) (b := y / 256 ^ j % 256) (by omega) (by omega)
      omega
theorem set_past (p r : List Int) (i : Nat) (v : Int) : (p ++ r).set (p.length + i) v = p ++ r.set i v := by
  rw [List.set_append_right _ _ (by omega), Nat.add_sub_cancel_left]
theorem get_past (p r : List Int) (i : Nat) : (p ++ r).getD (p.length + i) 0 = r.getD i 0 := by
  simp only [List.getD]
  rw [List.getElem?_append_right (by omega), Nat.add_sub_cancel_left]
theorem spl_four (p q : List Int) (x0 x1 x2 x3 : Int) (y : Nat) : spl (p ++ ([x0, x1, x2, x3] ++ q)) p.length y 4 = p ++ (spoilt x0 x1 x2 x3 y ++ q) := by
  simp only [spl, set_past, get_past]
  simp [spoilt]
theorem parted (zs : List Int) (k : Nat) (h : k + 4 ≤ zs.length) : ∃ p x0 x1 x2 x3 q, zs = p ++ ([x0, x1, x2, x3] ++ q) ∧ p.length = k := by
  obtain ⟨p, x0, x1, x2, x3, e, hp⟩ := four (zs.take (k + 4)) k (by simp; omega)
  refine ⟨p, x0, x1, x2, x3, zs.drop (k + 4), ?_, hp⟩
  rw [← List.append_assoc, ← e, List.take_append_drop]
/-- spoilt bytes have another sum -/
theorem spl_sum (zs : List Int) (k y : Nat) (h : k + 4 ≤ zs.length) (hz : Byt zs) (hy : y < 4294967296) (hy0 : y ≠ 0) : more 0 (spl zs k y 4) ≠ more 0 zs := by
  obtain ⟨p, x0, x1, x2, x3, q, rfl, rfl⟩ := parted zs k h
  rw [spl_four, ← List.append_assoc, ← List.append_assoc]
  rw [← List.append_assoc] at hz
  exact spoils p q x0 x1 x2 x3 y hy hy0 hz.of_append.1.of_append.1 hz.of_append.2 hz.of_append.1.of_append.2
/-- spoilt within what is marked -/
theorem spl_append (zs ys : List Int) (k y j : Nat) (h : k + j ≤ zs.length) : spl (zs ++ ys) k y j = spl zs k y j ++ ys := by
  induction j with
  | zero => rfl
  | succ j ih =>
    have hl := spl_length zs k y j
    simp only [spl]
    rw [ih (by omega), List.set_append_left _ _ (by omega)]
    have e : (spl zs k y j ++ ys).getD (k + j) 0 = (spl zs k y j).getD (k + j) 0 := by
      simp only [List.getD]
      rw [List.getElem?_append_left (by omega)]
    rw [e]
/-- marked bytes spoilt so don't fit -/
theorem spl_fits (zs : List Int) (k y : Nat) (h : k + 4 ≤ zs.length) (hz : Byt zs) (hy : y < 4294967296) (hy0 : y ≠ 0) : fitsB (spl (zs ++ le (more 0 zs)) k y 4) = false := by
  rw [spl_append _ _ _ _ _ h]
  have hs := spl_sum zs k y h hz hy hy0
  have l1 := more_lt 0 (spl zs k y 4)
  have l2 := more_lt 0 zs
  generalize spl zs k y 4 = c at *
  generalize more 0 zs = s at *
  rw [show le s = [((s % 256 : Nat) : Int), ((s / 256 % 256 : Nat) : Int), ((s / 65536 % 256 : Nat) : Int), ((s / 16777216 % 256 : Nat) : Int)] from rfl, fitsB_four, decide_eq_false_iff_not]
  generalize more 0 c = r at *
  unfold le
  simp only [List.cons.injEq, and_true]
  omega
theorem pow_div (y j : Nat) : y / 256 ^ j / 256 = y / 256 ^ (j + 1) := by rw [Nat.div_div_eq_div_mul, Nat.pow_succ]
end Go.Proofs.Ytcbigopfmiiadaa.Crc
