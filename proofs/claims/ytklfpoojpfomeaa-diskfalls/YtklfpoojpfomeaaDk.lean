/-
  Plain: a disk with writes that wait (layer 14), in the document's own form; what its promises say of it. It names no program.
-/
namespace Go.Proofs.Ytklfpoojpfomeaa.Key
set_option linter.unusedVariables false

/-- A write: where, what. -/
structure Wr where
  ix : Int
  b : List UInt8

/-- How many blocks; what is kept; what waits; whether it is down; how often it fell; a fuse (below 0: none). -/
structure Dk where
  n : Int
  kept : List Wr
  waits : List Wr
  down : Bool
  falls : Int
  fuse : Int

/-- A block's bytes. -/
def wholeD (b : List UInt8) : List UInt8 := (b ++ List.replicate 2048 0).take 2048

theorem wholeD_len (b : List UInt8) : (wholeD b).length = 2048 := by
  unfold wholeD
  rw [List.length_take, List.length_append, List.length_replicate]
  omega

/-- What was written last there, of a row. -/
def lastD : List Wr → Int → List UInt8 → List UInt8
  | [], _, s => s
  | w :: l, k, s => lastD l k (if w.ix = k then w.b else s)

theorem lastD_append (l m : List Wr) (k : Int) (s : List UInt8) : lastD (l ++ m) k s = lastD m k (lastD l k s) := by
  induction l generalizing s with
  | nil => rfl
  | cons w l ih => exact ih _

theorem lastD_snoc (l : List Wr) (w : Wr) (k : Int) (s : List UInt8) : lastD (l ++ [w]) k s = if w.ix = k then w.b else lastD l k s := by
  rw [lastD_append]; rfl

theorem lastD_none (l : List Wr) (k : Int) (s : List UInt8) (h : ∀ w ∈ l, w.ix ≠ k) : lastD l k s = s := by
  induction l generalizing s with
  | nil => rfl
  | cons w l ih =>
    rw [lastD, if_neg (h w (by simp))]
    exact ih s fun x hx => h x (by simp [hx])

/-- It is what was there, or what one of the row's writes there has. -/
theorem lastD_or (l : List Wr) (k : Int) (s : List UInt8) : lastD l k s = s ∨ ∃ w ∈ l, w.ix = k ∧ lastD l k s = w.b := by
  induction l generalizing s with
  | nil => exact .inl rfl
  | cons w l ih =>
    by_cases h : w.ix = k
    · rw [lastD, if_pos h]
      rcases ih w.b with h1 | ⟨x, hx, h1, h2⟩
      · exact .inr ⟨w, by simp, h, h1⟩
      · exact .inr ⟨x, by simp [hx], h1, h2⟩
    · rw [lastD, if_neg h]
      rcases ih s with h1 | ⟨x, hx, h1, h2⟩
      · exact .inl h1
      · exact .inr ⟨x, by simp [hx], h1, h2⟩

/-- The bytes; the error's number. -/
def readD (d : Dk) (k : Int) : List UInt8 × Int :=
  if d.down = true then ([], 17) else if k < 0 ∨ d.n ≤ k then ([], 6) else (lastD d.waits k (lastD d.kept k (wholeD [])), 0)

/-- It goes down. -/
def fallD (d : Dk) : Dk := if d.down = true then d else { d with down := true, falls := d.falls + 1 }

/-- What waits besides, and the fuse burnt. -/
def waitD (d : Dk) (k : Int) (b : List UInt8) : Dk := { d with waits := d.waits ++ [⟨k, wholeD b⟩] }

/-- The error's number, and the disk behind it. -/
def writeD (d : Dk) (k : Int) (b : List UInt8) : Int × Dk :=
  if d.down = true then (17, d)
  else if k < 0 ∨ d.n ≤ k then (6, d)
  else if 2048 < b.length then (4, d)
  else if d.fuse = 0 then (17, fallD (waitD d k b))
  else if 0 < d.fuse then (0, { waitD d k b with fuse := d.fuse - 1 })
  else (0, waitD d k b)

/-- Into what is kept. -/
def putD (l : List Wr) (w : Wr) : List Wr := l.filter (fun x => decide (x.ix ≠ w.ix)) ++ [w]

theorem lastD_filter (l : List Wr) (j k : Int) (h : j ≠ k) (s : List UInt8) : lastD (l.filter fun x => decide (x.ix ≠ j)) k s = lastD l k s := by
  induction l generalizing s with
  | nil => rfl
  | cons w l ih =>
    by_cases hw : w.ix = j
    · rw [List.filter_cons_of_neg (by simp [hw]), ih, lastD, if_neg (by omega)]
    · rw [List.filter_cons_of_pos (by simp [hw]), lastD, lastD, ih]

theorem lastD_put (l : List Wr) (w : Wr) (k : Int) (s : List UInt8) : lastD (putD l w) k s = if w.ix = k then w.b else lastD l k s := by
  rw [putD, lastD_snoc]
  by_cases h : w.ix = k
  · rw [if_pos h, if_pos h]
  · rw [if_neg h, if_neg h, lastD_filter l w.ix k h]

theorem lastD_puts (m l : List Wr) (k : Int) (s : List UInt8) : lastD (m.foldl putD l) k s = lastD m k (lastD l k s) := by
  induction m generalizing l with
  | nil => rfl
  | cons w m ih =>
    rw [List.foldl_cons, ih, lastD_put, lastD]

/-- All is kept. -/
def barrierD (d : Dk) : Dk := { d with kept := d.waits.foldl putD d.kept, waits := [] }

/-- One write that waits, of number i, as it comes back. -/
def comesD (keep : List Bool) (torn : Int) (n : Nat) (l : List Wr) (i : Nat) (w : Wr) : List Wr :=
  if (i : Int) = torn then putD l ⟨w.ix, w.b.take n ++ (lastD l w.ix (wholeD [])).drop n⟩
  else if keep[i]?.getD false = true then putD l w
  else l

/-- The writes from number i on. -/
def comesAllD (keep : List Bool) (torn : Int) (n : Nat) : List Wr → Nat → List Wr → List Wr
  | l, _, [] => l
  | l, i, w :: m => comesAllD keep torn n (comesD keep torn n l i w) (i + 1) m

theorem comesAllD_snoc (keep : List Bool) (torn : Int) (n : Nat) (m : List Wr) (w : Wr) (l : List Wr) (i : Nat) :
    comesAllD keep torn n l i (m ++ [w]) = comesD keep torn n (comesAllD keep torn n l i m) (i + m.length) w := by
  induction m generalizing l i with
  | nil => rfl
  | cons x m ih =>
    rw [List.cons_append, comesAllD, ih, comesAllD, List.length_cons]
    congr 1
    omega

/-- By how many bytes. -/
def byD (a : Int) : Nat := (min (max a 0) 2048).toNat

/-- It comes back. -/
def backD (d : Dk) (keep : List Bool) (torn a : Int) : Dk :=
  { fallD d with kept := comesAllD keep torn (byD a) d.kept 0 d.waits, waits := [], fuse := -1, down := false }

theorem backD_falls (d : Dk) (keep : List Bool) (torn a : Int) : (backD d keep torn a).falls = if d.down = true then d.falls else d.falls + 1 := by
  unfold backD fallD
  by_cases h : d.down = true
  · simp [h]
  · simp [h]

theorem backD_n (d : Dk) (keep : List Bool) (torn a : Int) : (backD d keep torn a).n = d.n := by
  unfold backD fallD
  by_cases h : d.down = true
  · simp [h]
  · simp [h]

/-! P14.2 -/

/-- What is kept at k is x, and nothing that waits is for k. -/
def Keeps (d : Dk) (k : Int) (x : List UInt8) : Prop := lastD d.kept k (wholeD []) = x ∧ ∀ w ∈ d.waits, w.ix ≠ k

theorem Keeps.fall {d : Dk} {k : Int} {x : List UInt8} (h : Keeps d k x) : Keeps (fallD d) k x := by
  unfold fallD
  by_cases hd : d.down = true
  · rw [if_pos hd]; exact h
  · rw [if_neg hd]; exact h

theorem Keeps.fuse {d : Dk} {k : Int} {x : List UInt8} (h : Keeps d k x) (f : Int) : Keeps { d with fuse := f } k x := h

theorem Keeps.write {d : Dk} {k : Int} {x : List UInt8} (h : Keeps d k x) (j : Int) (b : List UInt8) (hj : j ≠ k) : Keeps (writeD d j b).2 k x := by
  have hw : Keeps (waitD d j b) k x := ⟨h.1, fun w hw => by
    simp only [waitD, List.mem_append, List.mem_singleton] at hw
    rcases hw with hw | rfl
    · exact h.2 w hw
    · exact hj⟩
  unfold writeD
  repeat' split
  · exact h
  · exact h
  · exact h
  · exact hw.fall
  · exact hw
  · exact hw

theorem Keeps.barrier {d : Dk} {k : Int} {x : List UInt8} (h : Keeps d k x) : Keeps (barrierD d) k x :=
  ⟨by
    show lastD (d.waits.foldl putD d.kept) k (wholeD []) = x
    rw [lastD_puts, h.1, lastD_none _ _ _ h.2], by intro w hw; simp [barrierD] at hw⟩

theorem comesD_other (keep : List Bool) (torn : Int) (n : Nat) (l : List Wr) (i : Nat) (w : Wr) (k : Int) (h : w.ix ≠ k) (s : List UInt8) : lastD (comesD keep torn n l i w) k s = lastD l k s := by
  unfold comesD
  repeat' split
  · rw [lastD_put, if_neg (by exact h)]
  · rw [lastD_put, if_neg h]
  · rfl

theorem comesAllD_other (keep : List Bool) (torn : Int) (n : Nat) (m : List Wr) (k : Int) (h : ∀ w ∈ m, w.ix ≠ k) (s : List UInt8) (l : List Wr) (i : Nat) : lastD (comesAllD keep torn n l i m) k s = lastD l k s := by
  induction m generalizing l i with
  | nil => rfl
  | cons w m ih =>
    rw [comesAllD, ih (fun x hx => h x (by simp [hx])), comesD_other _ _ _ _ _ _ _ (h w (by simp))]

theorem Keeps.back {d : Dk} {k : Int} {x : List UInt8} (h : Keeps d k x) (keep : List Bool) (torn a : Int) : Keeps (backD d keep torn a) k x :=
  ⟨by
    show lastD (comesAllD keep torn (byD a) d.kept 0 d.waits) k (wholeD []) = x
    rw [comesAllD_other keep torn (byD a) d.waits k h.2, h.1], by intro w hw; simp [backD] at hw⟩

theorem Keeps.read {d : Dk} {k : Int} {x : List UInt8} (h : Keeps d k x) (hd : d.down = false) (h0 : 0 ≤ k) (h1 : k < d.n) : readD d k = (x, 0) := by
  unfold readD
  rw [if_neg (by rw [hd]; decide), if_neg (by omega), h.1, lastD_none _ _ _ h.2]

/-- A write and a barrier, and it is kept. -/
theorem keeps_new (d : Dk) (k : Int) (b : List UInt8) : Keeps (barrierD (waitD d k b)) k (wholeD b) :=
  ⟨by
    show lastD ((d.waits ++ [(⟨k, wholeD b⟩ : Wr)]).foldl putD d.kept) k (wholeD []) = wholeD b
    rw [lastD_puts, lastD_snoc, if_pos rfl], by intro w hw; simp [barrierD] at hw⟩

/-! P14.3 -/

/-- All writes are of whole blocks. -/
def Whl (l : List Wr) : Prop := ∀ w ∈ l, w.b.length = 2048

theorem Whl.last {l : List Wr} (h : Whl l) (k : Int) {s : List UInt8} (hs : s.length = 2048) : (lastD l k s).length = 2048 := by
  rcases lastD_or l k s with h1 | ⟨w, hw, _, h1⟩
  · rw [h1]; exact hs
  · rw [h1]; exact h w hw

theorem Whl.put {l : List Wr} (h : Whl l) {w : Wr} (hw : w.b.length = 2048) : Whl (putD l w) := by
  intro x hx
  simp only [putD, List.mem_append, List.mem_filter, List.mem_singleton] at hx
  rcases hx with ⟨hx, _⟩ | rfl
  · exact h x hx
  · exact hw

theorem Whl.comes {l : List Wr} (h : Whl l) (keep : List Bool) (torn : Int) {n : Nat} (hn : n ≤ 2048) (i : Nat) {w : Wr} (hw : w.b.length = 2048) : Whl (comesD keep torn n l i w) := by
  unfold comesD
  repeat' split
  · refine h.put ?_
    have := h.last w.ix (wholeD_len [])
    simp only [List.length_append, List.length_take, List.length_drop]
    omega
  · exact h.put hw
  · exact h

theorem Whl.comesAll {m : List Wr} (hm : Whl m) (keep : List Bool) (torn : Int) {n : Nat} (hn : n ≤ 2048) {l : List Wr} (h : Whl l) (i : Nat) : Whl (comesAllD keep torn n l i m) := by
  induction m generalizing l i with
  | nil => exact h
  | cons w m ih => exact ih (fun x hx => hm x (by simp [hx])) (h.comes keep torn hn i (hm w (by simp))) _

theorem Whl.puts {m l : List Wr} (hm : Whl m) (h : Whl l) : Whl (m.foldl putD l) := by
  induction m generalizing l with
  | nil => exact h
  | cons w m ih => exact ih (fun x hx => hm x (by simp [hx])) (h.put (hm w (by simp)))

/-- A disk's writes are of whole blocks. -/
def Dk.Ok (d : Dk) : Prop := Whl d.kept ∧ Whl d.waits

theorem Dk.Ok.fall {d : Dk} (h : d.Ok) : (fallD d).Ok := by
  unfold fallD
  by_cases hd : d.down = true
  · rw [if_pos hd]; exact h
  · rw [if_neg hd]; exact h

theorem Dk.Ok.write {d : Dk} (h : d.Ok) (k : Int) (b : List UInt8) : (writeD d k b).2.Ok := by
  have hw : (waitD d k b).Ok := ⟨h.1, fun w hw => by
    simp only [waitD, List.mem_append, List.mem_singleton] at hw
    rcases hw with hw | rfl
    · exact h.2 w hw
    · exact wholeD_len b⟩
  unfold writeD
  repeat' split
  · exact h
  · exact h
  · exact h
  · exact hw.fall
  · exact hw
  · exact hw

theorem Dk.Ok.barrier {d : Dk} (h : d.Ok) : (barrierD d).Ok := ⟨h.2.puts h.1, by intro w hw; simp [barrierD] at hw⟩

theorem byD_le (a : Int) : byD a ≤ 2048 := by unfold byD; omega

theorem Dk.Ok.back {d : Dk} (h : d.Ok) (keep : List Bool) (torn a : Int) : (backD d keep torn a).Ok :=
  ⟨h.2.comesAll keep torn (byD_le a) h.1 0, by intro w hw; simp [backD] at hw⟩

/-- What was there, or one of the first i writes there. -/
def OldD (m : List Wr) (k : Int) (old v : List UInt8) : Prop := v = old ∨ ∃ w ∈ m, w.ix = k ∧ v = w.b

/-- Number t of the writes, there, torn: behind its first n bytes what was there by then. -/
def TornD (m : List Wr) (k : Int) (t : Int) (n : Nat) (old v : List UInt8) : Prop :=
  ∃ (i : Nat) (w : Wr) (u : List UInt8), m[i]? = some w ∧ (i : Int) = t ∧ w.ix = k ∧ OldD m k old u ∧ v = w.b.take n ++ u.drop n

theorem OldD.more {m : List Wr} {k : Int} {old v : List UInt8} (h : OldD m k old v) (x : Wr) : OldD (m ++ [x]) k old v := by
  rcases h with h | ⟨w, hw, h1, h2⟩
  · exact .inl h
  · exact .inr ⟨w, by simp [hw], h1, h2⟩

theorem TornD.more {m : List Wr} {k t : Int} {n : Nat} {old v : List UInt8} (h : TornD m k t n old v) (x : Wr) : TornD (m ++ [x]) k t n old v := by
  obtain ⟨i, w, u, h1, h2, h3, h4, h5⟩ := h
  refine ⟨i, w, u, ?_, h2, h3, h4.more x, h5⟩
  rw [List.getElem?_append_left (List.getElem?_eq_some_iff.1 h1).1]
  exact h1

/-- Behind a fall each block has what it had at the barrier, or what was written into it since, or one such write torn. -/
theorem comes_falls (keep : List Bool) (t : Int) (n : Nat) (l : List Wr) (k : Int) (m : List Wr) :
    (OldD m k (lastD l k (wholeD [])) (lastD (comesAllD keep t n l 0 m) k (wholeD []))) ∨ (t < m.length ∧ TornD m k t n (lastD l k (wholeD [])) (lastD (comesAllD keep t n l 0 m) k (wholeD []))) := by
  generalize hold : lastD l k (wholeD []) = old
  -- by the row's end
  suffices H : ∀ r (m : List Wr), m.length = r → (OldD m k old (lastD (comesAllD keep t n l 0 m) k (wholeD []))) ∨ (t < m.length ∧ TornD m k t n old (lastD (comesAllD keep t n l 0 m) k (wholeD []))) from H _ m rfl
  intro r
  induction r with
  | zero =>
    intro m hm
    obtain rfl := List.eq_nil_of_length_eq_zero hm
    exact .inl (.inl hold)
  | succ r ih =>
    intro m hm
    obtain ⟨q, x, rfl⟩ : ∃ q x, m = q ++ [x] := by
      rcases List.eq_nil_or_concat m with rfl | ⟨q, x, rfl⟩
      · simp at hm
      · exact ⟨q, x, by simp⟩
    have hq : q.length = r := by simp at hm; omega
    rw [comesAllD_snoc, Nat.zero_add]
    have H := ih q hq
    generalize comesAllD keep t n l 0 q = c at *
    by_cases hx : x.ix = k
    · unfold comesD
      by_cases ht : (q.length : Int) = t
      · rw [if_pos ht, lastD_put, if_pos (by exact hx)]
        refine .inr ⟨by simp; omega, q.length, x, lastD c k (wholeD []), by simp, ht, hx, ?_, by rw [hx]⟩
        rcases H with H | ⟨H, _⟩
        · exact H.more x
        · omega
      · rw [if_neg ht]
        by_cases hk : keep[q.length]?.getD false = true
        · rw [if_pos hk, lastD_put, if_pos hx]
          exact .inl (.inr ⟨x, by simp, hx, rfl⟩)
        · rw [if_neg hk]
          rcases H with H | ⟨h1, H⟩
          · exact .inl (H.more x)
          · exact .inr ⟨by simp; omega, H.more x⟩
    · rw [comesD_other _ _ _ _ _ _ _ hx]
      rcases H with H | ⟨h1, H⟩
      · exact .inl (H.more x)
      · exact .inr ⟨by simp; omega, H.more x⟩

theorem back_falls (d : Dk) (keep : List Bool) (t a : Int) (k : Int) :
    OldD d.waits k (lastD d.kept k (wholeD [])) (lastD (backD d keep t a).kept k (wholeD [])) ∨ TornD d.waits k t (byD a) (lastD d.kept k (wholeD [])) (lastD (backD d keep t a).kept k (wholeD [])) := by
  rcases comes_falls keep t (byD a) d.kept k d.waits with h | ⟨_, h⟩
  · exact .inl h
  · exact .inr h

/-- How many writes wait, and how often it fell: at most one more a step. -/
theorem write_waits (d : Dk) (k : Int) (b : List UInt8) : (writeD d k b).2.waits.length ≤ d.waits.length + 1 ∧ (writeD d k b).2.falls ≤ d.falls + 1 ∧ (writeD d k b).2.n = d.n := by
  unfold writeD
  repeat' split
  · simp; omega
  · simp; omega
  · simp; omega
  · unfold fallD waitD
    split
    · simp; omega
    · simp
  · simp [waitD]; omega
  · simp [waitD]; omega

/-- Bounds that hold of every write that waits, or is kept. -/
def InD (d : Dk) : Prop := (∀ w ∈ d.kept, 0 ≤ w.ix ∧ w.ix < d.n) ∧ ∀ w ∈ d.waits, 0 ≤ w.ix ∧ w.ix < d.n
end Go.Proofs.Ytklfpoojpfomeaa.Key
