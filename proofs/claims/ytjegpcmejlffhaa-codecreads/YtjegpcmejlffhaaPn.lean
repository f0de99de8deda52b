/-
  Plain: how a node is written as bytes, and how it is read from them: 'wN', 'getN', and their parts. No program is named here.
  Plain: what is read without an error is written as it stood; what is written is read as it was; a beginning of it is too short. No program is named here.
  Plain: a beginning of what is read without an error is too short. No program is named here.
  Plain: what is written is read as it was, and fits into a block. No program is named here.
  Plain: a message, by its Kind. No program is named here.
  Plain: the numbers of what is read are those of their kinds. No program is named here.
-/
import Derived.Test.YtjegpcmejlffhaaPk
import Derived.Test.YtjegpcmejlffhaaMayN
namespace Go.Proofs.Ytjegpcmejlffhaa.Cod
set_option linter.unusedSimpArgs false
set_option linter.unusedVariables false
open Pack (be txt nums Byt gV gP gE tN tS tP tE endE failE)
open Key (M E Pr Nd mayI)

/-- an edge's writing, a message's, a pair's, a node's -/
def wE (e : E) : List Int := be 4 e.blk.toNat ++ (be 2 e.deep.toNat ++ (txt e.strip ++ txt e.add))
def wT (m : M) : List Int := if m.kind = 1 then txt m.val else if m.kind = 3 then be 4 m.blk.toNat ++ (be 2 m.deep.toNat ++ txt m.add) else []
def wM (m : M) : List Int := be 1 m.kind.toNat ++ (txt m.key ++ wT m)
def wP (p : Pr) : List Int := txt p.key ++ txt p.val
def wLeaf (n : Nd) : List Int := be 1 1 ++ (be 1 n.ps.length ++ n.ps.flatMap wP)
def wFork (n : Nd) : List Int := be 1 2 ++ (be 1 n.ks.length ++ (n.ks.flatMap wE ++ (n.pv.flatMap txt ++ (be 1 n.bf.length ++ n.bf.flatMap wM))))
def wN (n : Nd) : List Int := if n.leaf then wLeaf n else wFork n

/-- a reader's place and error -/
structure St where
  p : Nat
  e : Int
def rNum (k : Nat) (zs : List Int) (s : St) : Nat × St := (gV zs s.p s.e k, ⟨gP zs s.p s.e k, gE zs s.p s.e k⟩)
def rTxt (most : Int) (zs : List Int) (s : St) : ByteArray × St := (tS zs s.p s.e most, ⟨tP zs s.p s.e most, tE zs s.p s.e most⟩)
def failS (x : Int) (s : St) : St := ⟨s.p, failE s.e x⟩
def rFail {α : Type} (x : Int) (v : α) (_ : List Int) (s : St) : α × St := (v, failS x s)
def rPure {α : Type} (v : α) (_ : List Int) (s : St) : α × St := (v, s)
/-- one behind the other -/
def bnd {α β : Type} (f : List Int → St → α × St) (g : α → List Int → St → β × St) (zs : List Int) (s : St) : β × St := g (f zs s).1 zs (f zs s).2
def rCount (most : Nat) : List Int → St → Nat × St := bnd (rNum 1) fun n => if most < n then rFail 13 0 else rPure n
def rP : List Int → St → Pr × St := bnd (rTxt 16) fun k => bnd (rTxt 32) fun v => rPure ⟨k, v⟩
def rE : List Int → St → E × St := bnd (rNum 4) fun b => bnd (rNum 2) fun d => bnd (rTxt 16) fun t => bnd (rTxt 16) fun a => rPure ⟨b, d, t, a⟩
/-- what stands behind a message's key -/
def rT (q : Nat) (k : ByteArray) : List Int → St → M × St :=
  if q = 1 then bnd (rTxt 32) fun v => rPure ⟨1, k, v, 0, 0, ⟨#[]⟩⟩
  else if q = 3 then bnd (rNum 4) fun b => bnd (rNum 2) fun d => bnd (rTxt 16) fun a => rPure ⟨3, k, ⟨#[]⟩, b, d, a⟩
  else rPure ⟨q, k, ⟨#[]⟩, 0, 0, ⟨#[]⟩⟩
def rK (q : Nat) : List Int → St → Unit × St := if q < 1 ∨ 3 < q then rFail 7 () else rPure ()
/-- a message, as the program takes it .. -/
def rM : List Int → St → M × St := bnd (rNum 1) fun q => bnd (rK q) fun _ => bnd (rTxt 16) fun k => rT q k
/-- .. and as the document does -/
def zeroM : M := ⟨0, ⟨#[]⟩, ⟨#[]⟩, 0, 0, ⟨#[]⟩⟩
def rM' : List Int → St → M × St := bnd (rNum 1) fun q => if q < 1 ∨ 3 < q then rFail 7 zeroM else bnd (rTxt 16) fun k => rT q k
/-- so many of them -/
def rMany {α : Type} (f : List Int → St → α × St) : Nat → List Int → St → List α × St
  | 0, _, s => ([], s)
  | j + 1, zs, s => ((rMany f j zs s).1 ++ [(f zs (rMany f j zs s).2).1], (f zs (rMany f j zs s).2).2)
def rPairs : List Int → St → List Pr × St := bnd (rCount 16) fun c => rMany rP c
def rZero (c : Nat) : List Int → St → Unit × St := if c = 0 then rFail 3 () else rPure ()
def rKids : List Int → St → List E × St := bnd (rCount 8) fun c => bnd (rZero c) fun _ => rMany rE c
def rBuf (f : List Int → St → M × St) : List Int → St → List M × St := bnd (rCount 16) fun c => rMany f c
def rFork (f : List Int → St → M × St) : List Int → St → Nd × St := bnd rKids fun k => bnd (rMany (rTxt 16) (k.length - 1)) fun p => bnd (rBuf f) fun b => rPure ⟨false, [], p, k, b⟩
def zeroN : Nd := ⟨false, [], [], [], []⟩
def rSort (f : List Int → St → M × St) (q : Nat) : List Int → St → Nd × St := if q = 1 then bnd rPairs fun l => rPure ⟨true, l, [], [], []⟩ else if q = 2 then rFork f else rFail 7 zeroN
def rN (f : List Int → St → M × St) : List Int → St → Nd × St := bnd (rNum 1) (rSort f)
/-- what Get answers, of a node that is read and an error -/
def says (n : Nd) (e : Int) : Nd × Int := if e ≠ 0 then (zeroN, e) else if mayI n ≠ 0 then (zeroN, 3) else (n, 0)
def getN (f : List Int → St → M × St) (zs : List Int) : Nd × Int := says (rN f zs ⟨0, 0⟩).1 (endE zs.length (rN f zs ⟨0, 0⟩).2.p (rN f zs ⟨0, 0⟩).2.e)

/-! ## An error stays -/
def Stk {α : Type} (f : List Int → St → α × St) : Prop := ∀ zs s, s.e ≠ 0 → (f zs s).2 = s
theorem stk_num (k : Nat) : Stk (rNum k) := fun zs s h => by
  obtain ⟨_, h2, h3⟩ := Pack.g_bad (zs := zs) (p := s.p) (s := k) h
  simp only [rNum, h2, h3]
theorem stk_txt (m : Int) : Stk (rTxt m) := fun zs s h => by
  obtain ⟨_, h2, h3⟩ := Pack.t_bad (zs := zs) (p := s.p) (most := m) h
  simp only [rTxt, h2, h3]
theorem stk_fail {α : Type} (x : Int) (v : α) : Stk (rFail x v) := fun zs s h => by simp only [rFail, failS, failE, if_neg h]
theorem stk_pure {α : Type} (v : α) : Stk (rPure v) := fun _ _ _ => rfl
theorem Stk.bnd {α β : Type} {f : List Int → St → α × St} {g : α → List Int → St → β × St} (hf : Stk f) (hg : ∀ x, Stk (g x)) : Stk (bnd f g) := fun zs s h => by
  have h1 := hf zs s h
  show (g _ zs (f zs s).2).2 = s
  rw [h1]
  exact hg _ zs s h
theorem Stk.many {α : Type} {f : List Int → St → α × St} (hf : Stk f) : ∀ j, Stk (rMany f j)
  | 0 => fun _ _ _ => rfl
  | j + 1 => fun zs s h => by
    have h1 := Stk.many hf j zs s h
    show (f zs (rMany f j zs s).2).2 = s
    rw [h1]
    exact hf zs s h
theorem stk_count (m : Nat) : Stk (rCount m) := (stk_num 1).bnd fun n => by
  split
  · exact stk_fail _ _
  · exact stk_pure _
theorem stk_P : Stk rP := (stk_txt _).bnd fun _ => (stk_txt _).bnd fun _ => stk_pure _
theorem stk_E : Stk rE := (stk_num _).bnd fun _ => (stk_num _).bnd fun _ => (stk_txt _).bnd fun _ => (stk_txt _).bnd fun _ => stk_pure _
theorem stk_T (q : Nat) (k : ByteArray) : Stk (rT q k) := by
  unfold rT
  split
  · exact (stk_txt _).bnd fun _ => stk_pure _
  · split
    · exact (stk_num _).bnd fun _ => (stk_num _).bnd fun _ => (stk_txt _).bnd fun _ => stk_pure _
    · exact stk_pure _
theorem stk_K (q : Nat) : Stk (rK q) := by
  unfold rK
  split
  · exact stk_fail _ _
  · exact stk_pure _
theorem stk_M : Stk rM := (stk_num _).bnd fun _ => (stk_K _).bnd fun _ => (stk_txt _).bnd fun _ => stk_T _ _
theorem stk_M' : Stk rM' := (stk_num _).bnd fun _ => by
  split
  · exact stk_fail _ _
  · exact (stk_txt _).bnd fun _ => stk_T _ _
theorem stk_Z (c : Nat) : Stk (rZero c) := by
  unfold rZero
  split
  · exact stk_fail _ _
  · exact stk_pure _
theorem stk_kids : Stk rKids := (stk_count _).bnd fun _ => (stk_Z _).bnd fun _ => stk_E.many _
theorem stk_fork {f : List Int → St → M × St} (hf : Stk f) : Stk (rFork f) := stk_kids.bnd fun _ => ((stk_txt _).many _).bnd fun _ => ((stk_count _).bnd fun _ => hf.many _).bnd fun _ => stk_pure _
theorem stk_sort {f : List Int → St → M × St} (hf : Stk f) (q : Nat) : Stk (rSort f q) := by
  unfold rSort
  split
  · exact ((stk_count _).bnd fun _ => stk_P.many _).bnd fun _ => stk_pure _
  · split
    · exact stk_fork hf
    · exact stk_fail _ _
theorem Stk.zero {α : Type} {f : List Int → St → α × St} (hf : Stk f) {zs : List Int} {s : St} (h : (f zs s).2.e = 0) : s.e = 0 := by
  by_cases h0 : s.e = 0
  · exact h0
  · rw [hf zs s h0] at h
    exact absurd h h0

/-! ## The program's messages and the document's -/
/-- the same place and error; the same answer, where there is no error -/
def Alike {α : Type} (f g : List Int → St → α × St) : Prop := ∀ zs s, (f zs s).2 = (g zs s).2 ∧ ((f zs s).2.e = 0 → f zs s = g zs s)
theorem Alike.refl {α : Type} (f : List Int → St → α × St) : Alike f f := fun _ _ => ⟨rfl, fun _ => rfl⟩
theorem Alike.bnd {α β : Type} {f : List Int → St → α × St} {g h : α → List Int → St → β × St} (hg : ∀ x, Alike (g x) (h x)) : Alike (bnd f g) (bnd f h) := fun zs s => hg _ zs _
theorem fail_ne {x e : Int} (h : x ≠ 0) : failE e x ≠ 0 := by
  unfold failE
  split
  · exact h
  · assumption
theorem alike_M : Alike rM rM' := Alike.bnd fun q zs s => by
  unfold rK
  by_cases hq : q < 1 ∨ 3 < q
  · rw [if_pos hq, if_pos hq]
    have h1 : (failS 7 s).e ≠ 0 := fail_ne (by decide)
    have h2 : (Cod.bnd (rFail 7 ()) (fun _ => Cod.bnd (rTxt 16) fun k => rT q k) zs s).2 = failS 7 s := ((stk_txt 16).bnd fun k => stk_T q k) zs (failS 7 s) h1
    refine ⟨h2, fun h => ?_⟩
    rw [h2] at h
    exact absurd h h1
  · rw [if_neg hq, if_neg hq]
    exact ⟨rfl, fun _ => rfl⟩
theorem Alike.many {α : Type} {f g : List Int → St → α × St} (h : Alike f g) (hf : Stk f) : ∀ j, Alike (rMany f j) (rMany g j)
  | 0 => fun _ _ => ⟨rfl, fun _ => rfl⟩
  | j + 1 => fun zs s => by
    obtain ⟨h1, h2⟩ := Alike.many h hf j zs s
    obtain ⟨k1, k2⟩ := h zs (rMany f j zs s).2
    refine ⟨by show (f zs (rMany f j zs s).2).2 = (g zs (rMany g j zs s).2).2; rw [← h1]; exact k1, fun h0 => ?_⟩
    have h0' : (f zs (rMany f j zs s).2).2.e = 0 := h0
    have e0 := hf.zero h0'
    have := h2 e0
    show ((rMany f j zs s).1 ++ [(f zs (rMany f j zs s).2).1], (f zs (rMany f j zs s).2).2) = ((rMany g j zs s).1 ++ [(g zs (rMany g j zs s).2).1], (g zs (rMany g j zs s).2).2)
    rw [← this, k2 h0']
theorem alike_buf : Alike (rBuf rM) (rBuf rM') := Alike.bnd fun c => alike_M.many stk_M c
theorem alike_fork : Alike (rFork rM) (rFork rM') := Alike.bnd fun k => Alike.bnd fun p zs s => by
  obtain ⟨h1, h2⟩ := alike_buf zs s
  exact ⟨h1, fun h => by show (_, _) = (_, _); rw [h2 h]⟩
theorem alike_N : Alike (rN rM) (rN rM') := Alike.bnd fun q => by
  unfold rSort
  split
  · exact Alike.refl _
  · split
    · exact alike_fork
    · exact Alike.refl _
theorem end_zero {n p : Nat} {e : Int} (h : endE n p e = 0) : e = 0 ∧ n ≤ p := by
  unfold endE at h
  split at h
  · cases h
  · rename_i h1
    subst h
    exact ⟨rfl, by omega⟩
theorem getN_alike (zs : List Int) : getN rM' zs = getN rM zs := by
  obtain ⟨h1, h2⟩ := alike_N zs ⟨0, 0⟩
  unfold getN
  rw [← h1]
  by_cases h : endE zs.length (rN rM zs ⟨0, 0⟩).2.p (rN rM zs ⟨0, 0⟩).2.e = 0
  · rw [h2 (end_zero h).1]
  · simp only [says, if_pos h]
end Go.Proofs.Ytjegpcmejlffhaa.Cod

namespace Go.Proofs.Ytjegpcmejlffhaa.Cod
set_option linter.unusedSimpArgs false
set_option linter.unusedVariables false
open Pack (be val txt nums Byt gV gP gE tN tS tP tE endE failE)
open Key (M E Pr Nd mayI)

/-! ## What is read is written as it stood -/
theorem be_val : ∀ (k : Nat) (zs : List Int), zs.length = k → Byt zs → be k (val zs) = zs
  | 0, zs, h, _ => by rw [List.eq_nil_of_length_eq_zero h]; rfl
  | k + 1, zs, h, hz => by
    have e := Pack.take_snoc zs k (by omega)
    rw [List.take_of_length_le (by omega)] at e
    have hb := Pack.byt_getD hz k
    have ih := be_val k (zs.take k) (by simp; omega) (hz.take k)
    generalize zs.getD k 0 = x at *
    generalize zs.take k = ys at *
    subst e
    rw [Pack.val_snoc]
    simp only [be]
    rw [show (256 * val ys + x.toNat) / 256 = val ys by omega, ih, show (((256 * val ys + x.toNat) % 256 : Nat) : Int) = x by omega]
theorem nums_str : ∀ (zs : List Int), Byt zs → nums (strOfNums zs) = zs := by
  intro zs hz
  have h : (strOfNums zs).data.toList = zs.map fun n => UInt8.ofNat n.toNat := by simp [strOfNums]
  rw [nums, h, List.map_map]
  conv => rhs; rw [← List.map_id zs]
  refine List.map_congr_left fun z hzz => ?_
  have := hz z hzz
  simp [Nat.mod_eq_of_lt (show z.toNat < 256 by omega)]
  omega
/-- from s to s' stands ws, and there is no error -/
structure Sound (zs ws : List Int) (s s' : St) : Prop where
  e : s.e = 0
  e' : s'.e = 0
  d : zs.drop s.p = ws ++ zs.drop s'.p
  l : s'.p = s.p + ws.length
  le : s'.p ≤ zs.length
theorem Sound.trans {zs a b : List Int} {s s1 s2 : St} (h : Sound zs a s s1) (k : Sound zs b s1 s2) : Sound zs (a ++ b) s s2 :=
  ⟨h.e, k.e', by rw [h.d, k.d, List.append_assoc], by rw [k.l, h.l, List.length_append]; omega, k.le⟩
theorem Sound.nil {zs : List Int} {s : St} (h : s.e = 0) (hp : s.p ≤ zs.length) : Sound zs [] s s := ⟨h, h, rfl, rfl, hp⟩
theorem drop_split (zs : List Int) (p k : Nat) : zs.drop p = (zs.drop p).take k ++ zs.drop (p + k) := by
  rw [← List.drop_drop, List.take_append_drop]
theorem sound_num {zs : List Int} {k : Nat} {s : St} (hz : Byt zs) (h : (rNum k zs s).2.e = 0) : Sound zs (be k (rNum k zs s).1) s (rNum k zs s).2 := by
  have h0 := (stk_num k).zero h
  obtain ⟨p, e⟩ := s
  dsimp only at h0
  subst h0
  by_cases hl : p + k ≤ zs.length
  · obtain ⟨g1, g2, g3⟩ := Pack.g_ok hl
    simp only [rNum, g1, g2, g3]
    have hlen : ((zs.drop p).take k).length = k := by simp; omega
    rw [be_val k _ hlen ((hz.drop p).take k)]
    exact ⟨rfl, rfl, drop_split zs p k, by simp; omega, hl⟩
  · obtain ⟨_, _, g3⟩ := Pack.g_short (zs := zs) (p := p) (s := k) (by omega)
    simp only [rNum, g3] at h
    cases h
theorem sound_txt {zs : List Int} {m : Int} {s : St} (hz : Byt zs) (h : (rTxt m zs s).2.e = 0) : Sound zs (txt (rTxt m zs s).1) s (rTxt m zs s).2 ∧ ((rTxt m zs s).1.size : Int) ≤ max m 0 := by
  have h0 := (stk_txt m).zero h
  obtain ⟨p, e⟩ := s
  dsimp only at h0
  subst h0
  by_cases h1 : p + 1 ≤ zs.length
  case neg =>
    obtain ⟨_, _, g3⟩ := Pack.t_none (most := m) h1
    simp only [rTxt, g3] at h
    cases h
  by_cases h2 : (tN zs p : Int) ≤ max m 0
  case neg =>
    obtain ⟨_, _, g3⟩ := Pack.t_long (zs := zs) (p := p) (most := m) h1 (by omega)
    simp only [rTxt, g3] at h
    cases h
  by_cases h3 : p + 1 + tN zs p ≤ zs.length
  case neg =>
    obtain ⟨_, _, g3⟩ := Pack.t_short (most := m) h1 h2 h3
    simp only [rTxt, g3] at h
    cases h
  obtain ⟨g1, g2, g3⟩ := Pack.t_ok h1 h2 h3
  simp only [rTxt, g1, g2, g3]
  obtain ⟨hN, hN'⟩ := Pack.tN_le hz p
  have hy : Byt ((zs.drop (p + 1)).take (tN zs p)) := (hz.drop _).take _
  have hl : ((zs.drop (p + 1)).take (tN zs p)).length = tN zs p := by simp; omega
  have hs : (strOfNums ((zs.drop (p + 1)).take (tN zs p))).size = tN zs p := by rw [← Pack.nums_length, nums_str _ hy, hl]
  have hw : txt (strOfNums ((zs.drop (p + 1)).take (tN zs p))) = zs.getD p 0 :: (zs.drop (p + 1)).take (tN zs p) := by
    rw [Pack.txt_short _ (by omega), hs, nums_str _ hy, hN]
  refine ⟨⟨rfl, rfl, ?_, ?_, h3⟩, by rw [hs]; exact h2⟩
  · rw [hw]
    have e1 := drop_split zs p 1
    rw [Pack.head_of zs p h1] at e1
    rw [e1, List.singleton_append, List.cons_append]
    exact congrArg _ (drop_split zs (p + 1) (tN zs p))
  · rw [hw, List.length_cons, hl]
    show p + 1 + tN zs p = p + (tN zs p + 1)
    omega
theorem fail_no {x : Int} {s : St} (hx : x ≠ 0) (h : (failS x s).e = 0) : False := fail_ne hx h
theorem sound_count {zs : List Int} {m : Nat} {s : St} (hz : Byt zs) (h : (rCount m zs s).2.e = 0) : Sound zs (be 1 (rCount m zs s).1) s (rCount m zs s).2 ∧ (rCount m zs s).1 ≤ m := by
  unfold rCount bnd at h ⊢
  dsimp only at h ⊢
  split at h
  · exact (fail_no (by decide) h).elim
  · rename_i hn
    rw [if_neg hn]
    exact ⟨sound_num hz h, by show (rNum 1 zs s).1 ≤ m; omega⟩
theorem sound_P {zs : List Int} {s : St} (hz : Byt zs) (h : (rP zs s).2.e = 0) : Sound zs (wP (rP zs s).1) s (rP zs s).2 := by
  have h1 : (rTxt 32 zs (rTxt 16 zs s).2).2.e = 0 := h
  have h2 := (stk_txt 32).zero h1
  exact (sound_txt hz h2).1.trans (sound_txt hz h1).1
theorem toNat_cast (n : Nat) : ((n : Nat) : Int).toNat = n := by omega
theorem sound_E {zs : List Int} {s : St} (hz : Byt zs) (h : (rE zs s).2.e = 0) : Sound zs (wE (rE zs s).1) s (rE zs s).2 := by
  have h1 : (rTxt 16 zs (rTxt 16 zs (rNum 2 zs (rNum 4 zs s).2).2).2).2.e = 0 := h
  have h2 := (stk_txt 16).zero h1
  have h3 := (stk_txt 16).zero h2
  have h4 := (stk_num 2).zero h3
  have := (sound_num hz h4).trans ((sound_num hz h3).trans ((sound_txt hz h2).1.trans (sound_txt hz h1).1))
  exact this
theorem sound_T {zs : List Int} {s : St} {q : Nat} {k : ByteArray} (hz : Byt zs) (hp : s.p ≤ zs.length) (h : (rT q k zs s).2.e = 0) : Sound zs (wT (rT q k zs s).1) s (rT q k zs s).2 ∧ (rT q k zs s).1.kind = (q : Int) ∧ (rT q k zs s).1.key = k := by
  unfold rT at h ⊢
  by_cases h1 : q = 1
  · subst h1
    rw [if_pos rfl] at h ⊢
    exact ⟨(sound_txt (s := s) (m := 32) hz h).1, rfl, rfl⟩
  · rw [if_neg h1] at h ⊢
    by_cases h3 : q = 3
    · subst h3
      rw [if_pos rfl] at h ⊢
      have k1 : (rTxt 16 zs (rNum 2 zs (rNum 4 zs s).2).2).2.e = 0 := h
      have k2 := (stk_txt 16).zero k1
      have k3 := (stk_num 2).zero k2
      exact ⟨(sound_num hz k3).trans ((sound_num hz k2).trans (sound_txt hz k1).1), rfl, rfl⟩
    · rw [if_neg h3] at h ⊢
      refine ⟨?_, rfl, rfl⟩
      have e : wT (rPure (⟨q, k, ⟨#[]⟩, 0, 0, ⟨#[]⟩⟩ : M) zs s).1 = [] := by
        unfold wT
        rw [if_neg (by simp [rPure]; omega), if_neg (by simp [rPure]; omega)]
      rw [e]
      exact Sound.nil h hp
theorem sound_M {zs : List Int} {s : St} (hz : Byt zs) (h : (rM zs s).2.e = 0) : Sound zs (wM (rM zs s).1) s (rM zs s).2 := by
  have a1 : (rT (rNum 1 zs s).1 (rTxt 16 zs (rK (rNum 1 zs s).1 zs (rNum 1 zs s).2).2).1 zs (rTxt 16 zs (rK (rNum 1 zs s).1 zs (rNum 1 zs s).2).2).2).2.e = 0 := h
  have a2 := (stk_T _ _).zero a1
  have a3 := (stk_txt 16).zero a2
  have a4 : (rK (rNum 1 zs s).1 zs (rNum 1 zs s).2).2 = (rNum 1 zs s).2 := by
    unfold rK at a3 ⊢
    by_cases hq : (rNum 1 zs s).1 < 1 ∨ 3 < (rNum 1 zs s).1
    · rw [if_pos hq] at a3
      exact (fail_no (by decide) a3).elim
    · rw [if_neg hq]
      rfl
  have hM : rM zs s = rT (rNum 1 zs s).1 (rTxt 16 zs (rNum 1 zs s).2).1 zs (rTxt 16 zs (rNum 1 zs s).2).2 := by
    show rT (rNum 1 zs s).1 (rTxt 16 zs (rK (rNum 1 zs s).1 zs (rNum 1 zs s).2).2).1 zs (rTxt 16 zs (rK (rNum 1 zs s).1 zs (rNum 1 zs s).2).2).2 = _
    rw [a4]
  rw [a4] at a1 a2 a3
  have s1 := sound_num hz a3
  have s2 := (sound_txt hz a2).1
  obtain ⟨s3, k1, k2⟩ := sound_T hz s2.le a1
  rw [← hM] at s3 k1 k2
  unfold wM
  rw [k1, k2, toNat_cast]
  exact s1.trans (s2.trans s3)
theorem many_len {α : Type} (f : List Int → St → α × St) (zs : List Int) (s : St) : ∀ j, (rMany f j zs s).1.length = j
  | 0 => rfl
  | j + 1 => by show ((rMany f j zs s).1 ++ [_]).length = j + 1; rw [List.length_append, many_len f zs s j]; rfl
theorem sound_many {α : Type} {f : List Int → St → α × St} {w : α → List Int} {zs : List Int} (hs : Stk f) (hf : ∀ s, (f zs s).2.e = 0 → Sound zs (w (f zs s).1) s (f zs s).2) {s : St} (hp : s.p ≤ zs.length) : ∀ j, (rMany f j zs s).2.e = 0 → Sound zs ((rMany f j zs s).1.flatMap w) s (rMany f j zs s).2
  | 0 => fun h => Sound.nil h hp
  | j + 1 => fun h => by
    have h1 : (f zs (rMany f j zs s).2).2.e = 0 := h
    have h2 := hs.zero h1
    have := (sound_many hs hf hp j h2).trans (hf _ h1)
    show Sound zs (((rMany f j zs s).1 ++ [(f zs (rMany f j zs s).2).1]).flatMap w) s (f zs (rMany f j zs s).2).2
    rw [List.flatMap_append, List.flatMap_singleton]
    exact this
/-- a node that is read without an error -/
theorem sound_N {zs : List Int} (hz : Byt zs) (h : (rN rM zs ⟨0, 0⟩).2.e = 0) : Sound zs (wN (rN rM zs ⟨0, 0⟩).1) ⟨0, 0⟩ (rN rM zs ⟨0, 0⟩).2 := by
  have h0 : (rSort rM (rNum 1 zs ⟨0, 0⟩).1 zs (rNum 1 zs ⟨0, 0⟩).2).2.e = 0 := h
  have h1 := (stk_sort stk_M _).zero h0
  have s1 := sound_num hz h1
  have hN : rN rM zs ⟨0, 0⟩ = rSort rM (rNum 1 zs ⟨0, 0⟩).1 zs (rNum 1 zs ⟨0, 0⟩).2 := rfl
  rw [hN]
  generalize (rNum 1 zs ⟨0, 0⟩).1 = q at *
  generalize (rNum 1 zs ⟨0, 0⟩).2 = s at *
  clear h hN
  unfold rSort at h0 ⊢
  by_cases q1 : q = 1
  · subst q1
    rw [if_pos rfl] at h0 ⊢
    have a1 : (rMany rP (rCount 16 zs s).1 zs (rCount 16 zs s).2).2.e = 0 := h0
    have a2 := (stk_P.many _).zero a1
    obtain ⟨c1, c2⟩ := sound_count hz a2
    have m1 := sound_many (w := wP) stk_P (fun s h => sound_P hz h) c1.le _ a1
    have hl := many_len rP zs (rCount 16 zs s).2 (rCount 16 zs s).1
    have := s1.trans (c1.trans m1)
    show Sound zs (wN ⟨true, (rMany rP (rCount 16 zs s).1 zs (rCount 16 zs s).2).1, [], [], []⟩) _ (rMany rP (rCount 16 zs s).1 zs (rCount 16 zs s).2).2
    unfold wN wLeaf
    rw [if_pos rfl]
    dsimp only
    rw [hl]
    exact this
  · rw [if_neg q1] at h0 ⊢
    by_cases q2 : q = 2
    · subst q2
      rw [if_pos rfl] at h0 ⊢
      obtain ⟨K, hK⟩ : ∃ K, rKids zs s = K := ⟨_, rfl⟩
      obtain ⟨P, hP⟩ : ∃ P, rMany (rTxt 16) (K.1.length - 1) zs K.2 = P := ⟨_, rfl⟩
      obtain ⟨b, hb⟩ : ∃ b, rBuf rM zs P.2 = b := ⟨_, rfl⟩
      have hF : rFork rM zs s = (⟨false, [], P.1, K.1, b.1⟩, b.2) := by
        show (⟨_, _⟩ : Nd × St) = _
        rw [hK, hP, hb]
      rw [hF] at h0 ⊢
      dsimp only at h0 ⊢
      subst hb
      have b1 : (rMany rM (rCount 16 zs P.2).1 zs (rCount 16 zs P.2).2).2.e = 0 := h0
      have b2 := (stk_M.many _).zero b1
      obtain ⟨c1, _⟩ := sound_count hz b2
      have m1 := sound_many (w := wM) stk_M (fun s h => sound_M hz h) c1.le _ b1
      have hl := many_len rM zs (rCount 16 zs P.2).2 (rCount 16 zs P.2).1
      subst hP
      have p1 : (rMany (rTxt 16) (K.1.length - 1) zs K.2).2.e = 0 := c1.e
      have p2 := ((stk_txt 16).many _).zero p1
      subst hK
      have k1 : (rMany rE (rCount 8 zs s).1 zs (rZero (rCount 8 zs s).1 zs (rCount 8 zs s).2).2).2.e = 0 := p2
      have k2 := (stk_E.many _).zero k1
      have k3 : (rZero (rCount 8 zs s).1 zs (rCount 8 zs s).2).2 = (rCount 8 zs s).2 := by
        unfold rZero at k2 ⊢
        by_cases hc : (rCount 8 zs s).1 = 0
        · rw [if_pos hc] at k2
          exact (fail_no (by decide) k2).elim
        · rw [if_neg hc]
          rfl
      have hKm : rKids zs s = rMany rE (rCount 8 zs s).1 zs (rCount 8 zs s).2 := by
        show rMany rE (rCount 8 zs s).1 zs (rZero (rCount 8 zs s).1 zs (rCount 8 zs s).2).2 = _
        rw [k3]
      rw [k3] at k1 k2
      obtain ⟨d1, _⟩ := sound_count hz k2
      have n1 := sound_many (w := wE) stk_E (fun s h => sound_E hz h) d1.le _ k1
      have hl2 := many_len rE zs (rCount 8 zs s).2 (rCount 8 zs s).1
      rw [← hKm] at n1 hl2
      have t1 := sound_many (w := txt) (stk_txt 16) (fun s h => (sound_txt hz h).1) n1.le _ p1
      have := s1.trans (d1.trans (n1.trans (t1.trans (c1.trans m1))))
      unfold wN wFork
      rw [if_neg (by intro h; cases h)]
      dsimp only
      rw [show (rBuf rM zs (rMany (rTxt 16) ((rKids zs s).1.length - 1) zs (rKids zs s).2).2) = rMany rM (rCount 16 zs (rMany (rTxt 16) ((rKids zs s).1.length - 1) zs (rKids zs s).2).2).1 zs (rCount 16 zs (rMany (rTxt 16) ((rKids zs s).1.length - 1) zs (rKids zs s).2).2).2 from rfl, hl]
      rw [hl2] at this ⊢
      exact this
    · rw [if_neg q2] at h0
      exact (fail_no (by decide) h0).elim
/-- what is read may be, and is written as it stood -/
theorem getN_sound {zs : List Int} (hz : Byt zs) (h : (getN rM zs).2 = 0) : mayI (getN rM zs).1 = 0 ∧ wN (getN rM zs).1 = zs := by
  unfold getN says at h ⊢
  by_cases h1 : endE zs.length (rN rM zs ⟨0, 0⟩).2.p (rN rM zs ⟨0, 0⟩).2.e = 0
  · rw [if_neg (not_not_intro h1)] at h ⊢
    by_cases h2 : mayI (rN rM zs ⟨0, 0⟩).1 = 0
    · rw [if_neg (not_not_intro h2)]
      refine ⟨h2, ?_⟩
      obtain ⟨e0, hp⟩ := end_zero h1
      have s := sound_N hz e0
      have := s.d
      rw [List.drop_of_length_le hp, List.append_nil] at this
      exact this.symm
    · rw [if_pos h2] at h
      cases h
  · rw [if_pos h1] at h
    exact absurd h h1
end Go.Proofs.Ytjegpcmejlffhaa.Cod

namespace Go.Proofs.Ytjegpcmejlffhaa.Cod
set_option linter.unusedSimpArgs false
set_option linter.unusedVariables false
open Pack (be val txt nums Byt gV gP gE tN tS tP tE endE failE)
open Key (M E Pr Nd mayI)

/-- it never goes back -/
def Mon {α : Type} (f : List Int → St → α × St) : Prop := ∀ zs s, s.p ≤ (f zs s).2.p
theorem mon_num (k : Nat) : Mon (rNum k) := fun zs s => by
  show s.p ≤ gP zs s.p s.e k
  unfold gP
  split <;> omega
theorem mon_txt (m : Int) : Mon (rTxt m) := fun zs s => by
  show s.p ≤ tP zs s.p s.e m
  unfold tP
  split <;> omega
theorem mon_pure {α : Type} (v : α) : Mon (rPure v) := fun _ _ => Nat.le_refl _
theorem mon_fail {α : Type} (x : Int) (v : α) : Mon (rFail x v) := fun _ _ => Nat.le_refl _
theorem Mon.bnd {α β : Type} {f : List Int → St → α × St} {g : α → List Int → St → β × St} (hf : Mon f) (hg : ∀ x, Mon (g x)) : Mon (bnd f g) := fun zs s => Nat.le_trans (hf zs s) (hg _ zs _)
theorem Mon.many {α : Type} {f : List Int → St → α × St} (hf : Mon f) : ∀ j, Mon (rMany f j)
  | 0 => fun _ _ => Nat.le_refl _
  | j + 1 => fun zs s => Nat.le_trans (Mon.many hf j zs s) (hf zs _)
/-- of the first k bytes alone it takes the same, or comes to their end; besides: an error stays, it never goes back -/
structure Pre {α : Type} (f : List Int → St → α × St) : Prop where
  at' : ∀ zs k s, k ≤ zs.length → s.e = 0 → s.p ≤ k → (f zs s).2.e = 0 → ((f zs s).2.p ≤ k ∧ f (zs.take k) s = f zs s) ∨ (k < (f zs s).2.p ∧ (f (zs.take k) s).2.e = 2)
  stk : Stk f
  mon : Mon f
theorem pre_pure {α : Type} (v : α) : Pre (rPure v) := ⟨fun _ _ _ _ _ hp _ => .inl ⟨hp, rfl⟩, stk_pure v, mon_pure v⟩
theorem pre_fail {α : Type} {x : Int} (hx : x ≠ 0) (v : α) : Pre (rFail x v) := ⟨fun _ _ _ _ _ _ h => (fail_no hx h).elim, stk_fail x v, mon_fail x v⟩
theorem Pre.bnd {α β : Type} {f : List Int → St → α × St} {g : α → List Int → St → β × St} (hf : Pre f) (hg : ∀ x, Pre (g x)) : Pre (bnd f g) := ⟨fun zs k s hk he hp h => by
  have h' : (g (f zs s).1 zs (f zs s).2).2.e = 0 := h
  have h0 := (hg _).stk.zero h'
  rcases hf.at' zs k s hk he hp h0 with ⟨h1, h2⟩ | ⟨h1, h2⟩
  · have := (hg (f zs s).1).at' zs k (f zs s).2 hk h0 h1 h'
    show ((g (f zs s).1 zs (f zs s).2).2.p ≤ k ∧ g (f (zs.take k) s).1 (zs.take k) (f (zs.take k) s).2 = g (f zs s).1 zs (f zs s).2) ∨ (k < (g (f zs s).1 zs (f zs s).2).2.p ∧ (g (f (zs.take k) s).1 (zs.take k) (f (zs.take k) s).2).2.e = 2)
    rw [h2]
    exact this
  · refine .inr ⟨Nat.lt_of_lt_of_le h1 ((hg _).mon zs _), ?_⟩
    show (g (f (zs.take k) s).1 (zs.take k) (f (zs.take k) s).2).2.e = 2
    rw [(hg _).stk _ _ (by rw [h2]; decide), h2], hf.stk.bnd fun x => (hg x).stk, hf.mon.bnd fun x => (hg x).mon⟩
theorem Pre.many {α : Type} {f : List Int → St → α × St} (hf : Pre f) : ∀ j, Pre (rMany f j)
  | 0 => pre_pure []
  | j + 1 => (Pre.many hf j).bnd (g := fun l => Cod.bnd f fun x => rPure (l ++ [x])) fun l => hf.bnd fun x => pre_pure _
theorem take_drop_take (zs : List Int) (k p s : Nat) (h : p + s ≤ k) : ((zs.take k).drop p).take s = (zs.drop p).take s := by
  rw [List.drop_take, List.take_take, Nat.min_eq_left (by omega)]
theorem pre_num {k : Nat} (hk0 : 0 < k) : Pre (rNum k) := ⟨fun zs j s hj he hp h => by
  obtain ⟨p, e⟩ := s
  dsimp only at he hp
  subst he
  have hlen : (zs.take j).length = j := by simp; omega
  by_cases hl : p + k ≤ zs.length
  · obtain ⟨g1, g2, g3⟩ := Pack.g_ok hl
    by_cases hk : p + k ≤ j
    · obtain ⟨f1, f2, f3⟩ := Pack.g_ok (zs := zs.take j) (p := p) (s := k) (by omega)
      refine .inl ⟨by simp only [rNum, g2]; exact hk, ?_⟩
      simp only [rNum, g1, g2, g3, f1, f2, f3, take_drop_take zs j p k hk]
    · obtain ⟨f1, f2, f3⟩ := Pack.g_short (zs := zs.take j) (p := p) (s := k) (by omega)
      refine .inr ⟨by simp only [rNum, g2]; omega, ?_⟩
      simp only [rNum, f3]
  · obtain ⟨_, _, g3⟩ := Pack.g_short (zs := zs) (p := p) (s := k) (by omega)
    simp only [rNum, g3] at h
    exact absurd h (by decide), stk_num k, mon_num k⟩
theorem getD_take (zs : List Int) (k p : Nat) (h : p < k) : tN (zs.take k) p = tN zs p := by
  unfold tN
  simp [List.getD, List.getElem?_take, h]
theorem pre_txt (m : Int) : Pre (rTxt m) := ⟨fun zs j s hj he hp h => by
  obtain ⟨p, e⟩ := s
  dsimp only at he hp
  subst he
  have hlen : (zs.take j).length = j := by simp; omega
  by_cases h1 : p + 1 ≤ zs.length
  case neg =>
    obtain ⟨_, _, g3⟩ := Pack.t_none (most := m) h1
    simp only [rTxt, g3] at h
    cases h
  by_cases h2 : (tN zs p : Int) ≤ max m 0
  case neg =>
    obtain ⟨_, _, g3⟩ := Pack.t_long (zs := zs) (p := p) (most := m) h1 (by omega)
    simp only [rTxt, g3] at h
    cases h
  by_cases h3 : p + 1 + tN zs p ≤ zs.length
  case neg =>
    obtain ⟨_, _, g3⟩ := Pack.t_short (most := m) h1 h2 h3
    simp only [rTxt, g3] at h
    cases h
  obtain ⟨g1, g2, g3⟩ := Pack.t_ok h1 h2 h3
  by_cases k1 : p + 1 ≤ j
  case neg =>
    obtain ⟨_, _, f3⟩ := Pack.t_none (zs := zs.take j) (p := p) (most := m) (by omega)
    exact .inr ⟨by simp only [rTxt, g2]; omega, by simp only [rTxt, f3]⟩
  have hN := getD_take zs j p (by omega)
  by_cases k3 : p + 1 + tN zs p ≤ j
  · obtain ⟨f1, f2, f3⟩ := Pack.t_ok (zs := zs.take j) (p := p) (most := m) (by omega) (by rw [hN]; exact h2) (by rw [hN]; omega)
    rw [hN] at f1 f2
    refine .inl ⟨by simp only [rTxt, g2]; exact k3, ?_⟩
    simp only [rTxt, g1, g2, g3, f1, f2, f3, take_drop_take zs j (p + 1) (tN zs p) k3]
  · obtain ⟨_, _, f3⟩ := Pack.t_short (zs := zs.take j) (p := p) (most := m) (by omega) (by rw [hN]; exact h2) (by rw [hN]; omega)
    exact .inr ⟨by simp only [rTxt, g2]; omega, by simp only [rTxt, f3]⟩, stk_txt m, mon_txt m⟩
theorem pre_count (m : Nat) : Pre (rCount m) := (pre_num (by decide)).bnd fun n => by
  split
  · exact pre_fail (by decide) _
  · exact pre_pure _
theorem pre_P : Pre rP := (pre_txt _).bnd fun _ => (pre_txt _).bnd fun _ => pre_pure _
theorem pre_E : Pre rE := (pre_num (by decide)).bnd fun _ => (pre_num (by decide)).bnd fun _ => (pre_txt _).bnd fun _ => (pre_txt _).bnd fun _ => pre_pure _
theorem pre_T (q : Nat) (k : ByteArray) : Pre (rT q k) := by
  unfold rT
  split
  · exact (pre_txt _).bnd fun _ => pre_pure _
  · split
    · exact (pre_num (by decide)).bnd fun _ => (pre_num (by decide)).bnd fun _ => (pre_txt _).bnd fun _ => pre_pure _
    · exact pre_pure _
theorem pre_K (q : Nat) : Pre (rK q) := by
  unfold rK
  split
  · exact pre_fail (by decide) _
  · exact pre_pure _
theorem pre_M : Pre rM := (pre_num (by decide)).bnd fun _ => (pre_K _).bnd fun _ => (pre_txt _).bnd fun _ => pre_T _ _
theorem pre_Z (c : Nat) : Pre (rZero c) := by
  unfold rZero
  split
  · exact pre_fail (by decide) _
  · exact pre_pure _
theorem pre_kids : Pre rKids := (pre_count _).bnd fun _ => (pre_Z _).bnd fun _ => pre_E.many _
theorem pre_fork : Pre (rFork rM) := pre_kids.bnd fun _ => ((pre_txt _).many _).bnd fun _ => ((pre_count _).bnd fun _ => pre_M.many _).bnd fun _ => pre_pure _
theorem pre_sort (q : Nat) : Pre (rSort rM q) := by
  unfold rSort
  split
  · exact ((pre_count _).bnd fun _ => pre_P.many _).bnd fun _ => pre_pure _
  · split
    · exact pre_fork
    · exact pre_fail (by decide) _
theorem pre_N : Pre (rN rM) := (pre_num (by decide)).bnd pre_sort
/-- a beginning of a node's writing is too short -/
theorem getN_begins {zs : List Int} {k : Nat} (h : (getN rM zs).2 = 0) (hk : k < zs.length) : (getN rM (zs.take k)).2 = 2 := by
  have h1 : endE zs.length (rN rM zs ⟨0, 0⟩).2.p (rN rM zs ⟨0, 0⟩).2.e = 0 := by
    by_cases h1 : endE zs.length (rN rM zs ⟨0, 0⟩).2.p (rN rM zs ⟨0, 0⟩).2.e = 0
    · exact h1
    · unfold getN says at h
      rw [if_pos h1] at h
      exact absurd h h1
  obtain ⟨e0, hp⟩ := end_zero h1
  rcases pre_N.at' zs k ⟨0, 0⟩ (by omega) rfl (Nat.zero_le _) e0 with ⟨h2, _⟩ | ⟨_, h2⟩
  · omega
  · have h3 : endE (zs.take k).length (rN rM (zs.take k) ⟨0, 0⟩).2.p (rN rM (zs.take k) ⟨0, 0⟩).2.e = 2 := by
      rw [h2]
      exact if_neg (fun h => absurd h.1 (by decide))
    unfold getN says
    rw [h3, if_pos (by decide)]
end Go.Proofs.Ytjegpcmejlffhaa.Cod

namespace Go.Proofs.Ytjegpcmejlffhaa.Cod
set_option linter.unusedSimpArgs false
set_option linter.unusedVariables false
open Pack (be val txt nums Byt gV gP gE tN tS tP tE endE failE)
open Key (M E Pr Nd mayI)

/-- where x's writing stands, x is taken -/
def Comp {α : Type} (f : List Int → St → α × St) (w : List Int) (x : α) : Prop := ∀ A C, f (A ++ (w ++ C)) ⟨A.length, 0⟩ = (x, ⟨(A ++ w).length, 0⟩)
theorem Comp.bnd {α β : Type} {f : List Int → St → α × St} {g : α → List Int → St → β × St} {a b : List Int} {x : α} {y : β} (hf : Comp f a x) (hg : Comp (g x) b y) : Comp (bnd f g) (a ++ b) y := fun A C => by
  have h1 := hf A (b ++ C)
  have h2 := hg (A ++ a) C
  rw [List.append_assoc A a] at h2
  show g (f (A ++ (a ++ b ++ C)) ⟨A.length, 0⟩).1 _ (f (A ++ (a ++ b ++ C)) ⟨A.length, 0⟩).2 = _
  rw [List.append_assoc a b C, h1, h2, List.append_assoc A a b]
theorem comp_pure {α : Type} (x : α) : Comp (rPure x) [] x := fun A C => by simp [rPure]
theorem Comp.last {α β : Type} {f : List Int → St → α × St} {g : α → β} {a : List Int} {x : α} (hf : Comp f a x) : Comp (Cod.bnd f fun y => rPure (g y)) a (g x) := by
  have := hf.bnd (comp_pure (g x)) (g := fun y => rPure (g y))
  rwa [List.append_nil] at this
theorem comp_num {k n : Nat} (hn : n < 256 ^ k) : Comp (rNum k) (be k n) n := fun A C => by
  obtain ⟨g1, g2, g3⟩ := Pack.g_at A C k n A.length rfl
  show (gV _ _ _ _, (⟨gP _ _ _ _, gE _ _ _ _⟩ : St)) = _
  rw [g1, g2, g3, Nat.mod_eq_of_lt hn, List.length_append, Pack.be_length]
theorem comp_txt {m : Int} {s : ByteArray} (hs : (s.size : Int) ≤ m) (hs' : s.size ≤ 255) : Comp (rTxt m) (txt s) s := fun A C => by
  have hw := Pack.txt_short s hs'
  have hN : tN (A ++ (txt s ++ C)) A.length = s.size := by
    unfold tN
    rw [hw, List.cons_append, Pack.getD_at A _ _ _ rfl]
    simp
  have hl : (A ++ (txt s ++ C)).length = A.length + 1 + s.size + C.length := by rw [hw]; simp [Pack.nums_length]; omega
  obtain ⟨g1, g2, g3⟩ := Pack.t_ok (zs := A ++ (txt s ++ C)) (p := A.length) (most := m) (by omega) (by rw [hN]; omega) (by rw [hN]; omega)
  show (tS _ _ _ _, (⟨tP _ _ _ _, tE _ _ _ _⟩ : St)) = _
  rw [g1, g2, g3, hN]
  have h1 : (A ++ (txt s ++ C)).drop (A.length + 1) = nums s ++ C := by
    rw [hw, List.drop_append]
    simp
  have h2 : (nums s ++ C).take s.size = nums s := by
    have := List.take_left (l₁ := nums s) (l₂ := C)
    rwa [Pack.nums_length] at this
  rw [h1, h2, Pack.str_nums, hw]
  simp [Pack.nums_length]
  omega
theorem comp_count {m n : Nat} (hm : n ≤ m) (hn : n < 256) : Comp (rCount m) (be 1 n) n := by
  have h := (comp_num (k := 1) (n := n) (by omega)).bnd (g := fun n => if m < n then rFail 13 0 else rPure n) (b := []) (y := n) (by rw [if_neg (by omega)]; exact comp_pure n)
  rwa [List.append_nil] at h
theorem comp_P {p : Pr} (h1 : p.key.size ≤ 16) (h2 : p.val.size ≤ 32) : Comp rP (wP p) p :=
  (comp_txt (m := 16) (s := p.key) (by omega) (by omega)).bnd (g := fun k => bnd (rTxt 32) fun v => rPure (⟨k, v⟩ : Pr)) ((comp_txt (m := 32) (s := p.val) (by omega) (by omega)).last)
theorem cast_toNat {z : Int} (h : 0 ≤ z) : ((z.toNat : Nat) : Int) = z := by omega
theorem comp_E {e : E} (b0 : 0 ≤ e.blk) (b1 : e.blk < 4294967296) (d0 : 0 ≤ e.deep) (d1 : e.deep < 65536) (h1 : e.strip.size ≤ 16) (h2 : e.add.size ≤ 16) : Comp rE (wE e) e := by
  have c4 := (comp_txt (m := 16) (s := e.add) (by omega) (by omega)).last (g := fun a => (⟨(e.blk.toNat : Int), (e.deep.toNat : Int), e.strip, a⟩ : E))
  have c3 := (comp_txt (m := 16) (s := e.strip) (by omega) (by omega)).bnd (g := fun t => bnd (rTxt 16) fun a => rPure (⟨(e.blk.toNat : Int), (e.deep.toNat : Int), t, a⟩ : E)) c4
  have c2 := (comp_num (k := 2) (n := e.deep.toNat) (by omega)).bnd (g := fun d : Nat => bnd (rTxt 16) fun t => bnd (rTxt 16) fun a => rPure (⟨(e.blk.toNat : Int), (d : Int), t, a⟩ : E)) c3
  have h := (comp_num (k := 4) (n := e.blk.toNat) (by omega)).bnd (g := fun b : Nat => bnd (rNum 2) fun d : Nat => bnd (rTxt 16) fun t => bnd (rTxt 16) fun a => rPure (⟨(b : Int), (d : Int), t, a⟩ : E)) c2
  rw [cast_toNat b0, cast_toNat d0] at h
  exact h
theorem size_zero {s : ByteArray} (h : s.size = 0) : s = ⟨#[]⟩ := by
  obtain ⟨⟨l⟩⟩ := s
  have : l = [] := List.eq_nil_of_length_eq_zero h
  subst this
  rfl
theorem comp_T {m : M} (h : Key.mayB m = true) (b0 : 0 ≤ m.blk) (b1 : m.blk < 4294967296) (d0 : 0 ≤ m.deep) (d1 : m.deep < 65536) : Comp (rT m.kind.toNat m.key) (wT m) m ∧ 1 ≤ m.kind ∧ m.kind ≤ 3 ∧ m.key.size ≤ 16 := by
  obtain ⟨kd, ky, vl, bk, dp, ad⟩ := m
  simp only [Key.mayB, Bool.and_eq_true, decide_eq_true_eq] at h
  obtain ⟨h1, h2, h3, h4⟩ := h
  dsimp only at *
  by_cases k1 : kd = 1
  · subst k1
    rw [if_pos rfl] at h4
    simp only [Bool.and_eq_true, beq_iff_eq] at h4
    obtain ⟨rfl, rfl, h5⟩ := h4
    have := size_zero h5
    subst this
    refine ⟨?_, by decide, by decide, h1⟩
    exact (comp_txt (m := 32) (s := vl) (by omega) (by omega)).last (g := fun v => (⟨1, ky, v, 0, 0, ⟨#[]⟩⟩ : M))
  · rw [if_neg k1] at h4
    by_cases k2 : kd = 2
    · subst k2
      rw [if_pos rfl] at h4
      simp only [Bool.and_eq_true, beq_iff_eq] at h4
      obtain ⟨h6, rfl, rfl, h5⟩ := h4
      have := size_zero h5
      subst this
      have := size_zero h6
      subst this
      exact ⟨comp_pure _, by decide, by decide, h1⟩
    · rw [if_neg k2] at h4
      by_cases k3 : kd = 3
      · subst k3
        rw [if_pos rfl] at h4
        simp only [Bool.and_eq_true, beq_iff_eq, decide_eq_true_eq] at h4
        have := size_zero h4.2
        subst this
        refine ⟨?_, by decide, by decide, h1⟩
        have c3 := (comp_txt (m := 16) (s := ad) (by omega) (by omega)).last (g := fun a => (⟨3, ky, ⟨#[]⟩, (bk.toNat : Int), (dp.toNat : Int), a⟩ : M))
        have c2 := (comp_num (k := 2) (n := dp.toNat) (by omega)).bnd (g := fun d : Nat => bnd (rTxt 16) fun a => rPure (⟨3, ky, ⟨#[]⟩, (bk.toNat : Int), (d : Int), a⟩ : M)) c3
        have h := (comp_num (k := 4) (n := bk.toNat) (by omega)).bnd (g := fun b : Nat => bnd (rNum 2) fun d : Nat => bnd (rTxt 16) fun a => rPure (⟨3, ky, ⟨#[]⟩, (b : Int), (d : Int), a⟩ : M)) c2
        rw [cast_toNat b0, cast_toNat d0] at h
        exact h
      · rw [if_neg k3] at h4
        cases h4
theorem comp_M {m : M} (h : Key.mayB m = true) (b0 : 0 ≤ m.blk) (b1 : m.blk < 4294967296) (d0 : 0 ≤ m.deep) (d1 : m.deep < 65536) : Comp rM (wM m) m := by
  obtain ⟨hT, k1, k2, hk⟩ := comp_T h b0 b1 d0 d1
  have hK : Comp (rK m.kind.toNat) [] () := by
    unfold rK
    rw [if_neg (by omega)]
    exact comp_pure ()
  have h2 := hK.bnd (g := fun _ => bnd (rTxt 16) fun k => rT m.kind.toNat k) ((comp_txt (m := 16) (s := m.key) (by omega) (by omega)).bnd (g := fun k => rT m.kind.toNat k) hT)
  rw [List.nil_append] at h2
  exact (comp_num (k := 1) (n := m.kind.toNat) (by omega)).bnd (g := fun q => bnd (rK q) fun _ => bnd (rTxt 16) fun k => rT q k) h2
theorem comp_many {α : Type} {f : List Int → St → α × St} {w : α → List Int} (l : List α) (h : ∀ x ∈ l, Comp f (w x) x) : ∀ j, j ≤ l.length → Comp (rMany f j) ((l.take j).flatMap w) (l.take j)
  | 0 => fun _ => comp_pure []
  | j + 1 => fun hj => by
    have ih := comp_many l h j (by omega)
    have hx := h l[j] (List.getElem_mem (by omega))
    have := ih.bnd (g := fun l => Cod.bnd f fun x => rPure (l ++ [x])) (hx.last (g := fun x => l.take j ++ [x]))
    rw [List.take_succ_eq_append_getElem (by omega), List.flatMap_append, List.flatMap_singleton]
    exact this
theorem comp_all {α : Type} {f : List Int → St → α × St} {w : α → List Int} (l : List α) (h : ∀ x ∈ l, Comp f (w x) x) {j : Nat} (hj : l.length = j) : Comp (rMany f j) (l.flatMap w) l := by
  subst hj
  have := comp_many l h l.length (Nat.le_refl _)
  rwa [List.take_length] at this
/-- the numbers of a node that came in are those of their kinds -/
structure Kinds (n : Nd) : Prop where
  eb : ∀ e ∈ n.ks, 0 ≤ e.blk ∧ e.blk < 4294967296
  ed : ∀ e ∈ n.ks, 0 ≤ e.deep ∧ e.deep < 65536
  mb : ∀ m ∈ n.bf, 0 ≤ m.blk ∧ m.blk < 4294967296
  md : ∀ m ∈ n.bf, 0 ≤ m.deep ∧ m.deep < 65536
theorem upTo_mem {α : Type} {d : α} {p : α → Bool} {l : List α} (h : Key.upTo (fun i => p (l.getD i d)) l.length = true) : ∀ x ∈ l, p x = true := fun x hx => by
  obtain ⟨i, hi, rfl⟩ := List.getElem_of_mem hx
  have := Key.upTo_at h hi
  rwa [Key.getD_at hi] at this
theorem may_parts {n : Nd} (h : mayI n = 0) : n.ps.length ≤ 16 ∧ n.ks.length ≤ 8 ∧ n.bf.length ≤ 16 ∧ Key.fineB n = true := by
  unfold mayI Key.manyB at h
  by_cases hm : (decide (16 < n.ps.length) || (decide (8 < n.ks.length) || decide (16 < n.bf.length))) = true
  · rw [if_pos hm] at h
    cases h
  · rw [if_neg hm] at h
    simp only [Bool.or_eq_true, decide_eq_true_eq, not_or] at hm
    refine ⟨by omega, by omega, by omega, ?_⟩
    unfold Key.ans at h
    split at h
    · assumption
    · cases h
theorem comp_N {n : Nd} (hk : Kinds n) (h : mayI n = 0) : Comp (rN rM) (wN n) n := by
  obtain ⟨l1, l2, l3, hf⟩ := may_parts h
  obtain ⟨lf, ps, pv, ks, bf⟩ := n
  unfold Key.fineB at hf
  cases lf
  · rw [if_neg (by intro h; cases h)] at hf
    unfold Key.forkB at hf
    simp only [Bool.and_eq_true, beq_iff_eq, List.isEmpty_iff] at hf
    obtain ⟨hps, hlen, hpv, hks, hbf⟩ := hf
    dsimp only at *
    subst hps
    have e1 := fun e (he : e ∈ ks) => by
      have := upTo_mem (p := Key.okE) hks e he
      simp only [Key.okE, Bool.and_eq_true, decide_eq_true_eq] at this
      exact comp_E (hk.eb e he).1 (hk.eb e he).2 (hk.ed e he).1 (hk.ed e he).2 this.2.1 this.2.2
    have e2 := fun m (hm : m ∈ bf) => comp_M (upTo_mem (p := Key.mayB) hbf m hm) (hk.mb m hm).1 (hk.mb m hm).2 (hk.md m hm).1 (hk.md m hm).2
    have e3 : ∀ s ∈ pv, Comp (rTxt 16) (txt s) s := fun s hs => by
      obtain ⟨i, hi, rfl⟩ := List.getElem_of_mem hs
      have := Key.upTo_at hpv hi
      rw [Key.pivAt_at hi] at this
      simp only [Bool.and_eq_true, decide_eq_true_eq] at this
      exact comp_txt (by omega) (by omega)
    have c1 : Comp rKids (be 1 ks.length ++ ks.flatMap wE) ks := by
      have hz : Comp (rZero ks.length) [] () := by
        unfold rZero
        rw [if_neg (by omega)]
        exact comp_pure ()
      have := hz.bnd (g := fun _ => rMany rE ks.length) (comp_all ks e1 rfl)
      rw [List.nil_append] at this
      exact (comp_count l2 (by omega)).bnd (g := fun c => bnd (rZero c) fun _ => rMany rE c) this
    have c2 : Comp (rMany (rTxt 16) (ks.length - 1)) (pv.flatMap txt) pv := comp_all pv e3 (by omega)
    have c3 : Comp (rBuf rM) (be 1 bf.length ++ bf.flatMap wM) bf := (comp_count l3 (by omega)).bnd (g := fun c => rMany rM c) (comp_all bf e2 rfl)
    have c4 : Comp (rFork rM) _ ⟨false, [], pv, ks, bf⟩ := c1.bnd (g := fun k : List E => bnd (rMany (rTxt 16) (k.length - 1)) fun p => bnd (rBuf rM) fun b => rPure (⟨false, [], p, k, b⟩ : Nd)) (c2.bnd (g := fun p => bnd (rBuf rM) fun b => rPure (⟨false, [], p, ks, b⟩ : Nd)) (c3.last (g := fun b => (⟨false, [], pv, ks, b⟩ : Nd))))
    have := (comp_num (k := 1) (n := 2) (by decide)).bnd (g := rSort rM) c4
    unfold wN wFork
    rw [if_neg (by intro h; cases h)]
    rw [List.append_assoc (be 1 ks.length)] at this
    exact this
  · rw [if_pos rfl] at hf
    unfold Key.leafB at hf
    simp only [Bool.and_eq_true, List.isEmpty_iff] at hf
    obtain ⟨hpv, hks, hbf, hps⟩ := hf
    dsimp only at *
    subst hpv hks hbf
    rw [Key.upTo_and, Bool.and_eq_true] at hps
    have e1 := fun p (hp : p ∈ ps) => by
      have := upTo_mem (p := Key.okP) hps.1 p hp
      simp only [Key.okP, Bool.and_eq_true, decide_eq_true_eq] at this
      exact comp_P this.1 this.2
    have c1 : Comp rPairs (be 1 ps.length ++ ps.flatMap wP) ps := (comp_count l1 (by omega)).bnd (g := fun c => rMany rP c) (comp_all ps e1 rfl)
    have c2 := c1.last (g := fun l => (⟨true, l, [], [], []⟩ : Nd))
    exact (comp_num (k := 1) (n := 1) (by decide)).bnd (g := rSort rM) c2
/-- what is written is read as it was -/
theorem getN_comp {n : Nd} (hk : Kinds n) (h : mayI n = 0) : getN rM (wN n) = (n, 0) := by
  have := comp_N hk h [] []
  simp only [List.nil_append, List.append_nil, List.length_nil] at this
  have e : endE (wN n).length (wN n).length 0 = 0 := if_neg (fun h => absurd h.2 (Nat.lt_irrefl _))
  unfold getN says
  rw [this]
  dsimp only
  rw [e, if_neg (not_not_intro rfl), if_neg (not_not_intro h)]
theorem flat_le {α : Type} {w : α → List Int} {k : Nat} (l : List α) (h : ∀ x ∈ l, (w x).length ≤ k) : (l.flatMap w).length ≤ l.length * k := by
  induction l with
  | nil => simp
  | cons x l ih =>
    rw [List.flatMap_cons, List.length_append, List.length_cons, Nat.add_mul]
    have h1 := h x (List.mem_cons_self ..)
    have h2 := ih fun y hy => h y (List.mem_cons_of_mem _ hy)
    omega
theorem txt_len (s : ByteArray) : (txt s).length ≤ 1 + s.size := by
  unfold txt
  rw [List.length_cons, Pack.nums_length, ByteArray.size_extract]
  omega
/-- .. and fits into a block -/
theorem wN_len {n : Nd} (h : mayI n = 0) : (wN n).length ≤ 2024 := by
  obtain ⟨l1, l2, l3, hf⟩ := may_parts h
  obtain ⟨lf, ps, pv, ks, bf⟩ := n
  unfold Key.fineB at hf
  cases lf
  · rw [if_neg (by intro h; cases h)] at hf
    unfold Key.forkB at hf
    simp only [Bool.and_eq_true, beq_iff_eq, List.isEmpty_iff] at hf
    obtain ⟨hps, hlen, hpv, hks, hbf⟩ := hf
    dsimp only at *
    have e1 := flat_le (w := wE) (k := 40) ks fun e he => by
      have := upTo_mem (p := Key.okE) hks e he
      simp only [Key.okE, Bool.and_eq_true, decide_eq_true_eq] at this
      have h1 := txt_len e.strip
      have h2 := txt_len e.add
      simp only [wE, List.length_append, Pack.be_length]
      omega
    have e2 := flat_le (w := wM) (k := 51) bf fun m hm => by
      have := upTo_mem (p := Key.mayB) hbf m hm
      simp only [Key.mayB, Bool.and_eq_true, decide_eq_true_eq] at this
      have h1 := txt_len m.key
      have h2 := txt_len m.val
      have h3 := txt_len m.add
      have h4 : (wT m).length ≤ 33 := by
        unfold wT
        split
        · omega
        · split
          · simp only [List.length_append, Pack.be_length]; omega
          · simp
      simp only [wM, List.length_append, Pack.be_length]
      omega
    have e3 := flat_le (w := txt) (k := 17) pv fun s hs => by
      obtain ⟨i, hi, rfl⟩ := List.getElem_of_mem hs
      have := Key.upTo_at hpv hi
      rw [Key.pivAt_at hi] at this
      simp only [Bool.and_eq_true, decide_eq_true_eq] at this
      have := txt_len pv[i]
      omega
    unfold wN wFork
    rw [if_neg (by intro h; cases h)]
    simp only [List.length_append, Pack.be_length]
    omega
  · rw [if_pos rfl] at hf
    unfold Key.leafB at hf
    simp only [Bool.and_eq_true, List.isEmpty_iff] at hf
    obtain ⟨hpv, hks, hbf, hps⟩ := hf
    rw [Key.upTo_and, Bool.and_eq_true] at hps
    dsimp only at *
    have e1 := flat_le (w := wP) (k := 50) ps fun p hp => by
      have := upTo_mem (p := Key.okP) hps.1 p hp
      simp only [Key.okP, Bool.and_eq_true, decide_eq_true_eq] at this
      have h1 := txt_len p.key
      have h2 := txt_len p.val
      simp only [wP, List.length_append]
      omega
    unfold wN wLeaf
    rw [if_pos rfl]
    simp only [List.length_append, Pack.be_length]
    omega
theorem byt_wN (n : Nd) : Byt (wN n) := by
  have ht : ∀ s, Byt (txt s) := fun s z hz => by
    unfold txt at hz
    rcases List.mem_cons.1 hz with rfl | h
    · omega
    · exact Pack.byt_nums _ z h
  have hfl : ∀ {α : Type} {w : α → List Int} (l : List α), (∀ x, Byt (w x)) → Byt (l.flatMap w) := fun l h z hz => by
    obtain ⟨x, _, hx⟩ := List.mem_flatMap.1 hz
    exact h x z hx
  have hE : ∀ e, Byt (wE e) := fun e => (Pack.byt_be _ _).append ((Pack.byt_be _ _).append ((ht _).append (ht _)))
  have hM : ∀ m, Byt (wM m) := fun m => (Pack.byt_be _ _).append ((ht _).append (by
    unfold wT
    split
    · exact ht _
    · split
      · exact (Pack.byt_be _ _).append ((Pack.byt_be _ _).append (ht _))
      · intro z hz; cases hz))
  have hP : ∀ p, Byt (wP p) := fun p => (ht _).append (ht _)
  unfold wN
  split
  · exact (Pack.byt_be _ _).append ((Pack.byt_be _ _).append (hfl _ hP))
  · exact (Pack.byt_be _ _).append ((Pack.byt_be _ _).append ((hfl _ hE).append ((hfl _ ht).append ((Pack.byt_be _ _).append (hfl _ hM)))))
end Go.Proofs.Ytjegpcmejlffhaa.Cod

namespace Go.Proofs.Ytjegpcmejlffhaa.Cod
set_option linter.unusedSimpArgs false
set_option linter.unusedVariables false
open Key (M E Pr Nd mayI)

/-! ## A message's parts -/
theorem rM_bad {zs : List Int} {s s1 s3 : St} {q : Nat} {ky : ByteArray} (h1 : rNum 1 zs s = (q, s1)) (hb : q < 1 ∨ 3 < q) (h3 : rTxt 16 zs (failS 7 s1) = (ky, s3)) : rM zs s = (⟨q, ky, ⟨#[]⟩, 0, 0, ⟨#[]⟩⟩, s3) := by
  have m1 : ¬ q = 1 := by omega
  have m3 : ¬ q = 3 := by omega
  simp only [rM, bnd, h1, rK, if_pos hb, rFail, h3, rT, if_neg m1, if_neg m3, rPure]
theorem rM_del {zs : List Int} {s s1 s2 : St} {q : Nat} {ky : ByteArray} (h1 : rNum 1 zs s = (q, s1)) (hb : ¬ (q < 1 ∨ 3 < q)) (h2 : rTxt 16 zs s1 = (ky, s2)) (m1 : ¬ q = 1) (m3 : ¬ q = 3) : rM zs s = (⟨q, ky, ⟨#[]⟩, 0, 0, ⟨#[]⟩⟩, s2) := by
  simp only [rM, bnd, h1, rK, if_neg hb, rPure, h2, rT, if_neg m1, if_neg m3]
theorem rM_put {zs : List Int} {s s1 s2 s3 : St} {q : Nat} {ky vl : ByteArray} (h1 : rNum 1 zs s = (q, s1)) (hb : ¬ (q < 1 ∨ 3 < q)) (h2 : rTxt 16 zs s1 = (ky, s2)) (m1 : q = 1) (h3 : rTxt 32 zs s2 = (vl, s3)) : rM zs s = (⟨1, ky, vl, 0, 0, ⟨#[]⟩⟩, s3) := by
  subst m1
  have e : rT 1 ky = bnd (rTxt 32) fun v => rPure (⟨1, ky, v, 0, 0, ⟨#[]⟩⟩ : M) := if_pos rfl
  simp only [rM, bnd, h1, rK, if_neg hb, rPure, h2]
  rw [e]
  simp only [bnd, h3, rPure]
theorem rM_goto {zs : List Int} {s s1 s2 s3 s4 s5 : St} {q bk dp : Nat} {ky ad : ByteArray} (h1 : rNum 1 zs s = (q, s1)) (hb : ¬ (q < 1 ∨ 3 < q)) (h2 : rTxt 16 zs s1 = (ky, s2)) (m3 : q = 3) (h3 : rNum 4 zs s2 = (bk, s3)) (h4 : rNum 2 zs s3 = (dp, s4)) (h5 : rTxt 16 zs s4 = (ad, s5)) : rM zs s = (⟨3, ky, ⟨#[]⟩, bk, dp, ad⟩, s5) := by
  subst m3
  have e : rT 3 ky = bnd (rNum 4) fun b => bnd (rNum 2) fun d => bnd (rTxt 16) fun a => rPure (⟨3, ky, ⟨#[]⟩, (b : Int), (d : Int), a⟩ : M) := (if_neg (by decide)).trans (if_pos rfl)
  simp only [rM, bnd, h1, rK, if_neg hb, rPure, h2]
  rw [e]
  simp only [bnd, h3, h4, h5, rPure]
theorem rM'_bad {zs : List Int} {s s1 : St} {q : Nat} (h1 : rNum 1 zs s = (q, s1)) (hb : q < 1 ∨ 3 < q) : rM' zs s = (zeroM, failS 7 s1) := by
  simp only [rM', bnd, h1, if_pos hb, rFail]
theorem rM'_rest {zs : List Int} {s s1 : St} {q : Nat} (h1 : rNum 1 zs s = (q, s1)) (hb : ¬ (q < 1 ∨ 3 < q)) : rM' zs s = rM zs s := by
  simp only [rM', rM, bnd, h1, if_neg hb, rK, rPure]
end Go.Proofs.Ytjegpcmejlffhaa.Cod

namespace Go.Proofs.Ytjegpcmejlffhaa.Cod
set_option linter.unusedSimpArgs false
set_option linter.unusedVariables false
open Pack (be val txt nums Byt gV gP gE tN tS tP tE endE failE)
open Key (M E Pr Nd mayI)

theorem gV_less {zs : List Int} (hz : Byt zs) (p : Nat) (e : Int) (s : Nat) : gV zs p e s < 256 ^ s := by
  unfold gV
  split
  · exact Pack.val_take_lt (hz.drop p) s
  · exact Nat.pow_pos (by omega)
structure OkE (e : E) : Prop where
  b : 0 ≤ e.blk ∧ e.blk < 4294967296
  d : 0 ≤ e.deep ∧ e.deep < 65536
structure OkM (m : M) : Prop where
  b : 0 ≤ m.blk ∧ m.blk < 4294967296
  d : 0 ≤ m.deep ∧ m.deep < 65536
theorem four {zs : List Int} (hz : Byt zs) (s : St) : 0 ≤ (((rNum 4 zs s).1 : Nat) : Int) ∧ (((rNum 4 zs s).1 : Nat) : Int) < 4294967296 := by
  have := gV_less hz s.p s.e 4
  have h : (rNum 4 zs s).1 < 4294967296 := this
  omega
theorem two {zs : List Int} (hz : Byt zs) (s : St) : 0 ≤ (((rNum 2 zs s).1 : Nat) : Int) ∧ (((rNum 2 zs s).1 : Nat) : Int) < 65536 := by
  have := gV_less hz s.p s.e 2
  have h : (rNum 2 zs s).1 < 65536 := this
  omega
theorem ok_E {zs : List Int} (hz : Byt zs) (s : St) : OkE (rE zs s).1 := ⟨four hz _, two hz _⟩
theorem ok_T {zs : List Int} (hz : Byt zs) (q : Nat) (k : ByteArray) (s : St) : OkM (rT q k zs s).1 := by
  unfold rT
  split
  · exact ⟨⟨by show (0 : Int) ≤ 0; decide, by show (0 : Int) < 4294967296; decide⟩, ⟨by show (0 : Int) ≤ 0; decide, by show (0 : Int) < 65536; decide⟩⟩
  · split
    · exact ⟨four hz _, two hz _⟩
    · exact ⟨⟨by show (0 : Int) ≤ 0; decide, by show (0 : Int) < 4294967296; decide⟩, ⟨by show (0 : Int) ≤ 0; decide, by show (0 : Int) < 65536; decide⟩⟩
theorem ok_M {zs : List Int} (hz : Byt zs) (s : St) : OkM (rM zs s).1 := ok_T hz _ _ _
theorem ok_M' {zs : List Int} (hz : Byt zs) (s : St) : OkM (rM' zs s).1 := by
  show OkM ((if (rNum 1 zs s).1 < 1 ∨ 3 < (rNum 1 zs s).1 then rFail 7 zeroM else bnd (rTxt 16) fun k => rT (rNum 1 zs s).1 k) zs (rNum 1 zs s).2).1
  split
  · exact ⟨⟨by show (0 : Int) ≤ 0; decide, by show (0 : Int) < 4294967296; decide⟩, ⟨by show (0 : Int) ≤ 0; decide, by show (0 : Int) < 65536; decide⟩⟩
  · exact ok_T hz _ _ _
theorem many_mem {α : Type} (f : List Int → St → α × St) (zs : List Int) (s : St) : ∀ j, ∀ x ∈ (rMany f j zs s).1, ∃ s', x = (f zs s').1
  | 0 => fun x hx => by cases hx
  | j + 1 => fun x hx => by
    have hx' : x ∈ (rMany f j zs s).1 ++ [(f zs (rMany f j zs s).2).1] := hx
    rcases List.mem_append.1 hx' with h | h
    · exact many_mem f zs s j x h
    · exact ⟨_, List.mem_singleton.1 h⟩
theorem kinds_fork {f : List Int → St → M × St} {zs : List Int} (hz : Byt zs) (hf : ∀ s, OkM (f zs s).1) (s : St) : Kinds (rFork f zs s).1 := by
  have he : ∀ e ∈ (rKids zs s).1, OkE e := fun e he => by
    obtain ⟨s', rfl⟩ := many_mem rE zs _ _ e he
    exact ok_E hz s'
  have hm : ∀ t, ∀ m ∈ (rBuf f zs t).1, OkM m := fun t m hm => by
    obtain ⟨s', rfl⟩ := many_mem f zs _ _ m hm
    exact hf s'
  exact ⟨fun e h => (he e h).b, fun e h => (he e h).d, fun m h => (hm _ m h).b, fun m h => (hm _ m h).d⟩
theorem kinds_N {f : List Int → St → M × St} {zs : List Int} (hz : Byt zs) (hf : ∀ s, OkM (f zs s).1) (s : St) : Kinds (rN f zs s).1 := by
  show Kinds (rSort f (rNum 1 zs s).1 zs (rNum 1 zs s).2).1
  unfold rSort
  split
  · exact ⟨fun _ h => (by cases h), fun _ h => (by cases h), fun _ h => (by cases h), fun _ h => (by cases h)⟩
  · split
    · exact kinds_fork hz hf _
    · exact ⟨fun _ h => (by cases h), fun _ h => (by cases h), fun _ h => (by cases h), fun _ h => (by cases h)⟩
theorem kinds_get {f : List Int → St → M × St} {zs : List Int} (hz : Byt zs) (hf : ∀ s, OkM (f zs s).1) : Kinds (getN f zs).1 := by
  have hz0 : Kinds zeroN := ⟨fun _ h => (by cases h), fun _ h => (by cases h), fun _ h => (by cases h), fun _ h => (by cases h)⟩
  unfold getN says
  split
  · exact hz0
  · split
    · exact hz0
    · exact kinds_N hz hf _
/-- a number that isn't 0 was read -/
theorem num_zero {zs : List Int} {s s1 : St} {k q : Nat} (h : rNum k zs s = (q, s1)) (hq : q ≠ 0) : s1.e = 0 := by
  have h1 : gV zs s.p s.e k = q := congrArg Prod.fst h
  have h2 : (⟨gP zs s.p s.e k, gE zs s.p s.e k⟩ : St) = s1 := congrArg Prod.snd h
  subst h2
  show gE zs s.p s.e k = 0
  unfold gV at h1
  split at h1
  · rename_i h0
    unfold gE
    rw [if_neg (not_not_intro h0.1), if_pos h0.2]
  · exact absurd h1.symm hq
end Go.Proofs.Ytjegpcmejlffhaa.Cod
