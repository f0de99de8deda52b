/-
  Plain: frames (layer 15), in the document's own form, and what its promises say of them. It names no program.
-/
import Derived.Test.YtcbigopfmiiadaaCm
import Derived.Test.YtcbigopfmiiadaaPm
namespace Go.Proofs.Ytcbigopfmiiadaa.Frm
open Crc
open Pack (be val)
set_option linter.unusedVariables false

/-- What stands ahead of the body. -/
def headZ (kind at_ n : Nat) : List Int := (kind : Int) :: (be 4 at_ ++ be 2 n)
/-- What is marked. -/
def bodyZ (kind at_ : Nat) (body : List Int) : List Int := headZ kind at_ body.length ++ body ++ List.replicate (2037 - body.length) 0
def markZ (zs : List Int) : List Int := zs ++ le (more 0 zs)
/-- The frame; the error's number. -/
def putZ (kind at_ : Nat) (body : List Int) : List Int × Int := if 2024 < body.length then ([], 4) else (markZ (bodyZ kind at_ body), 0)
/-- How many bytes a frame says that its body has. -/
def lenZ (b : List Int) : Nat := val ((b.drop 5).take 2)
/-- The body; the error's number. -/
def getZ (kind at_ : Nat) (b : List Int) : List Int × Int :=
  if b.length ≠ 2048 then ([], 3)
  else if fitsB b = false then ([], 5)
  else if b.getD 0 0 ≠ (kind : Int) then ([], 7)
  else if val ((b.drop 1).take 4) ≠ at_ then ([], 1)
  else if 2024 < lenZ b then ([], 3)
  else if (b.drop (7 + lenZ b)).take (2037 - lenZ b) ≠ List.replicate (2037 - lenZ b) 0 then ([], 3)
  else ((b.drop 7).take (lenZ b), 0)

theorem le_length (s : Nat) : (le s).length = 4 := rfl
theorem headZ_length (kind at_ n : Nat) : (headZ kind at_ n).length = 7 := by
  unfold headZ
  rw [List.length_cons, List.length_append, Pack.be_length, Pack.be_length]
theorem bodyZ_length {kind at_ : Nat} {body : List Int} (h : body.length ≤ 2024) : (bodyZ kind at_ body).length = 2044 := by
  unfold bodyZ
  rw [List.length_append, List.length_append, headZ_length, List.length_replicate]
  omega
theorem byt_head (kind at_ n : Nat) (hk : kind < 256) : Byt (headZ kind at_ n) := by
  intro z hz
  unfold headZ at hz
  rcases List.mem_cons.1 hz with rfl | hz
  · omega
  · rcases List.mem_append.1 hz with hz | hz
    · exact Pack.byt_be _ _ z hz
    · exact Pack.byt_be _ _ z hz
theorem byt_body {kind at_ : Nat} {body : List Int} (hk : kind < 256) (hb : Byt body) : Byt (bodyZ kind at_ body) := by
  unfold bodyZ
  refine ((byt_head kind at_ _ hk).append hb).append ?_
  intro z hz
  rw [List.eq_of_mem_replicate hz]
  omega
theorem markZ_length (zs : List Int) : (markZ zs).length = zs.length + 4 := by
  unfold markZ
  rw [List.length_append, le_length]
theorem byt_mark {zs : List Int} (h : Byt zs) : Byt (markZ zs) := h.append (byt_le _)
theorem put_length {kind at_ : Nat} {body : List Int} (h : body.length ≤ 2024) : (markZ (bodyZ kind at_ body)).length = 2048 := by rw [markZ_length, bodyZ_length h]

/-! What fits is what is marked. -/

theorem fits_mark (zs : List Int) : fitsB (markZ zs) = true := by
  unfold markZ
  have h := fitsB_four zs ((more 0 zs % 256 : Nat) : Int) ((more 0 zs / 256 % 256 : Nat) : Int) ((more 0 zs / 65536 % 256 : Nat) : Int) ((more 0 zs / 16777216 % 256 : Nat) : Int)
  rw [show le (more 0 zs) = [((more 0 zs % 256 : Nat) : Int), ((more 0 zs / 256 % 256 : Nat) : Int), ((more 0 zs / 65536 % 256 : Nat) : Int), ((more 0 zs / 16777216 % 256 : Nat) : Int)] from rfl, h]
  exact decide_eq_true rfl
theorem mark_of_fits {b : List Int} (h : fitsB b = true) : 4 ≤ b.length ∧ b = markZ (b.take (b.length - 4)) := by
  unfold fitsB at h
  simp only [Bool.and_eq_true, decide_eq_true_eq] at h
  refine ⟨h.1, ?_⟩
  unfold markZ
  rw [← h.2, List.take_append_drop]
/-- All that fits has one sum. -/
theorem fits_sum {b : List Int} (hb : Byt b) (h : fitsB b = true) : more 0 b = more 0 [0, 0, 0, 0] := by
  obtain ⟨_, e⟩ := mark_of_fits h
  rw [e]
  exact ends _ (hb.take _)
/-- What fits, spoilt within four, doesn't. -/
theorem fits_spoilt {b : List Int} (hb : Byt b) (h : fitsB b = true) (k y : Nat) (hk : k + 4 ≤ b.length) (hy : y < 4294967296) (hy0 : y ≠ 0) : fitsB (spl b k y 4) = false := by
  cases hf : fitsB (spl b k y 4) with
  | false => rfl
  | true =>
    have h1 := fits_sum (spl_byt b k y 4 hb) hf
    have h2 := fits_sum hb h
    exact absurd (h1.trans h2.symm) (spl_sum b k y hk hb hy hy0)

/-! A frame's parts. -/

theorem put_kind (kind at_ : Nat) (body : List Int) : (markZ (bodyZ kind at_ body)).getD 0 0 = (kind : Int) := rfl
theorem put_drop1 (kind at_ : Nat) (body : List Int) : (markZ (bodyZ kind at_ body)).drop 1 = be 4 at_ ++ (be 2 body.length ++ (body ++ (List.replicate (2037 - body.length) 0 ++ le (more 0 (bodyZ kind at_ body))))) := by
  unfold markZ
  generalize le (more 0 (bodyZ kind at_ body)) = S
  rw [show bodyZ kind at_ body = (kind : Int) :: (be 4 at_ ++ be 2 body.length ++ body ++ List.replicate (2037 - body.length) 0) from rfl]
  simp only [List.cons_append, List.drop_succ_cons, List.drop_zero, List.append_assoc]
theorem put_place (kind at_ : Nat) (body : List Int) (ha : at_ < 4294967296) : val (((markZ (bodyZ kind at_ body)).drop 1).take 4) = at_ := by
  rw [put_drop1, List.take_append_of_le_length (by rw [Pack.be_length]; omega), List.take_of_length_le (by rw [Pack.be_length]; omega), Pack.val_be]
  omega
theorem put_drop5 (kind at_ : Nat) (body : List Int) : (markZ (bodyZ kind at_ body)).drop 5 = be 2 body.length ++ (body ++ (List.replicate (2037 - body.length) 0 ++ le (more 0 (bodyZ kind at_ body)))) := by
  rw [show (5 : Nat) = 1 + 4 from rfl, ← List.drop_drop, put_drop1, List.drop_append_of_le_length (by rw [Pack.be_length]; omega), List.drop_of_length_le (by rw [Pack.be_length]; omega), List.nil_append]
theorem put_len (kind at_ : Nat) (body : List Int) (h : body.length ≤ 2024) : lenZ (markZ (bodyZ kind at_ body)) = body.length := by
  unfold lenZ
  rw [put_drop5, List.take_append_of_le_length (by rw [Pack.be_length]; omega), List.take_of_length_le (by rw [Pack.be_length]; omega), Pack.val_be]
  omega
theorem put_drop7 (kind at_ : Nat) (body : List Int) : (markZ (bodyZ kind at_ body)).drop 7 = body ++ (List.replicate (2037 - body.length) 0 ++ le (more 0 (bodyZ kind at_ body))) := by
  rw [show (7 : Nat) = 5 + 2 from rfl, ← List.drop_drop, put_drop5, List.drop_append_of_le_length (by rw [Pack.be_length]; omega), List.drop_of_length_le (by rw [Pack.be_length]; omega), List.nil_append]
/-- P15.2: a frame's body is taken as it was. -/
theorem get_put {kind at_ : Nat} {body : List Int} (ha : at_ < 4294967296) (h : body.length ≤ 2024) : getZ kind at_ (markZ (bodyZ kind at_ body)) = (body, 0) := by
  unfold getZ
  rw [if_neg (by rw [put_length h]; decide), if_neg (by rw [fits_mark]; decide), if_neg (by rw [put_kind]; simp), if_neg (by rw [put_place kind at_ body ha]; simp), put_len kind at_ body h, if_neg (by omega)]
  have e : (markZ (bodyZ kind at_ body)).drop (7 + body.length) = List.replicate (2037 - body.length) 0 ++ le (more 0 (bodyZ kind at_ body)) := by
    rw [← List.drop_drop, put_drop7, List.drop_append_of_le_length (Nat.le_refl _), List.drop_length, List.nil_append]
  rw [if_neg (by
    rw [e, List.take_append_of_le_length (by rw [List.length_replicate]; omega), List.take_of_length_le (by rw [List.length_replicate]; omega)]
    simp), put_drop7, List.take_append_of_le_length (Nat.le_refl _), List.take_length]
/-- P15.3: nor one of another kind, or place. -/
theorem get_kind {kind at_ k' a' : Nat} {body : List Int} (h : body.length ≤ 2024) (hk : k' ≠ kind) : getZ k' a' (markZ (bodyZ kind at_ body)) = ([], 7) := by
  unfold getZ
  rw [if_neg (by rw [put_length h]; decide), if_neg (by rw [fits_mark]; decide), if_pos (by rw [put_kind]; omega)]
theorem get_place {kind at_ a' : Nat} {body : List Int} (ha : at_ < 4294967296) (h : body.length ≤ 2024) (hk : a' ≠ at_) : getZ kind a' (markZ (bodyZ kind at_ body)) = ([], 1) := by
  unfold getZ
  rw [if_neg (by rw [put_length h]; decide), if_neg (by rw [fits_mark]; decide), if_neg (by rw [put_kind]; simp), if_pos (by rw [put_place kind at_ body ha]; omega)]
/-- P15.3 -/
theorem get_spoilt {kind at_ k' a' : Nat} {body : List Int} (hkd : kind < 256) (hb : Byt body) (h : body.length ≤ 2024) (k y : Nat) (hk : k + 4 ≤ 2048) (hy : y < 4294967296) (hy0 : y ≠ 0) : getZ k' a' (spl (markZ (bodyZ kind at_ body)) k y 4) = ([], 5) := by
  unfold getZ
  rw [if_neg (by rw [spl_length, put_length h]; decide), if_pos (fits_spoilt (byt_mark (byt_body hkd hb)) (fits_mark _) k y (by rw [put_length h]; omega) hy hy0)]

/-! What is taken makes the same frame. -/

theorem be_val {zs : List Int} (h : Byt zs) : be zs.length (val zs) = zs := by
  have H : ∀ (n : Nat) (zs : List Int), zs.length = n → Byt zs → be n (val zs) = zs := by
    intro n
    induction n with
    | zero => intro zs hl _; rw [List.eq_nil_of_length_eq_zero hl]; rfl
    | succ n ih =>
      intro zs hl hz
      obtain ⟨q, x, rfl⟩ : ∃ q x, zs = q ++ [x] := by
        rcases List.eq_nil_or_concat zs with rfl | ⟨q, x, rfl⟩
        · simp at hl
        · exact ⟨q, x, by simp⟩
      have hq : q.length = n := by simp at hl; omega
      have hx := hz x (by simp)
      rw [Pack.val_snoc, be]
      have e1 : (256 * val q + x.toNat) / 256 = val q := by omega
      have e2 : (((256 * val q + x.toNat) % 256 : Nat) : Int) = x := by omega
      rw [e1, e2, ih q hq hz.of_append.1]
  exact H _ zs rfl h
/-- Bytes that fit, of this kind and place, are the frame of what is taken just where zeros are behind it. -/
theorem frame_of {b : List Int} (hb : Byt b) {kind at_ : Nat} (hl : b.length = 2048) (hf : fitsB b = true) (hk : b.getD 0 0 = (kind : Int)) (ha : val ((b.drop 1).take 4) = at_) (hn : lenZ b ≤ 2024) :
    markZ (bodyZ kind at_ ((b.drop 7).take (lenZ b))) = b ↔ (b.drop (7 + lenZ b)).take (2037 - lenZ b) = List.replicate (2037 - lenZ b) 0 := by
  have hbl : ((b.drop 7).take (lenZ b)).length = lenZ b := by rw [List.length_take, List.length_drop]; omega
  have ha' : be 4 at_ = (b.drop 1).take 4 := by
    rw [← ha]
    have h4 : ((b.drop 1).take 4).length = 4 := by rw [List.length_take, List.length_drop]; omega
    have := be_val (zs := (b.drop 1).take 4) (fun z hz => hb z (List.mem_of_mem_drop (List.mem_of_mem_take hz)))
    rw [h4] at this
    exact this
  have hn' : be 2 (lenZ b) = (b.drop 5).take 2 := by
    have h2 : ((b.drop 5).take 2).length = 2 := by rw [List.length_take, List.length_drop]; omega
    have := be_val (zs := (b.drop 5).take 2) (fun z hz => hb z (List.mem_of_mem_drop (List.mem_of_mem_take hz)))
    rw [h2] at this
    exact this
  -- b, cut
  have cut : ∀ (xs : List Int) (n : Nat), xs = xs.take n ++ xs.drop n := fun xs n => (List.take_append_drop n xs).symm
  have e0 : b = (kind : Int) :: b.drop 1 := by
    cases b with
    | nil => simp at hl
    | cons x r => simp at hk; rw [hk]; rfl
  have e1 : b.drop 1 = be 4 at_ ++ b.drop 5 := by
    rw [ha']
    conv => lhs; rw [cut (b.drop 1) 4, List.drop_drop]
  have e5 : b.drop 5 = be 2 (lenZ b) ++ b.drop 7 := by
    rw [hn']
    conv => lhs; rw [cut (b.drop 5) 2, List.drop_drop]
  have e7 : b.drop 7 = (b.drop 7).take (lenZ b) ++ b.drop (7 + lenZ b) := by
    conv => lhs; rw [cut (b.drop 7) (lenZ b), List.drop_drop]
  have e8 : b.drop (7 + lenZ b) = (b.drop (7 + lenZ b)).take (2037 - lenZ b) ++ b.drop 2044 := by
    conv => lhs; rw [cut (b.drop (7 + lenZ b)) (2037 - lenZ b), List.drop_drop, show 7 + lenZ b + (2037 - lenZ b) = 2044 by omega]
  have hall : b = headZ kind at_ (lenZ b) ++ (b.drop 7).take (lenZ b) ++ (b.drop (7 + lenZ b)).take (2037 - lenZ b) ++ b.drop 2044 := by
    conv => lhs; rw [e0, e1, e5, e7, e8]
    unfold headZ
    simp only [List.cons_append, List.append_assoc]
  have hl0 : (headZ kind at_ (lenZ b) ++ (b.drop 7).take (lenZ b)).length = 7 + lenZ b := by rw [List.length_append, headZ_length, hbl]
  have hl1 : (headZ kind at_ (lenZ b) ++ (b.drop 7).take (lenZ b) ++ (b.drop (7 + lenZ b)).take (2037 - lenZ b)).length = 2044 := by
    rw [List.length_append, hl0, List.length_take, List.length_drop]; omega
  constructor
  · intro h
    have h7 : (markZ (bodyZ kind at_ ((b.drop 7).take (lenZ b)))).drop (7 + lenZ b) = b.drop (7 + lenZ b) := by rw [h]
    rw [← h7]
    have e : (markZ (bodyZ kind at_ ((b.drop 7).take (lenZ b)))).drop (7 + lenZ b) = List.replicate (2037 - lenZ b) 0 ++ le (more 0 (bodyZ kind at_ ((b.drop 7).take (lenZ b)))) := by
      rw [← List.drop_drop, put_drop7]
      rw [hbl]
      have hx : ((b.drop 7).take (lenZ b) ++ (List.replicate (2037 - lenZ b) 0 ++ le (more 0 (bodyZ kind at_ ((b.drop 7).take (lenZ b)))))).drop ((b.drop 7).take (lenZ b)).length = List.replicate (2037 - lenZ b) 0 ++ le (more 0 (bodyZ kind at_ ((b.drop 7).take (lenZ b)))) := List.drop_left
      rw [hbl] at hx
      exact hx
    rw [e, List.take_append_of_le_length (by rw [List.length_replicate]; omega), List.take_of_length_le (by rw [List.length_replicate]; omega)]
  · intro h
    have hb' : bodyZ kind at_ ((b.drop 7).take (lenZ b)) = b.take 2044 := by
      unfold bodyZ
      rw [hbl, ← h]
      have hT : (headZ kind at_ (lenZ b) ++ (b.drop 7).take (lenZ b) ++ (b.drop (7 + lenZ b)).take (2037 - lenZ b) ++ b.drop 2044).take 2044 = headZ kind at_ (lenZ b) ++ (b.drop 7).take (lenZ b) ++ (b.drop (7 + lenZ b)).take (2037 - lenZ b) := by
        rw [List.take_append_of_le_length (by rw [hl1]; omega)]
        exact List.take_of_length_le (by rw [hl1]; omega)
      rw [← hall] at hT
      exact hT.symm
    obtain ⟨_, hm⟩ := mark_of_fits hf
    rw [hl] at hm
    rw [hb', ← hm]
/-- P15.2: what is taken makes the same frame. -/
theorem put_get {b : List Int} (hb : Byt b) {kind at_ : Nat} {c : List Int} (h : getZ kind at_ b = (c, 0)) : c.length ≤ 2024 ∧ putZ kind at_ c = (b, 0) := by
  unfold getZ at h
  split at h
  · simp at h
  next hl =>
  split at h
  · simp at h
  next hf =>
  split at h
  · simp at h
  next hk =>
  split at h
  · simp at h
  next ha =>
  split at h
  · simp at h
  next hn =>
  split at h
  · simp at h
  next hz =>
  simp only [Prod.mk.injEq, and_true] at h
  have hl' : b.length = 2048 := Decidable.not_not.1 hl
  have hc : c.length = lenZ b := by rw [← h, List.length_take, List.length_drop]; omega
  refine ⟨by omega, ?_⟩
  unfold putZ
  rw [if_neg (by omega), ← h]
  rw [(frame_of hb hl' (by simpa using hf) (Decidable.not_not.1 hk) (Decidable.not_not.1 ha) (by omega)).2 (Decidable.not_not.1 hz)]
end Go.Proofs.Ytcbigopfmiiadaa.Frm
