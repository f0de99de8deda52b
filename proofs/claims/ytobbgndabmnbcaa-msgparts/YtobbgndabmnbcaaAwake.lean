/-
  Contract of awake: the document's examples.
-/
import Derived.Test.YtobbgndabmnbcaaSame
namespace Go.Proofs.Ytobbgndabmnbcaa.Key
open Go.RowKit Draw
open Go.Op (bytesLess)

theorem Msgs.new (w : World) (l : List M) (C : Array Value) (h : C = (cellsM l).toArray) : Msgs (w.alloc (.cells C 26)) (some ⟨w.heap.size, 0, none⟩) l := by
  subst h
  refine .inr ⟨w.heap.size, 0, rfl, fun i hi => ?_⟩
  have e : ∀ q, q < 6 → ∀ u, l[i].cells[q]? = some u → (w.alloc (.cells (cellsM l).toArray 26)).cell? ⟨w.heap.size, 0 + i * 6 + q, none⟩ = some u := fun q hq u hu => by
    rw [World.cell?_alloc_mark, Nat.zero_add]
    simp only [List.getElem?_toArray]
    rw [cellsM_at l i hi q hq]
    exact hu
  exact ⟨e 0 (by omega) _ rfl, e 1 (by omega) _ rfl, e 2 (by omega) _ rfl, e 3 (by omega) _ rfl, e 4 (by omega) _ rfl, e 5 (by omega) _ rfl⟩

def exA : M := ⟨1, ⟨#[97]⟩, ⟨#[]⟩, 0, 0, ⟨#[]⟩⟩
def exB : M := ⟨1, ⟨#[98]⟩, ⟨#[]⟩, 0, 0, ⟨#[]⟩⟩
def exG : M := ⟨3, ⟨#[97]⟩, ⟨#[]⟩, 0, 1, ⟨#[120]⟩⟩
def exH : M := ⟨3, ⟨#[]⟩, ⟨#[]⟩, 0, 1, ⟨#[120, 98]⟩⟩
theorem ex_add : addL [exA, exB] exA = [exB, exA] := by
  have h1 : left' exA (aboutR exA) = false := by unfold left'; rw [(sameR_iff _ _).2 (by rfl)]; rfl
  have h2 : left' exB (aboutR exA) = true := by
    unfold left'
    rw [Bool.eq_false_iff.2 fun h => absurd (congrArg Rng.lo ((sameR_iff _ _).1 h)) (by decide)]
    rfl
  simp [addL, h1, h2]
theorem ex_trimB : trimB [exG] (rg ⟨#[97, 98]⟩ (sucS [97, 98]) (sucO [97, 98])) ⟨#[97, 98]⟩ = true := by decide
theorem ex_trimL : trimL [exG] (rg ⟨#[97, 98]⟩ (sucS [97, 98]) (sucO [97, 98])) ⟨#[97, 98]⟩ = [exH] := by
  have h : touch exG (rg ⟨#[97, 98]⟩ (sucS [97, 98]) (sucO [97, 98])) = true := by decide
  have e : shortM exG ⟨#[97, 98]⟩ = exH := by rfl
  simp [trimL, some', h, e]

set_option maxRecDepth 100000 in
set_option maxHeartbeats 2000000 in
theorem awake8 (w : World) : Calls Try.prog 8 #[] w fun x w' => x = .returned (.bool true) ∧ Below w.heap.size w w' := by
  have M1 := (MBox.new w exA).alloc (.cells #[.int .u8 1, .string ⟨#[98]⟩, .string ⟨#[]⟩, .int .u32 0, .int .u16 0, .string ⟨#[]⟩] 26)
  have M2 := MBox.new (w.alloc (.cells #[.int .u8 1, .string ⟨#[97]⟩, .string ⟨#[]⟩, .int .u32 0, .int .u16 0, .string ⟨#[]⟩] 26)) exB
  have hb : Below w.heap.size w ((w.alloc (.cells #[.int .u8 1, .string ⟨#[97]⟩, .string ⟨#[]⟩, .int .u32 0, .int .u16 0, .string ⟨#[]⟩] 26)).alloc (.cells #[.int .u8 1, .string ⟨#[98]⟩, .string ⟨#[]⟩, .int .u32 0, .int .u16 0, .string ⟨#[]⟩] 26)) := (below_box w _).alloc (by simp) _
  simp only [exA, exB, World.size_alloc] at M1 M2
  have HO := hid (fun w => of28 ⟨#[97, 98]⟩ w (by decide))
  have HT := hid (fun a c w (h : Msgs w a [exG]) => trim23 a c [exG] ⟨#[97, 98]⟩ (sucS [97, 98]) (sucO [97, 98]) ⟨#[97, 98]⟩ w (by decide) h (by intro m hm; rw [List.mem_singleton.1 hm]; decide) (by decide))
  rw [ex_trimB, ex_trimL] at HT
  go_enter Try.func8, Try.ntmps8
  go_wp2_with fail
  generalize ((w.alloc (.cells #[.int .u8 1, .string ⟨#[97]⟩, .string ⟨#[]⟩, .int .u32 0, .int .u16 0, .string ⟨#[]⟩] 26)).alloc (.cells #[.int .u8 1, .string ⟨#[98]⟩, .string ⟨#[]⟩, .int .u32 0, .int .u16 0, .string ⟨#[]⟩] 26)) = w2 at *
  generalize hk1 : w.heap.size = k1 at *
  refine wp_region_each [(some 7, [], false), (some 8, [], false), (some 9, [(0, 7), (1, 8)], false), (some 10, [], false), (some 11, [(2, 9), (3, 10)], false), (some 12, [], false), (some 13, [], false), (some 14, [(5, 12), (6, 13)], false), (some 15, [(4, 11), (7, 14)], false), (some 16, [(8, 15)], true)]
    (fun u => Below w2.heap.size w2 u) (fun _ u u' => Below u.heap.size u u')
    (fun i v u => match i with | 0 => v = mv exA | 1 => v = mv exB | 2 => ∃ g, v = .slice (some ⟨g, 0, none⟩) 2 2 ∧ Msgs u (some ⟨g, 0, none⟩) [exA, exB] | 3 => v = mv exA | 4 => OwnM u w2.heap.size v [exB, exA] | 5 => v = mv exB | 6 => v = mv exA | 7 => ∃ g, v = .slice (some ⟨g, 0, none⟩) 2 2 ∧ Msgs u (some ⟨g, 0, none⟩) [exB, exA] | 8 => v = .bool true | 9 => v = .bool false | _ => True)
    (by kernel_rfl) (by kernel_rfl) (Below.refl _ _).drew (fun i u u' h h' => h.trans (h'.mono h.size)) (fun i j v u u' hn h h' hv => ?_) ⟨?_, ?_, ?_, ?_, ?_, ?_, ?_, ?_, ?_, ?_, trivial⟩ ?_
  · match j with
    | 0 => exact hv
    | 1 => exact hv
    | 2 => obtain ⟨g, e, hx⟩ := hv; exact ⟨g, e, hx.later h'⟩
    | 3 => exact hv
    | 4 => exact OwnM.later hv h'
    | 5 => exact hv
    | 6 => exact hv
    | 7 => obtain ⟨g, e, hx⟩ := hv; exact ⟨g, e, hx.later h'⟩
    | 8 => exact hv
    | 9 => exact hv
    | _ + 10 => trivial
  · rintro u hu
    obtain ⟨c0, c1, c2, c3, c4, c5⟩ := (M1.later hu).six
    exact opYields_val (mv ⟨1, ⟨#[97]⟩, ⟨#[]⟩, 0, 0, ⟨#[]⟩⟩) (by kernel_rfl) (by go_simp) ⟨Below.refl _ _, rfl⟩
  · rintro u hu
    obtain ⟨c0, c1, c2, c3, c4, c5⟩ := (M2.later hu).six
    exact opYields_val (mv ⟨1, ⟨#[98]⟩, ⟨#[]⟩, 0, 0, ⟨#[]⟩⟩) (by kernel_rfl) (by go_simp) ⟨Below.refl _ _, rfl⟩
  · rintro u hu _ rfl _ rfl
    exact opYields_val (.slice (some ⟨u.heap.size, 0, none⟩) 2 2) (u' := u.alloc (.cells (cellsM [exA, exB]).toArray 26)) (by kernel_rfl) (by go_simp; rfl) ⟨below_box _ _, _, rfl, Msgs.new u _ _ rfl⟩
  · rintro u hu
    obtain ⟨c0, c1, c2, c3, c4, c5⟩ := (M1.later hu).six
    exact opYields_val (mv ⟨1, ⟨#[97]⟩, ⟨#[]⟩, 0, 0, ⟨#[]⟩⟩) (by kernel_rfl) (by go_simp) ⟨Below.refl _ _, rfl⟩
  · rintro u hu _ ⟨g, rfl, hg⟩ _ rfl
    have := add18 (some ⟨g, 0, none⟩) 2 [exA, exB] exA u (by decide) hg (by decide) (by decide)
    rw [ex_add] at this
    exact opYields_call 18 #[.slice (some ⟨g, 0, none⟩) 2 2, mv exA] (by kernel_rfl) (by go_simp) (this.mono fun x u' ⟨v, h1, h2, h3⟩ => ⟨v, h1, h3, h2.mono hu.size⟩)
  · rintro u hu
    obtain ⟨c0, c1, c2, c3, c4, c5⟩ := (M2.later hu).six
    exact opYields_val (mv ⟨1, ⟨#[98]⟩, ⟨#[]⟩, 0, 0, ⟨#[]⟩⟩) (by kernel_rfl) (by go_simp) ⟨Below.refl _ _, rfl⟩
  · rintro u hu
    obtain ⟨c0, c1, c2, c3, c4, c5⟩ := (M1.later hu).six
    exact opYields_val (mv ⟨1, ⟨#[97]⟩, ⟨#[]⟩, 0, 0, ⟨#[]⟩⟩) (by kernel_rfl) (by go_simp) ⟨Below.refl _ _, rfl⟩
  · rintro u hu _ rfl _ rfl
    exact opYields_val (.slice (some ⟨u.heap.size, 0, none⟩) 2 2) (u' := u.alloc (.cells (cellsM [exB, exA]).toArray 26)) (by kernel_rfl) (by go_simp; rfl) ⟨below_box _ _, _, rfl, Msgs.new u _ _ rfl⟩
  · rintro u hu v hv _ ⟨g, rfl, hg⟩
    obtain ⟨a, cap, rfl, hms, _⟩ := hv.form
    refine opYields_call 19 #[.slice a 2 cap, .slice (some ⟨g, 0, none⟩) 2 2] (by kernel_rfl) (by go_simp) ((same19 a (some ⟨g, 0, none⟩) cap 2 [exB, exA] [exB, exA] u (by decide) (by decide) hms hg).mono fun x u' ⟨⟨b, h1, h2⟩, h3⟩ => ⟨_, h1, h3, congrArg Value.bool (h2.2 rfl)⟩)
  · rintro u hu _ rfl
    exact opYields_val (.bool false) (by kernel_rfl) (by go_simp) ⟨Below.refl _ _, rfl⟩
  · rintro u hu _ _ _ _ _ _ _ _ _ _ rfl
    simp only [givingAll, Act.put, List.setIfInBounds_toArray, List.set_cons_zero, List.set_cons_succ]
    replace hu := hb.trans (hu.mono (by have := hb.size; omega))
    clear hb M1 M2
    have hG := Msgs.new u [exG] _ rfl
    have hb1 : Below k1 w (u.alloc (.cells (cellsM [exG]).toArray 26)) := hu.alloc (by have := hu.size; omega) _
    have hcells : (cellsM [exG]).toArray = #[.int .u8 3, .string ⟨#[97]⟩, .string ⟨#[]⟩, .int .u32 0, .int .u16 1, .string ⟨#[120]⟩] := rfl
    rw [hcells] at hG hb1
    clear hcells
    go_wp2_with fail
    refine (HO.out _).mono ?_
    clear HO
    rintro x w3 ⟨rfl, hb3⟩
    have hG3 := hG.later hb3
    have hb4 := hb1.trans (hb3.mono (by have := hb1.size; omega))
    clear hG hb1 hb3
    have HT1 := HT.out _ 1 _ hG3
    clear HT
    generalize sucS [97, 98] = S at *
    generalize sucO [97, 98] = O at *
    go_wp2_with fail
    refine HT1.mono ?_
    clear HT1
    rintro x w4 ⟨⟨hx, _⟩, hb5⟩
    obtain ⟨v, rfl, hv⟩ := hx rfl
    obtain ⟨a, cap, rfl, hms, _⟩ := hv.form
    have hb6 := hb4.trans (hb5.mono (by have := hb4.size; omega))
    have hH := Msgs.new w4 [exH] _ rfl
    have hms' := hms.later (below_box w4 (.cells (cellsM [exH]).toArray 26))
    have hS := hid (same19 a _ cap 1 [exH] [exH] _ (by decide) (by decide) hms' hH)
    have hb7 : Below k1 w (w4.alloc (.cells (cellsM [exH]).toArray 26)) := hb6.alloc (by have := hb6.size; omega) _
    have hcells : (cellsM [exH]).toArray = #[.int .u8 3, .string ⟨#[]⟩, .string ⟨#[]⟩, .int .u32 0, .int .u16 1, .string ⟨#[120, 98]⟩] := rfl
    rw [hcells] at hS hb7
    clear hcells hms hms' hH hv hx hb5 hb4 hG3
    go_wp2_with fail
    refine hS.out.mono ?_
    rintro x w5 ⟨⟨b, rfl, hb⟩, hb8⟩
    obtain rfl : b = true := hb.2 (by first | trivial | rfl)
    have hb9 := hb7.trans (hb8.mono (by have := hb7.size; omega))
    clear hb hS hb8
    go_wp2_with fail
    go_ret
    exact ⟨rfl, by rw [hk1]; exact hb9⟩
end Go.Proofs.Ytobbgndabmnbcaa.Key
