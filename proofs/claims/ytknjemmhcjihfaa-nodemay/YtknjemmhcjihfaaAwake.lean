/-
  Contract of awake: the document's examples.
-/
import Derived.Test.YtknjemmhcjihfaaStep
namespace Go.Proofs.Ytknjemmhcjihfaa.Key
open Go.RowKit Draw
open Go.Op (bytesLess)

def exA : Nd := ⟨true, [⟨⟨#[97]⟩, ⟨#[49]⟩⟩], [], [], []⟩
def exB : Nd := ⟨false, [], [⟨#[109]⟩], [⟨0, 1, ⟨#[]⟩, ⟨#[]⟩⟩, ⟨0, 1, ⟨#[]⟩, ⟨#[]⟩⟩], []⟩
def plA (k : Nat) : Pl := ⟨some ⟨k, 0, none⟩, 1, none, 0, none, 0, none, 0⟩
def plB (k k' : Nat) : Pl := ⟨none, 0, some ⟨k, 0, none⟩, 1, some ⟨k', 0, none⟩, 2, none, 0⟩
theorem small_A : Small exA := ⟨⟨by decide, by decide, by decide, by decide⟩, by simp [exA], by simp [exA], by simp [exA], by simp [exA], by simp [exA]⟩
theorem may_A : mayI exA = 0 := by decide
theorem step_A1 : stepW exA (⟨#[97]⟩ : ByteArray).data.toList = toVal ⟨#[49]⟩ := by
  unfold stepW; rw [if_pos may_A]; rfl
theorem step_A2 : stepW exA (⟨#[98]⟩ : ByteArray).data.toList = noWay := by
  unfold stepW; rw [if_pos may_A]; rfl
theorem kid_B1 : kidI exB.pv exB.ks.length (⟨#[108, 122]⟩ : ByteArray).data.toList = 0 := by decide
theorem kid_B2 : kidI exB.pv exB.ks.length (⟨#[109]⟩ : ByteArray).data.toList = 1 := by decide
theorem lies_A {w : World} {k : Nat} (h : w.heap[k]? = some (.cells #[.string ⟨#[97]⟩, .string ⟨#[49]⟩] 52 (0, 0))) : Lies w exA (plA k) := by
  refine ⟨.inr ⟨k, 0, rfl, fun i hi => ?_⟩, .inl rfl, .inl rfl, .inl rfl⟩
  obtain rfl : i = 0 := by simp [exA] at hi; omega
  exact ⟨cell_of_row _ _ 0 _ _ _ h, cell_of_row _ _ 1 _ _ _ h⟩
theorem lies_B {w : World} {k k' : Nat} (h : w.heap[k]? = some (.cells #[.string ⟨#[109]⟩] 9 (0, 0))) (h' : w.heap[k']? = some (.cells #[.int .u32 0, .int .u16 1, .string ⟨#[]⟩, .string ⟨#[]⟩, .int .u32 0, .int .u16 1, .string ⟨#[]⟩, .string ⟨#[]⟩] 37 (0, 0))) : Lies w exB (plB k k') := by
  refine ⟨.inl rfl, .inr ⟨k, 0, rfl, fun i hi => ?_⟩, .inr ⟨k', 0, rfl, fun i hi => ?_⟩, .inl rfl⟩
  · obtain rfl : i = 0 := by simp [exB] at hi; omega
    exact cell_of_row _ _ 0 _ _ _ h
  · have hi2 : i < 2 := by simpa [exB] using hi
    match i, hi2 with
    | 0, _ => exact ⟨cell_of_row _ _ 0 _ _ _ h', cell_of_row _ _ 1 _ _ _ h', cell_of_row _ _ 2 _ _ _ h', cell_of_row _ _ 3 _ _ _ h'⟩
    | 1, _ => exact ⟨cell_of_row _ _ 4 _ _ _ h', cell_of_row _ _ 5 _ _ _ h', cell_of_row _ _ 6 _ _ _ h', cell_of_row _ _ 7 _ _ _ h'⟩

theorem old_block {w : World} {o : Obj} {k : Nat} {c : Obj} (h : w.heap[k]? = some c) : (w.alloc o).heap[k]? = some c := ((below_box w o).block k (Array.getElem?_eq_some_iff.1 h).1).trans h
theorem five_allocs (w : World) (o1 o2 o3 o4 o5 : Obj) : (((((w.alloc o1).alloc o2).alloc o3).alloc o4).alloc o5).heap[w.heap.size]? = some o1 ∧ (((((w.alloc o1).alloc o2).alloc o3).alloc o4).alloc o5).heap[w.heap.size + 1]? = some o2 ∧ (((((w.alloc o1).alloc o2).alloc o3).alloc o4).alloc o5).heap[w.heap.size + 1 + 1]? = some o3 ∧ (((((w.alloc o1).alloc o2).alloc o3).alloc o4).alloc o5).heap[w.heap.size + 1 + 1 + 1]? = some o4 ∧ (((((w.alloc o1).alloc o2).alloc o3).alloc o4).alloc o5).heap[w.heap.size + 1 + 1 + 1 + 1]? = some o5 ∧ Below w.heap.size w (((((w.alloc o1).alloc o2).alloc o3).alloc o4).alloc o5) := by
  have e : ∀ (w : World) (o : Obj), (w.alloc o).heap.size = w.heap.size + 1 := fun w o => by simp
  have h1 := Go.heap_alloc_new w o1
  have h2 := Go.heap_alloc_new (w.alloc o1) o2
  have h3 := Go.heap_alloc_new ((w.alloc o1).alloc o2) o3
  have h4 := Go.heap_alloc_new (((w.alloc o1).alloc o2).alloc o3) o4
  have h5 := Go.heap_alloc_new ((((w.alloc o1).alloc o2).alloc o3).alloc o4) o5
  simp only [e] at h2 h3 h4 h5
  refine ⟨old_block (old_block (old_block (old_block h1))), old_block (old_block (old_block h2)), old_block (old_block h3), old_block h4, h5, ?_⟩
  exact ((((below_box w o1).alloc (by simp only [e]; omega) _).alloc (by simp only [e]; omega) _).alloc (by simp only [e]; omega) _).alloc (by simp only [e]; omega) _

set_option maxRecDepth 100000 in
set_option maxHeartbeats 2000000 in
theorem awake8 (w : World) : Calls Try.prog 8 #[] w fun x w' => x = .returned (.bool true) ∧ Below w.heap.size w w' := by
  obtain ⟨b1, b2, b3, b4, b5, hb0⟩ := five_allocs w (.cells #[.string ⟨#[97]⟩, .string ⟨#[49]⟩] 52) (.cells #[.bool true, .slice (some ⟨w.heap.size, 0, none⟩) 1 1, .slice none 0 0, .slice none 0 0, .slice none 0 0] 27) (.cells #[.string ⟨#[109]⟩] 9)
    (.cells #[.int .u32 0, .int .u16 1, .string ⟨#[]⟩, .string ⟨#[]⟩, .int .u32 0, .int .u16 1, .string ⟨#[]⟩, .string ⟨#[]⟩] 37) (.cells #[.bool false, .slice none 0 0, .slice (some ⟨w.heap.size + 1 + 1, 0, none⟩) 1 1, .slice (some ⟨w.heap.size + 1 + 1 + 1, 0, none⟩) 2 2, .slice none 0 0] 27)
  have LA := lies_A b1
  have LB := lies_B b3 b4
  have NA : NBox _ _ _ _ _ _ _ := b2
  have NB : NBox _ _ _ _ _ _ _ := b5
  clear b1 b2 b3 b4 b5
  have HA1 := hid (fun w' h => step19 exA (plA w.heap.size) ⟨#[97]⟩ w' small_A (by decide) h)
  have HA2 := hid (fun w' h => step19 exA (plA w.heap.size) ⟨#[98]⟩ w' small_A (by decide) h)
  have HB1 := hid (fun w' h => kid23 exB (plB (w.heap.size + 1 + 1) (w.heap.size + 1 + 1 + 1)) ⟨#[108, 122]⟩ w' (by decide) (by decide) h)
  have HB2 := hid (fun w' h => kid23 exB (plB (w.heap.size + 1 + 1) (w.heap.size + 1 + 1 + 1)) ⟨#[109]⟩ w' (by decide) (by decide) h)
  rw [step_A1, show wv (toVal ⟨#[49]⟩) = .agg #[.int .u8 1, .string ⟨#[49]⟩, .int .u32 0, .int .u16 0, .string ⟨#[]⟩] from rfl] at HA1
  rw [step_A2, show wv noWay = .agg #[.int .u8 0, .string ⟨#[]⟩, .int .u32 0, .int .u16 0, .string ⟨#[]⟩] from rfl] at HA2
  rw [kid_B1] at HB1
  rw [kid_B2] at HB2
  go_enter Try.func8, Try.ntmps8
  go_wp2_with fail
  generalize (((((w.alloc (.cells #[.string ⟨#[97]⟩, .string ⟨#[49]⟩] 52)).alloc (.cells #[.bool true, .slice (some ⟨w.heap.size, 0, none⟩) 1 1, .slice none 0 0, .slice none 0 0, .slice none 0 0] 27)).alloc (.cells #[.string ⟨#[109]⟩] 9)).alloc (.cells #[.int .u32 0, .int .u16 1, .string ⟨#[]⟩, .string ⟨#[]⟩, .int .u32 0, .int .u16 1, .string ⟨#[]⟩, .string ⟨#[]⟩] 37)).alloc (.cells #[.bool false, .slice none 0 0, .slice (some ⟨w.heap.size + 1 + 1, 0, none⟩) 1 1, .slice (some ⟨w.heap.size + 1 + 1 + 1, 0, none⟩) 2 2, .slice none 0 0] 27)) = w5 at *
  refine (HA1.out w5 LA).mono ?_
  clear HA1
  rintro x w6 ⟨rfl, hb6⟩
  have LA6 := LA.later hb6
  have LB6 := LB.later hb6
  have NA6 := NA.later hb6
  have NB6 := NB.later hb6
  have hb6' := hb0.trans (hb6.mono hb0.size)
  clear LA LB NA NB hb6 hb0
  obtain ⟨m0, m1, m2, m3, m4⟩ := NA6.cells
  go_wp2_with fail
  refine (HA2.out w6 LA6).mono ?_
  clear HA2 m0 m1 m2 m3 m4
  rintro x w7 ⟨rfl, hb7⟩
  have LB7 := LB6.later hb7
  have NB7 := NB6.later hb7
  have hb7' := hb6'.trans (hb7.mono hb6'.size)
  clear LA6 LB6 NA6 NB6 hb7 hb6'
  obtain ⟨m0, m1, m2, m3, m4⟩ := NB7.cells
  go_wp2_with fail
  refine (HB1.out w7 LB7).mono ?_
  clear HB1 m0 m1 m2 m3 m4
  rintro x w8 ⟨rfl, hb8⟩
  have LB8 := LB7.later hb8
  have NB8 := NB7.later hb8
  have hb8' := hb7'.trans (hb8.mono hb7'.size)
  clear LB7 NB7 hb8 hb7'
  obtain ⟨m0, m1, m2, m3, m4⟩ := NB8.cells
  go_wp2_with fail
  refine (HB2.out w8 LB8).mono ?_
  clear HB2 m0 m1 m2 m3 m4
  rintro x w9 ⟨rfl, hb9⟩
  have hb9' := hb8'.trans (hb9.mono hb8'.size)
  go_wp2_with fail
  go_ret
  exact ⟨rfl, hb9'⟩
end Go.Proofs.Ytknjemmhcjihfaa.Key
