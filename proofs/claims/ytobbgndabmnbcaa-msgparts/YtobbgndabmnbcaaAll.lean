/-
  Contracts of All, and of the function that it hands back.
-/
import Derived.Test.YtobbgndabmnbcaaThru
namespace Go.Proofs.Ytobbgndabmnbcaa.Key
open Go.RowKit Go.Shelf Draw
open Go.Op (bytesLess)
attribute [local go_sem] Oper.semAt_some

theorem round_any {m m' : Nat} {P : Program} {l : Nat} {f : FuncId} {tmps : Array Value} {assign body : Code} {w : World} {R : Ending → World → Prop}
    (h : RoundIn Fence.wide m P l f tmps assign body w R) : RoundIn Fence.wide m' P l f tmps assign body w R := ⟨h.1, fun c cs _ => h.2 c cs (room_wide _)⟩
theorem yield_any {m : Nat} (m' : Nat) {P : Program} {l : Nat} {args : Array Value} {W : World} {R : Ending → World → Prop} (h : YieldAt Fence.wide m P l args W R) : YieldAt Fence.wide m' P l args W R := by
  obtain ⟨fn, tmps, assign, body, hy, hR⟩ := h
  exact ⟨fn, tmps, assign, body, hy, round_any hR⟩
theorem strK_b {w : World} (W : World) (l : Nat) (o o' : Obj) (_ : w.heap.size ≤ l) (h : W.heap[l]? = some o) (hc : o.isCells = false) (_ : o.isWalk = false) : StrKeep W (W.putObj l o') := by
  have hg := grownBy_putObj' W l o'
  refine ⟨hg.size, fun b cs hb => hg.block b (Array.getElem?_eq_some_iff.1 hb).1 fun e => ?_⟩
  cases e
  rw [h] at hb
  cases hb
  cases hc

set_option maxHeartbeats 1000000 in
theorem all47 (k : Nat) (w : World) : Calls Try.prog 47 #[.pointer (some ⟨k, 0, none⟩)] w fun e w' => e = .returned (.func (.func 57) #[] #[.pointer (some ⟨w.heap.size, 0, none⟩)]) ∧ w' = w.alloc (.cells #[.pointer (some ⟨k, 0, none⟩)] 66) := by
  have hmf : ∀ (fn : Fn) (first cap : Array Value) (w : World), (Instr.makeFunc fn first cap).run Try.prog w = .ok (.func fn first cap) w := fun _ _ _ _ => rfl
  go_enter Try.func47, Try.ntmps47
  go_wp2_with fail
  go_ret
  exact ⟨rfl, rfl⟩
set_option maxRecDepth 100000 in
set_option maxHeartbeats 1000000 in
theorem all_stops (n : Nat) (hn : 3 ≤ n) (bx k B : Nat) (kv vv : Value) (ks vs : List ByteArray) (w : World) (hbx : w.cell? ⟨bx, 0, none⟩ = some (.pointer (some ⟨k, 0, none⟩))) (hm : SMap w B k kv vv ks vs) (hl : ks.length ≤ 10000) :
    SeqStopsK Fence.wide n Try.prog 57 #[.pointer (some ⟨bx, 0, none⟩)] (fun x : ByteArray × ByteArray => #[Value.string x.1, Value.string x.2]) StrKeep (fun ys => ys = ks.zip vs)
      (fun pre => ∃ j, j ≤ ks.length ∧ pre = (ks.zip vs).take j) ks.length w := fun lp J Jx W hW hA _ hY h0 => by
  have hmW := hm.later hW
  have hc := (hW.cell (p := ⟨bx, 0, none⟩) (World.block_lt_of_cell? w _ hbx)).trans hbx
  have HT := hid (through58 (n - 1) (by omega) lp k B kv vv ks vs J Jx W hmW hl hA (fun pre x W1 hJ hlt => yield_any (n - 1 - 1) (hY pre x W1 hJ hlt)) h0)
  clear hmW hm hW hA hY h0
  refine callsIn_of_wp Try.func57 rfl trivial ?_ rfl
  simp only [Try.ntmps57, List.size_toArray, List.length_cons, List.length_nil, Nat.reduceAdd, Nat.reduceSub, Array.replicate_succ, Array.replicate_zero, List.push_toArray, List.append_toArray, List.nil_append, List.cons_append]
  gi_wp2
  refine ⟨trivial, fun _ => by omega, HT.out.mono ?_⟩
  rintro e w' ⟨⟨v, rfl⟩, hh⟩
  gi_wp2
  go_end0
  exact ⟨⟨_, rfl⟩, hh⟩
end Go.Proofs.Ytobbgndabmnbcaa.Key
