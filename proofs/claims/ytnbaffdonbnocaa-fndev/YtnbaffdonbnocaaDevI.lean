/-
  slices.Backward over cached writes: its iterator's contract.
-/
import Derived.RangeFuncNested
import Derived.RangeFuncBound
import Derived.RangeFuncCalls
import Derived.RangeFuncLeaves
import Derived.Shelf.Abstract
import Derived.Shelf.RegionOpen
import Derived.WalkKit
import Derived.OwnWalkIn
import Derived.TacticsInMore
import Derived.LoopNIn
import Derived.LoopIn
import Derived.Test.YtnbaffdonbnocaaDevP
namespace Go.Proofs.Ytnbaffdonbnocaa
open Go.ChangeShapes Go.WideShapes Go.ChangeAt Go.RowKit Go.Shelf
attribute [local go_sem] Oper.semAt_some

/-- what has come when k rounds are over -/
def upto {α : Type} (f : Nat → α) (k : Nat) : List α := (List.range k).map f
theorem upto_succ {α : Type} (f : Nat → α) (k : Nat) : upto f (k + 1) = upto f k ++ [f k] := by simp [upto, List.range_succ]
theorem upto_length {α : Type} (f : Nat → α) (k : Nat) : (upto f k).length = k := by simp [upto]
theorem mem_upto {α : Type} {f : Nat → α} {k : Nat} {x : α} : x ∈ upto f k ↔ ∃ j, j < k ∧ f j = x := by simp [upto]
/-- the k-th from behind, with its place -/
def backF (L : List Slot) (k : Nat) : Nat × Slot := (L.length - 1 - k, (tn L (L.length - 1 - k), ky L (L.length - 1 - k)))

set_option maxRecDepth 100000 in
set_option maxHeartbeats 2000000 in
theorem backward1_in (F : Fence) (n : Nat) (hf : F.fn 56) (hro : F.round = none) (hn : 1 ≤ n) (l Bs n₀ : Nat) (a : Option Addr) (cap : Nat) (L : List Slot) (hl : L.length ≤ 2097152) (J Jx : List (Nat × Slot) → World → Prop)
    (hY : ∀ pre x W, J pre W → pre.length < L.length → YieldAt F (n - 1) Try.prog l #[.int .i64 (x.1 : Int), .agg #[.int .i64 x.2.1, .string x.2.2]] W fun e W' =>
      (e = .returned (.bool true) ∧ J (pre ++ [x]) W' ∧ Below n₀ W W') ∨ (e = .returned (.bool false) ∧ Jx (pre ++ [x]) W'))
    (W : World) (hBs : Bs < n₀) (hc : W.cell? ⟨Bs, 0, none⟩ = some (.slice a L.length cap)) (hr : SlotRd W n₀ a L) (h0 : J [] W) :
    CallsIn F n Try.prog 56 #[.func (.yield l) #[] #[], .pointer (some ⟨Bs, 0, none⟩)] W fun e W' => (∃ v, e = .returned v) ∧
      ((∃ ys, ys = upto (backF L) L.length ∧ J ys W') ∨ (∃ pre, (∃ k, k ≤ L.length ∧ pre = upto (backF L) k) ∧ Jx pre W')) := by
  have HR := hide hr
  clear hr
  obtain ⟨m, hm⟩ : ∃ m, L.length = m := ⟨_, rfl⟩
  have HM := hide hm
  rw [hm] at hl hY hc ⊢
  clear hm
  refine callsIn_of_wp Try.func56 rfl hf ?_ hro
  simp only [Try.ntmps56, List.size_toArray, List.length_cons, List.length_nil, Nat.reduceAdd, Nat.reduceSub, Array.replicate_succ, Array.replicate_zero, List.push_toArray, List.append_toArray, List.nil_append, List.cons_append]
  gi_wp2
  gi_loopw [3] (fun q wr => ∃ k i : Nat, k + i = m ∧ q = .int .i64 ((i : Int) - 1) ∧ J (upto (backF L) k) wr ∧ Below n₀ W wr) (fun q _ => (intOf q + 1).toNat)
  case atStart => exact ⟨0, m, by omega, rfl, h0, Below.refl _ _⟩
  case round =>
    obtain ⟨k, i, hk, rfl, hJs, hnx⟩ := hrel
    have hcx := (hnx.cell (p := ⟨Bs, 0, none⟩) hBs).trans hc
    cases i with
    | zero =>
      obtain rfl : k = m := by omega
      have e1 : ((0 : Nat) : Int) - 1 = -1 := by omega
      rw [e1]
      gi_wp2
      go_end0
      exact ⟨⟨_, rfl⟩, .inl ⟨_, rfl, hJs⟩⟩
    | succ i =>
      have e1 : ((i + 1 : Nat) : Int) - 1 = (i : Int) := by omega
      rw [e1]
      have hbk : backF L k = (i, (tn L i, ky L i)) := by unfold backF; rw [HM.out, show m - 1 - k = i by omega]
      have him : i < m := by omega
      obtain ⟨b, o, rfl, hb, hcc⟩ := HR.out (by rw [HM.out]; omega)
      obtain ⟨p0, p1⟩ := hcc i (by rw [HM.out]; exact him)
      have d0 := (hnx.cell (p := ⟨b, o + i * 2, none⟩) hb).trans p0
      have d1 := (hnx.cell (p := ⟨b, o + i * 2 + 1, none⟩) hb).trans p1
      obtain ⟨fn, tmps, assign, body, hy, hR⟩ := hY _ (i, (tn L i, ky L i)) wr hJs (by rw [upto_length]; omega)
      dsimp only at hy
      have HUp := hide (show upto (backF L) k ++ [(i, (tn L i, ky L i))] = upto (backF L) (k + 1) by rw [upto_succ, hbk])
      rw [HUp.out] at hR
      clear hbk hcc p0 p1
      gi_wp2
      refine hR.mono ?_
      rintro e W3 (⟨rfl, hJ3, hk3⟩ | ⟨rfl, hJx3⟩)
      · gi_wp2
        go_roundw
        case rel => exact ⟨k + 1, i, by omega, rfl, hJ3, hnx.trans hk3⟩
        case measure => simp [intOf]
      · gi_wp2
        refine bodyPost_ret (results_none rfl _ _ _) rfl ?_
        exact ⟨⟨_, rfl⟩, .inr ⟨_, ⟨k + 1, by omega, rfl⟩, hJx3⟩⟩

theorem backward_in (F : Fence) (n : Nat) (hf : F.fn 34) (hro : F.round = none) (a : Option Addr) (len cap : Nat) (w : World) :
    CallsIn F n Try.prog 34 #[.slice a len cap] w fun e w' => e = .returned (.func (.func 56) #[] #[.pointer (some ⟨w.heap.size, 0, none⟩)]) ∧ w' = w.alloc (.cells #[.slice a len cap] 25) := by
  refine callsIn_of_wp Try.func34 rfl hf ?_ hro
  simp only [Try.ntmps34, List.size_toArray, List.length_cons, List.length_nil, Nat.reduceAdd, Nat.reduceSub, Array.replicate_succ, Array.replicate_zero, List.push_toArray, List.append_toArray, List.nil_append, List.cons_append]
  gi_wp2
  go_ret
  exact ⟨rfl, rfl⟩

theorem backward_stops (F : Fence) (n : Nat) (hf : F.fn 56) (hro : F.round = none) (hn : 1 ≤ n) (Bs : Nat) (a : Option Addr) (cap : Nat) (L : List Slot) (hl : L.length ≤ 2097152) (w : World) (hBs : Bs < w.heap.size)
    (hc : w.cell? ⟨Bs, 0, none⟩ = some (.slice a L.length cap)) (hr : SlotRd w w.heap.size a L) :
    SeqStopsK F n Try.prog 56 #[.pointer (some ⟨Bs, 0, none⟩)] (fun x : Nat × Slot => #[Value.int .i64 (x.1 : Int), .agg #[.int .i64 x.2.1, .string x.2.2]]) (Below w.heap.size) (fun ys => ys = upto (backF L) L.length)
      (fun pre => ∃ k, k ≤ L.length ∧ pre = upto (backF L) k) L.length w := fun l J Jx W hW _ _ hY h0 =>
  backward1_in F n hf hro hn l Bs w.heap.size a cap L hl J Jx hY W hBs ((hW.cell (p := ⟨Bs, 0, none⟩) hBs).trans hc) (hr.below hW (Nat.le_refl _)) h0
end Go.Proofs.Ytnbaffdonbnocaa
