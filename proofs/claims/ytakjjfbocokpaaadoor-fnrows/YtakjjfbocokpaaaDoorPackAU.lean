/-
  Texts of this proof, put together: LogF.
-/
import Derived.RangeFuncNested
import Derived.RangeFuncBound
import Derived.RangeFuncCalls
import Derived.RangeFuncLeaves
import Derived.Shelf.Abstract
import Derived.Shelf.RegionOpen
import Derived.WalkKit
import Derived.OwnWalkIn
import Derived.TacticsInMore
import Derived.LoopNIn
import Derived.LoopIn
import Derived.Test.YtakjjfbocokpaaaDoorPackAS
import Derived.Test.YtakjjfbocokpaaaDoorPackAN

/-
  impl.claimedRows: its iterator's contract.
-/
namespace Go.Proofs.YtakjjfbocokpaaaDoor
open Go.ChangeShapes Go.WideShapes Go.ChangeAt Go.RowKit Go.Shelf
attribute [local go_sem] Oper.semAt_some

theorem grown_of_below {W W' : World} (h : Below W.heap.size W W') : W.grownBy W' none := ⟨h.os, h.tape, h.output, h.size, fun k hk _ => h.block k hk⟩
def strLen : Value → Nat
  | .string b => b.size
  | _ => 0
def encR (x : Lg) : Array Value := #[.agg #[.int .i64 x.1, .int .i64 x.2.1, .int .i64 x.2.2.1, .string x.2.2.2.1, .bool x.2.2.2.2]]
def allR (s : List UInt8) (xs : List Lg) : Prop := ∃ k, xs = clN k s ∧ restN k s = []
def someR (s : List UInt8) (xs : List Lg) : Prop := ∃ k, xs = clN (k + 1) s

set_option maxRecDepth 100000 in
set_option maxHeartbeats 4000000 in
theorem claimed1_in (n : Nat) (hn : 1 ≤ n) (l Bs : Nat) (s : ByteArray) (hm : s.size ≤ 1048576) (J Jx : List Lg → World → Prop) (B : Nat) (hJ : AbidesFrom B J)
    (hY : ∀ pre x W, J pre W → pre.length < s.size → YieldAt Fence.wide (n - 1) Tryd.prog l (encR x) W fun e W' =>
      (e = .returned (.bool true) ∧ J (pre ++ [x]) W' ∧ True) ∨ (e = .returned (.bool false) ∧ Jx (pre ++ [x]) W'))
    (W : World) (hc : W.cell? ⟨Bs, 0, none⟩ = some (.string s)) (h0 : J [] W) :
    CallsIn Fence.wide n Tryd.prog 97 #[.func (.yield l) #[] #[], .pointer (some ⟨Bs, 0, none⟩)] W fun e W' => (∃ v, e = .returned v) ∧
      ((∃ ys, allR (bl s) ys ∧ J ys W') ∨ (∃ pre, someR (bl s) pre ∧ Jx pre W')) := by
  refine callsIn_of_wp Tryd.func97 rfl trivial ?_ rfl
  simp only [Tryd.ntmps97, List.size_toArray, List.length_cons, List.length_nil, Nat.reduceAdd, Nat.reduceSub, Array.replicate_succ, Array.replicate_zero, List.push_toArray, List.append_toArray, List.nil_append, List.cons_append]
  gi_wp2
  gi_loopw [3] (fun q wr => ∃ (k : Nat) (t : ByteArray), q = .string t ∧ bl t = restN k (bl s) ∧ k + t.size ≤ s.size ∧ J (clN k (bl s)) wr) (fun q _ => strLen q)
  case atStart => exact ⟨0, s, rfl, rfl, by omega, h0⟩
  case round =>
    obtain ⟨k, t, rfl, ht, hk, hJs⟩ := hrel
    by_cases he : t.size = 0
    · have hte : t.toList.isEmpty = true := by
        rw [ByteArray.toList_eq, List.isEmpty_iff]
        exact List.length_eq_zero_iff.mp (by rw [← he]; exact bl_len t)
      have hr0 : restN k (bl s) = [] := by rw [← ht]; exact List.length_eq_zero_iff.mp (by rw [bl_len]; exact he)
      clear he ht
      gi_wp2
      go_end0
      exact ⟨⟨_, rfl⟩, .inl ⟨_, ⟨k, rfl, hr0⟩, hJs⟩⟩
    · have hte : t.toList.isEmpty = false := by
        rw [ByteArray.toList_eq, List.isEmpty_eq_false_iff]
        exact fun e => he (by rw [← bl_len]; exact List.length_eq_zero_iff.mpr e)
      have hlt : (rowR (bl t)).length < t.size := by
        have := rowR_lt (u := bl t) (fun e => he (by rw [← bl_len]; exact List.length_eq_zero_iff.mpr e))
        rwa [bl_len] at this
      have HC := hide (fun W => cutRow_any t (by omega) W)
      unfold CutRPost at HC
      have HCL := hide (show clN (k + 1) (bl s) = clN k (bl s) ++ [rowU (bl t)] by rw [clN_succ, ← ht])
      have HRS := hide (show restN (k + 1) (bl s) = rowR (bl t) by rw [restN_succ, ← ht])
      obtain ⟨R, hR⟩ : ∃ R, R = rowR (bl t) := ⟨_, rfl⟩
      obtain ⟨r, hr⟩ : ∃ r, r = rowU (bl t) := ⟨_, rfl⟩
      rw [← hR] at HC HRS hlt
      rw [← hr] at HC HCL
      obtain ⟨r0, r1, r2, r3, r4⟩ := r
      dsimp only at HC
      clear hR hr ht he
      gi_wp2
      refine ⟨trivial, (callsIn_wide.2 (HC.out _)).mono ?_⟩
      rintro e w1 ⟨rfl, hb1⟩
      have hX := (BoxV.new 49 wr #[.int .i64 0, .int .i64 0, .int .i64 0, .string ⟨#[]⟩, .bool false]).below hb1 (by simp)
      have hB1 : Below wr.heap.size wr w1 := ((Below.refl _ wr).alloc (Nat.le_refl _) _).trans (hb1.mono (by simp))
      have hB2 : Below wr.heap.size wr (((((w1.setCell ⟨wr.heap.size, 0, none⟩ (.int .i64 r0)).setCell ⟨wr.heap.size, 1, none⟩ (.int .i64 r1)).setCell ⟨wr.heap.size, 2, none⟩ (.int .i64 r2)).setCell ⟨wr.heap.size, 3, none⟩ (.string r3)).setCell ⟨wr.heap.size, 4, none⟩ (.bool r4)) :=
        ((((hB1.setCell (Nat.le_refl _) _).setCell (Nat.le_refl _) _).setCell (Nat.le_refl _) _).setCell (Nat.le_refl _) _).setCell (Nat.le_refl _) _
      have hJ2 := hJ _ _ _ none hJs (grown_of_below hB2) (fun r e => by cases e)
      obtain ⟨fn, tmps, assign, body, hy, hR⟩ := hY _ (r0, r1, r2, r3, r4) _ hJ2 (by rw [clN_len]; omega)
      unfold encR at hy
      dsimp only at hy
      rw [← HCL.out] at hR
      obtain ⟨c0, c1, c2, c3, c4⟩ := hX.five
      have z0 := hX.frozen 0
      have z1 := hX.frozen 1
      have z2 := hX.frozen 2
      have z3 := hX.frozen 3
      have z4 := hX.frozen 4
      have hlt1 := hX.lt
      clear hX hB1 hB2 hJ2 hb1
      gi_wp2
      refine hR.mono ?_
      rintro e W3 (⟨rfl, hJ3, _⟩ | ⟨rfl, hJx3⟩)
      · gi_wp2
        go_roundw
        case rel => exact ⟨k + 1, ⟨R.toArray⟩, rfl, by rw [bl_of, HRS.out], by rw [size_of]; omega, hJ3⟩
        case measure => (have hz := size_of R; simp [strLen]; omega)
      · gi_wp2
        refine bodyPost_ret (results_none rfl _ _ _) rfl ?_
        exact ⟨⟨_, rfl⟩, .inr ⟨_, ⟨k, rfl⟩, hJx3⟩⟩

theorem claimed_in (n : Nat) (s : ByteArray) (w : World) :
    CallsIn Fence.wide n Tryd.prog 68 #[.string s] w fun e w' => e = .returned (.func (.func 97) #[] #[.pointer (some ⟨w.heap.size, 0, none⟩)]) ∧ w' = w.alloc (.cells #[.string s] 9) := by
  refine callsIn_of_wp Tryd.func68 rfl trivial ?_ rfl
  simp only [Tryd.ntmps68, List.size_toArray, List.length_cons, List.length_nil, Nat.reduceAdd, Nat.reduceSub, Array.replicate_succ, Array.replicate_zero, List.push_toArray, List.append_toArray, List.nil_append, List.cons_append]
  gi_wp2
  go_ret
  exact ⟨rfl, rfl⟩
theorem claimed_stops (n : Nat) (hn : 1 ≤ n) (Bs : Nat) (s : ByteArray) (hm : s.size ≤ 1048576) (w0 : World) (hBs : Bs < w0.heap.size) (hc : w0.cell? ⟨Bs, 0, none⟩ = some (.string s)) :
    SeqStopsK Fence.wide n Tryd.prog 97 #[.pointer (some ⟨Bs, 0, none⟩)] encR (fun _ _ => True) (allR (bl s)) (someR (bl s)) s.size w0 :=
  fun l J Jx V hV hJ _ hY h0 => claimed1_in n hn l Bs s hm J Jx _ hJ hY V ((hV.cell (p := ⟨Bs, 0, none⟩) hBs).trans hc) h0
end Go.Proofs.YtakjjfbocokpaaaDoor
