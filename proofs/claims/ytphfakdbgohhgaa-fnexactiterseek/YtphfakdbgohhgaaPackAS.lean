/-
  Texts of this proof, put together: IterM.
-/
import Derived.Test.YtphfakdbgohhgaaPackAQ
import Derived.Test.YtphfakdbgohhgaaPackAR

/-
  Contracts of laws.markIter, heldIter.
-/
namespace Go.Proofs.Ytphfakdbgohhgaa
open Go.ChangeShapes Go.WideShapes Go.ChangeAt Go.RowKit Go.Joins

theorem markIter_any (B : Nat) (a : Option Addr) (cap k : Nat) (P : List KVE) (b c : ByteArray) (x : Int) (w : World) (hO : elKV.Owns B w (.slice a P.length cap) P) (hk : 0 < k) (hl : k + 2 * P.length ≤ 8388608) :
    Calls Try.prog 40 #[.agg #[.slice a P.length cap, .string b, .string c, .int .i64 x], .int .i64 k] w (MarkedKV B w a P.length cap k) := by
  have HO := hide hO
  clear hO
  go_enter Try.func40, Try.ntmps40
  go_wp2_with fail
  refine (markKVS_any B a cap k P _ (HO.out.below ((Below.refl w.heap.size w).alloc (Nat.le_refl _) _) (Nat.le_refl _)) hk hl).mono ?_
  rintro e w1 ⟨rfl, ho1, ht1⟩
  have HO1 := hide ho1
  have HT1 := hide (show Only (Value.slice a P.length cap).ownBlock w w1 from ⟨ht1.os, ht1.tape, ht1.output, Nat.le_trans (by simp) ht1.size, fun i hi hne => (ht1.block i (by simp; omega) hne).trans (Below.heap_alloc w _ i hi)⟩)
  clear ho1 ht1
  go_wp2_with fail
  go_ret
  exact ⟨rfl, HO1.out, HT1.out⟩

theorem heldIter_any (a : Option Addr) (cap k n : Nat) (b c : ByteArray) (x : Int) (w : World) (hr : elKV.Rd w w.heap.size a (marksG markKV 2 k n)) (hk : 0 < k) (hl : k + 2 * n ≤ 8388608) :
    Calls Try.prog 41 #[.agg #[.slice a n cap, .string b, .string c, .int .i64 x], .int .i64 k] w (fun e w' => e = .returned (.int .i64 ((k + 2 * n : Nat) : Int)) ∧ Below w.heap.size w w') := by
  have HR := hide hr
  clear hr
  go_enter Try.func41, Try.ntmps41
  go_wp2_with fail
  have hB := fun o => (Below.refl w.heap.size w).alloc (Nat.le_refl _) o
  refine (heldKVS_any a cap k n _ ((HR.out.below (hB _) (Nat.le_refl _)).mono (by simp)) hk hl).mono ?_
  rintro e w1 ⟨rfl, hb1⟩
  have HB1 := hide ((hB _).trans (hb1.mono (by simp)))
  clear hb1 hB
  go_wp2_with fail
  go_ret
  exact ⟨rfl, HB1.out⟩
end Go.Proofs.Ytphfakdbgohhgaa
