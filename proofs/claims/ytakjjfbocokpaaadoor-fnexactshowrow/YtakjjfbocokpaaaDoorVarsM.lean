/-
  So many varints, one behind another: what l6Vars answers, on lists. Nothing here speaks of the program.
-/
import Derived.Test.YtakjjfbocokpaaaDoorMathR
namespace Go.Proofs.YtakjjfbocokpaaaDoor
open Go.RowKit

def varsF (s : List UInt8) : Nat → Int → List Nat × Int
  | 0, p => ([], p)
  | n + 1, p => if p < 0 ∨ (s.length : Int) < p then ([], -1) else
      if (readVarL (s.drop p.toNat)).2 = 0 then ([], -1) else
        ((readVarL (s.drop p.toNat)).1 :: (varsF s n (p + ((readVarL (s.drop p.toNat)).2 : Nat))).1, (varsF s n (p + ((readVarL (s.drop p.toNat)).2 : Nat))).2)
theorem varsF_zero (s : List UInt8) (p : Int) : varsF s 0 p = ([], p) := rfl
theorem varsF_out (s : List UInt8) (n : Nat) (p : Int) (h : p < 0 ∨ (s.length : Int) < p) : varsF s (n + 1) p = ([], -1) := by rw [varsF, if_pos h]
theorem varsF_none (s : List UInt8) (n : Nat) (p : Nat) (h : p ≤ s.length) (h0 : (readVarL (s.drop p)).2 = 0) : varsF s (n + 1) p = ([], -1) := by
  rw [varsF, if_neg (by omega), Int.toNat_natCast, if_pos h0]
theorem varsF_step (s : List UInt8) (n : Nat) (p : Nat) (h : p ≤ s.length) (h0 : (readVarL (s.drop p)).2 ≠ 0) : varsF s (n + 1) p = ((readVarL (s.drop p)).1 :: (varsF s n ((p + (readVarL (s.drop p)).2 : Nat) : Int)).1, (varsF s n ((p + (readVarL (s.drop p)).2 : Nat) : Int)).2) := by
  rw [varsF, if_neg (by omega), Int.toNat_natCast, if_neg h0, Int.natCast_add]
end Go.Proofs.YtakjjfbocokpaaaDoor
