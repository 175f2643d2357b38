/-
  Split off NonceY: nonceHead, nonceL, length_nonceL, fixedV7.
-/
import Derived.Test.YtakjjfbocokpaaaDoorFixedI
namespace Go.Proofs.YtakjjfbocokpaaaDoor
open Go.ChangeShapes Go.WideShapes Go.ChangeAt Go.RowKit

/-- The five bytes ahead of the number. -/
def nonceHead (k : Nat) : List UInt8 := [UInt8.ofNat k, 0, 0, 0, 0]
def nonceL (k n : Int) : List UInt8 := if 0 ≤ k ∧ k ≤ 255 ∧ 0 ≤ n ∧ n ≤ 562949953421311 then nonceHead k.toNat ++ lowB n.toNat 7 else []
theorem length_nonceL (k n : Int) (h : 0 ≤ k ∧ k ≤ 255 ∧ 0 ≤ n ∧ n ≤ 562949953421311) : (nonceL k n).length = 12 := by
  rw [nonceL, if_pos h, List.length_append, length_lowB]; rfl
theorem fixedV7 (n : Nat) (h : (n : Int) ≤ 562949953421311) : fixedV n 7 = lowB n 7 := by
  rw [fixedV, if_pos ⟨by decide, by decide, by omega⟩, fixedL, if_pos]
  · rfl
  · show n / 256 ^ 7 = 0
    exact Nat.div_eq_of_lt (by omega)
end Go.Proofs.YtakjjfbocokpaaaDoor
