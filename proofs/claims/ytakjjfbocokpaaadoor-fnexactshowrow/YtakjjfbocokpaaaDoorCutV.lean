/-
  A varint cut off a string: what it says, and what follows it. Nothing here speaks of a program.
-/
import Derived.Test.YtakjjfbocokpaaaDoorMathR
namespace Go.Proofs.YtakjjfbocokpaaaDoor
open Go.RowKit

def cutVn (l : List UInt8) : Nat := (readVarL l).1
def cutVr (l : List UInt8) : List UInt8 := l.drop (readVarL l).2
theorem cutV_var (m : Nat) (hm : m ≤ 562949953421311) (T : List UInt8) : cutVn (varL m ++ T) = m ∧ cutVr (varL m ++ T) = T := by
  have h := readVarL_var m hm T
  unfold cutVn cutVr
  rw [h]
  exact ⟨rfl, List.drop_left⟩
theorem cutVr_le (l : List UInt8) : (cutVr l).length ≤ l.length := by unfold cutVr; rw [List.length_drop]; omega
end Go.Proofs.YtakjjfbocokpaaaDoor
