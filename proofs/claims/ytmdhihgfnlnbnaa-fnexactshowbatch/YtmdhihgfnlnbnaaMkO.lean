/-
  Contract of impl.markOf.
-/
import Derived.Test.YtmdhihgfnlnbnaaStrK
namespace Go.Proofs.Ytmdhihgfnlnbnaa
open Go.ChangeShapes Go.WideShapes Go.ChangeAt Go.RowKit

/-- the byte of a mark -/
def mkB (d : Bool) : List UInt8 := if d = true then [1] else [0]
theorem markOf_any (d : Bool) (w : World) : Calls Try.prog 77 #[.bool d] w fun e w' => e = .returned (.string ⟨(mkB d).toArray⟩) ∧ w = w' := by
  cases d with
  | true =>
    rw [show mkB true = [1] from rfl]
    go_enter Try.func77, Try.ntmps77
    go_wp2
    all_goals go_ret
    all_goals exact ⟨rfl, rfl⟩
  | false =>
    rw [show mkB false = [0] from rfl]
    go_enter Try.func77, Try.ntmps77
    go_wp2
    all_goals go_ret
    all_goals exact ⟨rfl, rfl⟩
end Go.Proofs.Ytmdhihgfnlnbnaa
