/-
  Contract of impl.widthOk.
-/
import Derived.Test.YtakjjfbocokpaaaRows
import Derived.Test.YtakjjfbocokpaaaSmallI
import Derived.Test.YtakjjfbocokpaaaMath
import Derived.WalkKit
import Derived.ProofKit
import Derived.OpenShut
import Derived.ShutString
import Derived.WalkSpells
namespace Go.Proofs.Ytakjjfbocokpaaa
open Go.ChangeShapes Go.WideShapes Go.ChangeAt Go.RowKit

theorem widthOk_any (x : Int) (w : World) :
    Calls Try.prog 22 #[.int .i64 x] w fun e w' => e = .returned (.bool (decide (1 ≤ x) && decide (x ≤ 7))) ∧ w = w' := by
  go_enter Try.func22, Try.ntmps22
  go_wp2
  all_goals go_ret
  all_goals (refine ⟨?_, rfl⟩; simp [*] <;> omega)
end Go.Proofs.Ytakjjfbocokpaaa
