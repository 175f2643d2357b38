/-
  Contract of impl.widthOk.
-/
import Derived.Test.YtakjjfbocokpaaaDoorRows
import Derived.Test.YtakjjfbocokpaaaDoorSmallI
import Derived.Test.YtakjjfbocokpaaaDoorMath
import Derived.WalkKit
import Derived.ProofKit
import Derived.OpenShut
import Derived.ShutString
import Derived.WalkSpells
namespace Go.Proofs.YtakjjfbocokpaaaDoor
open Go.ChangeShapes Go.WideShapes Go.ChangeAt Go.RowKit

theorem widthOk_any (x : Int) (w : World) :
    Calls Tryd.prog 110 #[.int .i64 x] w fun e w' => e = .returned (.bool (decide (1 ≤ x) && decide (x ≤ 7))) ∧ w = w' := by
  go_enter Tryd.func110, Tryd.ntmps110
  go_wp2
  all_goals go_ret
  all_goals (refine ⟨?_, rfl⟩; simp [*] <;> omega)
end Go.Proofs.YtakjjfbocokpaaaDoor
