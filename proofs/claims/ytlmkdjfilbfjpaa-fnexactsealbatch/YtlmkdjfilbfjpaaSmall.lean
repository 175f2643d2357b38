/-
  Contract of impl.widthOk.
-/
import Derived.Test.YtlmkdjfilbfjpaaRows
import Derived.Test.YtlmkdjfilbfjpaaSmallI
import Derived.Test.YtlmkdjfilbfjpaaMath
import Derived.WalkKit
import Derived.ProofKit
import Derived.OpenShut
import Derived.ShutString
import Derived.WalkSpells
namespace Go.Proofs.Ytlmkdjfilbfjpaa
open Go.ChangeShapes Go.WideShapes Go.ChangeAt Go.RowKit

theorem widthOk_any (x : Int) (w : World) :
    Calls Try.prog 59 #[.int .i64 x] w fun e w' => e = .returned (.bool (decide (1 ≤ x) && decide (x ≤ 7))) ∧ w = w' := by
  go_enter Try.func59, Try.ntmps59
  go_wp2
  all_goals go_ret
  all_goals (refine ⟨?_, rfl⟩; simp [*] <;> omega)
end Go.Proofs.Ytlmkdjfilbfjpaa
