/-
  Texts of this proof, put together: BlmT.
-/
import Derived.Test.YtdlkgpobjacgeaaDoorPackAX
import Derived.Test.YtdlkgpobjacgeaaDoorPackAB
import Derived.Test.YtdlkgpobjacgeaaDoorPackAI
import Derived.Deep.QuietTactic
import Derived.BigQuiet

/-
  Contract of spec.BloomMay.
-/
namespace Go.Proofs.YtdlkgpobjacgeaaDoor
open Go.ChangeShapes Go.WideShapes Go.ChangeAt Go.RowKit

theorem below_drewN {B nq : Nat} {w w' : World} (h : Below B w w') : Below B w (w'.drewN nq) := ⟨h.os, h.tape, h.output, h.size, h.block⟩
end Go.Proofs.YtdlkgpobjacgeaaDoor
