/-
  Four results.
-/
import Derived.WalkKit
import Derived.OwnWalk
import Derived.Test.YthpeoeiaiabfcaaPosts
namespace Go.Proofs.Ythpeoeiaiabfcaa
open Go.ChangeShapes Go.WideShapes Go.ChangeAt Go.RowKit

theorem four_results {fn : Func} {t u v x : Tmp} (h : fn.results = #[.tmp t, .tmp u, .tmp v, .tmp x]) (tmps : Array Value) (P : Program) (w : World) :
    (results fn tmps).run P w = .ok (.tuple #[tmps.getD t undef, tmps.getD u undef, tmps.getD v undef, tmps.getD x undef]) w := by
  simp [results, h]
end Go.Proofs.Ythpeoeiaiabfcaa
