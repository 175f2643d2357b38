/-
  The walk of laws.FnExactVar: it returns true.
-/
import Derived.Test.YtbogonhmpibelaaVarS
namespace Go.Proofs.Ytbogonhmpibelaa
open Go.ChangeShapes Go.WideShapes Go.ChangeAt Go.RowKit

theorem law_var (a0 : Int) (_w0 : (Lit.int .i64 a0).wf = true) (w : World) :
    Calls Try.prog 5 #[.int .i64 a0] w fun e w' => e = .returned (.bool true) ∧ Below w.heap.size w w' := by
  go_enter Try.func5, Try.ntmps5
  go_wp2_with (first | (go_at_call 13; refine (sVar_any a0 _).mono ?_; rintro e w1 ⟨rfl, hb1⟩; have HB1 := hide hb1; clear hb1) | (go_at_call 14; refine (iVar_any a0 _).mono ?_; rintro e w2 ⟨rfl, hb2⟩; have HB2 := hide hb2; clear hb2))
  go_ret
  exact ⟨rfl, HB1.out.trans (HB2.out.mono HB1.out.size)⟩
end Go.Proofs.Ytbogonhmpibelaa
