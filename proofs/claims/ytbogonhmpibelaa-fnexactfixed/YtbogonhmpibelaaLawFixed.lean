/-
  The walk of laws.FnExactFixed: it returns true.
-/
import Derived.Test.YtbogonhmpibelaaFixedS
namespace Go.Proofs.Ytbogonhmpibelaa
open Go.ChangeShapes Go.WideShapes Go.ChangeAt Go.RowKit

theorem law_fixed (a0 : Int) (a1 : Int) (w0 : (Lit.int .i64 a0).wf = true) (_w1 : (Lit.int .i64 a1).wf = true) (w : World) :
    Calls Try.prog 3 #[.int .i64 a0, .int .i64 a1] w fun e w' => e = .returned (.bool true) ∧ Below w.heap.size w w' := by
  have hb : a0 < 9223372036854775808 := (show -9223372036854775808 ≤ a0 ∧ a0 ≤ 9223372036854775807 by simpa [Lit.wf, IntKind.min, IntKind.max, IntKind.signed, IntKind.bits] using w0) |>.2 |> fun h => by omega
  go_enter Try.func3, Try.ntmps3
  go_wp2_with (first | (go_at_call 9; refine (sFixed_any a0 a1 _ hb).mono ?_; rintro e w1 ⟨rfl, hb1⟩; have HB1 := hide hb1; clear hb1) | (go_at_call 10; refine (iFixed_any a0 a1 _ hb).mono ?_; rintro e w2 ⟨rfl, hb2⟩; have HB2 := hide hb2; clear hb2))
  go_ret
  exact ⟨rfl, HB1.out.trans (HB2.out.mono HB1.out.size)⟩
end Go.Proofs.Ytbogonhmpibelaa
