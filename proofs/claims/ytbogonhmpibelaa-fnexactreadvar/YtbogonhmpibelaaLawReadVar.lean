/-
  The walk of laws.FnExactReadVar: it returns true.
-/
import Derived.Test.YtbogonhmpibelaaReadVarS
namespace Go.Proofs.Ytbogonhmpibelaa
open Go.ChangeShapes Go.WideShapes Go.ChangeAt Go.RowKit

theorem law_readVar (a0 : ByteArray) (w0 : a0.size ≤ maxLen) (w : World) :
    Calls Try.prog 6 #[.string a0] w fun e w' => e = .returned (.bool true) ∧ Below w.heap.size w w' := by
  by_cases hb : 1048576 < a0.size
  · go_enter Try.func6, Try.ntmps6
    go_wp2
    go_ret
    exact ⟨rfl, Below.refl _ _⟩
  · go_enter Try.func6, Try.ntmps6
    go_wp2_with (first | (go_at_call 15; refine (sReadVar_any a0 _ w0).mono ?_; rintro e w1 ⟨rfl, hb1⟩; have HB1 := hide hb1; clear hb1) | (go_at_call 16; refine (iReadVar_any a0 _ w0).mono ?_; rintro e w2 ⟨rfl, hb2⟩; have HB2 := hide hb2; clear hb2))
    go_ret
    exact ⟨rfl, HB1.out.trans (HB2.out.mono HB1.out.size)⟩
end Go.Proofs.Ytbogonhmpibelaa
