/-
  The walk of laws.FnExactNonceOf: it returns true.
-/
import Derived.Test.YtoggdlmgoaecdaaNonce
namespace Go.Proofs.Ytoggdlmgoaecdaa
open Go.ChangeShapes Go.WideShapes Go.ChangeAt Go.RowKit

theorem law_nonce (a0 : Int) (a1 : Int) (_w0 : (Lit.int .i64 a0).wf = true) (_w1 : (Lit.int .i64 a1).wf = true) (w : World) :
    Calls Try.prog 6 #[.int .i64 a0, .int .i64 a1] w fun e w' => e = .returned (.bool true) ∧ Below w.heap.size w w' := by
  go_enter Try.func6, Try.ntmps6
  go_wp2_with (first | (go_at_call 16; refine (sNonce_any a0 a1 _).mono ?_; rintro e w1 ⟨rfl, hb1⟩; have HB1 := hide hb1; clear hb1) | (go_at_call 13; refine (iNonce_any a0 a1 _).mono ?_; rintro e w2 ⟨rfl, hb2⟩; have HB2 := hide hb2; clear hb2))
  go_ret
  exact ⟨rfl, HB1.out.trans (HB2.out.mono HB1.out.size)⟩
end Go.Proofs.Ytoggdlmgoaecdaa
