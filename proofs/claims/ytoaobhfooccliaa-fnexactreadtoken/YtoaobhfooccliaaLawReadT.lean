/-
  The walk of laws.FnExactReadToken: it returns true.
-/
import Derived.Test.YtoaobhfooccliaaTokR
namespace Go.Proofs.Ytoaobhfooccliaa
open Go.ChangeShapes Go.WideShapes Go.ChangeAt Go.RowKit

theorem law_readToken (a0 a1 : ByteArray) (_w0 : a0.size ≤ maxLen) (w1 : a1.size ≤ maxLen) (w : World) :
    Calls Try.prog 5 #[.string a0, .string a1] w fun e w' => e = .returned (.bool true) ∧ Below w.heap.size w w' := by
  by_cases h0 : (1048576 : Int) < (a0.size : Int)
  · go_enter Try.func5, Try.ntmps5
    go_wp2_with fail
    go_ret
    exact ⟨rfl, Below.refl _ _⟩
  by_cases h1 : (1048576 : Int) < (a1.size : Int)
  · go_enter Try.func5, Try.ntmps5
    go_wp2_with fail
    go_ret
    exact ⟨rfl, Below.refl _ _⟩
  have HS := hide (fun W => sReadToken_any a0 a1 (by omega) W)
  have HI := hide (fun W => iReadToken_any a0 a1 w1 W)
  unfold ReadPost at HS HI
  generalize rtT (bl a0) (bl a1) = T at HS HI
  generalize rtE (bl a0) (bl a1) = E at HS HI
  generalize rtB (bl a0) (bl a1) = b at HS HI
  clear w1
  go_enter Try.func5, Try.ntmps5
  go_wp2_with fail
  refine (HS.out _).mono ?_
  rintro e w1 ⟨rfl, hb1⟩
  have HB1 := hide hb1
  clear hb1
  go_wp2_with fail
  refine (HI.out _).mono ?_
  rintro e w2 ⟨rfl, hb2⟩
  have HB2 := hide (HB1.out.trans (hb2.mono HB1.out.size))
  clear hb2
  go_wp2_with fail
  go_ret
  exact ⟨rfl, HB2.out⟩
end Go.Proofs.Ytoaobhfooccliaa
