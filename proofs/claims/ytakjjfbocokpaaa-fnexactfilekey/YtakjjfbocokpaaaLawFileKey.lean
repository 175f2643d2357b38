/-
  The walk of laws.FnExactFileKey: it returns true.
-/
import Derived.Test.YtakjjfbocokpaaaFilK
namespace Go.Proofs.Ytakjjfbocokpaaa
open Go.ChangeShapes Go.WideShapes Go.ChangeAt Go.RowKit

theorem law_FileKey (a0 : ByteArray) (n : Int) (_w0 : a0.size ≤ maxLen) (_w1 : (Lit.int .i64 n).wf = true) (w : World) :
    Calls Try.prog 3 #[.string a0, .int .i64 n] w fun e w' => e = .returned (.bool true) ∧ Below w.heap.size w w' := by
  by_cases hb0 : (1048576 : Int) < (a0.size : Int)
  · go_enter Try.func3, Try.ntmps3
    go_wp2_with fail
    go_ret
    exact ⟨rfl, Below.refl _ _⟩
  go_enter Try.func3, Try.ntmps3
  go_wp2_with fail
  refine (sFileKey_any a0 n _).mono ?_
  rintro e w1 ⟨rfl, hb1⟩
  have HB1 := hide hb1
  clear hb1
  go_wp2_with fail
  refine (iFileKey_any a0 n _).mono ?_
  rintro e w2 ⟨rfl, hb2⟩
  have HB2 := hide (HB1.out.trans (hb2.mono HB1.out.size))
  clear hb2
  go_wp2_with fail
  go_ret
  exact ⟨rfl, HB2.out⟩
end Go.Proofs.Ytakjjfbocokpaaa
