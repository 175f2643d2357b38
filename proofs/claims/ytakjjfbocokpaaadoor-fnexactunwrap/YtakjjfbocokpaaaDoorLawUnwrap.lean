/-
  The walk of laws.FnExactUnwrap: it returns true.
-/
import Derived.Test.YtakjjfbocokpaaaDoorWrapS
namespace Go.Proofs.YtakjjfbocokpaaaDoor
open Go.ChangeShapes Go.WideShapes Go.ChangeAt Go.RowKit

theorem law_unwrap (a0 : ByteArray) (n : Int) (a2 : ByteArray) (w : World) (_w0 : a0.size ≤ maxLen) (_w1 : (Lit.int .i64 n).wf = true) (_w2 : a2.size ≤ maxLen) (h0 : 1 < w.heap.size) (hT : Hid (CrcTabIn w)) :
    Calls Tryd.prog 7 #[.string a0, .int .i64 n, .string a2] w fun e w' => e = .returned (.bool true) ∧ Below w.heap.size w w' := by
  by_cases hb0 : (1048576 : Int) < (a0.size : Int)
  · go_enter Tryd.func7, Tryd.ntmps7
    go_wp2_with fail
    go_ret
    exact ⟨rfl, Below.refl _ _⟩
  by_cases hb1 : (1048576 : Int) < (a2.size : Int)
  · go_enter Tryd.func7, Tryd.ntmps7
    go_wp2_with fail
    go_ret
    exact ⟨rfl, Below.refl _ _⟩
  go_enter Tryd.func7, Tryd.ntmps7
  go_wp2_with fail
  refine (sUnwrap_any a0 a2 n _).mono ?_
  rintro e w1 ⟨rfl, hb1⟩
  have HB1 := hide hb1
  clear hb1
  go_wp2_with fail
  refine (iUnwrap_any a0 a2 n _ (by have := HB1.out.size; omega) (hide (hT.out.below HB1.out h0))).mono ?_
  rintro e w2 ⟨rfl, hb2⟩
  have HB2 := hide (HB1.out.trans (hb2.mono HB1.out.size))
  clear hb2
  go_wp2_with fail
  go_ret
  exact ⟨rfl, HB2.out⟩
end Go.Proofs.YtakjjfbocokpaaaDoor
