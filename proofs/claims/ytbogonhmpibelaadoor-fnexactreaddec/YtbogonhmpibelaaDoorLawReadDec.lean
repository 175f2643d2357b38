/-
  The walk of laws.FnExactReadDec: it returns true, where the library's table and errors lie as the program lays them.
-/
import Derived.Test.YtbogonhmpibelaaDoorReadDecS
namespace Go.Proofs.YtbogonhmpibelaaDoor
open Go.ChangeShapes Go.WideShapes Go.ChangeAt Go.RowKit

theorem law_readDec (a0 : ByteArray) (_w0 : a0.size ≤ maxLen) (w : World) (ht : Pow w) (hE : Errs w) :
    Calls Tryd.prog 5 #[.string a0] w fun e w' => e = .returned (.bool true) ∧ Below w.heap.size w w' := by
  have HT := hide ht
  have HE := hide hE
  clear ht hE
  by_cases hb : 1048576 < a0.size
  · go_enter Tryd.func5, Tryd.ntmps5
    go_wp2
    go_ret
    exact ⟨rfl, Below.refl _ _⟩
  · go_enter Tryd.func5, Tryd.ntmps5
    go_wp2_with (first | (go_at_call 19; refine (sReadDec_any a0 _ (by omega)).mono ?_; rintro e w1 ⟨x1, b1, hr1, rfl, hb1⟩; have HB1 := hide hb1; have HR1 := hide hr1; clear hb1 hr1) | (go_at_call 13; refine (iReadDec_any a0 _ (by omega) (HT.out.below HB1.out) (HE.out.below HB1.out)).mono ?_; rintro e w2 ⟨x2, b2, hr2, rfl, hb2⟩; have HB2 := hide hb2; obtain ⟨hx, hbb⟩ := RD.unique hr2 HR1.out; subst hx hbb; clear hb2 hr2))
    go_ret
    exact ⟨rfl, HB1.out.trans (HB2.out.mono HB1.out.size)⟩
end Go.Proofs.YtbogonhmpibelaaDoor
