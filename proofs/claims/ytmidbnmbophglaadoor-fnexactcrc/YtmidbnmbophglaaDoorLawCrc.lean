/-
  The walk of laws.FnExactCrc: it returns true.
-/
import Derived.Test.YtmidbnmbophglaaDoorCrcI
import Derived.Test.YtmidbnmbophglaaDoorCrcS
namespace Go.Proofs.YtmidbnmbophglaaDoor
open Go.ChangeShapes Go.WideShapes Go.ChangeAt Go.RowKit

theorem law_crc (a0 : ByteArray) (w0 : a0.size ≤ maxLen) (w : World) (h0 : 0 < w.heap.size) (hT : Hid (CrcTabIn w)) :
    Calls Tryd.prog 3 #[.string a0] w fun e w' => e = .returned (.bool true) ∧ Below w.heap.size w w' := by
  by_cases hb : 1048576 < a0.size
  · go_enter Tryd.func3, Tryd.ntmps3
    go_wp2
    go_ret
    exact ⟨rfl, Below.refl _ _⟩
  · go_enter Tryd.func3, Tryd.ntmps3
    go_wp2_with (first | (go_at_call 4; refine (sCrc_any a0 _ w0).mono ?_; rintro e w' ⟨rfl, rfl⟩) | (go_at_call 5; refine (iCrc_any a0 _ w0 h0 hT).mono ?_; rintro e w' ⟨rfl, hbel⟩))
    go_ret
    exact ⟨rfl, hbel⟩
end Go.Proofs.YtmidbnmbophglaaDoor
