/-
  The walk of laws.FnExactBloomMay.
-/
import Derived.Test.YtncfodifcgjicaaDoorBlmT
import Derived.Test.YtncfodifcgjicaaDoorBlmK
namespace Go.Proofs.YtncfodifcgjicaaDoor
open Go.ChangeShapes Go.WideShapes Go.ChangeAt Go.RowKit

theorem law_BloomMay (b k : ByteArray) (w : World) (hb : b.size ≤ maxLen) (_hk : k.size ≤ maxLen) (h0 : 0 < w.heap.size) (hT : Hid (CrcTabIn w)) :
    Calls Tryd.prog 5 #[.string b, .string k] w (TruePost w) := by
  by_cases c0 : 1048576 < b.size
  · have hd : decide ((1048576 : Int) < b.size) = true := decide_eq_true (by omega)
    go_enter Tryd.func5, Tryd.ntmps5
    go_wp2_with fail
    go_ret
    exact ⟨rfl, Below.refl _ _⟩
  have hd0 : decide ((1048576 : Int) < b.size) = false := decide_eq_false (by omega)
  by_cases c1 : 1048576 < k.size
  · have hd : decide ((1048576 : Int) < k.size) = true := decide_eq_true (by omega)
    go_enter Tryd.func5, Tryd.ntmps5
    go_wp2_with fail
    go_ret
    exact ⟨rfl, Below.refl _ _⟩
  have hd1 : decide ((1048576 : Int) < k.size) = false := decide_eq_false (by omega)
  have HS := hide (fun W => sMay_any b k W hb (by omega))
  have HI := hide (fun W (h : Below w.heap.size w W) => iMay_any b k W hb (by omega) (Nat.lt_of_lt_of_le h0 h.size) (hide (hT.out.below h h0)))
  generalize mayV (bl b) (bl k) = V at *
  have hq : (V != V) = false := by simp
  clear c0 c1 hb
  go_enter Tryd.func5, Tryd.ntmps5
  go_wp2_with fail
  refine (HS.out _).mono ?_
  rintro e w1 ⟨rfl, hb1⟩
  have HB1 := hide hb1
  clear hb1
  go_wp2_with fail
  refine (HI.out _ HB1.out).mono ?_
  rintro e w2 ⟨rfl, hb2⟩
  have HB2 := hide (HB1.out.trans (hb2.mono HB1.out.size))
  clear hb2
  go_wp2_with fail
  go_ret
  exact ⟨rfl, HB2.out⟩
end Go.Proofs.YtncfodifcgjicaaDoor
