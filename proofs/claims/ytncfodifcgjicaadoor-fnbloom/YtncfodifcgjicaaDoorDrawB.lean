/-
  Contracts of spec.l1Below, l1Once, l1PickInt and l1Num.
-/
import Derived.Test.YtncfodifcgjicaaDoorDrawA
namespace Go.Proofs.YtncfodifcgjicaaDoor
open Go.ChangeShapes Go.WideShapes Go.ChangeAt Go.RowKit

set_option maxHeartbeats 1000000 in
theorem l1Below_any {B g : Nat} {a : Option Addr} {cap : Nat} {bs : List Int} {w : World} {c : Cu} (n : Int) (hn : n ≤ 1099511627776) (h : Cursor B g a cap bs w c) :
    Calls Tryd.prog 28 #[.pointer (some ⟨g, 0, none⟩), .int .i64 n] w (Drew B g a cap bs w (.int .i64 (cBelow bs n c)) (aBelow bs n c)) := by
  have H := hide h
  clear h
  by_cases h0 : n ≤ 0
  · have E : Hid (cBelow bs n c = 0 ∧ aBelow bs n c = c) := by unfold cBelow aBelow; rw [if_pos h0, if_pos h0]; exact ⟨rfl, rfl⟩
    go_enter Tryd.func28, Tryd.ntmps28
    go_wp2
    go_ret
    exact ⟨by rw [E.out.1]; rfl, by rw [E.out.2]; exact H.out, Turned.refl _ _⟩
  · by_cases h1 : n ≤ 256
    · have E : Hid (cBelow bs n c = cByte bs c % n ∧ aBelow bs n c = aByte bs c) := by unfold cBelow aBelow; rw [if_neg h0, if_neg h0, if_pos h1, if_pos h1]; exact ⟨rfl, rfl⟩
      have hb := cByte_bd bs c
      go_enter Tryd.func28, Tryd.ntmps28
      go_wp2_with (go_at_call 31; refine (l1Byte_any H.out).mono ?_; rintro e w1 ⟨rfl, hc1, ht1⟩; have HC1 := hide hc1; have HT1 := hide ht1; clear hc1 ht1)
      go_ret
      exact ⟨by rw [E.out.1]; rfl, by rw [E.out.2]; exact HC1.out, HT1.out⟩
    · have E : Hid (cBelow bs n c = (cByte bs c * 16777216 + cByte bs (aByte bs c) * 65536 + cByte bs (aByte bs (aByte bs c)) * 256 + cByte bs (aByte bs (aByte bs (aByte bs c)))) % n ∧ aBelow bs n c = aByte bs (aByte bs (aByte bs (aByte bs c)))) := by unfold cBelow aBelow; rw [if_neg h0, if_neg h0, if_neg h1, if_neg h1]; exact ⟨rfl, rfl⟩
      have hb1 := cByte_bd bs c
      have hb2 := cByte_bd bs (aByte bs c)
      have hb3 := cByte_bd bs (aByte bs (aByte bs c))
      have hb4 := cByte_bd bs (aByte bs (aByte bs (aByte bs c)))
      go_enter Tryd.func28, Tryd.ntmps28
      go_wp2_with fail
      refine (l1Byte_any H.out).mono ?_
      rintro e w1 ⟨rfl, hc1, ht1⟩
      have HC1 := hide hc1
      have HT1 := hide ht1
      clear hc1 ht1
      go_wp2_with fail
      refine (l1Byte_any HC1.out).mono ?_
      rintro e w2 ⟨rfl, hc2, ht2⟩
      have HC2 := hide hc2
      have HT2 := hide ht2
      clear hc2 ht2
      go_wp2_with fail
      refine (l1Byte_any HC2.out).mono ?_
      rintro e w3 ⟨rfl, hc3, ht3⟩
      have HC3 := hide hc3
      have HT3 := hide ht3
      clear hc3 ht3
      go_wp2_with fail
      refine (l1Byte_any HC3.out).mono ?_
      rintro e w4 ⟨rfl, hc4, ht4⟩
      have HC4 := hide hc4
      have HT4 := hide ht4
      clear hc4 ht4
      go_wp2
      go_ret
      exact ⟨by rw [E.out.1]; rfl, by rw [E.out.2]; exact HC4.out, ((HT1.out.trans HT2.out).trans HT3.out).trans HT4.out⟩

theorem l1Once_any {B g : Nat} {a : Option Addr} {cap : Nat} {bs : List Int} {w : World} {c : Cu} (n : Int) (hn : n ≤ 1099511627776) (h : Cursor B g a cap bs w c) :
    Calls Tryd.prog 26 #[.pointer (some ⟨g, 0, none⟩), .int .i64 n] w (Drew B g a cap bs w (.bool (cBelow bs n c == 0)) (aBelow bs n c)) := by
  have H := hide h
  clear h
  go_enter Tryd.func26, Tryd.ntmps26
  go_wp2_with (go_at_call 28; refine (l1Below_any n hn H.out).mono ?_; rintro e w1 ⟨rfl, hc1, ht1⟩; have HC1 := hide hc1; have HT1 := hide ht1; clear hc1 ht1)
  go_ret
  exact ⟨rfl, HC1.out, HT1.out⟩
end Go.Proofs.YtncfodifcgjicaaDoor
