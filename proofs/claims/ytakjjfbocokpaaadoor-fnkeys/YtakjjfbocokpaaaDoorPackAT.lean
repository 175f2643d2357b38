/-
  Texts of this proof, put together: DrawU.
-/
import Derived.Test.YtakjjfbocokpaaaDoorPackAI
import Derived.Test.YtakjjfbocokpaaaDoorPackAJ
import Derived.Test.YtakjjfbocokpaaaDoorPackAH
import Derived.Test.YtakjjfbocokpaaaDoorPackAS

/-
  Contract of spec.DrawUnwrap: what the law needs of it.
-/
namespace Go.Proofs.YtakjjfbocokpaaaDoor
open Go.ChangeShapes Go.WideShapes Go.ChangeAt Go.RowKit

def UnDrawn (w : World) (e : Ending) (w' : World) : Prop :=
  ∃ (m s : ByteArray) (n : Int), e = .returned (.tuple #[.string m, .int .i64 n, .string s]) ∧ Below w.heap.size w w'
theorem wrapV_le (m : List UInt8) (n : Int) (k : List UInt8) : (wrapV m n k).length ≤ 36 := by
  by_cases h : wrapOk m n k
  · rw [length_wrapV h]; exact Nat.le_refl _
  · unfold wrapV; rw [if_neg h]; exact Nat.zero_le _

set_option maxHeartbeats 1000000 in
theorem drawUnwrap_any {B : Nat} (a : Option Addr) (cap : Nat) (bs : List Int) (w : World) (hB : B ≤ w.heap.size) (hc : CodeAt B w a bs) (hm : bs.length ≤ 1048576) :
    Calls Tryd.prog 13 #[.slice a bs.length cap] w (UnDrawn w) := by
  have H := hide hc
  clear hc
  go_enter Tryd.func13, Tryd.ntmps13
  go_wp2_with fail
  refine (l1New_any a cap bs w hB H.out hm).mono ?_
  rintro e w1 ⟨rfl, hc1, hb1⟩
  have HC1 := hide hc1
  have HB1 := hide hb1
  clear hc1 hb1
  generalize newC bs = c1 at HC1
  go_wp2_with fail
  refine (l3Key_any HC1.out).mono ?_
  rintro e w2 ⟨rfl, hc2, ht2⟩
  have HC2 := hide hc2
  have HB2 := hide (HB1.out.trans (ht2.below (Nat.le_refl _) HB1.out.size))
  clear hc2 ht2 HC1 HB1
  generalize aKey bs c1 = c2 at HC2
  generalize cKey bs c1 = key
  go_wp2_with fail
  refine (l1Below_any 9 (by omega) HC2.out).mono ?_
  rintro e w3 ⟨rfl, hc3, ht3⟩
  have HC3 := hide hc3
  have HB3 := hide (HB2.out.trans (ht3.below (Nat.le_refl _) HB2.out.size))
  clear hc3 ht3 HC2 HB2
  generalize aBelow bs 9 c2 = c3 at HC3
  generalize cBelow bs 9 c2 = n
  go_wp2_with fail
  refine (l3Key_any HC3.out).mono ?_
  rintro e w4 ⟨rfl, hc4, ht4⟩
  have HC4 := hide hc4
  have HB4 := hide (HB3.out.trans (ht4.below (Nat.le_refl _) HB3.out.size))
  clear hc4 ht4 HC3 HB3
  generalize aKey bs c3 = c4 at HC4
  generalize cKey bs c3 = key2
  go_wp2_with fail
  refine (sWrap_any _ _ _ _).mono ?_
  rintro e w5 ⟨rfl, hb5⟩
  have HC5 := hide (HC4.out.keep (hb5.mono HC4.out.lt))
  have HB5 := hide (HB4.out.trans (hb5.mono HB4.out.size))
  have HV := hide (wrapV_le (bl ⟨key.toArray⟩) n (bl ⟨key2.toArray⟩))
  clear hb5 HC4 HB4
  generalize wrapV (bl ⟨key.toArray⟩) n (bl ⟨key2.toArray⟩) = V at HV ⊢
  go_wp2_with fail
  refine (l1Below_any 4 (by omega) HC5.out).mono ?_
  rintro e w6 ⟨rfl, hc6, ht6⟩
  have HC6 := hide hc6
  have HB6 := hide (HB5.out.trans (ht6.below (Nat.le_refl _) HB5.out.size))
  clear hc6 ht6 HC5 HB5
  generalize aBelow bs 4 c4 = c6 at HC6
  generalize cBelow bs 4 c4 = p
  by_cases h0 : p = 0
  · subst h0
    go_wp2_with fail
    refine (l1Spoil_any ⟨V.toArray⟩ (by have := HV.out; rw [size_of_list]; omega) HC6.out).mono ?_
    rintro e w7 ⟨rfl, ht7⟩
    have HB7 := hide (HB6.out.trans (ht7.below (Nat.le_refl _) HB6.out.size))
    clear ht7
    go_wp2
    go_ret3
    exact ⟨_, _, _, rfl, HB7.out⟩
  · have k0 : (p == 0) = false := by rw [beq_eq_false_iff_ne]; exact h0
    clear h0
    by_cases h1 : p = 1
    · subst h1
      go_wp2
      go_ret3
      exact ⟨_, _, _, rfl, HB6.out⟩
    · have k1 : (p == 1) = false := by rw [beq_eq_false_iff_ne]; exact h1
      clear h1
      go_wp2
      go_ret3
      exact ⟨_, _, _, rfl, HB6.out⟩
end Go.Proofs.YtakjjfbocokpaaaDoor
