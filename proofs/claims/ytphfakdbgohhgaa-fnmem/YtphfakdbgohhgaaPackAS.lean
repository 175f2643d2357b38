/-
  Texts of this proof, put together: CmpK.
-/
import Derived.Test.YtphfakdbgohhgaaPackAB
import Derived.Test.YtphfakdbgohhgaaPackAH
import Derived.StillTailTactics
import Derived.Deep.QuietTactic
import Derived.BigQuiet
import Derived.WalkLawsBesides

/-
  Contracts of cmp.isNaN and cmp.Compare over strings.
-/
namespace Go.Proofs.Ytphfakdbgohhgaa
open Go.ChangeShapes Go.WideShapes Go.ChangeAt Go.RowKit

def cmpK (x y : ByteArray) : Int := if kless x y = true then -1 else if kless y x = true then 1 else 0
theorem cmpK_neg {x y : ByteArray} : cmpK x y < 0 ↔ kless x y = true := by
  unfold cmpK
  constructor
  · intro h
    split at h
    · assumption
    · split at h <;> omega
  · intro h
    rw [if_pos h]
    omega
theorem isNaN_any (x : ByteArray) (w : World) : Calls Try.prog 108 #[.string x] w fun e w' => e = .returned (.bool false) ∧ w' = w := by
  go_enter Try.func108, Try.ntmps108
  go_wp2
  go_ret
  exact ⟨by simp, rfl⟩
theorem compare_any (x y : ByteArray) (w : World) : Calls Try.prog 103 #[.string x, .string y] w fun e w' => e = .returned (.int .i64 (cmpK x y)) ∧ w' = w := by
  cases h1 : kless x y with
  | true =>
    have e1 : Op.bytesLess x.toList y.toList = true := h1
    have HE := hide (show cmpK x y = -1 by rw [cmpK, if_pos h1])
    clear h1
    go_enter Try.func103, Try.ntmps103
    go_wp2_with fail
    refine (isNaN_any x _).mono ?_
    rintro e w1 ⟨rfl, rfl⟩
    go_wp2_with fail
    refine (isNaN_any y _).mono ?_
    rintro e w1 ⟨rfl, rfl⟩
    go_wp2_with fail
    go_ret
    exact ⟨by rw [HE.out]; rfl, rfl⟩
  | false =>
    have e1 : Op.bytesLess x.toList y.toList = false := h1
    cases h2 : kless y x with
    | true =>
      have e2 : (x.toList == y.toList) = false := keq_false (kless_ne h2).symm
      have HE := hide (show cmpK x y = 1 by rw [cmpK, if_neg (by rw [h1]; decide), if_pos h2])
      clear h1 h2
      go_enter Try.func103, Try.ntmps103
      go_wp2_with fail
      refine (isNaN_any x _).mono ?_
      rintro e w1 ⟨rfl, rfl⟩
      go_wp2_with fail
      refine (isNaN_any y _).mono ?_
      rintro e w1 ⟨rfl, rfl⟩
      go_wp2_with fail
      go_ret
      exact ⟨by rw [HE.out]; rfl, rfl⟩
    | false =>
      have e2 : (x.toList == y.toList) = true := (keq_iff x y).2 (kless_tri h1 h2)
      have HE := hide (show cmpK x y = 0 by rw [cmpK, if_neg (by rw [h1]; decide), if_neg (by rw [h2]; decide)])
      clear h1 h2
      go_enter Try.func103, Try.ntmps103
      go_wp2_with fail
      refine (isNaN_any x _).mono ?_
      rintro e w1 ⟨rfl, rfl⟩
      go_wp2_with fail
      refine (isNaN_any y _).mono ?_
      rintro e w1 ⟨rfl, rfl⟩
      go_wp2_with fail
      go_ret
      exact ⟨by rw [HE.out]; rfl, rfl⟩
end Go.Proofs.Ytphfakdbgohhgaa
