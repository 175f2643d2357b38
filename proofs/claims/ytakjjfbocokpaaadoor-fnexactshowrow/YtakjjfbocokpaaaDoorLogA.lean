/-
  Contracts of spec.l8At and of impl.bootOk, rowSeqOk.
-/
import Derived.Test.YtakjjfbocokpaaaDoorSmallI
import Derived.Test.YtakjjfbocokpaaaDoorLogN
import Derived.Test.YtakjjfbocokpaaaDoorMath
namespace Go.Proofs.YtakjjfbocokpaaaDoor
open Go.ChangeShapes Go.WideShapes Go.ChangeAt Go.RowKit

theorem bootOk_any (x : Int) (w : World) :
    Calls Tryd.prog 102 #[.int .i64 x] w fun e w' => e = .returned (.bool (decide (0 ≤ x) && decide (x ≤ 1000))) ∧ w = w' := by
  go_enter Tryd.func102, Tryd.ntmps102
  go_wp2
  all_goals go_ret
  all_goals (refine ⟨?_, rfl⟩; simp [*] <;> omega)
theorem rowSeqOk_any (x : Int) (w : World) :
    Calls Tryd.prog 103 #[.int .i64 x] w fun e w' => e = .returned (.bool (decide (0 ≤ x) && decide (x < 1000000))) ∧ w = w' := by
  go_enter Tryd.func103, Tryd.ntmps103
  go_wp2
  all_goals go_ret
  all_goals (refine ⟨?_, rfl⟩; simp [*] <;> omega)
theorem l8At_any (b n : Int) (w : World) :
    Calls Tryd.prog 82 #[.int .i64 b, .int .i64 n] w fun e w' => e = .returned (.bool (decide (0 ≤ b) && decide (b ≤ 1000) && (decide (0 ≤ n) && decide (n ≤ 999999)))) ∧ w = w' := by
  by_cases h1 : (decide (0 ≤ b) && decide (b ≤ 1000)) = true
  · by_cases h2 : (decide (0 ≤ n) && decide (n ≤ 999999)) = true
    · rw [h1, h2]
      go_enter Tryd.func82, Tryd.ntmps82
      go_wp2_with (go_at_call 52; refine (l1In_any _ _ _ _).mono ?_; (first | rw [h1] | rw [h2]); rintro e w' ⟨rfl, rfl⟩)
      go_ret
      exact ⟨rfl, rfl⟩
    · rw [Bool.not_eq_true] at h2
      rw [h1, h2]
      go_enter Tryd.func82, Tryd.ntmps82
      go_wp2_with (go_at_call 52; refine (l1In_any _ _ _ _).mono ?_; (first | rw [h1] | rw [h2]); rintro e w' ⟨rfl, rfl⟩)
      go_ret
      exact ⟨rfl, rfl⟩
  · rw [Bool.not_eq_true] at h1
    rw [h1, Bool.false_and]
    go_enter Tryd.func82, Tryd.ntmps82
    go_wp2_with (go_at_call 52; refine (l1In_any _ _ _ _).mono ?_; rw [h1]; rintro e w' ⟨rfl, rfl⟩)
    go_ret
    exact ⟨rfl, rfl⟩
theorem l8At_yes (b n : Int) (h : atOk b n) (w : World) : Calls Tryd.prog 82 #[.int .i64 b, .int .i64 n] w fun e w' => e = .returned (.bool true) ∧ w = w' := by
  have := l8At_any b n w
  rwa [at_yes h] at this
theorem l8At_no (b n : Int) (h : ¬ atOk b n) (w : World) : Calls Tryd.prog 82 #[.int .i64 b, .int .i64 n] w fun e w' => e = .returned (.bool false) ∧ w = w' := by
  have := l8At_any b n w
  rwa [at_no h] at this

end Go.Proofs.YtakjjfbocokpaaaDoor
