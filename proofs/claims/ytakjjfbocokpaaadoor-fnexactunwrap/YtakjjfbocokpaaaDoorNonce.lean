/-
  Contracts of impl.NonceOf and spec.NonceOf.
-/
import Derived.Test.YtakjjfbocokpaaaDoorNonceY
namespace Go.Proofs.YtakjjfbocokpaaaDoor
open Go.ChangeShapes Go.WideShapes Go.ChangeAt Go.RowKit

theorem iNonce_no (k n : Int) (h : ¬ (0 ≤ k ∧ k ≤ 255 ∧ 0 ≤ n ∧ n ≤ 562949953421311)) (w : World) :
    Calls Tryd.prog 51 #[.int .i64 k, .int .i64 n] w (StrPost w []) := by
  cases d1 : decide (k < 0) <;> cases d2 : decide (255 < k) <;> cases d3 : decide (n < 0) <;> cases d4 : decide (562949953421311 < n)
  all_goals first
    | (exfalso; simp at d1 d2 d3 d4; omega)
    | (clear h
       go_enter Tryd.func51, Tryd.ntmps51
       go_wp2_with fail
       go_ret
       exact ⟨rfl, Below.refl _ _⟩)

theorem iNonce_any (k n : Int) (w : World) : Calls Tryd.prog 51 #[.int .i64 k, .int .i64 n] w (StrPost w (nonceL k n)) := by
  by_cases h : 0 ≤ k ∧ k ≤ 255 ∧ 0 ≤ n ∧ n ≤ 562949953421311
  · rw [nonceL, if_pos h]
    have := iNonce_yes k.toNat n.toNat (by omega) (by omega) w
    rwa [Int.toNat_of_nonneg h.1, Int.toNat_of_nonneg h.2.2.1] at this
  · rw [nonceL, if_neg h]
    exact iNonce_no k n h w

theorem sNonce_no (k n : Int) (h : ¬ (0 ≤ k ∧ k ≤ 255 ∧ 0 ≤ n ∧ n ≤ 562949953421311)) (w : World) :
    Calls Tryd.prog 54 #[.int .i64 k, .int .i64 n] w (StrPost w []) := by
  by_cases h1 : (decide (0 ≤ k) && decide (k ≤ 255)) = true
  · have h2 : (decide (0 ≤ n) && decide (n ≤ 562949953421311)) = false := by
      simp at h1 ⊢; omega
    clear h
    go_enter Tryd.func54, Tryd.ntmps54
    go_wp2_with (go_at_call 52; refine (l1In_any _ _ _ _).mono ?_; (first | rw [h1] | rw [h2]); rintro e w' ⟨rfl, rfl⟩)
    go_ret
    exact ⟨rfl, Below.refl _ _⟩
  · have h2 : (decide (0 ≤ k) && decide (k ≤ 255)) = false := by simpa using h1
    clear h h1
    go_enter Tryd.func54, Tryd.ntmps54
    go_wp2_with (go_at_call 52; refine (l1In_any _ _ _ _).mono ?_; rw [h2]; rintro e w' ⟨rfl, rfl⟩)
    go_ret
    exact ⟨rfl, Below.refl _ _⟩

theorem sNonce_any (k n : Int) (w : World) : Calls Tryd.prog 54 #[.int .i64 k, .int .i64 n] w (StrPost w (nonceL k n)) := by
  by_cases h : 0 ≤ k ∧ k ≤ 255 ∧ 0 ≤ n ∧ n ≤ 562949953421311
  · rw [nonceL, if_pos h]
    have := sNonce_yes k.toNat n.toNat (by omega) (by omega) w
    rwa [Int.toNat_of_nonneg h.1, Int.toNat_of_nonneg h.2.2.1] at this
  · rw [nonceL, if_neg h]
    exact sNonce_no k n h w
end Go.Proofs.YtakjjfbocokpaaaDoor
