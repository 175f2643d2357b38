/-
  Texts of this proof, put together: LogN.
-/
import Derived.ProofKit

/-
  Plain mathematics for chapter 8: the limits of a row's numbers.
-/
namespace Go.Proofs.YtakjjfbocokpaaaDoor
open Go.ChangeShapes Go.WideShapes Go.ChangeAt Go.RowKit

def atOk (b n : Int) : Prop := 0 ≤ b ∧ b ≤ 1000 ∧ 0 ≤ n ∧ n ≤ 999999
instance (b n : Int) : Decidable (atOk b n) := by unfold atOk; infer_instance
theorem at_yes {b n : Int} (h : atOk b n) : (decide (0 ≤ b) && decide (b ≤ 1000) && (decide (0 ≤ n) && decide (n ≤ 999999))) = true := by
  obtain ⟨h1, h2, h3, h4⟩ := h
  simp [h1, h2, h3, h4]
theorem at_no {b n : Int} (h : ¬ atOk b n) : (decide (0 ≤ b) && decide (b ≤ 1000) && (decide (0 ≤ n) && decide (n ≤ 999999))) = false := by
  rw [← Bool.not_eq_true]
  exact fun e => h (by simp at e; exact ⟨e.1.1, e.1.2, e.2.1, e.2.2⟩)
end Go.Proofs.YtakjjfbocokpaaaDoor
