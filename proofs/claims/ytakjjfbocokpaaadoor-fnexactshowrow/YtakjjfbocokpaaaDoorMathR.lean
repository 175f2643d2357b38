/-
  Plain mathematics: a varint that is written is read again, and no other string is. Nothing here speaks of a program.
-/
import Derived.Test.YtakjjfbocokpaaaDoorMath3
namespace Go.Proofs.YtakjjfbocokpaaaDoor
open Go.RowKit

theorem le7_varL (m : Nat) : le7 (varL m) = m := by
  induction m using Nat.strongRecOn with
  | _ m ih =>
    by_cases h : m < 128
    · rw [varL_small m h]; simp [le7]; omega
    · rw [varL_big m (by omega), le7, ih (m / 128) (by omega)]
      simp
      omega
theorem readVarL_var (m : Nat) (hm : m ≤ 562949953421311) (T : List UInt8) : readVarL (varL m ++ T) = (m, (varL m).length) := by
  have hp := varL_pos m
  have h7 := varL_len7 m hm
  have ht : (varL m ++ T).take ((varL m).length - 1 + 1) = varL m := by
    rw [show (varL m).length - 1 + 1 = (varL m).length by omega, List.take_append_of_le_length (Nat.le_refl _), List.take_length]
  have h := readVarL_good (l := varL m ++ T) (k := (varL m).length - 1) (by rw [List.length_append]; omega) (by omega) (by rw [ht, le7_varL])
  rw [h, ht, le7_varL, show (varL m).length - 1 + 1 = (varL m).length by omega]
theorem readVarL_back {D : List UInt8} (h : (readVarL D).2 ≠ 0) : varL (readVarL D).1 = D.take (readVarL D).2 ∧ (readVarL D).1 ≤ 562949953421311 ∧ (readVarL D).2 ≤ D.length := by
  by_cases hb : ∀ k, k < D.length → k < 7 → varL (le7 (D.take (k + 1))) ≠ D.take (k + 1)
  · rw [readVarL_bad hb] at h
    exact (h rfl).elim
  · have hx : ∃ k, k < D.length ∧ k < 7 ∧ varL (le7 (D.take (k + 1))) = D.take (k + 1) := by
      refine Classical.byContradiction fun hc => hb fun k h1 h2 h3 => hc ⟨k, h1, h2, h3⟩
    obtain ⟨k, h1, h2, h3⟩ := hx
    rw [readVarL_good h1 h2 h3]
    exact ⟨h3, le7_take_lt D (k + 1) (by omega), h1⟩
theorem readVarL_le (D : List UInt8) : (readVarL D).1 ≤ 562949953421311 ∧ (readVarL D).2 ≤ D.length := by
  by_cases h : (readVarL D).2 = 0
  · have h1 : (readVarL D).1 = 0 := by
      unfold readVarL at h ⊢
      split
      · rfl
      · rename_i i hi
        rw [hi] at h
        simp only at h
        split
        · rfl
        · rename_i hn
          rw [if_neg hn] at h
          simp at h
    omega
  · exact ⟨(readVarL_back h).2.1, (readVarL_back h).2.2⟩
end Go.Proofs.YtakjjfbocokpaaaDoor
