/-
  Plain mathematics for varints: nothing here speaks of a program.
-/
import Derived.Test.YtakjjfbocokpaaaDoorMath
namespace Go.Proofs.YtakjjfbocokpaaaDoor
open Go.RowKit

/-- n as a varint -/
def varL (n : Nat) : List UInt8 := if n < 128 then [UInt8.ofNat n] else UInt8.ofNat (n % 128 + 128) :: varL (n / 128)
termination_by n
decreasing_by omega
theorem varL_small (n : Nat) (h : n < 128) : varL n = [UInt8.ofNat n] := by rw [varL, if_pos h]
theorem varL_big (n : Nat) (h : 128 ≤ n) : varL n = UInt8.ofNat (n % 128 + 128) :: varL (n / 128) := by rw [varL, if_neg (by omega)]
theorem varL_pos (n : Nat) : 0 < (varL n).length := by
  by_cases h : n < 128
  · rw [varL_small n h]; simp
  · rw [varL_big n (by omega)]; simp
theorem varL_len : ∀ (k n : Nat), n < 128 ^ (k + 1) → (varL n).length ≤ k + 1
  | 0, n, h => by rw [varL_small n (by simpa using h)]; simp
  | k + 1, n, h => by
    by_cases hs : n < 128
    · rw [varL_small n hs]; simp
    · rw [varL_big n (by omega), List.length_cons]
      have := varL_len k (n / 128) (by rw [Nat.pow_succ] at h; omega)
      omega
theorem varL_len7 (n : Nat) (h : n ≤ 562949953421311) : (varL n).length ≤ 7 := varL_len 6 n (by omega)

/-- a step of the drop -/
theorem drop_step {α : Type} {l r : List α} {x : α} {j : Nat} (h : l.drop j = x :: r) : j < l.length ∧ l.drop (j + 1) = r ∧ (∀ hj : j < l.length, l[j] = x) := by
  have hj : j < l.length := by
    refine Nat.lt_of_not_le fun hc => ?_
    rw [List.drop_of_length_le hc] at h
    cases h
  rw [List.drop_eq_getElem_cons hj] at h
  injection h with h1 h2
  exact ⟨hj, h2, fun _ => h1⟩

/-- filled up with zeros to n bytes -/
def padTo (n : Nat) (l : List UInt8) : List UInt8 := l ++ List.replicate (n - l.length) 0
theorem length_padTo (n : Nat) (l : List UInt8) (h : l.length ≤ n) : (padTo n l).length = n := by simp [padTo]; omega
theorem padTo_at (n : Nat) (l : List UInt8) (j : Nat) (hj : j < l.length) (h : j < (padTo n l).length) : (padTo n l)[j] = l[j] := by
  simp [padTo, List.getElem_append_left hj]
theorem rowOf_padTo (n : Nat) (l : List UInt8) (h : l.length ≤ n) : rowOf (padTo n l) l.length = padTo n l := by
  unfold rowOf
  rw [length_padTo n l h, padTo, List.take_append_of_le_length (Nat.le_refl _), List.take_length]
end Go.Proofs.YtakjjfbocokpaaaDoor
