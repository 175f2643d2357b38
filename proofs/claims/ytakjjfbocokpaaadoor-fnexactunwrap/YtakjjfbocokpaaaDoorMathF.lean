/-
  Plain mathematics for chapter 3: bytes gathered into words one by one.
-/
import Derived.Test.YtakjjfbocokpaaaDoorMathY
import Derived.Test.YtakjjfbocokpaaaDoorChaF
namespace Go.Proofs.YtakjjfbocokpaaaDoor
open Go.RowKit

theorem length_fillL (L : List Nat) (p : Nat) (l : List UInt8) : ∀ i, (fillL L p l i).length = L.length
  | 0 => rfl
  | i + 1 => by rw [fillL, List.length_set, length_fillL L p l i]
theorem fillL_step (L : List Nat) (p : Nat) (l : List UInt8) (i : Nat) (h : p + i / 4 < L.length) (j : Nat) :
    wd (fillL L p l (i + 1)) j = if p + i / 4 = j then wd (fillL L p l i) j ||| (l.getD i 0).toNat * 2 ^ (8 * (i % 4)) else wd (fillL L p l i) j := by
  rw [fillL, wd_set _ _ _ _ (by rw [length_fillL]; exact h)]
  split
  · rename_i e; rw [e]
  · rfl
theorem fillL_word (L : List Nat) (p : Nat) (l : List UInt8) (n : Nat) (h : p + n < L.length) (j : Nat) :
    wd (fillL L p l (4 * n + 4)) j = if p + n = j then (((wd (fillL L p l (4 * n)) j ||| (l.getD (4 * n) 0).toNat) ||| (l.getD (4 * n + 1) 0).toNat * 256) ||| (l.getD (4 * n + 2) 0).toNat * 65536) ||| (l.getD (4 * n + 3) 0).toNat * 16777216 else wd (fillL L p l (4 * n)) j := by
  have e0 : 4 * n / 4 = n := by omega
  have e1 : (4 * n + 1) / 4 = n := by omega
  have e2 : (4 * n + 2) / 4 = n := by omega
  have e3 : (4 * n + 3) / 4 = n := by omega
  have m0 : 4 * n % 4 = 0 := by omega
  have m1 : (4 * n + 1) % 4 = 1 := by omega
  have m2 : (4 * n + 2) % 4 = 2 := by omega
  have m3 : (4 * n + 3) % 4 = 3 := by omega
  rw [show 4 * n + 4 = 4 * n + 3 + 1 from rfl, fillL_step _ _ _ _ (by omega), show 4 * n + 3 = 4 * n + 2 + 1 from rfl, fillL_step _ _ _ _ (by omega), show 4 * n + 2 = 4 * n + 1 + 1 from rfl, fillL_step _ _ _ _ (by omega), fillL_step _ _ _ _ (by omega)]
  simp only [Nat.add_assoc, Nat.reduceAdd, e0, e1, e2, e3, m0, m1, m2, m3, Nat.reduceMul, Nat.reducePow, Nat.mul_one, Nat.mul_zero, Nat.pow_zero]
  split <;> rfl
theorem fillL_all (L : List Nat) (p : Nat) (l : List UInt8) (hz : ∀ q, p ≤ q → wd L q = 0) : ∀ n, p + n ≤ L.length → ∀ j, wd (fillL L p l (4 * n)) j = if p ≤ j ∧ j < p + n then leW l (4 * (j - p)) else wd L j
  | 0, _, j => by rw [if_neg (by omega)]; rfl
  | n + 1, h, j => by
    rw [show 4 * (n + 1) = 4 * n + 4 by omega, fillL_word L p l n (by omega)]
    have ih := fillL_all L p l hz n (by omega) j
    by_cases hj : p + n = j
    · rw [if_pos hj, if_pos (by omega), ih, if_neg (by omega), hz j (by omega), show 4 * (j - p) = 4 * n by omega, Nat.zero_or]
      rfl
    · rw [if_neg hj, ih]
      by_cases h2 : p ≤ j ∧ j < p + n
      · rw [if_pos h2, if_pos (by omega)]
      · rw [if_neg h2, if_neg (by omega)]
def chaText : List UInt8 := [101, 120, 112, 97, 110, 100, 32, 51, 50, 45, 98, 121, 116, 101, 32, 107]
theorem wd_append (A B : List Nat) (j : Nat) : wd (A ++ B) j = if j < A.length then wd A j else wd B (j - A.length) := by
  unfold wd
  split
  · rename_i h; simp only [List.getD]; rw [List.getElem?_append_left h]
  · rename_i h; simp only [List.getD]; rw [List.getElem?_append_right (by omega)]
theorem wd_leWs (l : List UInt8) (n j : Nat) (h : j < n) : wd (leWs l n) j = leW l (4 * j) := by
  rw [wd_eq _ _ (by simp [leWs]; exact h)]; simp [leWs]
theorem wd_zero (n j : Nat) : wd (List.replicate n 0) j = 0 := by
  unfold wd
  simp only [List.getD, List.getElem?_replicate]
  split <;> rfl
/-- the four steps by which the program lays a block's words -/
def chaLaid (k : List UInt8) (c : Nat) (n : List UInt8) : List Nat :=
  fillL ((fillL (fillL (List.replicate 16 0) 0 chaText 16) 4 k 32).set 12 c) 13 n 12
theorem chaLaid_eq (k : List UInt8) (c : Nat) (n : List UInt8) : chaLaid k c n = chaStart k c n := by
  have l1 : (fillL (List.replicate 16 0) 0 chaText 16).length = 16 := by rw [length_fillL]; simp
  have l2 : (fillL (fillL (List.replicate 16 0) 0 chaText 16) 4 k 32).length = 16 := by rw [length_fillL, l1]
  have l3 : ((fillL (fillL (List.replicate 16 0) 0 chaText 16) 4 k 32).set 12 c).length = 16 := by rw [List.length_set, l2]
  have f1 := fillL_all (List.replicate 16 0) 0 chaText (fun q _ => wd_zero _ _) 4 (by simp)
  have f2 := fillL_all (fillL (List.replicate 16 0) 0 chaText 16) 4 k (fun q hq => by rw [f1, if_neg (by omega), wd_zero]) 8 (by omega)
  have f3 : ∀ j, wd ((fillL (fillL (List.replicate 16 0) 0 chaText 16) 4 k 32).set 12 c) j = if 12 = j then c else wd (fillL (fillL (List.replicate 16 0) 0 chaText 16) 4 k 32) j := fun j => wd_set _ _ _ _ (by omega)
  have f4 := fillL_all ((fillL (fillL (List.replicate 16 0) 0 chaText 16) 4 k 32).set 12 c) 13 n (fun q hq => by rw [f3, if_neg (by omega), f2, if_neg (by omega), f1, if_neg (by omega), wd_zero]) 3 (by omega)
  refine ext_wd (by rw [chaLaid, length_fillL, l3, length_chaStart]) fun j hj => ?_
  rw [chaLaid, length_fillL, l3] at hj
  rw [chaLaid, f4, f3, f2, f1, wd_zero, chaStart, wd_append, wd_append, wd_append]
  have e1 : (chaConst ++ leWs k 8 ++ [c]).length = 13 := by simp [chaConst, leWs]
  have e2 : (chaConst ++ leWs k 8).length = 12 := by simp [chaConst, leWs]
  have e3 : chaConst.length = 4 := rfl
  rw [e1, e2, e3]
  by_cases h1 : j < 4
  · rw [if_neg (by omega), if_neg (by omega), if_neg (by omega), if_pos (by omega), if_pos (by omega), if_pos (by omega), if_pos (by omega)]
    have : ∀ j : Fin 4, leW chaText (4 * (j.val - 0)) = wd chaConst j.val := by decide
    exact this ⟨j, h1⟩
  by_cases h2 : j < 12
  · rw [if_neg (by omega), if_neg (by omega), if_pos (by omega), if_pos (by omega), if_pos (by omega), if_neg (by omega), wd_leWs _ _ _ (by omega)]
  by_cases h3 : j = 12
  · subst h3; rfl
  · rw [if_pos (by omega), if_neg (by omega), wd_leWs _ _ _ (by omega)]
end Go.Proofs.YtakjjfbocokpaaaDoor
