/-
  Plain mathematics for chapter 3: a stream applied twice, and a stream from its second block on.
-/
import Derived.Test.YtakjjfbocokpaaaDoorMathS
namespace Go.Proofs.YtakjjfbocokpaaaDoor
open Go.RowKit

theorem strOk_len {k : List UInt8} {c : Int} {n t t' : List UInt8} (h : StrOk k c n t) (e : t'.length = t.length) : StrOk k c n t' := by
  unfold StrOk at *; rw [e]; exact h
theorem streamV_ok {k : List UInt8} {c : Int} {n t : List UInt8} (h : StrOk k c n t) : streamV k c n t = strL k c n t := by rw [streamV, if_pos h]
theorem streamV_no {k : List UInt8} {c : Int} {n t : List UInt8} (h : ¬ StrOk k c n t) : streamV k c n t = [] := by rw [streamV, if_neg h]
theorem xor_back (a b : UInt8) : a ^^^ b ^^^ b = a := by rw [UInt8.xor_assoc, UInt8.xor_self, UInt8.xor_zero]
theorem strL_twice (k : List UInt8) (c : Int) (n t : List UInt8) : strL k c n (strL k c n t) = t := by
  refine List.ext_getElem (by rw [length_strL, length_strL]) fun j h1 h2 => ?_
  rw [strL_at, strB]
  have e : (strL k c n t).getD j 0 = strB k c n t j := by
    have h3 : j < (strL k c n t).length := by rw [length_strL]; exact h2
    simp only [List.getD, List.getElem?_eq_getElem h3, Option.getD_some, strL_at]
  rw [e, strB, xor_back]
  simp [List.getD, h2]
theorem streamV_twice {k : List UInt8} {c : Int} {n t : List UInt8} (h : StrOk k c n t) : streamV k c n (strL k c n t) = t := by
  rw [streamV_ok (strOk_len h (length_strL k c n t)), strL_twice]
theorem strOk_shift {k : List UInt8} {c : Int} {n t : List UInt8} (h : StrOk k c n t) (hl : 64 < t.length) : StrOk k (c + 1) n (t.drop 64) := by
  obtain ⟨⟨h1, h2, h3, h4⟩, ⟨_, _, h5, h6⟩⟩ := h
  rw [StrOk, List.length_drop]
  have e : ((t.length - 1) / 64 : Nat) = (t.length - 64 - 1) / 64 + 1 := by omega
  exact ⟨⟨h1, h2, by omega, by omega⟩, ⟨h1, h2, by omega, by omega⟩⟩
theorem strL_shift {k : List UInt8} {c : Int} {n t : List UInt8} (h : StrOk k c n t) (hl : 64 < t.length) : streamV k (c + 1) n (t.drop 64) = (strL k c n t).drop 64 := by
  rw [streamV_ok (strOk_shift h hl)]
  have hc := h.1.2.2.1
  refine List.ext_getElem (by rw [length_strL, List.length_drop, List.length_drop, length_strL]) fun j h1 h2 => ?_
  rw [strL_at, List.getElem_drop, strL_at, strB, strB]
  have e1 : (t.drop 64).getD j 0 = t.getD (64 + j) 0 := by simp [List.getD, List.getElem?_drop]
  have e2 : (c + 1).toNat + j / 64 = c.toNat + (64 + j) / 64 := by omega
  have e3 : j % 64 = (64 + j) % 64 := by omega
  rw [e1, e2, e3]
end Go.Proofs.YtakjjfbocokpaaaDoor
