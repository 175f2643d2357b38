/-
  Texts of this proof, put together: LogM.
-/
import Derived.Test.YtmdhihgfnlnbnaaPackAB
import Derived.Test.YtmdhihgfnlnbnaaPackAL
import Derived.Test.YtmdhihgfnlnbnaaPackAM
import Derived.Test.YtmdhihgfnlnbnaaPackAQ

/-
  Plain mathematics for chapter 8: the stream of a row, and what a batch is sealed to.
-/
namespace Go.Proofs.Ytmdhihgfnlnbnaa
open Go.ChangeShapes Go.WideShapes Go.ChangeAt Go.RowKit

def rowN (b n : Int) : List UInt8 := if atOk b n then nonceL 3 (b * 1000000 + n) else []
def sealS (k : List UInt8) (b n : Int) (t : List UInt8) : List UInt8 := streamV k 0 (rowN b n) t
theorem rowN_yes {b n : Int} (h : atOk b n) : rowN b n = nonceL 3 (b * 1000000 + n) := if_pos h
theorem rowN_no {b n : Int} (h : ¬ atOk b n) : rowN b n = [] := if_neg h
theorem sealS_no {k : List UInt8} {b n : Int} {t : List UInt8} (h : ¬ (k.length = 32 ∧ atOk b n)) : sealS k b n t = [] := by
  refine streamV_no fun hs => h ⟨hs.1.1, ?_⟩
  have h2 := hs.1.2.1
  by_cases ha : atOk b n
  · exact ha
  · rw [rowN_no ha] at h2
    simp at h2
theorem streamV_nil (k : List UInt8) (c : Int) (n : List UInt8) : streamV k c n [] = [] := by
  unfold streamV
  split
  · exact List.length_eq_zero_iff.mp (length_strL k c n [])
  · rfl
theorem sealS_nil (k : List UInt8) (b n : Int) : sealS k b n [] = [] := streamV_nil _ _ _
theorem sealS_len (k : List UInt8) (b n : Int) (t : List UInt8) : (sealS k b n t).length ≤ t.length := by
  unfold sealS streamV
  split
  · rw [length_strL]; exact Nat.le_refl _
  · exact Nat.zero_le _
theorem readM_nil : readM [] = [] ∧ readQ [] = false := read_none fun _ h => showL_pos h
theorem opsL_len : ∀ l : List Opn, (∀ o ∈ l, opOk o) → (opsL l).length ≤ 50 * l.length
  | [], _ => Nat.zero_le _
  | (k, d, v) :: l, h => by
    have h1 : (opL (k, d, v)).length ≤ 50 := opL_len (h (k, d, v) (by simp))
    have h2 := opsL_len l fun x hx => h x (by simp [hx])
    rw [opsL_cons, List.length_append, List.length_cons]
    omega
theorem showL_le (l : List Opn) : (showL l).length ≤ 307 := by
  unfold showL
  split
  · next h =>
    have h1 := opsL_len l h.2.2
    have h2 := varL_len7 l.length (by have := h.2.1; omega)
    have h3 := h.2.1
    rw [List.length_append]
    omega
  · exact Nat.zero_le _
end Go.Proofs.Ytmdhihgfnlnbnaa
