/-
  What Wrap and Unwrap answer, on lists of bytes: nothing here speaks of the program.
-/
import Derived.Test.YtakjjfbocokpaaaDoorMathZ
import Derived.Test.YtakjjfbocokpaaaDoorMathC
import Derived.Test.YtakjjfbocokpaaaDoorNonL
namespace Go.Proofs.YtakjjfbocokpaaaDoor
open Go.RowKit

def crcI (l : List UInt8) : Int := 4294967295 - (crcRun 4294967295 l : Int)
theorem crcI_bd (l : List UInt8) : 0 ≤ crcI l ∧ crcI l < 4294967296 := by
  have := crcRun_lt l 4294967295 (by omega)
  unfold crcI
  omega
def wrapOk (m : List UInt8) (n : Int) (k : List UInt8) : Prop := k.length = 32 ∧ m.length = 32 ∧ 0 ≤ n ∧ n ≤ 562949953421311
instance (m : List UInt8) (n : Int) (k : List UInt8) : Decidable (wrapOk m n k) := inferInstanceAs (Decidable (_ ∧ _))
/-- the stream that hides a key, and brings it back -/
def hideV (m : List UInt8) (n : Int) (k : List UInt8) : List UInt8 := streamV m 0 (nonceL 1 n) k
def wrapV (m : List UInt8) (n : Int) (k : List UInt8) : List UInt8 := if wrapOk m n k then fixedV (crcI (hideV m n k)) 4 ++ hideV m n k else []
theorem nonceL_bad (n : Int) (h : ¬ (0 ≤ n ∧ n ≤ 562949953421311)) : nonceL 1 n = [] := by unfold nonceL; rw [if_neg (by omega)]
theorem strOk_of_wrap {m : List UInt8} {n : Int} {k : List UInt8} (hm : m.length = 32) (hn : 0 ≤ n ∧ n ≤ 562949953421311) (hk : k.length = 32) : StrOk m 0 (nonceL 1 n) k := by
  have h := length_nonceL 1 n ⟨by omega, by omega, hn.1, hn.2⟩
  refine ⟨⟨hm, h, by omega, by omega⟩, ⟨hm, h, ?_, ?_⟩⟩ <;> rw [hk] <;> simp
theorem length_hideV {m : List UInt8} {n : Int} {k : List UInt8} (h : wrapOk m n k) : (hideV m n k).length = 32 := by
  unfold hideV
  rw [streamV_ok (strOk_of_wrap h.2.1 h.2.2 h.1), length_strL, h.1]
theorem hideV_bad {m : List UInt8} {n : Int} {k : List UInt8} (hk : k.length = 32) (h : ¬ wrapOk m n k) : hideV m n k = [] := by
  unfold hideV
  refine streamV_no fun hs => h ⟨hk, hs.1.1, ?_⟩
  refine Decidable.byContradiction fun hn => ?_
  have h2 := hs.1.2.1
  rw [nonceL_bad n hn] at h2
  simp at h2
theorem fixedV4 (c : Int) (h : 0 ≤ c ∧ c < 4294967296) : (fixedV c 4).length = 4 := by
  unfold fixedV
  rw [if_pos ⟨by omega, by omega, h.1⟩]
  unfold fixedL
  rw [if_pos (by rw [show (4 : Int).toNat = 4 from rfl]; exact Nat.div_eq_of_lt (by omega)), length_lowB]
  rfl
theorem length_wrapV {m : List UInt8} {n : Int} {k : List UInt8} (h : wrapOk m n k) : (wrapV m n k).length = 36 := by
  unfold wrapV
  rw [if_pos h, List.length_append, fixedV4 _ (crcI_bd _), length_hideV h]
def unOk (m : List UInt8) (n : Int) (s : List UInt8) : Prop := s.length = 36 ∧ wrapV m n (hideV m n (s.drop 4)) = s
instance (m : List UInt8) (n : Int) (s : List UInt8) : Decidable (unOk m n s) := inferInstanceAs (Decidable (_ ∧ _))
def unKey (m : List UInt8) (n : Int) (s : List UInt8) : List UInt8 := if unOk m n s then hideV m n (s.drop 4) else []
def unB (m : List UInt8) (n : Int) (s : List UInt8) : Bool := decide (unOk m n s)
theorem unKey_yes {m : List UInt8} {n : Int} {s : List UInt8} (h : unOk m n s) : unKey m n s = hideV m n (s.drop 4) ∧ unB m n s = true := ⟨by unfold unKey; rw [if_pos h], decide_eq_true h⟩
theorem unKey_no {m : List UInt8} {n : Int} {s : List UInt8} (h : ¬ unOk m n s) : unKey m n s = [] ∧ unB m n s = false := ⟨by unfold unKey; rw [if_neg h], decide_eq_false h⟩
theorem unOk_ok {m : List UInt8} {n : Int} {s : List UInt8} (h : unOk m n s) : m.length = 32 ∧ 0 ≤ n ∧ n ≤ 562949953421311 := by
  obtain ⟨h1, h2⟩ := h
  by_cases hw : wrapOk m n (hideV m n (s.drop 4))
  · exact hw.2
  · unfold wrapV at h2
    rw [if_neg hw] at h2
    rw [← h2] at h1
    simp at h1
end Go.Proofs.YtakjjfbocokpaaaDoor
