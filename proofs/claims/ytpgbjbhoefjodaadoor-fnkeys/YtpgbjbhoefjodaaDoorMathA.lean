/-
  Where a slot is added in order, and what KeyAdd answers: nothing here speaks of the program.
-/
import Derived.Test.YtpgbjbhoefjodaaDoorMathW
namespace Go.Proofs.YtpgbjbhoefjodaaDoor
open Go.RowKit

/-- the first place whose tenant is not less -/
def posL : List Slot → Int → Nat
  | [], _ => 0
  | s :: r, t => if t ≤ s.1 then 0 else posL r t + 1
theorem posL_eq : ∀ (L : List Slot) (t : Int) (p : Nat), p ≤ L.length → (∀ k, k < p → tn L k < t) → (p < L.length → t ≤ tn L p) → posL L t = p
  | [], t, p, hp, _, _ => by simp at hp; simp [posL, hp]
  | s :: r, t, 0, _, _, h2 => by
    have := h2 (by simp)
    simp [tn] at this
    simp [posL, this]
  | s :: r, t, p + 1, hp, h1, h2 => by
    have h0 := h1 0 (by omega)
    simp [tn] at h0
    rw [posL, if_neg (by omega), posL_eq r t p (by simpa using hp) (fun k hk => by have := h1 (k + 1) (by omega); simpa [tn] using this) (fun h => by have := h2 (by simpa using h); simpa [tn] using this)]
theorem posL_le : ∀ (L : List Slot) (t : Int), posL L t ≤ L.length
  | [], _ => Nat.le_refl _
  | s :: r, t => by
    unfold posL
    split
    · simp
    · have := posL_le r t; simp; omega
theorem posL_lt : ∀ (L : List Slot) (t : Int) (k : Nat), k < posL L t → tn L k < t
  | [], _, k, h => by simp [posL] at h
  | s :: r, t, k, h => by
    unfold posL at h
    split at h
    · omega
    · rename_i hs
      cases k with
      | zero => simp [tn]; omega
      | succ k => have := posL_lt r t k (by omega); simpa [tn] using this
theorem posL_at : ∀ (L : List Slot) (t : Int), posL L t < L.length → t ≤ tn L (posL L t)
  | [], _, h => by simp at h
  | s :: r, t, h => by
    unfold posL at h ⊢
    split
    · rename_i hs; simpa [tn] using hs
    · rename_i hs
      rw [if_neg hs] at h
      have := posL_at r t (by simpa using h)
      simpa [tn] using this
def insL (L : List Slot) (t : Int) (k : ByteArray) : List Slot := L.take (posL L t) ++ (t, k) :: L.drop (posL L t)
theorem length_insL (L : List Slot) (t : Int) (k : ByteArray) : (insL L t k).length = L.length + 1 := by
  have := posL_le L t
  simp [insL]
  omega
def addV (m : ByteArray) (L : List Slot) (x t : Int) (k : ByteArray) : DevR :=
  if devOkB m L x = true then (if devOkB m (insL L t k) x = true then ⟨m, insL L t k, x, true⟩ else ⟨m, L, x, false⟩) else ⟨noKey, [], 0, false⟩
theorem addV_bad {m : ByteArray} {L : List Slot} {x t : Int} {k : ByteArray} (h : devOkB m L x = false) : addV m L x t k = ⟨noKey, [], 0, false⟩ := by unfold addV; rw [h]; rfl
theorem addV_no {m : ByteArray} {L : List Slot} {x t : Int} {k : ByteArray} (h : devOkB m L x = true) (h2 : devOkB m (insL L t k) x = false) : addV m L x t k = ⟨m, L, x, false⟩ := by unfold addV; rw [if_pos h, h2]; rfl
theorem addV_yes {m : ByteArray} {L : List Slot} {x t : Int} {k : ByteArray} (h : devOkB m L x = true) (h2 : devOkB m (insL L t k) x = true) : addV m L x t k = ⟨m, insL L t k, x, true⟩ := by unfold addV; rw [if_pos h, if_pos h2]
theorem length_addV (m : ByteArray) (L : List Slot) (x t : Int) (k : ByteArray) : (addV m L x t k).L.length ≤ L.length + 1 := by
  unfold addV
  split
  · split
    · simp only; rw [length_insL]; exact Nat.le_refl _
    · simp only; omega
  · exact Nat.zero_le _
end Go.Proofs.YtpgbjbhoefjodaaDoor
