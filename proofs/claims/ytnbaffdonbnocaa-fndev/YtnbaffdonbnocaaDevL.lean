/-
  What DevFlush and DevFall answer: nothing here speaks of the program.
-/
import Derived.Test.YtnbaffdonbnocaaDevQ
namespace Go.Proofs.Ytnbaffdonbnocaa
open Go.RowKit

/-- the sectors when of the first j cached writes those of p have landed -/
def landL (S : List ByteArray) (L : List Slot) (p : Nat → Bool) : Nat → List ByteArray
  | 0 => S
  | j + 1 => if p j = true then (landL S L p j).set (tn L j).toNat (ky L j) else landL S L p j
theorem length_landL (S : List ByteArray) (L : List Slot) (p : Nat → Bool) (j : Nat) : (landL S L p j).length = S.length := by
  induction j with
  | zero => rfl
  | succ j ih => unfold landL; split <;> simp [ih]
theorem landL_yes {S : List ByteArray} {L : List Slot} {p : Nat → Bool} {j : Nat} (h : p j = true) : landL S L p (j + 1) = (landL S L p j).set (tn L j).toNat (ky L j) := by rw [landL, if_pos h]
theorem landL_no {S : List ByteArray} {L : List Slot} {p : Nat → Bool} {j : Nat} (h : p j = false) : landL S L p (j + 1) = landL S L p j := by rw [landL, if_neg (by rw [h]; simp)]
def maskB (t : Int) (i : Nat) : Bool := decide (0 ≤ t) && decide (t / 2 ^ i % 2 = 1)
noncomputable def fallV (S : List ByteArray) (L : List Slot) (x : Int) (p : Nat → Bool) : DevR :=
  if devOkB S L x = true then ⟨landL S L p L.length, [], x, true⟩ else ⟨[], [], 0, false⟩
theorem fallV_bad {S : List ByteArray} {L : List Slot} {x : Int} {p : Nat → Bool} (h : devOkB S L x = false) : fallV S L x p = ⟨[], [], 0, false⟩ := by simp [fallV, h]
theorem fallV_ok {S : List ByteArray} {L : List Slot} {x : Int} {p : Nat → Bool} (h : devOkB S L x = true) : fallV S L x p = ⟨landL S L p L.length, [], x, true⟩ := by simp [fallV, h]
theorem length_fallV (S : List ByteArray) (L : List Slot) (x : Int) (p : Nat → Bool) : (fallV S L x p).S.length ≤ S.length ∧ (fallV S L x p).L.length ≤ L.length := by
  unfold fallV
  split
  · simp [length_landL]
  · simp
end Go.Proofs.Ytnbaffdonbnocaa
