/-
  Where a tenant's slot lies in a list: nothing here speaks of the program.
-/
import Derived.Test.YtpgbjbhoefjodaaDoorMathO
namespace Go.Proofs.YtpgbjbhoefjodaaDoor
open Go.RowKit

def slotIx (L : List Slot) (t : Int) : Option Nat := L.findIdx? fun s => s.1 == t
theorem slotIx_some {L : List Slot} {t : Int} (i : Nat) (hi : i < L.length) (h : tn L i = t) (hb : ∀ j, j < i → tn L j ≠ t) : slotIx L t = some i := by
  unfold slotIx
  rw [List.findIdx?_eq_some_iff_getElem]
  refine ⟨hi, by rw [← tn_at L i hi, h]; simp, fun j hj => ?_⟩
  have := hb j hj
  rw [tn_at L j (by omega)] at this
  simp [this]
theorem slotIx_none {L : List Slot} {t : Int} (h : ∀ j, j < L.length → tn L j ≠ t) : slotIx L t = none := by
  unfold slotIx
  rw [List.findIdx?_eq_none_iff]
  intro s hs
  obtain ⟨j, hj, rfl⟩ := List.mem_iff_getElem.1 hs
  have := h j hj
  rw [tn_at L j hj] at this
  simp [this]
theorem slotIx_of_some {L : List Slot} {t : Int} {i : Nat} (h : slotIx L t = some i) : i < L.length ∧ tn L i = t ∧ ∀ j, j < i → tn L j ≠ t := by
  unfold slotIx at h
  rw [List.findIdx?_eq_some_iff_getElem] at h
  obtain ⟨hi, h1, h2⟩ := h
  refine ⟨hi, by rw [tn_at L i hi]; simpa using h1, fun j hj => ?_⟩
  rw [tn_at L j (by omega)]
  simpa using h2 j hj
theorem slotIx_of_none {L : List Slot} {t : Int} (h : slotIx L t = none) : ∀ j, j < L.length → tn L j ≠ t := by
  unfold slotIx at h
  rw [List.findIdx?_eq_none_iff] at h
  intro j hj
  have := h L[j] (List.getElem_mem hj)
  rw [tn_at L j hj]
  simpa using this
def ixI : Option Nat → Int
  | some i => i
  | none => -1
def noKey : ByteArray := ⟨#[]⟩
def ixK (L : List Slot) : Option Nat → ByteArray
  | some i => ky L i
  | none => noKey
def keyOfV (m : ByteArray) (L : List Slot) (x t : Int) : ByteArray := if devOkB m L x = true then ixK L (slotIx L t) else noKey
theorem keyOfV_no {m : ByteArray} {L : List Slot} {x t : Int} (h : devOkB m L x = false) : keyOfV m L x t = noKey := by unfold keyOfV; rw [h]; rfl
theorem keyOfV_yes {m : ByteArray} {L : List Slot} {x t : Int} (h : devOkB m L x = true) : keyOfV m L x t = ixK L (slotIx L t) := by unfold keyOfV; rw [if_pos h]
end Go.Proofs.YtpgbjbhoefjodaaDoor
