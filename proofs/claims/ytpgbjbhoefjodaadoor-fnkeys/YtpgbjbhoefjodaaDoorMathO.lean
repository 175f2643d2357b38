/-
  When a device is valid: nothing here speaks of the program.
-/
import Derived.Test.YtpgbjbhoefjodaaDoorMathL
namespace Go.Proofs.YtpgbjbhoefjodaaDoor
open Go.RowKit

def slotOkB (t : Int) (k : ByteArray) : Bool := decide (1 ≤ t ∧ t ≤ 99 ∧ k.size = 32)
def Asc (L : List Slot) : Prop := ∀ i, i < L.length - 1 → tn L i < tn L (i + 1)
instance (L : List Slot) : Decidable (Asc L) := inferInstanceAs (Decidable (∀ i, i < L.length - 1 → tn L i < tn L (i + 1)))
def ascB (L : List Slot) : Bool := decide (Asc L)
def SlotsOk (L : List Slot) : Prop := L.length ≤ 4 ∧ Asc L ∧ ∀ i, i < L.length → slotOkB (tn L i) (ky L i) = true
instance (L : List Slot) : Decidable (SlotsOk L) := inferInstanceAs (Decidable (L.length ≤ 4 ∧ Asc L ∧ ∀ i, i < L.length → slotOkB (tn L i) (ky L i) = true))
def slotsOkB (L : List Slot) : Bool := decide (SlotsOk L)
def DevOk (m : ByteArray) (L : List Slot) (x : Int) : Prop := m.size = 32 ∧ SlotsOk L ∧ 0 ≤ x ∧ x ≤ 1000000
instance (m : ByteArray) (L : List Slot) (x : Int) : Decidable (DevOk m L x) := inferInstanceAs (Decidable (m.size = 32 ∧ SlotsOk L ∧ 0 ≤ x ∧ x ≤ 1000000))
def devOkB (m : ByteArray) (L : List Slot) (x : Int) : Bool := decide (DevOk m L x)
theorem slotOkB_true {t : Int} {k : ByteArray} (h0 : 1 ≤ t) (h1 : t ≤ 99) (h2 : k.size = 32) : slotOkB t k = true := decide_eq_true ⟨h0, h1, h2⟩
theorem slotOkB_false {t : Int} {k : ByteArray} (h : t < 1 ∨ 99 < t ∨ k.size ≠ 32) : slotOkB t k = false := decide_eq_false (by omega)
theorem slotOkB_iff {t : Int} {k : ByteArray} : slotOkB t k = true ↔ 1 ≤ t ∧ t ≤ 99 ∧ k.size = 32 := decide_eq_true_iff
theorem ascB_false {L : List Slot} (i : Nat) (hi : i + 1 < L.length) (h : tn L (i + 1) ≤ tn L i) : ascB L = false := decide_eq_false fun ha => by
  have := ha i (by omega)
  omega
theorem slotsOkB_false {L : List Slot} (h : 4 < L.length ∨ ascB L = false ∨ ∃ i, i < L.length ∧ slotOkB (tn L i) (ky L i) = false) : slotsOkB L = false := decide_eq_false fun hs => by
  rcases h with h | h | ⟨i, hi, h⟩
  · have := hs.1; omega
  · exact absurd hs.2.1 (of_decide_eq_false h)
  · rw [hs.2.2 i hi] at h; cases h
theorem slotsOkB_true {L : List Slot} (h0 : L.length ≤ 4) (h1 : ascB L = true) (h2 : ∀ i, i < L.length → slotOkB (tn L i) (ky L i) = true) : slotsOkB L = true := decide_eq_true ⟨h0, of_decide_eq_true h1, h2⟩
theorem devOkB_true {m : ByteArray} {L : List Slot} {x : Int} (h0 : m.size = 32) (h1 : slotsOkB L = true) (h2 : 0 ≤ x) (h3 : x ≤ 1000000) : devOkB m L x = true := decide_eq_true ⟨h0, of_decide_eq_true h1, h2, h3⟩
theorem devOkB_false {m : ByteArray} {L : List Slot} {x : Int} (h : m.size ≠ 32 ∨ slotsOkB L = false ∨ x < 0 ∨ 1000000 < x) : devOkB m L x = false := decide_eq_false fun hd => by
  rcases h with h | h | h | h
  · exact h hd.1
  · exact absurd hd.2.1 (of_decide_eq_false h)
  · have := hd.2.2.1; omega
  · have := hd.2.2.2; omega
theorem devOkB_iff {m : ByteArray} {L : List Slot} {x : Int} : devOkB m L x = true ↔ DevOk m L x := decide_eq_true_iff

/-- cmp.Compare on int -/
def cmpI (a b : Int) : Int := if a < b then -1 else if b < a then 1 else 0
theorem cmpI_bd (a b : Int) : -1 ≤ cmpI a b ∧ cmpI a b ≤ 1 := by unfold cmpI; split <;> (try split) <;> omega
theorem cmpI_lt {a b : Int} : cmpI a b < 0 ↔ a < b := by unfold cmpI; split <;> (try split) <;> omega
theorem cmpI_zero {a b : Int} : cmpI a b = 0 ↔ a = b := by unfold cmpI; split <;> (try split) <;> omega
end Go.Proofs.YtpgbjbhoefjodaaDoor
