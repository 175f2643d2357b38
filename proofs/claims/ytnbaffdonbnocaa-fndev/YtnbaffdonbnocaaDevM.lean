/-
  When a block device is valid: nothing here speaks of the program.
-/
import Derived.Test.YtnbaffdonbnocaaMathL
import Derived.Test.YtnbaffdonbnocaaMathT
namespace Go.Proofs.Ytnbaffdonbnocaa
open Go.RowKit

def SecOk (S : List ByteArray) : Prop := 1 ≤ S.length ∧ S.length ≤ 16 ∧ ∀ i, i < S.length → (st S i).size ≤ 200
def PutOk (n : Nat) (t : Int) (k : ByteArray) : Prop := 0 ≤ t ∧ t < n ∧ k.size ≤ 200
def CacOk (n : Nat) (L : List Slot) : Prop := L.length ≤ 20 ∧ ∀ i, i < L.length → PutOk n (tn L i) (ky L i)
def DevGood (S : List ByteArray) (L : List Slot) (x : Int) : Prop := SecOk S ∧ CacOk S.length L ∧ 0 ≤ x ∧ x ≤ 1000000
noncomputable def yes (P : Prop) : Bool := @decide P (Classical.propDecidable P)
theorem yes_true {P : Prop} (h : P) : yes P = true := by simp [yes, h]
theorem yes_false {P : Prop} (h : ¬ P) : yes P = false := by simp [yes, h]
theorem yes_iff {P : Prop} : yes P = true ↔ P := by simp [yes]
theorem no_iff {P : Prop} : yes P = false ↔ ¬ P := by simp [yes]
noncomputable def devOkB (S : List ByteArray) (L : List Slot) (x : Int) : Bool := yes (DevGood S L x)
end Go.Proofs.Ytnbaffdonbnocaa
