/-
  Texts of this proof, put together: StrC.
-/
import Derived.Test.YtdlkgpobjacgeaaGreatDoorPackAX
import Derived.Test.YtdlkgpobjacgeaaGreatDoorPackBG

/-
  Split off SzStr: cellStr, El.Rd.str.
-/
namespace Go.Proofs.YtdlkgpobjacgeaaGreatDoor
open Go.ChangeShapes Go.WideShapes Go.ChangeAt Go.RowKit Go.Joins

theorem cellStr {w : World} {b o j : Nat} {L : List ByteArray} {hj : j < L.length} (h : ∀ i, i < 1 → w.cell? ⟨b, o + j * 1 + i, none⟩ = (elStr.enc L[j])[i]?) : w.cell? ⟨b, o + j, none⟩ = some (.string L[j]) := by
  have := h 0 (by omega)
  rwa [Nat.mul_one, Nat.add_zero] at this
theorem El.Rd.str {w : World} {B : Nat} {a : Option Addr} {L : List ByteArray} (h : elStr.Rd w B a L) (hp : 0 < L.length) : ∃ b off, a = some ⟨b, off, none⟩ ∧ b < B ∧ ∀ j (hj : j < L.length), w.cell? ⟨b, off + j, none⟩ = some (.string L[j]) := by
  obtain ⟨b, off, ha, hb, hc⟩ := h hp
  exact ⟨b, off, ha, hb, fun j hj => cellStr (hj := hj) (hc j hj)⟩
end Go.Proofs.YtdlkgpobjacgeaaGreatDoor
