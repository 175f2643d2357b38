/-
  A row in a block of its own reads as its list.
-/
import Derived.Test.YtphfakdbgohhgaaRowG
namespace Go.Proofs.Ytphfakdbgohhgaa
open Go.ChangeShapes Go.WideShapes Go.ChangeAt Go.RowKit
theorem El.Holds.rd {α : Type} {e : El α} {w : World} {g : Nat} {L : List α} (h : e.Holds w g L) : e.Rd w w.heap.size (some ⟨g, 0, none⟩) L := fun _ =>
  ⟨g, 0, rfl, h.lt, fun j hj i hi => by rw [Nat.zero_add]; exact h.cell j hj i hi⟩
theorem El.Holds.drew {α : Type} {e : El α} {w : World} {g : Nat} {L : List α} (h : e.Holds w g L) : e.Holds w.drew g L := h
theorem owns_rd {α : Type} {e : El α} {B n cap : Nat} {a : Option Addr} {w : World} {L : List α} (h : e.Owns B w (.slice a n cap) L) : e.Rd w w.heap.size a L := by
  obtain ⟨a', c', q, h, _⟩ := h.form
  simp only [Value.slice.injEq] at q
  rw [q.1]
  exact h
end Go.Proofs.Ytphfakdbgohhgaa
