/-
  Boxes of two and of four cells: stores into them.
-/
import Derived.Test.YtphfakdbgohhgaaBoxW
import Derived.Test.YtphfakdbgohhgaaPosts
namespace Go.Proofs.Ytphfakdbgohhgaa
open Go.ChangeShapes Go.WideShapes Go.ChangeAt Go.RowKit

section
variable {T : TypeId} {w : World} {g : Nat} {v0 v1 v2 v3 : Value}
theorem BoxV.two' (h : BoxV T w g #[v0, v1]) : w.cell? ⟨g, 0, none⟩ = some v0 ∧ w.cell? ⟨g, 1, none⟩ = some v1 := ⟨h.cell 0 v0 rfl, h.cell 1 v1 rfl⟩
theorem BoxV.two0 (h : BoxV T w g #[v0, v1]) (u : Value) : BoxV T (w.setCell ⟨g, 0, none⟩ u) g #[u, v1] := h.set (i := 0) u
theorem BoxV.two1 (h : BoxV T w g #[v0, v1]) (u : Value) : BoxV T (w.setCell ⟨g, 1, none⟩ u) g #[v0, u] := h.set (i := 1) u
theorem BoxV.four' (h : BoxV T w g #[v0, v1, v2, v3]) : w.cell? ⟨g, 0, none⟩ = some v0 ∧ w.cell? ⟨g, 1, none⟩ = some v1 ∧ w.cell? ⟨g, 2, none⟩ = some v2 ∧ w.cell? ⟨g, 3, none⟩ = some v3 := ⟨h.cell 0 v0 rfl, h.cell 1 v1 rfl, h.cell 2 v2 rfl, h.cell 3 v3 rfl⟩
theorem BoxV.four0 (h : BoxV T w g #[v0, v1, v2, v3]) (u : Value) : BoxV T (w.setCell ⟨g, 0, none⟩ u) g #[u, v1, v2, v3] := h.set (i := 0) u
theorem BoxV.four1 (h : BoxV T w g #[v0, v1, v2, v3]) (u : Value) : BoxV T (w.setCell ⟨g, 1, none⟩ u) g #[v0, u, v2, v3] := h.set (i := 1) u
theorem BoxV.four2 (h : BoxV T w g #[v0, v1, v2, v3]) (u : Value) : BoxV T (w.setCell ⟨g, 2, none⟩ u) g #[v0, v1, u, v3] := h.set (i := 2) u
theorem BoxV.four3 (h : BoxV T w g #[v0, v1, v2, v3]) (u : Value) : BoxV T (w.setCell ⟨g, 3, none⟩ u) g #[v0, v1, v2, u] := h.set (i := 3) u
theorem BoxV.all4 (h : BoxV T w g #[v0, v1, v2, v3]) (u0 u1 u2 u3 : Value) : BoxV T ((((w.setCell ⟨g, 0, none⟩ u0).setCell ⟨g, 1, none⟩ u1).setCell ⟨g, 2, none⟩ u2).setCell ⟨g, 3, none⟩ u3) g #[u0, u1, u2, u3] := (((h.four0 u0).four1 u1).four2 u2).four3 u3
theorem BoxV.froz2 {vs : Array Value} (h : BoxV T w g vs) : w.frozen? ⟨g, 0, none⟩ = false ∧ w.frozen? ⟨g, 1, none⟩ = false := ⟨h.frozen 0, h.frozen 1⟩
theorem BoxV.froz4 {vs : Array Value} (h : BoxV T w g vs) : w.frozen? ⟨g, 0, none⟩ = false ∧ w.frozen? ⟨g, 1, none⟩ = false ∧ w.frozen? ⟨g, 2, none⟩ = false ∧ w.frozen? ⟨g, 3, none⟩ = false := ⟨h.frozen 0, h.frozen 1, h.frozen 2, h.frozen 3⟩
theorem below_four {B : Nat} {w w' : World} (h : Below B w w') {g : Nat} (hg : B ≤ g) (u0 u1 u2 u3 : Value) : Below B w ((((w'.setCell ⟨g, 0, none⟩ u0).setCell ⟨g, 1, none⟩ u1).setCell ⟨g, 2, none⟩ u2).setCell ⟨g, 3, none⟩ u3) := (((h.setCell hg u0).setCell hg u1).setCell hg u2).setCell hg u3
end
end Go.Proofs.Ytphfakdbgohhgaa
