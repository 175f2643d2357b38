/-
  A result that is an entry in a block of its own, and something beside it.
-/
import Derived.Test.YtphfakdbgohhgaaRowEnt
import Derived.Test.YtphfakdbgohhgaaBoxN
namespace Go.Proofs.Ytphfakdbgohhgaa
open Go.ChangeShapes Go.WideShapes Go.ChangeAt Go.RowKit

/-- a result that is an entry in a block of its own, and a bool -/
theorem res_ent' {fn : Func} {p u : Tmp} (h : fn.results = #[.cell p 26, .tmp u]) (tmps : Array Value) (w : World) (g : Nat) (ht : tmps.getD p undef = .pointer (some ⟨g, 0, none⟩)) {v0 v1 v2 v3 : Value} (hx : BoxV 26 w g #[v0, v1, v2, v3]) :
    (results fn tmps).run Try.prog w = .ok (.tuple #[.agg #[v0, v1, v2, v3], tmps.getD u undef]) w := by
  obtain ⟨c0, c1, c2, c3⟩ := hx.four'
  rw [Array.getD_eq_getD_getElem?] at ht
  simp only [results, h]
  simp [ht, go_sem, c0, c1, c2, c3]
end Go.Proofs.Ytphfakdbgohhgaa
