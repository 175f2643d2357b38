/-
  What impl.cutOp needs of its boxes.
-/
import Derived.Test.YtmdhihgfnlnbnaaCutA
import Derived.Test.YtmdhihgfnlnbnaaMathJ
import Derived.Test.YtmdhihgfnlnbnaaReadVarI
import Derived.Test.YtmdhihgfnlnbnaaTakeS
import Derived.Test.YtmdhihgfnlnbnaaShowO
namespace Go.Proofs.Ytmdhihgfnlnbnaa
open Go.ChangeShapes Go.WideShapes Go.ChangeAt Go.RowKit

theorem res_op {fn : Func} {p q : Tmp} (h : fn.results = #[.cell p 62, .tmp q]) (tmps : Array Value) (w : World) (g : Nat) (ht : tmps.getD p undef = .pointer (some ⟨g, 0, none⟩)) {v0 v1 v2 : Value} (hx : BoxV 62 w g #[v0, v1, v2]) (u : Value) (hu : tmps.getD q undef = u) :
    (results fn tmps).run Try.prog w = .ok (.tuple #[.agg #[v0, v1, v2], u]) w := by
  obtain ⟨c0, c1, c2⟩ := hx.three
  rw [Array.getD_eq_getD_getElem?] at ht hu
  simp only [results, h]
  simp [ht, hu, go_sem, c0, c1, c2]
def CutOPost (w : World) (o : Opn) (b : List UInt8) (e : Ending) (w' : World) : Prop := e = .returned (.tuple #[.agg #[.string o.1, .bool o.2.1, .string o.2.2], .string ⟨b.toArray⟩]) ∧ Below w.heap.size w w'
end Go.Proofs.Ytmdhihgfnlnbnaa
