/-
  What impl.cutOp needs of its boxes.
-/
import Derived.Test.YtlmkdjfilbfjpaaCutA
import Derived.Test.YtlmkdjfilbfjpaaMathJ
import Derived.Test.YtlmkdjfilbfjpaaReadVarI
import Derived.Test.YtlmkdjfilbfjpaaTakeS
import Derived.Test.YtlmkdjfilbfjpaaShowO
namespace Go.Proofs.Ytlmkdjfilbfjpaa
open Go.ChangeShapes Go.WideShapes Go.ChangeAt Go.RowKit

theorem BoxV.set {T : TypeId} {w : World} {g i : Nat} {vs : Array Value} (h : BoxV T w g vs) (u : Value) : BoxV T (w.setCell ⟨g, i, none⟩ u) g (vs.setIfInBounds i u) := heap_setCell_same w g i _ T u h
theorem BoxV.set_other {T : TypeId} {w : World} {g : Nat} {vs : Array Value} {p : Addr} (h : BoxV T w g vs) (hp : p.block ≠ g) (u : Value) : BoxV T (w.setCell p u) g vs := (heap_setCell_other w p g u (fun e => hp e.symm)).trans h
theorem BoxV.alloc {T : TypeId} {w : World} {g : Nat} {vs : Array Value} (h : BoxV T w g vs) (o : Obj) : BoxV T (w.alloc o) g vs := (Below.heap_alloc w o g h.lt).trans h
theorem BoxV.drew {T : TypeId} {w : World} {g : Nat} {vs : Array Value} (h : BoxV T w g vs) : BoxV T w.drew g vs := h
theorem BoxV.frozen {T : TypeId} {w : World} {g : Nat} {vs : Array Value} (h : BoxV T w g vs) (i : Nat) : w.frozen? ⟨g, i, none⟩ = false := frozen_of_row w g i _ T h
theorem BoxV.three {T : TypeId} {w : World} {g : Nat} {v0 v1 v2 : Value} (h : BoxV T w g #[v0, v1, v2]) : w.cell? ⟨g, 0, none⟩ = some v0 ∧ w.cell? ⟨g, 1, none⟩ = some v1 ∧ w.cell? ⟨g, 2, none⟩ = some v2 :=
  ⟨h.cell 0 v0 rfl, h.cell 1 v1 rfl, h.cell 2 v2 rfl⟩
theorem res_op {fn : Func} {p q : Tmp} (h : fn.results = #[.cell p 41, .tmp q]) (tmps : Array Value) (w : World) (g : Nat) (ht : tmps.getD p undef = .pointer (some ⟨g, 0, none⟩)) {v0 v1 v2 : Value} (hx : BoxV 41 w g #[v0, v1, v2]) (u : Value) (hu : tmps.getD q undef = u) :
    (results fn tmps).run Try.prog w = .ok (.tuple #[.agg #[v0, v1, v2], u]) w := by
  obtain ⟨c0, c1, c2⟩ := hx.three
  rw [Array.getD_eq_getD_getElem?] at ht hu
  simp only [results, h]
  simp [ht, hu, go_sem, c0, c1, c2]
def CutOPost (w : World) (o : Opn) (b : List UInt8) (e : Ending) (w' : World) : Prop := e = .returned (.tuple #[.agg #[.string o.1, .bool o.2.1, .string o.2.2], .string ⟨b.toArray⟩]) ∧ Below w.heap.size w w'
end Go.Proofs.Ytlmkdjfilbfjpaa
