/-
  Blocks of memory that hold a struct.
-/
import Derived.Test.YtphfakdbgohhgaaRowG
namespace Go.Proofs.Ytphfakdbgohhgaa
open Go.ChangeShapes Go.WideShapes Go.ChangeAt Go.RowKit

def BoxV (T : TypeId) (w : World) (g : Nat) (vs : Array Value) : Prop := w.heap[g]? = some (.cells vs T (0, 0))
theorem BoxV.new (T : TypeId) (w : World) (vs : Array Value) : BoxV T (w.alloc (.cells vs T)) w.heap.size vs := Go.Deep.blk_alloc_new w _
theorem BoxV.lt {T : TypeId} {w : World} {g : Nat} {vs : Array Value} (h : BoxV T w g vs) : g < w.heap.size := (Array.getElem?_eq_some_iff.1 h).1
theorem BoxV.below {T : TypeId} {w w' : World} {g B : Nat} {vs : Array Value} (h : BoxV T w g vs) (hb : Below B w w') (hg : g < B) : BoxV T w' g vs := (hb.block g hg).trans h
theorem BoxV.cell {T : TypeId} {w : World} {g : Nat} {vs : Array Value} (h : BoxV T w g vs) (i : Nat) (v : Value) (hi : vs[i]? = some v) : w.cell? ⟨g, i, none⟩ = some v := by
  unfold BoxV at h
  simp [World.cell?, h, hi]
theorem BoxV.set {T : TypeId} {w : World} {g i : Nat} {vs : Array Value} (h : BoxV T w g vs) (u : Value) : BoxV T (w.setCell ⟨g, i, none⟩ u) g (vs.setIfInBounds i u) := heap_setCell_same w g i _ T u h
theorem BoxV.set_other {T : TypeId} {w : World} {g : Nat} {vs : Array Value} {p : Addr} (h : BoxV T w g vs) (hp : p.block ≠ g) (u : Value) : BoxV T (w.setCell p u) g vs := (heap_setCell_other w p g u (fun e => hp e.symm)).trans h
theorem BoxV.alloc {T : TypeId} {w : World} {g : Nat} {vs : Array Value} (h : BoxV T w g vs) (o : Obj) : BoxV T (w.alloc o) g vs := (Below.heap_alloc w o g h.lt).trans h
theorem BoxV.drew {T : TypeId} {w : World} {g : Nat} {vs : Array Value} (h : BoxV T w g vs) : BoxV T w.drew g vs := h
theorem BoxV.frozen {T : TypeId} {w : World} {g : Nat} {vs : Array Value} (h : BoxV T w g vs) (i : Nat) : w.frozen? ⟨g, i, none⟩ = false := frozen_of_row w g i _ T h
theorem BoxV.three {T : TypeId} {w : World} {g : Nat} {v0 v1 v2 : Value} (h : BoxV T w g #[v0, v1, v2]) : w.cell? ⟨g, 0, none⟩ = some v0 ∧ w.cell? ⟨g, 1, none⟩ = some v1 ∧ w.cell? ⟨g, 2, none⟩ = some v2 :=
  ⟨h.cell 0 v0 rfl, h.cell 1 v1 rfl, h.cell 2 v2 rfl⟩
theorem two_boxV {w w1 : World} {T U : TypeId} {A B : Array Value} (h : Below ((w.alloc (.cells A T)).alloc (.cells B U)).heap.size ((w.alloc (.cells A T)).alloc (.cells B U)) w1) :
    BoxV T w1 w.heap.size A ∧ BoxV U w1 (w.heap.size + 1) B ∧ Below w.heap.size w w1 := by
  have h1 : BoxV T ((w.alloc (.cells A T)).alloc (.cells B U)) w.heap.size A := (BoxV.new T w A).alloc _
  have h2 : BoxV U ((w.alloc (.cells A T)).alloc (.cells B U)) (w.heap.size + 1) B := by
    have := BoxV.new U (w.alloc (.cells A T)) B
    rwa [Go.Deep.nblk_alloc] at this
  refine ⟨h1.below h h1.lt, h2.below h h2.lt, ?_⟩
  have h3 := ((Below.refl w.heap.size w).alloc (Nat.le_refl _) (.cells A T)).alloc (by rw [Go.Deep.nblk_alloc]; omega) (.cells B U)
  exact h3.trans (h.mono h3.size)
end Go.Proofs.Ytphfakdbgohhgaa
