/-
  A struct of three cells in a block of its own; a row of slots as what is read.
-/
import Derived.Test.YtnbaffdonbnocaaOwnS
namespace Go.Proofs.Ytnbaffdonbnocaa
open Go.ChangeShapes Go.WideShapes Go.ChangeAt Go.RowKit

def StringPost (w : World) (s : ByteArray) (e : Ending) (w' : World) : Prop := e = .returned (.string s) ∧ Below w.heap.size w w'

/-- block g holds a struct of three cells -/
def Box3 (w : World) (g : Nat) (v0 v1 v2 : Value) : Prop := g < w.heap.size ∧ w.cell? ⟨g, 0, none⟩ = some v0 ∧ w.cell? ⟨g, 1, none⟩ = some v1 ∧ w.cell? ⟨g, 2, none⟩ = some v2
theorem Box3.below {w w' : World} {g B : Nat} {v0 v1 v2 : Value} (h : Box3 w g v0 v1 v2) (hb : Below B w w') (hg : g < B) : Box3 w' g v0 v1 v2 :=
  ⟨Nat.lt_of_lt_of_le h.1 hb.size, (hb.cell (p := ⟨g, 0, none⟩) hg).trans h.2.1, (hb.cell (p := ⟨g, 1, none⟩) hg).trans h.2.2.1, (hb.cell (p := ⟨g, 2, none⟩) hg).trans h.2.2.2⟩
theorem Box3.new (w : World) (v0 v1 v2 : Value) (T : TypeId) : Box3 (w.alloc (.cells #[v0, v1, v2] T)) w.heap.size v0 v1 v2 :=
  ⟨by simp, by simp, by simp, by simp⟩
theorem Box3.drew {w : World} {g : Nat} {v0 v1 v2 : Value} (h : Box3 w g v0 v1 v2) : Box3 w.drew g v0 v1 v2 := h
theorem HoldsS.drew {w : World} {g : Nat} {L : List Slot} (h : HoldsS w g L) : HoldsS w.drew g L := h
theorem HoldsS.rd {w : World} {g : Nat} {L : List Slot} (h : HoldsS w g L) : SlotRd w w.heap.size (some ⟨g, 0, none⟩) L := fun _ =>
  ⟨g, 0, rfl, (Array.getElem?_eq_some_iff.1 h).1, fun j hj => by rw [Nat.zero_add]; exact h.cells j hj⟩
theorem below_of_drew {w w' : World} (h : Below w.drew.heap.size w.drew w') : Below w.heap.size w w' := ⟨h.os, h.tape, h.output, h.size, h.block⟩
/-- block g is a struct of three cells, known whole -/
def BoxB (T : TypeId) (w : World) (g : Nat) (v0 v1 v2 : Value) : Prop := w.heap[g]? = some (.cells #[v0, v1, v2] T (0, 0))
theorem BoxB.new (T : TypeId) (w : World) (v0 v1 v2 : Value) : BoxB T (w.alloc (.cells #[v0, v1, v2] T)) w.heap.size v0 v1 v2 := Go.Deep.blk_alloc_new w _
theorem BoxB.lt {T : TypeId} {w : World} {g : Nat} {v0 v1 v2 : Value} (h : BoxB T w g v0 v1 v2) : g < w.heap.size := (Array.getElem?_eq_some_iff.1 h).1
theorem BoxB.below {T : TypeId} {w w' : World} {g B : Nat} {v0 v1 v2 : Value} (h : BoxB T w g v0 v1 v2) (hb : Below B w w') (hg : g < B) : BoxB T w' g v0 v1 v2 := (hb.block g hg).trans h
theorem BoxB.alloc {T : TypeId} {w : World} {g : Nat} {v0 v1 v2 : Value} (h : BoxB T w g v0 v1 v2) (o : Obj) : BoxB T (w.alloc o) g v0 v1 v2 := (Below.heap_alloc w o g h.lt).trans h
theorem BoxB.drew {T : TypeId} {w : World} {g : Nat} {v0 v1 v2 : Value} (h : BoxB T w g v0 v1 v2) : BoxB T w.drew g v0 v1 v2 := h
theorem BoxB.cells {T : TypeId} {w : World} {g : Nat} {v0 v1 v2 : Value} (h : BoxB T w g v0 v1 v2) : w.cell? ⟨g, 0, none⟩ = some v0 ∧ w.cell? ⟨g, 1, none⟩ = some v1 ∧ w.cell? ⟨g, 2, none⟩ = some v2 := by
  unfold BoxB at h
  exact ⟨by simp [World.cell?, h], by simp [World.cell?, h], by simp [World.cell?, h]⟩
theorem BoxB.frozen {T : TypeId} {w : World} {g : Nat} {v0 v1 v2 : Value} (h : BoxB T w g v0 v1 v2) : w.frozen? ⟨g, 0, none⟩ = false ∧ w.frozen? ⟨g, 1, none⟩ = false ∧ w.frozen? ⟨g, 2, none⟩ = false :=
  ⟨frozen_of_row w g 0 _ T h, frozen_of_row w g 1 _ T h, frozen_of_row w g 2 _ T h⟩
theorem BoxB.set0 {T : TypeId} {w : World} {g : Nat} {v0 v1 v2 : Value} (h : BoxB T w g v0 v1 v2) (u : Value) : BoxB T (w.setCell ⟨g, 0, none⟩ u) g u v1 v2 := heap_setCell_same w g 0 _ T u h
theorem BoxB.set1 {T : TypeId} {w : World} {g : Nat} {v0 v1 v2 : Value} (h : BoxB T w g v0 v1 v2) (u : Value) : BoxB T (w.setCell ⟨g, 1, none⟩ u) g v0 u v2 := heap_setCell_same w g 1 _ T u h
theorem BoxB.set2 {T : TypeId} {w : World} {g : Nat} {v0 v1 v2 : Value} (h : BoxB T w g v0 v1 v2) (u : Value) : BoxB T (w.setCell ⟨g, 2, none⟩ u) g v0 v1 u := heap_setCell_same w g 2 _ T u h
theorem BoxB.set_other {T : TypeId} {w : World} {g : Nat} {v0 v1 v2 : Value} {p : Addr} (h : BoxB T w g v0 v1 v2) (hp : p.block ≠ g) (u : Value) : BoxB T (w.setCell p u) g v0 v1 v2 := (heap_setCell_other w p g u (fun e => hp e.symm)).trans h
theorem BoxB.box3 {T : TypeId} {w : World} {g : Nat} {v0 v1 v2 : Value} (h : BoxB T w g v0 v1 v2) : Box3 w g v0 v1 v2 := ⟨h.lt, h.cells⟩
end Go.Proofs.Ytnbaffdonbnocaa
