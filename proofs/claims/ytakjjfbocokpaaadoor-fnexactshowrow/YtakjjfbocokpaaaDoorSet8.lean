/-
  A row of bytes that is known whole: one byte stored into.
-/
import Derived.Test.YtakjjfbocokpaaaDoorSmallI
import Derived.Test.YtakjjfbocokpaaaDoorMath
namespace Go.Proofs.YtakjjfbocokpaaaDoor
open Go.ChangeShapes Go.WideShapes Go.ChangeAt Go.RowKit

theorem Holds8.set {T : TypeId} {w : World} {g : Nat} {L : List UInt8} (h : Holds8 T w g L) (j : Nat) (b : UInt8) (y : Int) (hy : y = (b.toNat : Int)) : Holds8 T (w.setCell ⟨g, j, none⟩ (.int .u8 y)) g (L.set j b) := by
  subst hy
  unfold Holds8 at *
  simp only [World.setCell, Array.getElem?_modify, h]
  simp [byteVals, List.map_set]
theorem Holds8.frozen {T : TypeId} {w : World} {g : Nat} {L : List UInt8} (h : Holds8 T w g L) (j : Nat) : w.frozen? ⟨g, j, none⟩ = false := by
  unfold Holds8 at h
  simp [World.frozen?, h]
theorem rowOf_set (l : List UInt8) (j : Nat) (h : j < l.length) : (rowOf l j).set j l[j] = rowOf l (j + 1) := by
  have := rowOf_step l j 1 (by omega)
  rw [take1_drop l j h] at this
  rw [← this]
  unfold splice
  rw [List.set_eq_take_append_cons_drop, if_pos (by rw [length_rowOf l j (by omega)]; exact h)]
  simp
end Go.Proofs.YtakjjfbocokpaaaDoor
