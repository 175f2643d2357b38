/-
  Contract of spec.l1PickInt, of which only 'some number of the row' is said.
-/
import Derived.Test.YtncfodifcgjicaaDoorDrawO
import Derived.Test.YtncfodifcgjicaaDoorDrawP
namespace Go.Proofs.YtncfodifcgjicaaDoor
open Go.ChangeShapes Go.WideShapes Go.ChangeAt Go.RowKit

theorem pickInt_new {B g : Nat} {a : Option Addr} {cap : Nat} {bs : List Int} {w : World} (n : Nat) (vs : Array Value) (zs : List Int) (hv : vs = (zs.map (Value.int .i64)).toArray) (h0 : 0 < n) (hn : n ≤ 1048576) (hs : zs.length = n) (h : CurS B g a cap bs w) :
    Calls Tryd.prog 18 #[.pointer (some ⟨g, 0, none⟩), .slice (some ⟨w.heap.size, 0, none⟩) n n] (w.alloc (.cells vs 3)) fun e w' => ∃ z : Int, e = .returned (.int .i64 z) ∧ CurS B g a cap bs w' ∧ Turned g w w' := by
  subst hv hs
  obtain ⟨c, h⟩ := h
  have hlt := h.lt
  have hb := (Below.refl w.heap.size w).alloc (Nat.le_refl _) (.cells (zs.map (Value.int .i64)).toArray 3)
  refine (l1PickInt_any w.heap.size zs.length zs h0 hn (by simp) (by omega) (fun j hj => ints_new 3 w zs j hj) (h.keep (hb.mono hlt))).mono ?_
  rintro e w' ⟨rfl, h3, h4⟩
  exact ⟨_, rfl, ⟨_, h3⟩, (Turned.of_below hb (Nat.le_refl _)).trans h4⟩
end Go.Proofs.YtncfodifcgjicaaDoor
