/-
  Texts of this proof, put together: EntP.
-/
import Derived.Test.YtphfakdbgohhgaaPackAK
import Derived.Test.YtphfakdbgohhgaaPackAB
import Derived.Test.YtphfakdbgohhgaaPackAL

/-
  Split off MemF: EntsPost, src_ent.
-/
namespace Go.Proofs.Ytphfakdbgohhgaa
open Go.ChangeShapes Go.WideShapes Go.ChangeAt Go.RowKit

def EntsPost (w : World) (M : List En) (e : Ending) (w' : World) : Prop := ∃ v, e = .returned v ∧ elEnt.Owns w.heap.size w' v M ∧ Below w.heap.size w w'
/-- a row of one entry -/
theorem src_ent (wr : World) (f0 : ByteArray) (f1 : Int) (f2 : Bool) (f3 : ByteArray) : elEnt.Src (wr.alloc (.cells #[.string f0, .int .i64 f1, .bool f2, .string f3] 26)) (.slice (some ⟨wr.heap.size, 0, none⟩) 1 1) [(f0, f1, f2, f3)] :=
  (El.Owns.lit (e := elEnt) 0 wr [(f0, f1, f2, f3)] #[.string f0, .int .i64 f1, .bool f2, .string f3] 1 rfl rfl (Nat.zero_le _) (by simp [maxLen])).src
end Go.Proofs.Ytphfakdbgohhgaa
