/-
  Split off EqEnt: eqEnt_same.
-/
import Derived.Test.YtphfakdbgohhgaaRowEnt
namespace Go.Proofs.Ytphfakdbgohhgaa
open Go.ChangeShapes Go.WideShapes Go.ChangeAt Go.RowKit

theorem eqEnt_same (f0 : ByteArray) (f1 : Int) (f2 : Bool) (f3 : ByteArray) (w : World) :
    Calls Try.prog 70 #[.agg #[.string f0, .int .i64 f1, .bool f2, .string f3], .agg #[.string f0, .int .i64 f1, .bool f2, .string f3]] w (TruePost w) := by
  go_enter Try.func70, Try.ntmps70
  go_wp2
  go_ret
  exact ⟨rfl, ((Below.refl _ _).alloc (Nat.le_refl _) _).alloc (by simp) _⟩
end Go.Proofs.Ytphfakdbgohhgaa
