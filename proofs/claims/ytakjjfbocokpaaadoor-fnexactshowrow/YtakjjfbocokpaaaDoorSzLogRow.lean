/-
  Contracts of laws.szLogRow, toLogRow and of their rows. (Written by mkrow.py.)
-/
import Derived.Test.YtakjjfbocokpaaaDoorRowLogRow
namespace Go.Proofs.YtakjjfbocokpaaaDoor
open Go.ChangeShapes Go.WideShapes Go.ChangeAt Go.RowKit

theorem szLogRow_any (f0 : Int) (f1 : Int) (f2 : Int) (f3 : ByteArray) (f4 : Bool) (left : Int) (w : World) (hf3 : f3.size ≤ maxLen) (h0 : 0 ≤ left) (h1 : left ≤ 1048576) :
    Calls Tryd.prog 39 #[.agg #[.int .i64 f0, .int .i64 f1, .int .i64 f2, .string f3, .bool f4], .int .i64 left] w fun e w' => ∃ x : Int, e = .returned (.int .i64 x) ∧ -1 ≤ x ∧ x ≤ left ∧ (0 ≤ x → fitLogRow (f0, f1, f2, f3, f4)) ∧ Below w.heap.size w w' := by
  unfold maxLen at hf3
  by_cases cf3 : left < (f3.size : Int)
  · go_enter Tryd.func39, Tryd.ntmps39
    go_wp2
    go_ret
    exact ⟨_, rfl, by omega, by omega, fun h => by omega, (Below.refl _ _).alloc (Nat.le_refl _) _⟩
  go_enter Tryd.func39, Tryd.ntmps39
  go_wp2
  go_ret
  exact ⟨_, rfl, by omega, by omega, fun _ => by unfold fitLogRow; simp only; omega, (Below.refl _ _).alloc (Nat.le_refl _) _⟩

theorem toLogRow_any (f0 : Int) (f1 : Int) (f2 : Int) (f3 : ByteArray) (f4 : Bool) (w : World) :
    Calls Tryd.prog 41 #[.agg #[.int .i64 f0, .int .i64 f1, .int .i64 f2, .string f3, .bool f4]] w fun e w' => e = .returned (.agg #[.int .i64 f0, .int .i64 f1, .int .i64 f2, .string f3, .bool f4]) ∧ Below w.heap.size w w' := by
  go_enter Tryd.func41, Tryd.ntmps41
  go_wp2
  exact bodyPost_ret (v := .agg #[.int .i64 f0, .int .i64 f1, .int .i64 f2, .string f3, .bool f4]) (by simp [results, Tryd.results41, go_sem]) rfl ⟨rfl, (((Below.refl _ _).alloc (Nat.le_refl _) _).alloc (by simp) _).alloc (by simp; omega) _⟩
end Go.Proofs.YtakjjfbocokpaaaDoor
