/-
  Split off ChaJ: when ChaBlock answers, and what. Nothing here speaks of a program.
-/
import Derived.Test.YtakjjfbocokpaaaDoorMathY
namespace Go.Proofs.YtakjjfbocokpaaaDoor
open Go.RowKit

def BlockOk (k : List UInt8) (c : Int) (n : List UInt8) : Prop := k.length = 32 ∧ n.length = 12 ∧ 0 ≤ c ∧ c ≤ 4294967295
instance (k : List UInt8) (c : Int) (n : List UInt8) : Decidable (BlockOk k c n) := by unfold BlockOk; infer_instance
def blockV (k : List UInt8) (c : Int) (n : List UInt8) : List UInt8 := if BlockOk k c n then chaB k c.toNat n else []
theorem blockV_nil (k : List UInt8) (c : Int) (n : List UInt8) : blockV k c n = [] ↔ ¬ BlockOk k c n := by
  unfold blockV
  split
  · rename_i h
    refine ⟨fun e => ?_, fun h' => absurd h h'⟩
    have := congrArg List.length e
    rw [length_chaB] at this
    cases this
  · rename_i h; exact ⟨fun _ => h, fun _ => rfl⟩

end Go.Proofs.YtakjjfbocokpaaaDoor
