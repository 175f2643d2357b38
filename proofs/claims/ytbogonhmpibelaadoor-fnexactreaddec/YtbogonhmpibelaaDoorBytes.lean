/-
  The bytes of a string as a list.
-/
import Derived.Test.YtbogonhmpibelaaDoorMath
import Derived.Lib.Strings
namespace Go.Proofs.YtbogonhmpibelaaDoor
open Go.RowKit

def bl (s : ByteArray) : List UInt8 := s.data.toList
theorem bl_len (s : ByteArray) : (bl s).length = s.size := by simp [bl]
theorem bl_at (s : ByteArray) (k : Nat) (h : k < s.size) (h' : k < (bl s).length) : (bl s)[k]'h' = s[k]'h := by simp [bl]; rfl
theorem bl_take (s : ByteArray) (k : Nat) (h : k < s.size) : (bl s).take (k + 1) = (bl s).take k ++ [s[k]] := take_snoc s k h

theorem bl_extract (s : ByteArray) (k : Nat) : (s.extract 0 k).toList = (bl s).take k := by
  rw [ByteArray.toList_eq, Lib.extract_data]; rfl
end Go.Proofs.YtbogonhmpibelaaDoor
