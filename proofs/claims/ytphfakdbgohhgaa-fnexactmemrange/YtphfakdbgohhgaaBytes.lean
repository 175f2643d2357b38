/-
  The bytes of a string as a list.
-/
import Derived.Test.YtphfakdbgohhgaaMath
import Derived.Lib.Strings
namespace Go.Proofs.Ytphfakdbgohhgaa
open Go.RowKit

def bl (s : ByteArray) : List UInt8 := s.data.toList
theorem bl_len (s : ByteArray) : (bl s).length = s.size := by simp [bl]
theorem bl_at (s : ByteArray) (k : Nat) (h : k < s.size) (hb : k < (bl s).length) : (bl s)[k]'hb = s[k]'h := by simp [bl]; rfl
theorem bl_take (s : ByteArray) (k : Nat) (h : k < s.size) : (bl s).take (k + 1) = (bl s).take k ++ [s[k]] := take_snoc s k h

theorem bl_extract (s : ByteArray) (k : Nat) : (s.extract 0 k).toList = (bl s).take k := by
  rw [ByteArray.toList_eq, Lib.extract_data]; rfl
theorem ba_ext {a b : ByteArray} (h : a.data.toList = b.data.toList) : a = b := by
  cases a; cases b; simp only at h; congr 1; exact Array.toList_inj.1 h
theorem ext_take (s : ByteArray) (k : Nat) : s.extract 0 k = ⟨((bl s).take k).toArray⟩ := ba_ext (by rw [Lib.extract_data]; rfl)
theorem ext_drop (s : ByteArray) (k : Nat) : s.extract k s.size = ⟨((bl s).drop k).toArray⟩ := ba_ext (by
  rw [Lib.extract_data, List.take_of_length_le (by rw [List.length_drop]; have := bl_len s; unfold bl at this; omega)]; rfl)
theorem ba_mk (s : ByteArray) : s = ⟨(bl s).toArray⟩ := ba_ext rfl
end Go.Proofs.Ytphfakdbgohhgaa
