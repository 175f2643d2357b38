/-
  Plain mathematics for hexadecimal digits: nothing here speaks of a program.
-/
import Derived.Test.YtoggdlmgoaecdaaMath2
namespace Go.Proofs.Ytoggdlmgoaecdaa
open Go.RowKit

def hexDigits : List UInt8 := [48, 49, 50, 51, 52, 53, 54, 55, 56, 57, 97, 98, 99, 100, 101, 102]
def hexD (k : Nat) : UInt8 := hexDigits.getD k 0
def hexL : List UInt8 → List UInt8
  | [] => []
  | c :: r => hexD (c.toNat / 16) :: hexD (c.toNat % 16) :: hexL r
theorem hexL_append : ∀ (a b : List UInt8), hexL (a ++ b) = hexL a ++ hexL b
  | [], b => rfl
  | c :: r, b => by simp [hexL, hexL_append r b]
theorem length_hexL : ∀ l, (hexL l).length = 2 * l.length
  | [] => rfl
  | c :: r => by simp [hexL, length_hexL r]; omega
theorem hexL_drop (l : List UInt8) (j : Nat) (h : j < l.length) : ((hexL l).drop (2 * j)).take 2 = [hexD (l[j].toNat / 16), hexD (l[j].toNat % 16)] := by
  have e : l = l.take j ++ (l[j] :: l.drop (j + 1)) := by rw [← List.drop_eq_getElem_cons h, List.take_append_drop]
  have hl : (hexL (l.take j)).length = 2 * j := by rw [length_hexL, List.length_take]; omega
  have e2 : hexL l = hexL (l.take j) ++ (hexD (l[j].toNat / 16) :: hexD (l[j].toNat % 16) :: hexL (l.drop (j + 1))) := by
    conv => lhs; rw [e]
    rw [hexL_append]; rfl
  rw [e2, ← hl, List.drop_left]
  rfl
theorem and15 (c : Nat) (h : c < 256) : bits .and .u8 (c : Int) 15 = ((c % 16 : Nat) : Int) := by
  have := u8_and_nat c 15 h (by omega)
  rw [nat_mask4] at this
  exact this
end Go.Proofs.Ytoggdlmgoaecdaa
