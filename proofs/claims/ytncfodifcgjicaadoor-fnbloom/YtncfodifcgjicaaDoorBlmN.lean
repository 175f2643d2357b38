/-
  Bits of bytes and of words, in the words of the walk.
-/
import Derived.Test.YtncfodifcgjicaaDoorBlmM
import Derived.Test.YtncfodifcgjicaaDoorMath
import Derived.Laws.BitsAllLaws
namespace Go.Proofs.YtncfodifcgjicaaDoor
open Go.RowKit

theorem one_i64 (y : Nat) (h : y < 9223372036854775808) : bits .and .i64 (y : Int) 1 = ((y % 2 : Nat) : Int) := by
  have hx : y &&& 1 ≤ y := Nat.and_le_left
  have e := Nat.and_one_is_mod y
  show IntKind.i64.wrap ((BitVec.ofInt 64 (y : Int) &&& BitVec.ofInt 64 ((1 : Nat) : Int)).toNat : Int) = _
  rw [BitVec.toNat_and, ofInt_u64 y (by omega), ofInt_u64 1 (by omega), IntKind.wrap_i64, e]
  omega
theorem one_u8 (y : Nat) (h : y < 256) : bits .and .u8 (y : Int) 1 = ((y % 2 : Nat) : Int) := by
  have := u8_and_nat y 1 h (by omega)
  rwa [Nat.and_one_is_mod] at this
theorem shr_nat (x r : Nat) : (x : Int) / 2 ^ r = ((x / 2 ^ r : Nat) : Int) := by
  rw [Int.natCast_ediv, Int.natCast_pow]; rfl
theorem shl_nat (x r : Nat) : (x : Int) * 2 ^ r = ((x * 2 ^ r : Nat) : Int) := by
  rw [Int.natCast_mul, Int.natCast_pow]; rfl
theorem bit_at (x r : Nat) : x.testBit r = decide (x / 2 ^ r % 2 = 1) := Nat.testBit_eq_decide_div_mod_eq
theorem div_le (x r : Nat) : x / 2 ^ r ≤ x := Nat.div_le_self _ _
/-- the bit of a byte, as the specification asks for it and as the program does -/
theorem bit_i64 (x r : Nat) (hx : x < 256) : bits .and .i64 ((x : Int) / 2 ^ r) 1 = if x.testBit r then 1 else 0 := by
  have := div_le x r
  rw [shr_nat, one_i64 _ (by omega), bit_at]
  by_cases h : x / 2 ^ r % 2 = 1
  · rw [h]; rfl
  · rw [decide_eq_false h, show x / 2 ^ r % 2 = 0 by omega]; rfl
theorem bit_u8 (x r : Nat) (hx : x < 256) : bits .and .u8 ((x : Int) / 2 ^ r) 1 = if x.testBit r then 1 else 0 := by
  have := div_le x r
  rw [shr_nat, one_u8 _ (by omega), bit_at]
  by_cases h : x / 2 ^ r % 2 = 1
  · rw [h]; rfl
  · rw [decide_eq_false h, show x / 2 ^ r % 2 = 0 by omega]; rfl
/-- the first m bits of a key added -/
def partK (n : Nat) (F k : List UInt8) : Nat → List UInt8
  | 0 => F
  | m + 1 => setOn (partK n F k m) (kbit k n m)
theorem length_partK (n : Nat) (F k : List UInt8) : ∀ m, (partK n F k m).length = F.length
  | 0 => rfl
  | m + 1 => by rw [partK, length_setOn, length_partK n F k m]
theorem partK_three (n : Nat) (F k : List UInt8) : partK n F k 3 = addK n F k := rfl
/-- the byte that a bit stands in, with the bit set -/
theorem or_byte (c : UInt8) (r : Nat) (hr : r < 8) : bits .or .u8 (c.toNat : Int) ((2 ^ r : Nat) : Int) = ((c ||| UInt8.ofNat (2 ^ r)).toNat : Int) := by
  have h2 := pow8 r hr
  rw [u8_or_nat _ _ c.toNat_lt h2, UInt8.toNat_or, UInt8.toNat_ofNat', Nat.mod_eq_of_lt (by omega)]
theorem bitOn_at {F : List UInt8} {m : Nat} (h : m / 8 < F.length) : bitOn F m = F[m / 8].toNat.testBit (m % 8) := by
  unfold bitOn; rw [List.getElem?_eq_getElem h]; rfl
theorem setOn_at {F : List UInt8} {m : Nat} (h : m / 8 < F.length) : setOn F m = F.set (m / 8) (F[m / 8] ||| UInt8.ofNat (2 ^ (m % 8))) := by
  unfold setOn; rw [List.getElem?_eq_getElem h]; rfl
/-- eight words as one row of 512 bits -/
def wbit (W : List Nat) (m : Nat) : Bool := (W[m / 64]?.getD 0).testBit (m % 64)
def setW (W : List Nat) (m : Nat) : List Nat := W.set (m / 64) (W[m / 64]?.getD 0 ||| 2 ^ (m % 64))
theorem wbit_setW {W : List Nat} {m : Nat} (h : m / 64 < W.length) (q : Nat) : wbit (setW W m) q = (wbit W q || decide (q = m)) := by
  unfold wbit setW
  rw [List.getElem?_set]
  by_cases hq : m / 64 = q / 64
  · rw [if_pos hq, if_pos h, ← hq, Option.getD_some, Nat.testBit_or, Nat.testBit_two_pow]
    congr 1
    rw [decide_eq_decide]
    omega
  · rw [if_neg hq]
    have : q ≠ m := fun e => hq (by rw [e])
    simp [this]
theorem setW_lt {W : List Nat} (h : ∀ x ∈ W, x < 2 ^ 64) (m : Nat) : ∀ x ∈ setW W m, x < 2 ^ 64 := by
  intro x hx
  unfold setW at hx
  rcases List.mem_or_eq_of_mem_set hx with hx | rfl
  · exact h x hx
  · refine Nat.or_lt_two_pow ?_ (Nat.pow_lt_pow_right (by omega) (Nat.mod_lt _ (by omega)))
    rcases Nat.lt_or_ge (m / 64) W.length with hm | hm
    · rw [List.getElem?_eq_getElem hm]; exact h _ (List.getElem_mem _)
    · rw [List.getElem?_eq_none hm]; decide
theorem length_setW (W : List Nat) (m : Nat) : (setW W m).length = W.length := by simp [setW]
/-- the words hold the filter F -/
def Same (W : List Nat) (F : List UInt8) : Prop := W.length = 8 ∧ (∀ x ∈ W, x < 2 ^ 64) ∧ ∀ q, wbit W q = bitOn F q
theorem Same.zero (size : Nat) : Same (List.replicate 8 0) (List.replicate size 0) := ⟨rfl, fun x hx => by rw [List.mem_replicate] at hx; rw [hx.2]; decide, fun q => by
  rw [bitOn_zeros]
  unfold wbit
  rw [List.getElem?_replicate]
  split <;> simp⟩
theorem Same.set {W : List Nat} {F : List UInt8} (h : Same W F) {m : Nat} (hm : m / 8 < F.length) (hF : F.length ≤ 64) : Same (setW W m) (setOn F m) :=
  ⟨by rw [length_setW, h.1], setW_lt h.2.1 m, fun q => by rw [wbit_setW (by rw [h.1]; omega), bitOn_setOn hm, h.2.2]⟩
/-- byte i of the words -/
def byteW (W : List Nat) (i : Nat) : UInt8 := UInt8.ofNat (W[8 * i / 64]?.getD 0 / 2 ^ (8 * i % 64))
theorem byteW_bit (W : List Nat) (i j : Nat) (hj : j < 8) : (byteW W i).toNat.testBit j = wbit W (8 * i + j) := by
  unfold byteW wbit
  rw [UInt8.toNat_ofNat', show (2 : Nat) ^ 8 = 2 ^ 8 from rfl, Nat.testBit_mod_two_pow, Nat.testBit_div_two_pow, decide_eq_true hj, Bool.true_and, show (8 * i + j) / 64 = 8 * i / 64 by omega, show j + 8 * i % 64 = (8 * i + j) % 64 by omega]
theorem byteW_same {W : List Nat} {F : List UInt8} (h : Same W F) (i : Nat) (hi : i < F.length) : byteW W i = F[i] := by
  apply UInt8.toNat_inj.1
  apply Nat.eq_of_testBit_eq
  intro j
  by_cases hj : j < 8
  · rw [byteW_bit W i j hj, h.2.2, bitOn_at (by omega)]
    congr 2
    · congr 1; omega
    · omega
  · rw [Nat.testBit_lt_two_pow (Nat.lt_of_lt_of_le (byteW W i).toNat_lt (Nat.pow_le_pow_right (n := 2) (i := 8) (by omega) (by omega))), Nat.testBit_lt_two_pow (Nat.lt_of_lt_of_le F[i].toNat_lt (Nat.pow_le_pow_right (n := 2) (i := 8) (by omega) (by omega)))]
end Go.Proofs.YtncfodifcgjicaaDoor
