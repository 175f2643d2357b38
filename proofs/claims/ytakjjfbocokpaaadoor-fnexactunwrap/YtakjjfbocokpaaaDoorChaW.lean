/-
  Contracts of math/bits.RotateLeft32, spec.l3Word and spec.l3Left.
-/
import Derived.Test.YtakjjfbocokpaaaDoorRows
import Derived.Test.YtakjjfbocokpaaaDoorMathX
import Derived.WalkKit
import Derived.ProofKit
import Derived.OpenShut
import Derived.ShutString
import Derived.WalkSpells
namespace Go.Proofs.YtakjjfbocokpaaaDoor
open Go.ChangeShapes Go.WideShapes Go.ChangeAt Go.RowKit

theorem i64_and_nat (a b : Nat) (ha : a < 9223372036854775808) (hb : b < 9223372036854775808) : bits .and .i64 (a : Int) (b : Int) = ((a &&& b : Nat) : Int) := by
  have hx : a &&& b ≤ a := Nat.and_le_left
  show IntKind.i64.wrap ((BitVec.ofInt 64 (a : Int) &&& BitVec.ofInt 64 (b : Int)).toNat : Int) = _
  rw [BitVec.toNat_and, ofInt_u64 a (by omega), ofInt_u64 b (by omega), IntKind.wrap_i64]
  omega
theorem mask32 (x : Nat) (h : x < 9223372036854775808) : bits .and .i64 (x : Int) 4294967295 = ((x % 4294967296 : Nat) : Int) := by
  have := i64_and_nat x 4294967295 h (by omega)
  rw [show x &&& 4294967295 = x % 4294967296 from Nat.and_two_pow_sub_one_eq_mod x 32] at this
  exact this
theorem mask8 (x : Nat) (h : x < 9223372036854775808) : bits .and .i64 (x : Int) 255 = ((x % 256 : Nat) : Int) := by
  have := i64_and_nat x 255 h (by omega)
  rw [nat_mask8] at this
  exact this

theorem l3Word_any (x : Nat) (h : x < 9223372036854775808) (w : World) :
    Calls Tryd.prog 122 #[.int .i64 x] w fun e w' => e = .returned (.int .i64 (x % 4294967296 : Nat)) ∧ w = w' := by
  have hm := mask32 x h
  go_enter Tryd.func122, Tryd.ntmps122
  go_wp2
  go_ret
  exact ⟨rfl, rfl⟩
theorem rotl_whole (x n : Nat) (h : x < 4294967296) : (x * 2 ^ n ||| x / 2 ^ (32 - n)) % 4294967296 = rotl x n := by
  rw [show (4294967296 : Nat) = 2 ^ 32 from rfl, Nat.or_mod_two_pow, Nat.mod_eq_of_lt (a := x / _) (Nat.lt_of_le_of_lt (Nat.div_le_self _ _) h)]; rfl

theorem rot16 (x : Nat) (h : x < 4294967296) (w : World) :
    Calls Tryd.prog 124 #[.int .u32 x, .int .i64 16] w fun e w' => e = .returned (.int .u32 (rotl x 16 : Nat)) ∧ w = w' := by
  have ha : bits .and .u64 16 31 = 16 := by decide
  have ho := u32_or_nat (x * 65536 % 4294967296) (x / 65536) (by omega) (by omega)
  rw [Int.natCast_emod, Int.natCast_mul, Int.natCast_ediv] at ho
  have HR := hide (show ((x * 65536 % 4294967296 ||| x / 65536 : Nat) : Int) = (rotl x 16 : Nat) from rfl)
  go_enter Tryd.func124, Tryd.ntmps124
  go_wp2
  go_ret
  refine ⟨ret_int ?_, rfl⟩
  rw [← HR.out, ← ho]
  rfl

theorem left16 (x : Nat) (h : x < 4294967296) (w : World) :
    Calls Tryd.prog 125 #[.int .i64 x, .int .u64 16] w fun e w' => e = .returned (.int .i64 (rotl x 16 : Nat)) ∧ w = w' := by
  have ho : bits .or .i64 ((x : Int) * 65536) ((x : Int) / 65536) = ((x * 65536 ||| x / 65536 : Nat) : Int) := by
    have := i64_or_nat (x * 65536) (x / 65536) (by omega) (by omega)
    rw [Int.natCast_mul, Int.natCast_ediv] at this
    exact this
  have hb : x * 65536 ||| x / 65536 < 9223372036854775808 := Nat.or_lt_two_pow (n := 63) (by omega) (by omega)
  have HR := hide (rotl_whole x 16 h)
  go_enter Tryd.func125, Tryd.ntmps125
  go_wp2_with (go_at_call 122; refine (l3Word_any (x * 65536 ||| x / 65536) hb _).mono ?_; rintro e w' ⟨rfl, rfl⟩)
  go_ret
  exact ⟨ret_int (congrArg _ HR.out), rfl⟩

theorem rot12 (x : Nat) (h : x < 4294967296) (w : World) :
    Calls Tryd.prog 124 #[.int .u32 x, .int .i64 12] w fun e w' => e = .returned (.int .u32 (rotl x 12 : Nat)) ∧ w = w' := by
  have ha : bits .and .u64 12 31 = 12 := by decide
  have ho := u32_or_nat (x * 4096 % 4294967296) (x / 1048576) (by omega) (by omega)
  rw [Int.natCast_emod, Int.natCast_mul, Int.natCast_ediv] at ho
  have HR := hide (show ((x * 4096 % 4294967296 ||| x / 1048576 : Nat) : Int) = (rotl x 12 : Nat) from rfl)
  go_enter Tryd.func124, Tryd.ntmps124
  go_wp2
  go_ret
  refine ⟨ret_int ?_, rfl⟩
  rw [← HR.out, ← ho]
  rfl

theorem left12 (x : Nat) (h : x < 4294967296) (w : World) :
    Calls Tryd.prog 125 #[.int .i64 x, .int .u64 12] w fun e w' => e = .returned (.int .i64 (rotl x 12 : Nat)) ∧ w = w' := by
  have ho : bits .or .i64 ((x : Int) * 4096) ((x : Int) / 1048576) = ((x * 4096 ||| x / 1048576 : Nat) : Int) := by
    have := i64_or_nat (x * 4096) (x / 1048576) (by omega) (by omega)
    rw [Int.natCast_mul, Int.natCast_ediv] at this
    exact this
  have hb : x * 4096 ||| x / 1048576 < 9223372036854775808 := Nat.or_lt_two_pow (n := 63) (by omega) (by omega)
  have HR := hide (rotl_whole x 12 h)
  go_enter Tryd.func125, Tryd.ntmps125
  go_wp2_with (go_at_call 122; refine (l3Word_any (x * 4096 ||| x / 1048576) hb _).mono ?_; rintro e w' ⟨rfl, rfl⟩)
  go_ret
  exact ⟨ret_int (congrArg _ HR.out), rfl⟩

theorem rot8 (x : Nat) (h : x < 4294967296) (w : World) :
    Calls Tryd.prog 124 #[.int .u32 x, .int .i64 8] w fun e w' => e = .returned (.int .u32 (rotl x 8 : Nat)) ∧ w = w' := by
  have ha : bits .and .u64 8 31 = 8 := by decide
  have ho := u32_or_nat (x * 256 % 4294967296) (x / 16777216) (by omega) (by omega)
  rw [Int.natCast_emod, Int.natCast_mul, Int.natCast_ediv] at ho
  have HR := hide (show ((x * 256 % 4294967296 ||| x / 16777216 : Nat) : Int) = (rotl x 8 : Nat) from rfl)
  go_enter Tryd.func124, Tryd.ntmps124
  go_wp2
  go_ret
  refine ⟨ret_int ?_, rfl⟩
  rw [← HR.out, ← ho]
  rfl

theorem left8 (x : Nat) (h : x < 4294967296) (w : World) :
    Calls Tryd.prog 125 #[.int .i64 x, .int .u64 8] w fun e w' => e = .returned (.int .i64 (rotl x 8 : Nat)) ∧ w = w' := by
  have ho : bits .or .i64 ((x : Int) * 256) ((x : Int) / 16777216) = ((x * 256 ||| x / 16777216 : Nat) : Int) := by
    have := i64_or_nat (x * 256) (x / 16777216) (by omega) (by omega)
    rw [Int.natCast_mul, Int.natCast_ediv] at this
    exact this
  have hb : x * 256 ||| x / 16777216 < 9223372036854775808 := Nat.or_lt_two_pow (n := 63) (by omega) (by omega)
  have HR := hide (rotl_whole x 8 h)
  go_enter Tryd.func125, Tryd.ntmps125
  go_wp2_with (go_at_call 122; refine (l3Word_any (x * 256 ||| x / 16777216) hb _).mono ?_; rintro e w' ⟨rfl, rfl⟩)
  go_ret
  exact ⟨ret_int (congrArg _ HR.out), rfl⟩

theorem rot7 (x : Nat) (h : x < 4294967296) (w : World) :
    Calls Tryd.prog 124 #[.int .u32 x, .int .i64 7] w fun e w' => e = .returned (.int .u32 (rotl x 7 : Nat)) ∧ w = w' := by
  have ha : bits .and .u64 7 31 = 7 := by decide
  have ho := u32_or_nat (x * 128 % 4294967296) (x / 33554432) (by omega) (by omega)
  rw [Int.natCast_emod, Int.natCast_mul, Int.natCast_ediv] at ho
  have HR := hide (show ((x * 128 % 4294967296 ||| x / 33554432 : Nat) : Int) = (rotl x 7 : Nat) from rfl)
  go_enter Tryd.func124, Tryd.ntmps124
  go_wp2
  go_ret
  refine ⟨ret_int ?_, rfl⟩
  rw [← HR.out, ← ho]
  rfl

theorem left7 (x : Nat) (h : x < 4294967296) (w : World) :
    Calls Tryd.prog 125 #[.int .i64 x, .int .u64 7] w fun e w' => e = .returned (.int .i64 (rotl x 7 : Nat)) ∧ w = w' := by
  have ho : bits .or .i64 ((x : Int) * 128) ((x : Int) / 33554432) = ((x * 128 ||| x / 33554432 : Nat) : Int) := by
    have := i64_or_nat (x * 128) (x / 33554432) (by omega) (by omega)
    rw [Int.natCast_mul, Int.natCast_ediv] at this
    exact this
  have hb : x * 128 ||| x / 33554432 < 9223372036854775808 := Nat.or_lt_two_pow (n := 63) (by omega) (by omega)
  have HR := hide (rotl_whole x 7 h)
  go_enter Tryd.func125, Tryd.ntmps125
  go_wp2_with (go_at_call 122; refine (l3Word_any (x * 128 ||| x / 33554432) hb _).mono ?_; rintro e w' ⟨rfl, rfl⟩)
  go_ret
  exact ⟨ret_int (congrArg _ HR.out), rfl⟩
end Go.Proofs.YtakjjfbocokpaaaDoor
