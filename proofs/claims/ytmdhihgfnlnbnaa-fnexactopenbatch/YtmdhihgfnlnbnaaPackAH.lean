/-
  Texts of this proof, put together: ChaW, ReadVarI.
-/
import Derived.Test.YtmdhihgfnlnbnaaRows
import Derived.Test.YtmdhihgfnlnbnaaPackAG
import Derived.WalkKit
import Derived.ProofKit
import Derived.OpenShut
import Derived.ShutString
import Derived.WalkSpells
import Derived.Test.YtmdhihgfnlnbnaaPackAC
import Derived.Test.YtmdhihgfnlnbnaaPackAA

/-
  Contracts of math/bits.RotateLeft32, spec.l3Word and spec.l3Left.
-/
namespace Go.Proofs.Ytmdhihgfnlnbnaa
open Go.ChangeShapes Go.WideShapes Go.ChangeAt Go.RowKit

theorem i64_and_nat (a b : Nat) (ha : a < 9223372036854775808) (hb : b < 9223372036854775808) : bits .and .i64 (a : Int) (b : Int) = ((a &&& b : Nat) : Int) := by
  have hx : a &&& b ≤ a := Nat.and_le_left
  show IntKind.i64.wrap ((BitVec.ofInt 64 (a : Int) &&& BitVec.ofInt 64 (b : Int)).toNat : Int) = _
  rw [BitVec.toNat_and, ofInt_u64 a (by omega), ofInt_u64 b (by omega), IntKind.wrap_i64]
  omega
theorem mask32 (x : Nat) (h : x < 9223372036854775808) : bits .and .i64 (x : Int) 4294967295 = ((x % 4294967296 : Nat) : Int) := by
  have := i64_and_nat x 4294967295 h (by omega)
  rw [show x &&& 4294967295 = x % 4294967296 from Nat.and_two_pow_sub_one_eq_mod x 32] at this
  exact this
theorem mask8 (x : Nat) (h : x < 9223372036854775808) : bits .and .i64 (x : Int) 255 = ((x % 256 : Nat) : Int) := by
  have := i64_and_nat x 255 h (by omega)
  rw [nat_mask8] at this
  exact this

theorem l3Word_any (x : Nat) (h : x < 9223372036854775808) (w : World) :
    Calls Try.prog 106 #[.int .i64 x] w fun e w' => e = .returned (.int .i64 (x % 4294967296 : Nat)) ∧ w = w' := by
  have hm := mask32 x h
  go_enter Try.func106, Try.ntmps106
  go_wp2
  go_ret
  exact ⟨rfl, rfl⟩
theorem rotl_whole (x n : Nat) (h : x < 4294967296) : (x * 2 ^ n ||| x / 2 ^ (32 - n)) % 4294967296 = rotl x n := by
  rw [show (4294967296 : Nat) = 2 ^ 32 from rfl, Nat.or_mod_two_pow, Nat.mod_eq_of_lt (a := x / _) (Nat.lt_of_le_of_lt (Nat.div_le_self _ _) h)]; rfl

theorem rot16 (x : Nat) (h : x < 4294967296) (w : World) :
    Calls Try.prog 111 #[.int .u32 x, .int .i64 16] w fun e w' => e = .returned (.int .u32 (rotl x 16 : Nat)) ∧ w = w' := by
  have ha : bits .and .u64 16 31 = 16 := by decide
  have ho := u32_or_nat (x * 65536 % 4294967296) (x / 65536) (by omega) (by omega)
  rw [Int.natCast_emod, Int.natCast_mul, Int.natCast_ediv] at ho
  have HR := hide (show ((x * 65536 % 4294967296 ||| x / 65536 : Nat) : Int) = (rotl x 16 : Nat) from rfl)
  go_enter Try.func111, Try.ntmps111
  go_wp2
  go_ret
  refine ⟨ret_int ?_, rfl⟩
  rw [← HR.out, ← ho]
  rfl

theorem left16 (x : Nat) (h : x < 4294967296) (w : World) :
    Calls Try.prog 110 #[.int .i64 x, .int .u64 16] w fun e w' => e = .returned (.int .i64 (rotl x 16 : Nat)) ∧ w = w' := by
  have ho : bits .or .i64 ((x : Int) * 65536) ((x : Int) / 65536) = ((x * 65536 ||| x / 65536 : Nat) : Int) := by
    have := i64_or_nat (x * 65536) (x / 65536) (by omega) (by omega)
    rw [Int.natCast_mul, Int.natCast_ediv] at this
    exact this
  have hb : x * 65536 ||| x / 65536 < 9223372036854775808 := Nat.or_lt_two_pow (n := 63) (by omega) (by omega)
  have HR := hide (rotl_whole x 16 h)
  go_enter Try.func110, Try.ntmps110
  go_wp2_with (go_at_call 106; refine (l3Word_any (x * 65536 ||| x / 65536) hb _).mono ?_; rintro e w' ⟨rfl, rfl⟩)
  go_ret
  exact ⟨ret_int (congrArg _ HR.out), rfl⟩

theorem rot12 (x : Nat) (h : x < 4294967296) (w : World) :
    Calls Try.prog 111 #[.int .u32 x, .int .i64 12] w fun e w' => e = .returned (.int .u32 (rotl x 12 : Nat)) ∧ w = w' := by
  have ha : bits .and .u64 12 31 = 12 := by decide
  have ho := u32_or_nat (x * 4096 % 4294967296) (x / 1048576) (by omega) (by omega)
  rw [Int.natCast_emod, Int.natCast_mul, Int.natCast_ediv] at ho
  have HR := hide (show ((x * 4096 % 4294967296 ||| x / 1048576 : Nat) : Int) = (rotl x 12 : Nat) from rfl)
  go_enter Try.func111, Try.ntmps111
  go_wp2
  go_ret
  refine ⟨ret_int ?_, rfl⟩
  rw [← HR.out, ← ho]
  rfl

theorem left12 (x : Nat) (h : x < 4294967296) (w : World) :
    Calls Try.prog 110 #[.int .i64 x, .int .u64 12] w fun e w' => e = .returned (.int .i64 (rotl x 12 : Nat)) ∧ w = w' := by
  have ho : bits .or .i64 ((x : Int) * 4096) ((x : Int) / 1048576) = ((x * 4096 ||| x / 1048576 : Nat) : Int) := by
    have := i64_or_nat (x * 4096) (x / 1048576) (by omega) (by omega)
    rw [Int.natCast_mul, Int.natCast_ediv] at this
    exact this
  have hb : x * 4096 ||| x / 1048576 < 9223372036854775808 := Nat.or_lt_two_pow (n := 63) (by omega) (by omega)
  have HR := hide (rotl_whole x 12 h)
  go_enter Try.func110, Try.ntmps110
  go_wp2_with (go_at_call 106; refine (l3Word_any (x * 4096 ||| x / 1048576) hb _).mono ?_; rintro e w' ⟨rfl, rfl⟩)
  go_ret
  exact ⟨ret_int (congrArg _ HR.out), rfl⟩

theorem rot8 (x : Nat) (h : x < 4294967296) (w : World) :
    Calls Try.prog 111 #[.int .u32 x, .int .i64 8] w fun e w' => e = .returned (.int .u32 (rotl x 8 : Nat)) ∧ w = w' := by
  have ha : bits .and .u64 8 31 = 8 := by decide
  have ho := u32_or_nat (x * 256 % 4294967296) (x / 16777216) (by omega) (by omega)
  rw [Int.natCast_emod, Int.natCast_mul, Int.natCast_ediv] at ho
  have HR := hide (show ((x * 256 % 4294967296 ||| x / 16777216 : Nat) : Int) = (rotl x 8 : Nat) from rfl)
  go_enter Try.func111, Try.ntmps111
  go_wp2
  go_ret
  refine ⟨ret_int ?_, rfl⟩
  rw [← HR.out, ← ho]
  rfl

theorem left8 (x : Nat) (h : x < 4294967296) (w : World) :
    Calls Try.prog 110 #[.int .i64 x, .int .u64 8] w fun e w' => e = .returned (.int .i64 (rotl x 8 : Nat)) ∧ w = w' := by
  have ho : bits .or .i64 ((x : Int) * 256) ((x : Int) / 16777216) = ((x * 256 ||| x / 16777216 : Nat) : Int) := by
    have := i64_or_nat (x * 256) (x / 16777216) (by omega) (by omega)
    rw [Int.natCast_mul, Int.natCast_ediv] at this
    exact this
  have hb : x * 256 ||| x / 16777216 < 9223372036854775808 := Nat.or_lt_two_pow (n := 63) (by omega) (by omega)
  have HR := hide (rotl_whole x 8 h)
  go_enter Try.func110, Try.ntmps110
  go_wp2_with (go_at_call 106; refine (l3Word_any (x * 256 ||| x / 16777216) hb _).mono ?_; rintro e w' ⟨rfl, rfl⟩)
  go_ret
  exact ⟨ret_int (congrArg _ HR.out), rfl⟩

theorem rot7 (x : Nat) (h : x < 4294967296) (w : World) :
    Calls Try.prog 111 #[.int .u32 x, .int .i64 7] w fun e w' => e = .returned (.int .u32 (rotl x 7 : Nat)) ∧ w = w' := by
  have ha : bits .and .u64 7 31 = 7 := by decide
  have ho := u32_or_nat (x * 128 % 4294967296) (x / 33554432) (by omega) (by omega)
  rw [Int.natCast_emod, Int.natCast_mul, Int.natCast_ediv] at ho
  have HR := hide (show ((x * 128 % 4294967296 ||| x / 33554432 : Nat) : Int) = (rotl x 7 : Nat) from rfl)
  go_enter Try.func111, Try.ntmps111
  go_wp2
  go_ret
  refine ⟨ret_int ?_, rfl⟩
  rw [← HR.out, ← ho]
  rfl

theorem left7 (x : Nat) (h : x < 4294967296) (w : World) :
    Calls Try.prog 110 #[.int .i64 x, .int .u64 7] w fun e w' => e = .returned (.int .i64 (rotl x 7 : Nat)) ∧ w = w' := by
  have ho : bits .or .i64 ((x : Int) * 128) ((x : Int) / 33554432) = ((x * 128 ||| x / 33554432 : Nat) : Int) := by
    have := i64_or_nat (x * 128) (x / 33554432) (by omega) (by omega)
    rw [Int.natCast_mul, Int.natCast_ediv] at this
    exact this
  have hb : x * 128 ||| x / 33554432 < 9223372036854775808 := Nat.or_lt_two_pow (n := 63) (by omega) (by omega)
  have HR := hide (rotl_whole x 7 h)
  go_enter Try.func110, Try.ntmps110
  go_wp2_with (go_at_call 106; refine (l3Word_any (x * 128 ||| x / 33554432) hb _).mono ?_; rintro e w' ⟨rfl, rfl⟩)
  go_ret
  exact ⟨ret_int (congrArg _ HR.out), rfl⟩
end Go.Proofs.Ytmdhihgfnlnbnaa

/-
  Contract of impl.ReadVar.
-/
namespace Go.Proofs.Ytmdhihgfnlnbnaa
open Go.ChangeShapes Go.WideShapes Go.ChangeAt Go.RowKit

def RvPost (w : World) (s : ByteArray) (e : Ending) (w' : World) : Prop := e = .returned (.tuple #[.int .i64 (readVarL (bl s)).1, .int .i64 (readVarL (bl s)).2]) ∧ Below w.heap.size w w'

theorem rvPost_of {w w' : World} {s : ByteArray} {a b : Nat} {e : Ending} (h : readVarL (bl s) = (a, b)) (he : e = .returned (.tuple #[.int .i64 a, .int .i64 b])) (hb : Below w.heap.size w w') : RvPost w s e w' := by
  unfold RvPost; rw [h]; exact ⟨he, hb⟩

set_option maxRecDepth 20000 in
theorem iReadVar_any (s : ByteArray) (w : World) (hm : s.size ≤ maxLen) :
    Calls Try.prog 79 #[.string s] w (RvPost w s) := by
  unfold maxLen at hm
  go_enter Try.func79, Try.ntmps79
  go_wp2
  all_goals
    go_loop [4, 5, 6, 10] (fun n _ _ i => ∃ j : Nat, j ≤ 7 ∧ j ≤ s.size ∧ i = .int .i64 j ∧ n = .int .i64 (le7 ((bl s).take j) : Nat) ∧ Hid (∀ t (ht : t < (bl s).length), t < j → 128 ≤ (bl s)[t].toNat)) (fun _ _ _ i => 7 - (intOf i).toNat)
    case atStart => exact ⟨0, by omega, by omega, rfl, rfl, fun t _ h => by omega⟩
    case round =>
      obtain ⟨j, hj7, hjs, rfl, rfl, HA⟩ := hrel
      by_cases hlt : j < 7 ∧ j < s.size
      · obtain ⟨hl7, hls⟩ := hlt
        have hc : (s[j]'hls).toNat < 256 := (s[j]'hls).toNat_lt
        have hbl : j < (bl s).length := by rw [bl_len]; exact hls
        have HT := hide (bl_take s j hls)
        have HE := hide (bl_at s j hls hbl)
        have HJ := hide (le7_join ((bl s).take j) j (s[j]'hls) hl7 (by rw [List.length_take]; omega))
        have hmod : ((s[j]'hls).toNat : Int) % 128 < 128 := by omega
        by_cases hs : (s[j]'hls).toNat < 128
        · have hd : decide (((s[j]'hls).toNat : Int) < 128) = true := decide_eq_true (by omega)
          have HV := hide (show ((le7 ((bl s).take (j + 1)) : Nat) : Int) = bits .or .i64 ((le7 ((bl s).take j) : Nat) : Int) (wrap64 (((s[j]'hls).toNat : Int) % 128 * 2 ^ (7 * j))) by rw [HT.out]; exact HJ.out.symm)
          by_cases hz0 : s[j]'hls = 0
          · have HZ := hide hz0
            have he : (((s[j]'hls).toNat : Int) == 0) = true := by simp [hz0]
            clear hz0
            by_cases hp : 0 < j
            · have HR := hide (readVarL_zero hbl hl7 HA.out (by rw [HE.out]; exact HZ.out) hp)
              clear HE hbl
              go_wp2
              go_ret2
              exact rvPost_of HR.out rfl (Below.refl _ _)
            · have HR := hide (readVarL_at hbl hl7 HA.out (by rw [HE.out]; exact hs) (fun h => hp h.2))
              clear HE hbl
              go_wp2
              go_ret2
              exact rvPost_of HR.out (by rw [HV.out]; rfl) (Below.refl _ _)
          · have HR := hide (readVarL_at hbl hl7 HA.out (by rw [HE.out]; exact hs) (by rw [HE.out]; exact fun h => hz0 h.1))
            have hne : ¬ (s[j]'hls).toNat = 0 := fun h => hz0 (UInt8.toNat_inj.1 h)
            have he : (((s[j]'hls).toNat : Int) == 0) = false := by simp only [beq_eq_false_iff_ne]; omega
            clear hz0 hne HE hbl
            go_wp2
            go_ret2
            exact rvPost_of HR.out (by rw [HV.out]; rfl) (Below.refl _ _)
        · have hd : decide (((s[j]'hls).toNat : Int) < 128) = false := decide_eq_false (by omega)
          go_wp2
          go_round
          case rel =>
            refine ⟨j + 1, by omega, by omega, by go_num, by rw [HT.out, ← HJ.out], fun t ht htj => ?_⟩
            by_cases htj' : t < j
            · exact HA.out t ht htj'
            · obtain rfl : t = j := by omega
              rw [HE.out]; omega
          case measure => simp [intOf]; omega
      · have HR := hide (readVarL_none (l := bl s) (fun t ht ht7 => HA.out t ht (by rw [bl_len] at ht; omega)))
        go_wp2
        go_ret2
        exact rvPost_of HR.out rfl (Below.refl _ _)
end Go.Proofs.Ytmdhihgfnlnbnaa
