/-
  Texts of this proof, put together: MathS, MathZ, ChaW, CrcS.
-/
import Derived.Test.YtakjjfbocokpaaaDoorPackAB
import Derived.Test.YtakjjfbocokpaaaDoorPackAC
import Derived.Test.YtakjjfbocokpaaaDoorRows
import Derived.WalkKit
import Derived.ProofKit
import Derived.OpenShut
import Derived.ShutString
import Derived.WalkSpells

/-
  Plain mathematics for chapter 3: the stream. Nothing here speaks of a program.
-/
namespace Go.Proofs.YtakjjfbocokpaaaDoor
open Go.RowKit

/-- byte j of the stream over the text t -/
def strB (k : List UInt8) (c : Int) (n t : List UInt8) (j : Nat) : UInt8 := t.getD j 0 ^^^ (chaB k (c.toNat + j / 64) n).getD (j % 64) 0
def strL (k : List UInt8) (c : Int) (n t : List UInt8) : List UInt8 := (List.range t.length).map fun j => strB k c n t j
theorem length_strL (k : List UInt8) (c : Int) (n t : List UInt8) : (strL k c n t).length = t.length := by simp [strL]
theorem strL_at (k : List UInt8) (c : Int) (n t : List UInt8) (j : Nat) (h : j < (strL k c n t).length) : (strL k c n t)[j] = strB k c n t j := by simp [strL]
def StrOk (k : List UInt8) (c : Int) (n t : List UInt8) : Prop := BlockOk k c n ∧ BlockOk k (c + ((t.length - 1) / 64 : Nat)) n
instance (k : List UInt8) (c : Int) (n t : List UInt8) : Decidable (StrOk k c n t) := by unfold StrOk; infer_instance
def streamV (k : List UInt8) (c : Int) (n t : List UInt8) : List UInt8 := if StrOk k c n t then strL k c n t else []
theorem strOk_of {k : List UInt8} {c : Int} {n t : List UInt8} (i : Nat) (h : ∀ i', i' < i → BlockOk k (c + (i' : Nat)) n) (hi : 0 < i) (hl : t.length ≤ 64 * i) : StrOk k c n t := by
  have h0 := h 0 hi
  rw [show c + ((0 : Nat) : Int) = c by omega] at h0
  exact ⟨h0, h _ (by omega)⟩
theorem strOk_blocks {k : List UInt8} {c : Int} {n t : List UInt8} (h : StrOk k c n t) (i : Nat) (hi : i = 0 ∨ 64 * i < t.length) : BlockOk k (c + (i : Nat)) n := by
  obtain ⟨⟨h1, h2, h3, h4⟩, ⟨_, _, h5, h6⟩⟩ := h
  refine ⟨h1, h2, by omega, ?_⟩
  have : i ≤ (t.length - 1) / 64 := by omega
  omega
theorem u8_xor_byte (a b : UInt8) : bits .xor .u8 (a.toNat : Int) (b.toNat : Int) = ((a ^^^ b).toNat : Int) := by
  rw [u8_xor_nat _ _ a.toNat_lt b.toNat_lt, UInt8.toNat_xor]
end Go.Proofs.YtakjjfbocokpaaaDoor

/-
  Plain mathematics for chapter 3: a stream applied twice, and a stream from its second block on.
-/
namespace Go.Proofs.YtakjjfbocokpaaaDoor
open Go.RowKit

theorem strOk_len {k : List UInt8} {c : Int} {n t t' : List UInt8} (h : StrOk k c n t) (e : t'.length = t.length) : StrOk k c n t' := by
  unfold StrOk at *; rw [e]; exact h
theorem streamV_ok {k : List UInt8} {c : Int} {n t : List UInt8} (h : StrOk k c n t) : streamV k c n t = strL k c n t := by rw [streamV, if_pos h]
theorem streamV_no {k : List UInt8} {c : Int} {n t : List UInt8} (h : ¬ StrOk k c n t) : streamV k c n t = [] := by rw [streamV, if_neg h]
theorem xor_back (a b : UInt8) : a ^^^ b ^^^ b = a := by rw [UInt8.xor_assoc, UInt8.xor_self, UInt8.xor_zero]
theorem strL_twice (k : List UInt8) (c : Int) (n t : List UInt8) : strL k c n (strL k c n t) = t := by
  refine List.ext_getElem (by rw [length_strL, length_strL]) fun j h1 h2 => ?_
  rw [strL_at, strB]
  have e : (strL k c n t).getD j 0 = strB k c n t j := by
    have h3 : j < (strL k c n t).length := by rw [length_strL]; exact h2
    simp only [List.getD, List.getElem?_eq_getElem h3, Option.getD_some, strL_at]
  rw [e, strB, xor_back]
  simp [List.getD, h2]
theorem streamV_twice {k : List UInt8} {c : Int} {n t : List UInt8} (h : StrOk k c n t) : streamV k c n (strL k c n t) = t := by
  rw [streamV_ok (strOk_len h (length_strL k c n t)), strL_twice]
theorem strOk_shift {k : List UInt8} {c : Int} {n t : List UInt8} (h : StrOk k c n t) (hl : 64 < t.length) : StrOk k (c + 1) n (t.drop 64) := by
  obtain ⟨⟨h1, h2, h3, h4⟩, ⟨_, _, h5, h6⟩⟩ := h
  rw [StrOk, List.length_drop]
  have e : ((t.length - 1) / 64 : Nat) = (t.length - 64 - 1) / 64 + 1 := by omega
  exact ⟨⟨h1, h2, by omega, by omega⟩, ⟨h1, h2, by omega, by omega⟩⟩
theorem strL_shift {k : List UInt8} {c : Int} {n t : List UInt8} (h : StrOk k c n t) (hl : 64 < t.length) : streamV k (c + 1) n (t.drop 64) = (strL k c n t).drop 64 := by
  rw [streamV_ok (strOk_shift h hl)]
  have hc := h.1.2.2.1
  refine List.ext_getElem (by rw [length_strL, List.length_drop, List.length_drop, length_strL]) fun j h1 h2 => ?_
  rw [strL_at, List.getElem_drop, strL_at, strB, strB]
  have e1 : (t.drop 64).getD j 0 = t.getD (64 + j) 0 := by simp [List.getD, List.getElem?_drop]
  have e2 : (c + 1).toNat + j / 64 = c.toNat + (64 + j) / 64 := by omega
  have e3 : j % 64 = (64 + j) % 64 := by omega
  rw [e1, e2, e3]
end Go.Proofs.YtakjjfbocokpaaaDoor

/-
  Contracts of math/bits.RotateLeft32, spec.l3Word and spec.l3Left.
-/
namespace Go.Proofs.YtakjjfbocokpaaaDoor
open Go.ChangeShapes Go.WideShapes Go.ChangeAt Go.RowKit

theorem i64_and_nat (a b : Nat) (ha : a < 9223372036854775808) (hb : b < 9223372036854775808) : bits .and .i64 (a : Int) (b : Int) = ((a &&& b : Nat) : Int) := by
  have hx : a &&& b ≤ a := Nat.and_le_left
  show IntKind.i64.wrap ((BitVec.ofInt 64 (a : Int) &&& BitVec.ofInt 64 (b : Int)).toNat : Int) = _
  rw [BitVec.toNat_and, ofInt_u64 a (by omega), ofInt_u64 b (by omega), IntKind.wrap_i64]
  omega
theorem mask32 (x : Nat) (h : x < 9223372036854775808) : bits .and .i64 (x : Int) 4294967295 = ((x % 4294967296 : Nat) : Int) := by
  have := i64_and_nat x 4294967295 h (by omega)
  rw [show x &&& 4294967295 = x % 4294967296 from Nat.and_two_pow_sub_one_eq_mod x 32] at this
  exact this
theorem mask8 (x : Nat) (h : x < 9223372036854775808) : bits .and .i64 (x : Int) 255 = ((x % 256 : Nat) : Int) := by
  have := i64_and_nat x 255 h (by omega)
  rw [nat_mask8] at this
  exact this

theorem l3Word_any (x : Nat) (h : x < 9223372036854775808) (w : World) :
    Calls Tryd.prog 122 #[.int .i64 x] w fun e w' => e = .returned (.int .i64 (x % 4294967296 : Nat)) ∧ w = w' := by
  have hm := mask32 x h
  go_enter Tryd.func122, Tryd.ntmps122
  go_wp2
  go_ret
  exact ⟨rfl, rfl⟩
theorem rotl_whole (x n : Nat) (h : x < 4294967296) : (x * 2 ^ n ||| x / 2 ^ (32 - n)) % 4294967296 = rotl x n := by
  rw [show (4294967296 : Nat) = 2 ^ 32 from rfl, Nat.or_mod_two_pow, Nat.mod_eq_of_lt (a := x / _) (Nat.lt_of_le_of_lt (Nat.div_le_self _ _) h)]; rfl

theorem rot16 (x : Nat) (h : x < 4294967296) (w : World) :
    Calls Tryd.prog 124 #[.int .u32 x, .int .i64 16] w fun e w' => e = .returned (.int .u32 (rotl x 16 : Nat)) ∧ w = w' := by
  have ha : bits .and .u64 16 31 = 16 := by decide
  have ho := u32_or_nat (x * 65536 % 4294967296) (x / 65536) (by omega) (by omega)
  rw [Int.natCast_emod, Int.natCast_mul, Int.natCast_ediv] at ho
  have HR := hide (show ((x * 65536 % 4294967296 ||| x / 65536 : Nat) : Int) = (rotl x 16 : Nat) from rfl)
  go_enter Tryd.func124, Tryd.ntmps124
  go_wp2
  go_ret
  refine ⟨ret_int ?_, rfl⟩
  rw [← HR.out, ← ho]
  rfl

theorem left16 (x : Nat) (h : x < 4294967296) (w : World) :
    Calls Tryd.prog 125 #[.int .i64 x, .int .u64 16] w fun e w' => e = .returned (.int .i64 (rotl x 16 : Nat)) ∧ w = w' := by
  have ho : bits .or .i64 ((x : Int) * 65536) ((x : Int) / 65536) = ((x * 65536 ||| x / 65536 : Nat) : Int) := by
    have := i64_or_nat (x * 65536) (x / 65536) (by omega) (by omega)
    rw [Int.natCast_mul, Int.natCast_ediv] at this
    exact this
  have hb : x * 65536 ||| x / 65536 < 9223372036854775808 := Nat.or_lt_two_pow (n := 63) (by omega) (by omega)
  have HR := hide (rotl_whole x 16 h)
  go_enter Tryd.func125, Tryd.ntmps125
  go_wp2_with (go_at_call 122; refine (l3Word_any (x * 65536 ||| x / 65536) hb _).mono ?_; rintro e w' ⟨rfl, rfl⟩)
  go_ret
  exact ⟨ret_int (congrArg _ HR.out), rfl⟩

theorem rot12 (x : Nat) (h : x < 4294967296) (w : World) :
    Calls Tryd.prog 124 #[.int .u32 x, .int .i64 12] w fun e w' => e = .returned (.int .u32 (rotl x 12 : Nat)) ∧ w = w' := by
  have ha : bits .and .u64 12 31 = 12 := by decide
  have ho := u32_or_nat (x * 4096 % 4294967296) (x / 1048576) (by omega) (by omega)
  rw [Int.natCast_emod, Int.natCast_mul, Int.natCast_ediv] at ho
  have HR := hide (show ((x * 4096 % 4294967296 ||| x / 1048576 : Nat) : Int) = (rotl x 12 : Nat) from rfl)
  go_enter Tryd.func124, Tryd.ntmps124
  go_wp2
  go_ret
  refine ⟨ret_int ?_, rfl⟩
  rw [← HR.out, ← ho]
  rfl

theorem left12 (x : Nat) (h : x < 4294967296) (w : World) :
    Calls Tryd.prog 125 #[.int .i64 x, .int .u64 12] w fun e w' => e = .returned (.int .i64 (rotl x 12 : Nat)) ∧ w = w' := by
  have ho : bits .or .i64 ((x : Int) * 4096) ((x : Int) / 1048576) = ((x * 4096 ||| x / 1048576 : Nat) : Int) := by
    have := i64_or_nat (x * 4096) (x / 1048576) (by omega) (by omega)
    rw [Int.natCast_mul, Int.natCast_ediv] at this
    exact this
  have hb : x * 4096 ||| x / 1048576 < 9223372036854775808 := Nat.or_lt_two_pow (n := 63) (by omega) (by omega)
  have HR := hide (rotl_whole x 12 h)
  go_enter Tryd.func125, Tryd.ntmps125
  go_wp2_with (go_at_call 122; refine (l3Word_any (x * 4096 ||| x / 1048576) hb _).mono ?_; rintro e w' ⟨rfl, rfl⟩)
  go_ret
  exact ⟨ret_int (congrArg _ HR.out), rfl⟩

theorem rot8 (x : Nat) (h : x < 4294967296) (w : World) :
    Calls Tryd.prog 124 #[.int .u32 x, .int .i64 8] w fun e w' => e = .returned (.int .u32 (rotl x 8 : Nat)) ∧ w = w' := by
  have ha : bits .and .u64 8 31 = 8 := by decide
  have ho := u32_or_nat (x * 256 % 4294967296) (x / 16777216) (by omega) (by omega)
  rw [Int.natCast_emod, Int.natCast_mul, Int.natCast_ediv] at ho
  have HR := hide (show ((x * 256 % 4294967296 ||| x / 16777216 : Nat) : Int) = (rotl x 8 : Nat) from rfl)
  go_enter Tryd.func124, Tryd.ntmps124
  go_wp2
  go_ret
  refine ⟨ret_int ?_, rfl⟩
  rw [← HR.out, ← ho]
  rfl

theorem left8 (x : Nat) (h : x < 4294967296) (w : World) :
    Calls Tryd.prog 125 #[.int .i64 x, .int .u64 8] w fun e w' => e = .returned (.int .i64 (rotl x 8 : Nat)) ∧ w = w' := by
  have ho : bits .or .i64 ((x : Int) * 256) ((x : Int) / 16777216) = ((x * 256 ||| x / 16777216 : Nat) : Int) := by
    have := i64_or_nat (x * 256) (x / 16777216) (by omega) (by omega)
    rw [Int.natCast_mul, Int.natCast_ediv] at this
    exact this
  have hb : x * 256 ||| x / 16777216 < 9223372036854775808 := Nat.or_lt_two_pow (n := 63) (by omega) (by omega)
  have HR := hide (rotl_whole x 8 h)
  go_enter Tryd.func125, Tryd.ntmps125
  go_wp2_with (go_at_call 122; refine (l3Word_any (x * 256 ||| x / 16777216) hb _).mono ?_; rintro e w' ⟨rfl, rfl⟩)
  go_ret
  exact ⟨ret_int (congrArg _ HR.out), rfl⟩

theorem rot7 (x : Nat) (h : x < 4294967296) (w : World) :
    Calls Tryd.prog 124 #[.int .u32 x, .int .i64 7] w fun e w' => e = .returned (.int .u32 (rotl x 7 : Nat)) ∧ w = w' := by
  have ha : bits .and .u64 7 31 = 7 := by decide
  have ho := u32_or_nat (x * 128 % 4294967296) (x / 33554432) (by omega) (by omega)
  rw [Int.natCast_emod, Int.natCast_mul, Int.natCast_ediv] at ho
  have HR := hide (show ((x * 128 % 4294967296 ||| x / 33554432 : Nat) : Int) = (rotl x 7 : Nat) from rfl)
  go_enter Tryd.func124, Tryd.ntmps124
  go_wp2
  go_ret
  refine ⟨ret_int ?_, rfl⟩
  rw [← HR.out, ← ho]
  rfl

theorem left7 (x : Nat) (h : x < 4294967296) (w : World) :
    Calls Tryd.prog 125 #[.int .i64 x, .int .u64 7] w fun e w' => e = .returned (.int .i64 (rotl x 7 : Nat)) ∧ w = w' := by
  have ho : bits .or .i64 ((x : Int) * 128) ((x : Int) / 33554432) = ((x * 128 ||| x / 33554432 : Nat) : Int) := by
    have := i64_or_nat (x * 128) (x / 33554432) (by omega) (by omega)
    rw [Int.natCast_mul, Int.natCast_ediv] at this
    exact this
  have hb : x * 128 ||| x / 33554432 < 9223372036854775808 := Nat.or_lt_two_pow (n := 63) (by omega) (by omega)
  have HR := hide (rotl_whole x 7 h)
  go_enter Tryd.func125, Tryd.ntmps125
  go_wp2_with (go_at_call 122; refine (l3Word_any (x * 128 ||| x / 33554432) hb _).mono ?_; rintro e w' ⟨rfl, rfl⟩)
  go_ret
  exact ⟨ret_int (congrArg _ HR.out), rfl⟩
end Go.Proofs.YtakjjfbocokpaaaDoor

/-
  Contract of spec.Crc.
-/
namespace Go.Proofs.YtakjjfbocokpaaaDoor
open Go.ChangeShapes Go.WideShapes Go.ChangeAt Go.RowKit

theorem crcBits_zero (c : Nat) : crcBits c 0 = c := rfl
theorem crcBit_odd (c k : Nat) (h : crcBits c k % 2 = 1) : ((crcBits c k / 2 ^^^ 2197175160 : Nat) : Int) = crcBits c (k + 1) := by
  show _ = ((crcBit (crcBits c k) : Nat) : Int); unfold crcBit; rw [if_pos h]
theorem crcBit_even (c k : Nat) (h : ¬ crcBits c k % 2 = 1) : ((crcBits c k / 2 : Nat) : Int) = crcBits c (k + 1) := by
  show _ = ((crcBit (crcBits c k) : Nat) : Int); unfold crcBit; rw [if_neg h]
theorem sCrc_any (s : ByteArray) (w : World) (hm : s.size ≤ maxLen) :
    Calls Tryd.prog 81 #[.string s] w fun e w' => e = .returned (.int .i64 (4294967295 - (crcRun 4294967295 (bl s) : Int))) ∧ w = w' := by
  unfold maxLen at hm
  go_enter Tryd.func81, Tryd.ntmps81
  go_wp2
  go_loop [3, 4, 5] (fun c i _ => ∃ j : Nat, j ≤ s.size ∧ i = .int .i64 j ∧ c = .int .i64 (crcRun 4294967295 ((bl s).take j) : Nat)) (fun _ i _ => s.size - (intOf i).toNat)
  case atStart => exact ⟨0, Nat.zero_le _, rfl, rfl⟩
  case round =>
    obtain ⟨j, hj, rfl, rfl⟩ := hrel
    have hlt32 := crcRun_lt ((bl s).take j) 4294967295 (by omega)
    by_cases hlt : j < s.size
    · have hc : s[j].toNat < 256 := s[j].toNat_lt
      have HT := hide (bl_take s j hlt)
      have HR := hide (crcRun_snoc 4294967295 ((bl s).take j) s[j])
      generalize hcr : crcRun 4294967295 ((bl s).take j) = c at *
      have HX := hide (i64_xor_nat c s[j].toNat (by omega) (by omega))
      have hx := xor_lt32 c s[j].toNat hlt32 (by omega)
      have HC := hide hcr
      clear hcr
      go_wp2
      go_loop [3, 5] (fun c' k => ∃ m : Nat, m ≤ 8 ∧ k = .int .i64 m ∧ c' = .int .i64 (crcBits (c ^^^ s[j].toNat) m : Nat)) (fun _ k => 8 - (intOf k).toNat)
      case atStart => exact ⟨0, Nat.zero_le _, rfl, by rw [HX.out]; rfl⟩
      case round =>
        obtain ⟨m, hm8, rfl, rfl⟩ := hrel
        have hb := crcBits_lt (c ^^^ s[j].toNat) hx m
        by_cases hlt8 : m < 8
        · by_cases hodd : crcBits (c ^^^ s[j].toNat) m % 2 = 1
          · have HO := hide (crcBit_odd (c ^^^ s[j].toNat) m hodd)
            have HB := hide (i64_xor_nat (crcBits (c ^^^ s[j].toNat) m / 2) 2197175160 (by omega) (by omega))
            go_wp2
            go_round
            case rel => exact ⟨m + 1, by omega, by go_num, (by rw [← HO.out, ← HB.out]; rfl)⟩
            case measure => simp [intOf]; omega
          · have HE := hide (crcBit_even (c ^^^ s[j].toNat) m hodd)
            go_wp2
            go_round
            case rel => exact ⟨m + 1, by omega, by go_num, (by rw [← HE.out]; rfl)⟩
            case measure => simp [intOf]; omega
        · have hm8' : m = 8 := by omega
          subst hm8'
          go_wp2
          go_round
          case rel => exact ⟨j + 1, by omega, by go_num, (by rw [HT.out, HR.out]; rfl)⟩
          case measure => simp [intOf]; omega
    · have hjk : j = s.size := by omega
      subst hjk
      go_wp2
      go_ret
      exact ⟨ret_int ((by rw [List.take_of_length_le (by rw [bl_len]; omega)])), rfl⟩
end Go.Proofs.YtakjjfbocokpaaaDoor
