/-
  The CRC tells any one byte that is changed (plain mathematics for chapter 13).
-/
import Derived.Test.YtakjjfbocokpaaaDoorMathC
namespace Go.Proofs.YtakjjfbocokpaaaDoor
open Go.RowKit

theorem xor_cancel {a b p : Nat} (h : a ^^^ p = b ^^^ p) : a = b := by
  have h2 := congrArg (· ^^^ p) h
  simpa [Nat.xor_assoc, Nat.xor_self] using h2
theorem crcBit_inj {a b : Nat} (ha : a < 4294967296) (hb : b < 4294967296) (h : crcBit a = crcBit b) : a = b := by
  have key : ∀ x y : Nat, x < 2147483648 → y < 2147483648 → x ^^^ 2197175160 ≠ y := by
    intro x y hx hy e
    have h1 : x ^^^ y = 2197175160 := by rw [← e, ← Nat.xor_assoc, Nat.xor_self, Nat.zero_xor]
    have h2 : x ^^^ y < 2147483648 := Nat.xor_lt_two_pow (n := 31) hx hy
    omega
  unfold crcBit at h
  by_cases h1 : a % 2 = 1
  · by_cases h2 : b % 2 = 1
    · rw [if_pos h1, if_pos h2] at h
      have := xor_cancel h
      omega
    · rw [if_pos h1, if_neg h2] at h
      exact absurd h (key _ _ (by omega) (by omega))
  · by_cases h2 : b % 2 = 1
    · rw [if_neg h1, if_pos h2] at h
      exact absurd h.symm (key _ _ (by omega) (by omega))
    · rw [if_neg h1, if_neg h2] at h
      omega
theorem crcBits_inj {a b : Nat} (ha : a < 4294967296) (hb : b < 4294967296) : ∀ k, crcBits a k = crcBits b k → a = b
  | 0, h => h
  | k + 1, h => crcBits_inj ha hb k (crcBit_inj (crcBits_lt a ha k) (crcBits_lt b hb k) h)
theorem crcByte_inj {c c' b : Nat} (hc : c < 4294967296) (hc' : c' < 4294967296) (hb : b < 256) (h : crcByte c b = crcByte c' b) : c = c' :=
  xor_cancel (crcBits_inj (xor_lt32 _ _ hc (by omega)) (xor_lt32 _ _ hc' (by omega)) 8 h)
theorem crcByte_tells {c b b' : Nat} (hc : c < 4294967296) (hb : b < 256) (hb' : b' < 256) (h : crcByte c b = crcByte c b') : b = b' := by
  have := crcBits_inj (xor_lt32 _ _ hc (by omega)) (xor_lt32 _ _ hc (by omega)) 8 h
  rw [Nat.xor_comm c, Nat.xor_comm c] at this
  exact xor_cancel this
theorem crcRun_inj : ∀ (l : List UInt8) {c c' : Nat}, c < 4294967296 → c' < 4294967296 → crcRun c l = crcRun c' l → c = c'
  | [], _, _, _, _, h => h
  | x :: l, c, c', hc, hc', h => crcByte_inj hc hc' x.toNat_lt (crcRun_inj l (crcByte_lt c _ hc x.toNat_lt) (crcByte_lt c' _ hc' x.toNat_lt) h)
/-- two strings that differ in one byte have two sums -/
theorem crcRun_bent {c : Nat} (hc : c < 4294967296) (x y : List UInt8) (a b : UInt8) (h : crcRun c (x ++ a :: y) = crcRun c (x ++ b :: y)) : a = b := by
  rw [crcRun_append, crcRun_append] at h
  have hx := crcRun_lt x c hc
  have h1 := crcRun_inj y (crcByte_lt _ _ hx a.toNat_lt) (crcByte_lt _ _ hx b.toNat_lt) h
  exact UInt8.toNat_inj.1 (crcByte_tells hx a.toNat_lt b.toNat_lt h1)
end Go.Proofs.YtakjjfbocokpaaaDoor
