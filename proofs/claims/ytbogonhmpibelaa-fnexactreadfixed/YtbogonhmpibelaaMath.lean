/-
  Plain mathematics for chapter 1 (numbers as bytes): nothing here speaks of a program.
-/
import Derived.WalkKit
import Derived.Laws.BitsAllLaws
namespace Go.Proofs.Ytbogonhmpibelaa
open Go.RowKit

theorem hide {p : Prop} (h : p) : Hid p := h

/-! ### or and shifts on int -/
theorem i64_or_nat (a b : Nat) (ha : a < 9223372036854775808) (hb : b < 9223372036854775808) : bits .or .i64 (a : Int) (b : Int) = ((a ||| b : Nat) : Int) := by
  have hx : a ||| b < 2 ^ 63 := Nat.or_lt_two_pow (by omega) (by omega)
  show IntKind.i64.wrap ((BitVec.ofInt 64 (a : Int) ||| BitVec.ofInt 64 (b : Int)).toNat : Int) = _
  rw [BitVec.toNat_or, ofInt_u64 a (by omega), ofInt_u64 b (by omega), IntKind.wrap_i64]
  omega
theorem i64_join (i : Nat) (a b : Int) (ha0 : 0 ≤ a) (ha : a < 9223372036854775808) (hb0 : 0 ≤ b) (hb : b < 9223372036854775808) (hm : a.toNat % 2 ^ i = 0) (hl : b.toNat < 2 ^ i) : bits .or .i64 a b = a + b := by
  have h := i64_or_nat a.toNat b.toNat (by omega) (by omega)
  rw [nat_join i _ _ hm hl] at h
  rw [show ((a.toNat : Nat) : Int) = a by omega, show ((b.toNat : Nat) : Int) = b by omega] at h
  rw [h]; omega

/-! ### bytes, the greatest first -/
def be (l : List UInt8) : Int := l.foldl (fun n c => n * 256 + (c.toNat : Int)) 0
theorem be_snoc (l : List UInt8) (c : UInt8) : be (l ++ [c]) = be l * 256 + (c.toNat : Int) := by simp [be]
theorem take_snoc (s : ByteArray) (k : Nat) (h : k < s.size) : s.data.toList.take (k + 1) = s.data.toList.take k ++ [s[k]] := by
  rw [List.take_succ_eq_append_getElem (by simpa using h)]; rfl
theorem be_go (l : List UInt8) : ∀ a : Int, 0 ≤ a → a * 256 ^ l.length ≤ l.foldl (fun n c => n * 256 + (c.toNat : Int)) a ∧ l.foldl (fun n c => n * 256 + (c.toNat : Int)) a < (a + 1) * 256 ^ l.length := by
  induction l with
  | nil => intro a h; simp; omega
  | cons c r ih =>
    intro a h
    have hc : c.toNat < 256 := c.toNat_lt
    obtain ⟨h1, h2⟩ := ih (a * 256 + (c.toNat : Int)) (by omega)
    have hp : (0 : Int) ≤ 256 ^ r.length := Int.pow_nonneg (by omega)
    simp only [List.foldl_cons, List.length_cons, Int.pow_succ]
    refine ⟨Int.le_trans ?_ h1, Int.lt_of_lt_of_le h2 ?_⟩
    · rw [show a * (256 ^ r.length * 256) = (a * 256) * 256 ^ r.length by rw [Int.mul_assoc, Int.mul_comm 256 (256 ^ r.length)]]
      exact Int.mul_le_mul_of_nonneg_right (by omega) hp
    · rw [show (a + 1) * (256 ^ r.length * 256) = ((a + 1) * 256) * 256 ^ r.length by rw [Int.mul_assoc, Int.mul_comm 256 (256 ^ r.length)]]
      exact Int.mul_le_mul_of_nonneg_right (by omega) hp
theorem be_bd (l : List UInt8) : 0 ≤ be l ∧ be l < 256 ^ l.length := by
  have := be_go l 0 (by omega)
  simp at this
  exact this
theorem be_bd6 (l : List UInt8) (k : Nat) (h : k ≤ 6) : 0 ≤ be (l.take k) ∧ be (l.take k) < 281474976710656 := by
  obtain ⟨h1, h2⟩ := be_bd (l.take k)
  refine ⟨h1, ?_⟩
  have h3 : (l.take k).length ≤ 6 := by simp; omega
  generalize (l.take k).length = m at *
  have : m = 0 ∨ m = 1 ∨ m = 2 ∨ m = 3 ∨ m = 4 ∨ m = 5 ∨ m = 6 := by omega
  rcases this with rfl | rfl | rfl | rfl | rfl | rfl | rfl <;> simp at h2 <;> omega
theorem be_join (n c : Int) (h0 : 0 ≤ n) (h1 : n < 281474976710656) (c0 : 0 ≤ c) (c1 : c < 256) : bits .or .i64 (n * 256) c = n * 256 + c :=
  i64_join 8 _ _ (by omega) (by omega) c0 (by omega) (by omega) (by omega)
end Go.Proofs.Ytbogonhmpibelaa
