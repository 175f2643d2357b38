/-
  A number of so many bytes that is written is read again. Nothing here speaks of a program.
-/
import Derived.Test.YtegamnpdhiohmaaMath
namespace Go.Proofs.Ytegamnpdhiohmaa
open Go.RowKit

theorem be_lowB (n : Nat) : ∀ k, be (lowB n k) = ((n % 256 ^ k : Nat) : Int)
  | 0 => by simp [lowB, be, Nat.mod_one]
  | k + 1 => by
    have key : ∀ (l : List UInt8) (a : Int), l.foldl (fun n c => n * 256 + (c.toNat : Int)) a = a * 256 ^ l.length + be l := by
      intro l
      induction l with
      | nil => intro a; simp [be]
      | cons c r ih =>
        intro a
        have h0 : be (c :: r) = (c.toNat : Int) * 256 ^ r.length + be r := by
          rw [be, List.foldl_cons, ih]; simp
        rw [List.foldl_cons, ih, h0, List.length_cons, Int.pow_succ, Int.add_mul, Int.mul_assoc, Int.mul_comm 256 (256 ^ r.length)]
        omega
    have hc : ((UInt8.ofNat (n / 256 ^ k % 256)).toNat : Int) = ((n / 256 ^ k % 256 : Nat) : Int) := by simp
    rw [lowB, be, List.foldl_cons, key, be_lowB n k, length_lowB, hc]
    have e := Nat.mod_mul (x := n) (a := 256 ^ k) (b := 256)
    rw [Nat.pow_succ, e]
    have : ((256 : Int) ^ k) = ((256 ^ k : Nat) : Int) := by simp
    rw [this, Int.natCast_add, Int.natCast_mul, Int.zero_mul, Int.zero_add, Int.mul_comm, Int.add_comm]
end Go.Proofs.Ytegamnpdhiohmaa
