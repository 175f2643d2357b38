/-
  Plain mathematics for the round trips of chapter 1: nothing here speaks of a program.
-/
import Derived.Test.YtbogonhmpibelaaDoorMath3
import Derived.Test.YtbogonhmpibelaaDoorMath5
import Derived.Test.YtbogonhmpibelaaDoorMathD
namespace Go.Proofs.YtbogonhmpibelaaDoor
open Go.RowKit

theorem le7_varL (m : Nat) : le7 (varL m) = m := by
  induction m using Nat.strongRecOn with
  | _ m ih =>
    by_cases h : m < 128
    · rw [varL_small m h]; simp [le7]; omega
    · rw [varL_big m (by omega), le7, ih (m / 128) (by omega)]
      simp
      omega
theorem readVarL_var (m : Nat) (hm : m ≤ 562949953421311) (T : List UInt8) : readVarL (varL m ++ T) = (m, (varL m).length) := by
  have hp := varL_pos m
  have h7 := varL_len7 m hm
  have ht : (varL m ++ T).take ((varL m).length - 1 + 1) = varL m := by
    rw [show (varL m).length - 1 + 1 = (varL m).length by omega, List.take_append_of_le_length (Nat.le_refl _), List.take_length]
  have h := readVarL_good (l := varL m ++ T) (k := (varL m).length - 1) (by rw [List.length_append]; omega) (by omega) (by rw [ht, le7_varL])
  rw [h, ht, le7_varL, show (varL m).length - 1 + 1 = (varL m).length by omega]
theorem be_lowB (n : Nat) : ∀ k, be (lowB n k) = ((n % 256 ^ k : Nat) : Int)
  | 0 => by simp [lowB, be, Nat.mod_one]
  | k + 1 => by
    have key : ∀ (l : List UInt8) (a : Int), l.foldl (fun n c => n * 256 + (c.toNat : Int)) a = a * 256 ^ l.length + be l := by
      intro l
      induction l with
      | nil => intro a; simp [be]
      | cons c r ih =>
        intro a
        have h0 : be (c :: r) = (c.toNat : Int) * 256 ^ r.length + be r := by
          rw [be, List.foldl_cons, ih]; simp
        rw [List.foldl_cons, ih, h0, List.length_cons, Int.pow_succ, Int.add_mul, Int.mul_assoc, Int.mul_comm 256 (256 ^ r.length)]
        omega
    have hc : ((UInt8.ofNat (n / 256 ^ k % 256)).toNat : Int) = ((n / 256 ^ k % 256 : Nat) : Int) := by simp
    rw [lowB, be, List.foldl_cons, key, be_lowB n k, length_lowB, hc]
    have e := Nat.mod_mul (x := n) (a := 256 ^ k) (b := 256)
    rw [Nat.pow_succ, e]
    have : ((256 : Int) ^ k) = ((256 ^ k : Nat) : Int) := by simp
    rw [this, Int.natCast_add, Int.natCast_mul, Int.zero_mul, Int.zero_add, Int.mul_comm, Int.add_comm]
theorem unhexL_hexL : ∀ l : List UInt8, unhexL (hexL l) = some l
  | [] => rfl
  | c :: r => by
    have hc : c.toNat < 256 := c.toNat_lt
    have h1 := hexV_hexD (c.toNat / 16) (by omega)
    have h2 := hexV_hexD (c.toNat % 16) (by omega)
    have of (n : Nat) (h : n = c.toNat) : UInt8.ofNat n = c := by subst h; simp
    rw [hexL, unhexL, h1, h2, if_neg (by omega), unhexL_hexL r, Option.map_some, of _ (by omega)]
theorem unhexV_hexL (l : List UInt8) : unhexV (hexL l) = (l, true) := unhexV_some (unhexL_hexL l)
theorem readVarL_back {D : List UInt8} (h : (readVarL D).2 ≠ 0) : varL (readVarL D).1 = D.take (readVarL D).2 ∧ (readVarL D).1 ≤ 562949953421311 ∧ (readVarL D).2 ≤ D.length := by
  by_cases hb : ∀ k, k < D.length → k < 7 → varL (le7 (D.take (k + 1))) ≠ D.take (k + 1)
  · rw [readVarL_bad hb] at h
    exact (h rfl).elim
  · have hx : ∃ k, k < D.length ∧ k < 7 ∧ varL (le7 (D.take (k + 1))) = D.take (k + 1) := by
      refine Classical.byContradiction fun hc => hb fun k h1 h2 h3 => hc ⟨k, h1, h2, h3⟩
    obtain ⟨k, h1, h2, h3⟩ := hx
    rw [readVarL_good h1 h2 h3]
    exact ⟨h3, le7_take_lt D (k + 1) (by omega), h1⟩
theorem readVarL_le (D : List UInt8) : (readVarL D).1 ≤ 562949953421311 ∧ (readVarL D).2 ≤ D.length := by
  by_cases h : (readVarL D).2 = 0
  · have h1 : (readVarL D).1 = 0 := by
      unfold readVarL at h ⊢
      split
      · rfl
      · rename_i i hi
        rw [hi] at h
        simp only at h
        split
        · rfl
        · rename_i hn
          rw [if_neg hn] at h
          simp at h
    omega
  · exact ⟨(readVarL_back h).2.1, (readVarL_back h).2.2⟩
theorem rd_small {n x : Int} {b : Bool} (h0 : -999999999 ≤ n) (h1 : n ≤ 999999999) (h : RD (Lib.itoa n) x b) : x = n ∧ b = true :=
  RD.unique h (.inl ⟨rfl, ⟨h0, h1⟩, rfl⟩)
theorem rd_big {n x : Int} {b : Bool} (g0 : -9223372036854775808 ≤ n) (g1 : n ≤ 9223372036854775807) (hn : ¬ (-999999999 ≤ n ∧ n ≤ 999999999)) (h : RD (Lib.itoa n) x b) : x = 0 ∧ b = false :=
  RD.unique h (.inr ⟨rfl, rfl, fun m h0 h1 e => hn (by have := itoa_inj (by omega) (by omega) g0 g1 e; omega)⟩)
end Go.Proofs.YtbogonhmpibelaaDoor
