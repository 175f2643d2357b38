/-
  Contract of spec.Fixed.
-/
import Derived.Test.YtakjjfbocokpaaaDoorFixedI
namespace Go.Proofs.YtakjjfbocokpaaaDoor
open Go.ChangeShapes Go.WideShapes Go.ChangeAt Go.RowKit

set_option maxRecDepth 40000 in
theorem sFixed_yes (n k : Nat) (w : World) (h1 : 1 ≤ k) (h7 : k ≤ 7) (hb : n < 9223372036854775808) :
    Calls Tryd.prog 80 #[.int .i64 n, .int .i64 k] w (StrPost w (fixedL n k)) := by
  have hn0 : decide ((n : Int) < 0) = false := by simp
  go_enter Tryd.func80, Tryd.ntmps80
  go_wp2_with (go_at_call 52; refine (l1In_any _ _ _ _).mono ?_; rintro e w' ⟨rfl, rfl⟩)
  go_loopw [0, 5, 6] (fun x s i wr => ∃ j m : Nat, j ≤ k ∧ Hid (m = n / 256 ^ j) ∧ m < 9223372036854775808 ∧ x = .int .i64 m ∧ i = .int .i64 j ∧ s = .string ⟨(lowB n j).toArray⟩ ∧ Below w.heap.size w wr)
    (fun _ _ i _ => k - (intOf i).toNat)
  case atStart => exact ⟨0, n, Nat.zero_le _, by simp [Hid], hb, rfl, rfl, rfl, Below.refl _ _⟩
  case round =>
    obtain ⟨j, m, hj, HM, hm, rfl, rfl, rfl, hbel⟩ := hrel
    have HB := hide hbel
    clear hbel
    by_cases hlt : j < k
    · have hcv := run_conv1 ((m : Int) % 256) (UInt8.ofNat (m % 256)) (by simp) wr
      have C1 := hide (show (⟨#[UInt8.ofNat (m % 256)]⟩ : ByteArray) ++ ⟨(lowB n j).toArray⟩ = ⟨(lowB n (j + 1)).toArray⟩ by
        rw [show #[UInt8.ofNat (m % 256)] = [UInt8.ofNat (m % 256)].toArray from rfl, ByteArray.mk_append_mk, HM.out]; rfl)
      have C2 := hide (show m / 256 = n / 256 ^ (j + 1) by rw [HM.out, Nat.div_div_eq_div_mul, Nat.pow_succ])
      have hadd := run_string_add_sum (P := Tryd.prog) (w := wr.alloc (.cells #[.int .u8 ((m : Int) % 256)] 5)) ⟨#[UInt8.ofNat (m % 256)]⟩ ⟨(lowB n j).toArray⟩ (by simp [ByteArray.size, length_lowB]; omega)
      rw [C1.out] at hadd
      go_wp2
      go_roundw
      case rel => exact ⟨j + 1, m / 256, by omega, C2.out, by omega, by go_num, by go_num, rfl, HB.out.alloc HB.out.size _⟩
      case measure => simp [intOf]; omega
    · obtain rfl : j = k := by omega
      have C := hide (show fixedL n j = if m = 0 then lowB n j else [] by rw [fixedL, ← HM.out])
      by_cases h0 : m = 0
      · obtain rfl : 0 = m := h0.symm
        rw [if_pos rfl] at C
        go_wp2
        go_ret
        exact ⟨by rw [C.out]; rfl, HB.out⟩
      · rw [if_neg h0] at C
        have hp : 0 < m := by omega
        go_wp2
        go_ret
        exact ⟨by rw [C.out]; rfl, HB.out⟩

set_option maxRecDepth 40000 in
theorem sFixed_no (n k : Int) (w : World) (h : ¬ (1 ≤ k ∧ k ≤ 7 ∧ 0 ≤ n)) :
    Calls Tryd.prog 80 #[.int .i64 n, .int .i64 k] w (StrPost w []) := by
  by_cases hk : 1 ≤ k ∧ k ≤ 7
  · obtain ⟨hk1, hk2⟩ := hk
    have hd : decide (n < 0) = true := by simp; omega
    clear h
    go_enter Tryd.func80, Tryd.ntmps80
    go_wp2_with (go_at_call 52; refine (l1In_any _ _ _ _).mono ?_; rintro e w' ⟨rfl, rfl⟩)
    go_ret
    exact ⟨rfl, Below.refl _ _⟩
  · have hd : (decide (1 ≤ k) && decide (k ≤ 7)) = false := by simp; omega
    clear h hk
    go_enter Tryd.func80, Tryd.ntmps80
    go_wp2_with (go_at_call 52; refine (l1In_any _ _ _ _).mono ?_; rw [hd]; rintro e w' ⟨rfl, rfl⟩)
    go_ret
    exact ⟨rfl, Below.refl _ _⟩

set_option maxRecDepth 40000 in
theorem sFixed_any (n k : Int) (w : World) (hb : n < 9223372036854775808) : Calls Tryd.prog 80 #[.int .i64 n, .int .i64 k] w (StrPost w (fixedV n k)) := by
  by_cases h : 1 ≤ k ∧ k ≤ 7 ∧ 0 ≤ n
  · rw [fixedV, if_pos h]
    obtain ⟨h1, h2, h3⟩ := h
    have := sFixed_yes n.toNat k.toNat w (by omega) (by omega) (by omega)
    rwa [Int.toNat_of_nonneg h3, Int.toNat_of_nonneg (by omega)] at this
  · rw [fixedV, if_neg h]
    exact sFixed_no n k w h
end Go.Proofs.YtakjjfbocokpaaaDoor
