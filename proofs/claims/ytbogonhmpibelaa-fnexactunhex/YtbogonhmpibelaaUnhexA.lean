/-
  Contracts of impl.hexValue and spec.l1FromHex.
-/
import Derived.Test.YtbogonhmpibelaaHex
import Derived.Test.YtbogonhmpibelaaMath5
namespace Go.Proofs.Ytbogonhmpibelaa
open Go.ChangeShapes Go.WideShapes Go.ChangeAt Go.RowKit

theorem hexValue_any (c : UInt8) (w : World) : Calls Try.prog 26 #[.int .u8 (c.toNat : Int)] w fun e w' => e = .returned (.int .i64 (hexV c)) ∧ w' = w := by
  have hc : c.toNat < 256 := c.toNat_lt
  have HV : Hid (hexV c = if 48 ≤ c.toNat ∧ c.toNat ≤ 57 then (c.toNat : Int) - 48 else if 97 ≤ c.toNat ∧ c.toNat ≤ 102 then (c.toNat : Int) - 87 else -1) := rfl
  by_cases h1 : 48 ≤ c.toNat ∧ c.toNat ≤ 57
  · rw [if_pos h1] at HV
    obtain ⟨ha, hb⟩ := h1
    go_enter Try.func26, Try.ntmps26
    go_wp2
    go_ret
    exact ⟨by rw [HV.out]; rfl, rfl⟩
  · rw [if_neg h1] at HV
    by_cases h2 : 97 ≤ c.toNat ∧ c.toNat ≤ 102
    · rw [if_pos h2] at HV
      obtain ⟨ha, hb⟩ := h2
      go_enter Try.func26, Try.ntmps26
      go_wp2
      go_ret
      exact ⟨by rw [HV.out]; exact ret_int (by omega), rfl⟩
    · rw [if_neg h2] at HV
      go_enter Try.func26, Try.ntmps26
      go_wp2
      all_goals go_ret
      all_goals exact ⟨by rw [HV.out]; rfl, rfl⟩

theorem l1FromHex_any (c : UInt8) (w : World) : Calls Try.prog 25 #[.int .u8 (c.toNat : Int)] w fun e w' => e = .returned (.int .i64 (hexV c)) ∧ w' = w := by
  go_enter Try.func25, Try.ntmps25
  go_wp2
  go_loop [3] (fun i => ∃ k : Nat, k ≤ 16 ∧ i = .int .i64 k ∧ Hid (∀ t, t < k → hexD t ≠ c)) (fun i => 16 - (intOf i).toNat)
  case atStart => exact ⟨0, by omega, rfl, fun t h => by omega⟩
  case round =>
    obtain ⟨k, hk, rfl, HA⟩ := hrel
    by_cases hlt : k < 16
    · by_cases he : hexD k = c
      · have HV := hide (show hexV c = (k : Int) by rw [← he]; exact hexV_hexD k hlt)
        have ht : (((hexD k).toNat : Int) == (c.toNat : Int)) = true := by rw [he]; simp
        clear he
        go_wp2_with (go_at_call 24; refine (l1Digit_at k _ _ rfl hlt).mono ?_; rintro e w' ⟨rfl, rfl⟩)
        go_ret
        exact ⟨by rw [HV.out]; rfl, rfl⟩
      · have HN := hide he
        have ht : (((hexD k).toNat : Int) == (c.toNat : Int)) = false := by
          rw [beq_eq_false_iff_ne]
          intro h
          exact he (UInt8.toNat_inj.1 (by omega))
        clear he
        go_wp2_with (go_at_call 24; refine (l1Digit_at k _ _ rfl hlt).mono ?_; rintro e w' ⟨rfl, rfl⟩)
        go_round
        case rel =>
          refine ⟨k + 1, by omega, by go_num, fun t ht => ?_⟩
          by_cases htk : t < k
          · exact HA.out t htk
          · obtain rfl : t = k := by omega
            exact HN.out
        case measure => simp [intOf]; omega
    · have HV := hide (hexV_none c (fun t ht => HA.out t (by omega)))
      go_wp2
      go_ret
      exact ⟨by rw [HV.out]; rfl, rfl⟩

theorem hexValue_s (c : UInt8) (w : World) : Calls Try.prog 26 #[.int .u8 (c.toNat : Int)] w fun e w' => e = .returned (.int .i64 (hexV c)) ∧ w = w' := (hexValue_any c w).mono fun _ _ h => ⟨h.1, h.2.symm⟩
theorem l1FromHex_s (c : UInt8) (w : World) : Calls Try.prog 25 #[.int .u8 (c.toNat : Int)] w fun e w' => e = .returned (.int .i64 (hexV c)) ∧ w = w' := (l1FromHex_any c w).mono fun _ _ h => ⟨h.1, h.2.symm⟩
end Go.Proofs.Ytbogonhmpibelaa
