/-
  Contract of spec.Crc.
-/
import Derived.Test.YtakjjfbocokpaaaDoorRows
import Derived.Test.YtakjjfbocokpaaaDoorMathC
import Derived.WalkKit
import Derived.ProofKit
import Derived.OpenShut
import Derived.ShutString
import Derived.WalkSpells
namespace Go.Proofs.YtakjjfbocokpaaaDoor
open Go.ChangeShapes Go.WideShapes Go.ChangeAt Go.RowKit

theorem crcBits_zero (c : Nat) : crcBits c 0 = c := rfl
theorem crcBit_odd (c k : Nat) (h : crcBits c k % 2 = 1) : ((crcBits c k / 2 ^^^ 2197175160 : Nat) : Int) = crcBits c (k + 1) := by
  show _ = ((crcBit (crcBits c k) : Nat) : Int); unfold crcBit; rw [if_pos h]
theorem crcBit_even (c k : Nat) (h : ¬ crcBits c k % 2 = 1) : ((crcBits c k / 2 : Nat) : Int) = crcBits c (k + 1) := by
  show _ = ((crcBit (crcBits c k) : Nat) : Int); unfold crcBit; rw [if_neg h]
theorem sCrc_any (s : ByteArray) (w : World) (hm : s.size ≤ maxLen) :
    Calls Tryd.prog 81 #[.string s] w fun e w' => e = .returned (.int .i64 (4294967295 - (crcRun 4294967295 (bl s) : Int))) ∧ w = w' := by
  unfold maxLen at hm
  go_enter Tryd.func81, Tryd.ntmps81
  go_wp2
  go_loop [3, 4, 5] (fun c i _ => ∃ j : Nat, j ≤ s.size ∧ i = .int .i64 j ∧ c = .int .i64 (crcRun 4294967295 ((bl s).take j) : Nat)) (fun _ i _ => s.size - (intOf i).toNat)
  case atStart => exact ⟨0, Nat.zero_le _, rfl, rfl⟩
  case round =>
    obtain ⟨j, hj, rfl, rfl⟩ := hrel
    have hlt32 := crcRun_lt ((bl s).take j) 4294967295 (by omega)
    by_cases hlt : j < s.size
    · have hc : s[j].toNat < 256 := s[j].toNat_lt
      have HT := hide (bl_take s j hlt)
      have HR := hide (crcRun_snoc 4294967295 ((bl s).take j) s[j])
      generalize hcr : crcRun 4294967295 ((bl s).take j) = c at *
      have HX := hide (i64_xor_nat c s[j].toNat (by omega) (by omega))
      have hx := xor_lt32 c s[j].toNat hlt32 (by omega)
      have HC := hide hcr
      clear hcr
      go_wp2
      go_loop [3, 5] (fun c' k => ∃ m : Nat, m ≤ 8 ∧ k = .int .i64 m ∧ c' = .int .i64 (crcBits (c ^^^ s[j].toNat) m : Nat)) (fun _ k => 8 - (intOf k).toNat)
      case atStart => exact ⟨0, Nat.zero_le _, rfl, by rw [HX.out]; rfl⟩
      case round =>
        obtain ⟨m, hm8, rfl, rfl⟩ := hrel
        have hb := crcBits_lt (c ^^^ s[j].toNat) hx m
        by_cases hlt8 : m < 8
        · by_cases hodd : crcBits (c ^^^ s[j].toNat) m % 2 = 1
          · have HO := hide (crcBit_odd (c ^^^ s[j].toNat) m hodd)
            have HB := hide (i64_xor_nat (crcBits (c ^^^ s[j].toNat) m / 2) 2197175160 (by omega) (by omega))
            go_wp2
            go_round
            case rel => exact ⟨m + 1, by omega, by go_num, (by rw [← HO.out, ← HB.out]; rfl)⟩
            case measure => simp [intOf]; omega
          · have HE := hide (crcBit_even (c ^^^ s[j].toNat) m hodd)
            go_wp2
            go_round
            case rel => exact ⟨m + 1, by omega, by go_num, (by rw [← HE.out]; rfl)⟩
            case measure => simp [intOf]; omega
        · have hm8' : m = 8 := by omega
          subst hm8'
          go_wp2
          go_round
          case rel => exact ⟨j + 1, by omega, by go_num, (by rw [HT.out, HR.out]; rfl)⟩
          case measure => simp [intOf]; omega
    · have hjk : j = s.size := by omega
      subst hjk
      go_wp2
      go_ret
      exact ⟨ret_int ((by rw [List.take_of_length_le (by rw [bl_len]; omega)])), rfl⟩
end Go.Proofs.YtakjjfbocokpaaaDoor
