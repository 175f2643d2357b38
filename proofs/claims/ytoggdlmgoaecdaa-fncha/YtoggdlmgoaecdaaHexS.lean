/-
  Contract of spec.Hex.
-/
import Derived.Test.YtoggdlmgoaecdaaHexD
import Derived.Test.YtoggdlmgoaecdaaOwn
import Derived.Test.YtoggdlmgoaecdaaBytes
import Derived.Deep.RegionLaw
namespace Go.Proofs.Ytoggdlmgoaecdaa
open Go.ChangeShapes Go.WideShapes Go.ChangeAt Go.RowKit

set_option maxHeartbeats 4000000 in
theorem sHex_any (s : ByteArray) (w : World) (hm : s.size ≤ 549755813888) :
    Calls Try.prog 12 #[.string s] w (StrPost w (hexL (bl s))) := by
  go_enter Try.func12, Try.ntmps12
  go_wp2
  go_loopw [3, 4] (fun v i wr => ∃ j : Nat, j ≤ s.size ∧ i = .int .i64 j ∧ Hid (Owns8 w.heap.size wr v (hexL ((bl s).take j))) ∧ Hid (Below w.heap.size w wr) ∧ w.heap.size ≤ wr.heap.size)
    (fun _ i _ => s.size - (intOf i).toNat)
  case atStart => exact ⟨0, Nat.zero_le _, rfl, Owns8.lit w.heap.size w [] (Nat.le_refl _) (by simp), (Below.refl _ _).alloc (Nat.le_refl _) _, by simp⟩
  case round =>
    obtain ⟨j, hj, rfl, HO, HB, hsz⟩ := hrel
    by_cases hlt : j < s.size
    · have hc : (s[j]'hlt).toNat < 256 := (s[j]'hlt).toNat_lt
      have C1 := hide (show #[Value.int .u8 ((hexD ((s[j]'hlt).toNat / 16)).toNat : Int), Value.int .u8 ((hexD ((s[j]'hlt).toNat % 16)).toNat : Int)] = (byteVals [hexD ((s[j]'hlt).toNat / 16), hexD ((s[j]'hlt).toNat % 16)]).toArray by rfl)
      have C2 := hide (show hexL ((bl s).take (j + 1)) = hexL ((bl s).take j) ++ [hexD ((s[j]'hlt).toNat / 16), hexD ((s[j]'hlt).toNat % 16)] by rw [bl_take s j hlt, hexL_append]; rfl)
      have hl : (hexL ((bl s).take j)).length + 2 ≤ 1099511627776 := by rw [length_hexL, List.length_take]; omega
      have HD1 : Hid (∀ w, Calls Try.prog 26 #[.int .i64 (((s[j]'hlt).toNat : Int) / 16)] w fun e w' => e = .returned (.int .u8 ((hexD ((s[j]'hlt).toNat / 16)).toNat : Int)) ∧ w = w') := fun w => l1Digit_at _ _ w (by omega) (by omega)
      have HD2 : Hid (∀ w, Calls Try.prog 26 #[.int .i64 (((s[j]'hlt).toNat : Int) % 16)] w fun e w' => e = .returned (.int .u8 ((hexD ((s[j]'hlt).toNat % 16)).toNat : Int)) ∧ w = w') := fun w => l1Digit_at _ _ w (by omega) (by omega)
      have e1 : IntKind.i64.wrap ((s[j]'hlt).toNat : Int) = ((s[j]'hlt).toNat : Int) := by rw [IntKind.wrap_i64]; omega
      have e2 : IntKind.i64.wrap (((s[j]'hlt).toNat : Int).tdiv 16) = ((s[j]'hlt).toNat : Int) / 16 := by rw [Int.tdiv_eq_ediv_of_nonneg (by omega), IntKind.wrap_i64]; omega
      have e3 : ((s[j]'hlt).toNat : Int).tmod 16 = ((s[j]'hlt).toNat : Int) % 16 := Int.tmod_eq_emod_of_nonneg (by omega)
      have e4 : IntKind.i64.wrap (((s[j]'hlt).toNat : Int) % 16) = ((s[j]'hlt).toNat : Int) % 16 := by rw [IntKind.wrap_i64]; omega
      have e5 : IntKind.i64.wrap (((s[j]'hlt).toNat : Int) / 16) = ((s[j]'hlt).toNat : Int) / 16 := by rw [IntKind.wrap_i64]; omega
      go_wp2
      go_region_law (first | (go_simp; go_at_call 26; first | ((with_reducible refine (HD1.out _).mono ?_); rintro e w' ⟨rfl, rfl⟩) | ((with_reducible refine (HD2.out _).mono ?_); rintro e w' ⟨rfl, rfl⟩)) | (refine step_append8 rfl (.tmp 12) (.tmp 25) rfl w.heap.size w wr _ (hexL ((bl s).take j)) [hexD ((s[j]'hlt).toNat / 16), hexD ((s[j]'hlt).toNat % 16)] 2 _ rfl rfl HO HB hsz C1.out rfl hl ?_; intro v' w' HO' HB' hsz'))
      all_goals
        clear e1 e2 e3 e4 e5 HD1 HD2 hc
        go_wp2
        go_roundw
        case rel => exact ⟨j + 1, by omega, by go_num, by rw [C2.out]; exact HO', HB', by omega⟩
        case measure => simp [intOf]; omega
    · obtain rfl : j = s.size := by omega
      have hcv := run_convOwn w.heap.size wr _ _ HO.out
      rw [List.take_of_length_le (by rw [bl_len]; exact Nat.le_refl _)] at hcv
      go_wp2
      go_ret
      exact ⟨rfl, HB.out⟩
end Go.Proofs.Ytoggdlmgoaecdaa
