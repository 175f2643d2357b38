/-
  Contract of spec.Unhex.
-/
import Derived.Test.YtbogonhmpibelaaUnhexI
import Derived.Test.YtbogonhmpibelaaOwn
import Derived.Test.YtbogonhmpibelaaHexD
namespace Go.Proofs.Ytbogonhmpibelaa
open Go.ChangeShapes Go.WideShapes Go.ChangeAt Go.RowKit

theorem l1FromHex_any (c : UInt8) (w : World) : Calls Try.prog 25 #[.int .u8 (c.toNat : Int)] w fun e w' => e = .returned (.int .i64 (hexV c)) ∧ w' = w := by
  go_enter Try.func25, Try.ntmps25
  go_wp2
  go_loop [3] (fun i => ∃ k : Nat, k ≤ 16 ∧ i = .int .i64 k ∧ Hid (∀ t, t < k → hexD t ≠ c)) (fun i => 16 - (intOf i).toNat)
  case atStart => exact ⟨0, by omega, rfl, fun t h => by omega⟩
  case round =>
    obtain ⟨k, hk, rfl, HA⟩ := hrel
    by_cases hlt : k < 16
    · by_cases he : hexD k = c
      · have HV := hide (show hexV c = (k : Int) by rw [← he]; exact hexV_hexD k hlt)
        have ht : (((hexD k).toNat : Int) == (c.toNat : Int)) = true := by rw [he]; simp
        clear he
        go_wp2_with (go_at_call 24; refine (l1Digit_at k _ _ rfl hlt).mono ?_; rintro e w' ⟨rfl, rfl⟩)
        go_ret
        exact ⟨by rw [HV.out]; rfl, rfl⟩
      · have HN := hide he
        have ht : (((hexD k).toNat : Int) == (c.toNat : Int)) = false := by
          rw [beq_eq_false_iff_ne]
          intro h
          exact he (UInt8.toNat_inj.1 (by omega))
        clear he
        go_wp2_with (go_at_call 24; refine (l1Digit_at k _ _ rfl hlt).mono ?_; rintro e w' ⟨rfl, rfl⟩)
        go_round
        case rel =>
          refine ⟨k + 1, by omega, by go_num, fun t ht => ?_⟩
          by_cases htk : t < k
          · exact HA.out t htk
          · obtain rfl : t = k := by omega
            exact HN.out
        case measure => simp [intOf]; omega
    · have HV := hide (hexV_none c (fun t ht => HA.out t (by omega)))
      go_wp2
      go_ret
      exact ⟨by rw [HV.out]; rfl, rfl⟩

theorem l1FromHex_s (c : UInt8) (w : World) : Calls Try.prog 25 #[.int .u8 (c.toNat : Int)] w fun e w' => e = .returned (.int .i64 (hexV c)) ∧ w = w' := (l1FromHex_any c w).mono fun _ _ h => ⟨h.1, h.2.symm⟩

theorem sUnhex_any (s : ByteArray) (w : World) (hm : s.size ≤ 549755813888) :
    Calls Try.prog 19 #[.string s] w (UhPost w s) := by
  by_cases hodd : s.size % 2 = 1
  · have HR := hide (unhexV_none (unhexL_odd (bl s) (by rw [bl_len]; exact hodd)))
    have ht : ((s.size : Int) % 2 == 1) = true := by simp; omega
    clear hodd
    go_enter Try.func19, Try.ntmps19
    go_wp2
    go_ret2
    exact uhPost_of HR.out rfl ((Below.refl _ _).alloc (Nat.le_refl _) _)
  · have ht : ((s.size : Int) % 2 == 1) = false := by simp; omega
    obtain ⟨n, hn⟩ : ∃ n, s.size = 2 * n := ⟨s.size / 2, by omega⟩
    have HN := hide hn
    have hn1 : s.size ≤ 2 * n := by omega
    have hn2 : 2 * n ≤ s.size := by omega
    clear hodd hn
    go_enter Try.func19, Try.ntmps19
    go_wp2
    clear ht
    go_loopw [4, 5, 6, 7] (fun v i _ _ wr => ∃ (j : Nat) (pre : List UInt8), j ≤ n ∧ pre.length ≤ j ∧ i = .int .i64 (2 * (j : Int)) ∧ Hid (unhexL (bl s) = (unhexL ((bl s).drop (2 * j))).map (pre ++ ·)) ∧ Hid (Owns8 w.heap.size wr v pre) ∧ Hid (Below w.heap.size w wr) ∧ w.heap.size ≤ wr.heap.size)
      (fun _ i _ _ _ => s.size - (intOf i).toNat)
    case atStart => exact ⟨0, [], Nat.zero_le _, by simp, by go_num, by simp [Hid], Owns8.lit w.heap.size w [] (Nat.le_refl _) (by simp), (Below.refl _ _).alloc (Nat.le_refl _) _, by simp⟩
    case round =>
      obtain ⟨j, pre, hj, hpl, rfl, HU, HO, HB, hsz⟩ := hrel
      by_cases hlt : j < n
      · have h0 : 2 * j < s.size := by omega
        have h1 : 2 * j + 1 < s.size := by omega
        have hb1 : 2 * j + 1 < (bl s).length := by rw [bl_len]; exact h1
        have E0 := bl_at s (2 * j) h0 (by omega)
        have E1 := bl_at s (2 * j + 1) h1 hb1
        have v0 := hexV_bd (s[2 * j]'h0)
        have v1 := hexV_bd (s[2 * j + 1]'h1)
        by_cases hbad : hexV (s[2 * j]'h0) < 0 ∨ hexV (s[2 * j + 1]'h1) < 0
        · have HR := hide (unhexV_none (l := bl s) (by rw [HU.out, unhexL_bad _ _ hb1 (by rw [E0, E1]; exact hbad)]; rfl))
          clear E0 E1
          by_cases hb0 : hexV (s[2 * j]'h0) < 0
          · have hd : decide (hexV (s[2 * j]'h0) < 0) = true := decide_eq_true hb0
            clear hbad
            go_wp2_with (go_at_call 25; refine (l1FromHex_s _ _).mono ?_; rintro e w' ⟨rfl, rfl⟩)
            go_ret2
            exact uhPost_of HR.out rfl HB.out
          · have hd : decide (hexV (s[2 * j]'h0) < 0) = false := decide_eq_false hb0
            have hd1 : decide (hexV (s[2 * j + 1]'h1) < 0) = true := decide_eq_true (by omega)
            clear hbad
            go_wp2_with (go_at_call 25; refine (l1FromHex_s _ _).mono ?_; rintro e w' ⟨rfl, rfl⟩)
            go_ret2
            exact uhPost_of HR.out rfl HB.out
        · have hd : decide (hexV (s[2 * j]'h0) < 0) = false := decide_eq_false (by omega)
          have hd1 : decide (hexV (s[2 * j + 1]'h1) < 0) = false := decide_eq_false (by omega)
          have p0 : 0 ≤ hexV (s[2 * j]'h0) := by omega
          have p1 : 0 ≤ hexV (s[2 * j + 1]'h1) := by omega
          have HU2 := hide (show unhexL (bl s) = (unhexL ((bl s).drop (2 * (j + 1)))).map ((pre ++ [UInt8.ofNat (16 * hexV (s[2 * j]'h0) + hexV (s[2 * j + 1]'h1)).toNat]) ++ ·) by
            have := unhexL_step (bl s) (2 * j) hb1 (by rw [E0]; exact p0) (by rw [E1]; exact p1)
            rw [E0, E1] at this
            rw [HU.out, this, map_pre]; rfl)
          have C1 := hide (show #[Value.int .u8 (16 * hexV (s[2 * j]'h0) + hexV (s[2 * j + 1]'h1))] = (byteVals [UInt8.ofNat (16 * hexV (s[2 * j]'h0) + hexV (s[2 * j + 1]'h1)).toNat]).toArray by
            simp [byteVals]; omega)
          clear hbad E0 E1 hb1
          go_wp2_with (first | (go_at_call 25; refine (l1FromHex_s _ _).mono ?_; rintro e w' ⟨rfl, rfl⟩) | (at_builtin; refine append8 rfl (.tmp 34) (.tmp 40) rfl w.heap.size w wr _ pre [UInt8.ofNat (16 * hexV (s[2 * j]'h0) + hexV (s[2 * j + 1]'h1)).toNat] 1 _ rfl rfl HO HB hsz C1.out rfl (by omega) ?_; intro v' w' HO' HB' hsz'))
          go_roundw
          case rel => exact ⟨j + 1, _, by omega, by simp; omega, by go_num, HU2.out, HO', HB', by omega⟩
          case measure => simp [intOf]; omega
      · obtain rfl : j = n := by omega
        have HR := hide (unhexV_some (l := bl s) (r := pre) (by rw [HU.out, List.drop_of_length_le (by rw [bl_len]; omega)]; simp [unhexL]))
        have hcv := run_convOwn w.heap.size wr _ _ HO.out
        go_wp2
        go_ret2
        exact uhPost_of HR.out rfl HB.out
end Go.Proofs.Ytbogonhmpibelaa
