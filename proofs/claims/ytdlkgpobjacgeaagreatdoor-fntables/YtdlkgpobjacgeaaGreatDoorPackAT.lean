/-
  Texts of this proof, put together: ReadVarI, CrcS.
-/
import Derived.Test.YtdlkgpobjacgeaaGreatDoorPackAC
import Derived.Test.YtdlkgpobjacgeaaGreatDoorPackAA
import Derived.Test.YtdlkgpobjacgeaaGreatDoorPackAK
import Derived.Test.YtdlkgpobjacgeaaGreatDoorRows
import Derived.WalkKit
import Derived.ProofKit
import Derived.OpenShut
import Derived.ShutString
import Derived.WalkSpells

/-
  Contract of impl.ReadVar.
-/
namespace Go.Proofs.YtdlkgpobjacgeaaGreatDoor
open Go.ChangeShapes Go.WideShapes Go.ChangeAt Go.RowKit

def RvPost (w : World) (s : ByteArray) (e : Ending) (w' : World) : Prop := e = .returned (.tuple #[.int .i64 (readVarL (bl s)).1, .int .i64 (readVarL (bl s)).2]) ∧ Below w.heap.size w w'

theorem rvPost_of {w w' : World} {s : ByteArray} {a b : Nat} {e : Ending} (h : readVarL (bl s) = (a, b)) (he : e = .returned (.tuple #[.int .i64 a, .int .i64 b])) (hb : Below w.heap.size w w') : RvPost w s e w' := by
  unfold RvPost; rw [h]; exact ⟨he, hb⟩

set_option maxRecDepth 20000 in
theorem iReadVar_any (s : ByteArray) (w : World) (hm : s.size ≤ maxLen) :
    Calls Tryz.prog 97 #[.string s] w (RvPost w s) := by
  unfold maxLen at hm
  go_enter Tryz.func97, Tryz.ntmps97
  go_wp2
  all_goals
    go_loop [4, 5, 6, 10] (fun n _ _ i => ∃ j : Nat, j ≤ 7 ∧ j ≤ s.size ∧ i = .int .i64 j ∧ n = .int .i64 (le7 ((bl s).take j) : Nat) ∧ Hid (∀ t (ht : t < (bl s).length), t < j → 128 ≤ (bl s)[t].toNat)) (fun _ _ _ i => 7 - (intOf i).toNat)
    case atStart => exact ⟨0, by omega, by omega, rfl, rfl, fun t _ h => by omega⟩
    case round =>
      obtain ⟨j, hj7, hjs, rfl, rfl, HA⟩ := hrel
      by_cases hlt : j < 7 ∧ j < s.size
      · obtain ⟨hl7, hls⟩ := hlt
        have hc : (s[j]'hls).toNat < 256 := (s[j]'hls).toNat_lt
        have hbl : j < (bl s).length := by rw [bl_len]; exact hls
        have HT := hide (bl_take s j hls)
        have HE := hide (bl_at s j hls hbl)
        have HJ := hide (le7_join ((bl s).take j) j (s[j]'hls) hl7 (by rw [List.length_take]; omega))
        have hmod : ((s[j]'hls).toNat : Int) % 128 < 128 := by omega
        by_cases hs : (s[j]'hls).toNat < 128
        · have hd : decide (((s[j]'hls).toNat : Int) < 128) = true := decide_eq_true (by omega)
          have HV := hide (show ((le7 ((bl s).take (j + 1)) : Nat) : Int) = bits .or .i64 ((le7 ((bl s).take j) : Nat) : Int) (wrap64 (((s[j]'hls).toNat : Int) % 128 * 2 ^ (7 * j))) by rw [HT.out]; exact HJ.out.symm)
          by_cases hz0 : s[j]'hls = 0
          · have HZ := hide hz0
            have he : (((s[j]'hls).toNat : Int) == 0) = true := by simp [hz0]
            clear hz0
            by_cases hp : 0 < j
            · have HR := hide (readVarL_zero hbl hl7 HA.out (by rw [HE.out]; exact HZ.out) hp)
              clear HE hbl
              go_wp2
              go_ret2
              exact rvPost_of HR.out rfl (Below.refl _ _)
            · have HR := hide (readVarL_at hbl hl7 HA.out (by rw [HE.out]; exact hs) (fun h => hp h.2))
              clear HE hbl
              go_wp2
              go_ret2
              exact rvPost_of HR.out (by rw [HV.out]; rfl) (Below.refl _ _)
          · have HR := hide (readVarL_at hbl hl7 HA.out (by rw [HE.out]; exact hs) (by rw [HE.out]; exact fun h => hz0 h.1))
            have hne : ¬ (s[j]'hls).toNat = 0 := fun h => hz0 (UInt8.toNat_inj.1 h)
            have he : (((s[j]'hls).toNat : Int) == 0) = false := by simp only [beq_eq_false_iff_ne]; omega
            clear hz0 hne HE hbl
            go_wp2
            go_ret2
            exact rvPost_of HR.out (by rw [HV.out]; rfl) (Below.refl _ _)
        · have hd : decide (((s[j]'hls).toNat : Int) < 128) = false := decide_eq_false (by omega)
          go_wp2
          go_round
          case rel =>
            refine ⟨j + 1, by omega, by omega, by go_num, by rw [HT.out, ← HJ.out], fun t ht htj => ?_⟩
            by_cases htj' : t < j
            · exact HA.out t ht htj'
            · obtain rfl : t = j := by omega
              rw [HE.out]; omega
          case measure => simp [intOf]; omega
      · have HR := hide (readVarL_none (l := bl s) (fun t ht ht7 => HA.out t ht (by rw [bl_len] at ht; omega)))
        go_wp2
        go_ret2
        exact rvPost_of HR.out rfl (Below.refl _ _)
end Go.Proofs.YtdlkgpobjacgeaaGreatDoor

/-
  Contract of spec.Crc.
-/
namespace Go.Proofs.YtdlkgpobjacgeaaGreatDoor
open Go.ChangeShapes Go.WideShapes Go.ChangeAt Go.RowKit

theorem crcBits_zero (c : Nat) : crcBits c 0 = c := rfl
theorem crcBit_odd (c k : Nat) (h : crcBits c k % 2 = 1) : ((crcBits c k / 2 ^^^ 2197175160 : Nat) : Int) = crcBits c (k + 1) := by
  show _ = ((crcBit (crcBits c k) : Nat) : Int); unfold crcBit; rw [if_pos h]
theorem crcBit_even (c k : Nat) (h : ¬ crcBits c k % 2 = 1) : ((crcBits c k / 2 : Nat) : Int) = crcBits c (k + 1) := by
  show _ = ((crcBit (crcBits c k) : Nat) : Int); unfold crcBit; rw [if_neg h]
theorem sCrc_any (s : ByteArray) (w : World) (hm : s.size ≤ maxLen) :
    Calls Tryz.prog 104 #[.string s] w fun e w' => e = .returned (.int .i64 (4294967295 - (crcRun 4294967295 (bl s) : Int))) ∧ w = w' := by
  unfold maxLen at hm
  go_enter Tryz.func104, Tryz.ntmps104
  go_wp2
  go_loop [3, 4, 5] (fun c i _ => ∃ j : Nat, j ≤ s.size ∧ i = .int .i64 j ∧ c = .int .i64 (crcRun 4294967295 ((bl s).take j) : Nat)) (fun _ i _ => s.size - (intOf i).toNat)
  case atStart => exact ⟨0, Nat.zero_le _, rfl, rfl⟩
  case round =>
    obtain ⟨j, hj, rfl, rfl⟩ := hrel
    have hlt32 := crcRun_lt ((bl s).take j) 4294967295 (by omega)
    by_cases hlt : j < s.size
    · have hc : s[j].toNat < 256 := s[j].toNat_lt
      have HT := hide (bl_take s j hlt)
      have HR := hide (crcRun_snoc 4294967295 ((bl s).take j) s[j])
      generalize hcr : crcRun 4294967295 ((bl s).take j) = c at *
      have HX := hide (i64_xor_nat c s[j].toNat (by omega) (by omega))
      have hx := xor_lt32 c s[j].toNat hlt32 (by omega)
      have HC := hide hcr
      clear hcr
      go_wp2
      go_loop [3, 5] (fun c' k => ∃ m : Nat, m ≤ 8 ∧ k = .int .i64 m ∧ c' = .int .i64 (crcBits (c ^^^ s[j].toNat) m : Nat)) (fun _ k => 8 - (intOf k).toNat)
      case atStart => exact ⟨0, Nat.zero_le _, rfl, by rw [HX.out]; rfl⟩
      case round =>
        obtain ⟨m, hm8, rfl, rfl⟩ := hrel
        have hb := crcBits_lt (c ^^^ s[j].toNat) hx m
        by_cases hlt8 : m < 8
        · by_cases hodd : crcBits (c ^^^ s[j].toNat) m % 2 = 1
          · have HO := hide (crcBit_odd (c ^^^ s[j].toNat) m hodd)
            have HB := hide (i64_xor_nat (crcBits (c ^^^ s[j].toNat) m / 2) 2197175160 (by omega) (by omega))
            go_wp2
            go_round
            case rel => exact ⟨m + 1, by omega, by go_num, (by rw [← HO.out, ← HB.out]; rfl)⟩
            case measure => simp [intOf]; omega
          · have HE := hide (crcBit_even (c ^^^ s[j].toNat) m hodd)
            go_wp2
            go_round
            case rel => exact ⟨m + 1, by omega, by go_num, (by rw [← HE.out]; rfl)⟩
            case measure => simp [intOf]; omega
        · have hm8' : m = 8 := by omega
          subst hm8'
          go_wp2
          go_round
          case rel => exact ⟨j + 1, by omega, by go_num, (by rw [HT.out, HR.out]; rfl)⟩
          case measure => simp [intOf]; omega
    · have hjk : j = s.size := by omega
      subst hjk
      go_wp2
      go_ret
      exact ⟨ret_int ((by rw [List.take_of_length_le (by rw [bl_len]; omega)])), rfl⟩
end Go.Proofs.YtdlkgpobjacgeaaGreatDoor
