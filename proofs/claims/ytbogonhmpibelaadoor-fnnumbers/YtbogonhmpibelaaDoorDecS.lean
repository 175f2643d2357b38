/-
  Contract of spec.Dec.
-/
import Derived.Test.YtbogonhmpibelaaDoorDecLib
namespace Go.Proofs.YtbogonhmpibelaaDoor
open Go.ChangeShapes Go.WideShapes Go.ChangeAt Go.RowKit

theorem sDec_zero (w : World) : Calls Tryd.prog 18 #[.int .i64 0] w (StrPost w (Lib.itoa 0)) := by
  go_enter Tryd.func18, Tryd.ntmps18
  go_wp2
  go_ret
  exact ⟨by rw [show Lib.itoa 0 = [48] by rw [Lib.itoa, if_neg (by omega)]; exact dd_small (by omega)]; rfl, Below.refl _ _⟩

theorem sDec_pos (a : Nat) (w : World) (h : 0 < a) (hb : a ≤ 9223372036854775807) :
    Calls Tryd.prog 18 #[.int .i64 (a : Int)] w (StrPost w (Lib.itoa a)) := by
  have HI := hide (show Lib.itoa (a : Int) = Lib.decDigits a by rw [Lib.itoa, if_neg (by omega)]; rfl)
  have HL := hide (dd_len20 a (by omega))
  have HD := hide (DecInv.start h)
  have hne : ((a : Int) == 0) = false := by rw [beq_eq_false_iff_ne]; omega
  have hneg : decide ((a : Int) < 0) = false := decide_eq_false (by omega)
  clear h
  go_enter Tryd.func18, Tryd.ntmps18
  go_wp2
  clear hne
  go_loopw [0, 3, 5] (fun x s _ wr => ∃ (u : Nat) (out : List UInt8), Hid (u ≤ a) ∧ x = .int .i64 u ∧ s = .string ⟨out.toArray⟩ ∧ Hid (DecInv a u out) ∧ Hid (Below w.heap.size w wr))
    (fun x _ _ _ => (intOf x).toNat)
  case atStart => exact ⟨a, [], Nat.le_refl _, rfl, rfl, HD.out, Below.refl _ _⟩
  case round =>
    obtain ⟨u, out, HU, rfl, rfl, HV, HB⟩ := hrel
    by_cases hu : 0 < u
    · have hnz : ((u : Int) != 0) = true := by rw [bne_iff_ne]; omega
      have hm : decide ((u : Int) % 10 < 0) = false := decide_eq_false (by omega)
      have hcv := run_conv1 (48 + (u : Int) % 10) (dig10 (u % 10)) (by rw [dig10_toNat _ (by omega)]; omega) wr
      have C1 := hide (show (⟨#[dig10 (u % 10)]⟩ : ByteArray) ++ ⟨out.toArray⟩ = ⟨(dig10 (u % 10) :: out).toArray⟩ by
        rw [show #[dig10 (u % 10)] = [dig10 (u % 10)].toArray from rfl, ByteArray.mk_append_mk]; rfl)
      have hadd := run_string_add_sum (P := Tryd.prog) (w := wr.alloc (.cells #[.int .u8 (48 + (u : Int) % 10)] 5)) ⟨#[dig10 (u % 10)]⟩ ⟨out.toArray⟩ (by have h1 := HV.out.len; have h2 := HL.out; simp [ByteArray.size]; omega)
      rw [C1.out] at hadd
      have hbu : u ≤ 9223372036854775807 := Nat.le_trans HU.out hb
      go_wp2
      go_roundw
      case rel => exact ⟨u / 10, _, Nat.le_trans (Nat.div_le_self _ _) HU.out, by go_num, rfl, HV.out.step hu, HB.out.alloc HB.out.size _⟩
      case measure => simp [intOf]; omega
    · obtain rfl : u = 0 := by omega
      have HR := hide (show Lib.itoa (a : Int) = out by
        rcases HV.out with ⟨h, _⟩ | ⟨_, h⟩
        · omega
        · rw [HI.out, h])
      go_wp2
      go_ret
      exact ⟨by rw [HR.out]; rfl, HB.out⟩

theorem sDec_neg (a : Nat) (w : World) (h : 0 < a) (hb : a ≤ 9223372036854775808) :
    Calls Tryd.prog 18 #[.int .i64 (-(a : Int))] w (StrPost w (Lib.itoa (-(a : Int)))) := by
  have HI := hide (show Lib.itoa (-(a : Int)) = 45 :: Lib.decDigits a by rw [Lib.itoa, if_pos (by omega)]; simp)
  have HL := hide (dd_len20 a hb)
  have HD := hide (DecInv.start h)
  have hne : (-(a : Int) == 0) = false := by rw [beq_eq_false_iff_ne]; omega
  have hneg : decide (-(a : Int) < 0) = true := decide_eq_true (by omega)
  have hneg' : decide (0 < a) = true := decide_eq_true h
  clear h
  go_enter Tryd.func18, Tryd.ntmps18
  go_wp2
  clear hne hneg
  go_loopw [0, 3, 5] (fun x s _ wr => ∃ (u : Nat) (out : List UInt8), Hid (u ≤ a) ∧ x = .int .i64 (-(u : Int)) ∧ s = .string ⟨out.toArray⟩ ∧ Hid (DecInv a u out) ∧ Hid (Below w.heap.size w wr))
    (fun x _ _ _ => (-(intOf x)).toNat)
  case atStart => exact ⟨a, [], Nat.le_refl _, rfl, rfl, HD.out, Below.refl _ _⟩
  case round =>
    obtain ⟨u, out, HU, rfl, rfl, HV, HB⟩ := hrel
    by_cases hu : 0 < u
    · have hnz : (-(u : Int) != 0) = true := by rw [bne_iff_ne]; omega
      have hbu : u ≤ 9223372036854775808 := Nat.le_trans HU.out hb
      have C1 := hide (show (⟨#[dig10 (u % 10)]⟩ : ByteArray) ++ ⟨out.toArray⟩ = ⟨(dig10 (u % 10) :: out).toArray⟩ by
        rw [show #[dig10 (u % 10)] = [dig10 (u % 10)].toArray from rfl, ByteArray.mk_append_mk]; rfl)
      have tm : (-(u : Int)).tmod 10 = -((u % 10 : Nat) : Int) := by rw [Int.neg_tmod, Int.tmod_eq_emod_of_nonneg (by omega)]; omega
      have td : (-(u : Int)).tdiv 10 = -((u / 10 : Nat) : Int) := by rw [Int.neg_tdiv, Int.tdiv_eq_ediv_of_nonneg (by omega)]; omega
      by_cases hz : 0 < u % 10
      · have hd : decide (0 < (u : Int) % 10) = true := decide_eq_true (by omega)
        have hcv := run_conv1 (48 + (u : Int) % 10) (dig10 (u % 10)) (by rw [dig10_toNat _ (by omega)]; omega) wr
        have hadd := run_string_add_sum (P := Tryd.prog) (w := wr.alloc (.cells #[.int .u8 (48 + (u : Int) % 10)] 5)) ⟨#[dig10 (u % 10)]⟩ ⟨out.toArray⟩ (by have h1 := HV.out.len; have h2 := HL.out; simp [ByteArray.size]; omega)
        rw [C1.out] at hadd
        clear hz
        go_wp2
        go_roundw
        case rel => exact ⟨u / 10, _, Nat.le_trans (Nat.div_le_self _ _) HU.out, by go_num, rfl, HV.out.step hu, HB.out.alloc HB.out.size _⟩
        case measure => simp [intOf]; omega
      · have hd : decide (0 < (u : Int) % 10) = false := decide_eq_false (by omega)
        have hcv := run_conv1 (48 + -((u : Int) % 10)) (dig10 (u % 10)) (by rw [dig10_toNat _ (by omega)]; omega) wr
        have hadd := run_string_add_sum (P := Tryd.prog) (w := wr.alloc (.cells #[.int .u8 (48 + -((u : Int) % 10))] 5)) ⟨#[dig10 (u % 10)]⟩ ⟨out.toArray⟩ (by have h1 := HV.out.len; have h2 := HL.out; simp [ByteArray.size]; omega)
        rw [C1.out] at hadd
        clear hz
        go_wp2
        go_roundw
        case rel => exact ⟨u / 10, _, Nat.le_trans (Nat.div_le_self _ _) HU.out, by go_num, rfl, HV.out.step hu, HB.out.alloc HB.out.size _⟩
        case measure => simp [intOf]; omega
    · obtain rfl : u = 0 := by omega
      have HR := hide (show Lib.itoa (-(a : Int)) = 45 :: out by
        rcases HV.out with ⟨h, _⟩ | ⟨_, h⟩
        · omega
        · rw [HI.out, h])
      have hadd := run_string_add_sum (P := Tryd.prog) (w := wr) ⟨#[45]⟩ ⟨out.toArray⟩ (by have h1 := HV.out.len; have h2 := HL.out; simp [ByteArray.size]; omega)
      have C1 := hide (show (⟨#[45]⟩ : ByteArray) ++ ⟨out.toArray⟩ = ⟨(45 :: out).toArray⟩ by
        rw [show #[(45 : UInt8)] = [(45 : UInt8)].toArray from rfl, ByteArray.mk_append_mk]; rfl)
      rw [C1.out] at hadd
      go_wp2
      go_ret
      exact ⟨by rw [HR.out]; rfl, HB.out⟩

theorem sDec_any (n : Int) (h0 : -9223372036854775808 ≤ n) (h1 : n ≤ 9223372036854775807) (w : World) :
    Calls Tryd.prog 18 #[.int .i64 n] w (StrPost w (Lib.itoa n)) := by
  by_cases hz : n = 0
  · subst hz; exact sDec_zero w
  · by_cases hn : n < 0
    · have := sDec_neg (-n).toNat w (by omega) (by omega)
      rwa [show (-(((-n).toNat : Nat) : Int)) = n by omega] at this
    · have := sDec_pos n.toNat w (by omega) (by omega)
      rwa [show ((n.toNat : Nat) : Int) = n by omega] at this
end Go.Proofs.YtbogonhmpibelaaDoor
