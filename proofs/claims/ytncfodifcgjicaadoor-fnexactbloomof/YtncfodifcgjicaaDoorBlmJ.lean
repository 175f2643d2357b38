/-
  Contract of impl.eachBloomBit under whatever closure.
-/
import Derived.Test.YtncfodifcgjicaaDoorBlmI
namespace Go.Proofs.YtncfodifcgjicaaDoor
open Go.ChangeShapes Go.WideShapes Go.ChangeAt Go.RowKit

theorem iCrcV (s : ByteArray) (w : World) (hm : s.size ≤ maxLen) (h0 : 0 < w.heap.size) (hT : Hid (CrcTabIn w)) : Calls Tryd.prog 29 #[.string s] w (IntPost w (crcV (bl s) : Nat)) := by
  have := iCrc_any s w hm h0 hT
  rwa [crcV_int] at this
/-- a key and the byte behind it, for the program -/
theorem key_xI (k : ByteArray) (h : k.size ≤ 1048576) : ∃ k2 : ByteArray, bl k2 = bl k ++ [120] ∧ k2.size = k.size + 1 ∧ ∀ W, (Op.stringOp .add k ⟨#[120]⟩).run Tryd.prog W = .ok (.string k2) W := by
  refine ⟨k ++ ⟨#[120]⟩, ?_, by rw [ByteArray.size_append]; rfl, fun W => ?_⟩
  · unfold bl
    rw [ByteArray.data_append, Array.toList_append]
  · exact run_string_add_sum (P := Tryd.prog) (w := W) k ⟨#[120]⟩ (by rw [show (ByteArray.mk #[120]).size = 1 from rfl]; omega)
def EndPost (P : World → Prop) (e : Ending) (w' : World) : Prop := e = .returned (.tuple #[]) ∧ P w'

set_option maxHeartbeats 1000000 in
theorem each1_any (q : Value) (P : Nat → World → Prop) (k : ByteArray) (z n : Nat) (w : World) (hk : k.size ≤ 1048576) (h1 : 1 ≤ z) (h2 : z ≤ 64) (hn : 8 * z = n) (h0 : 0 < w.heap.size) (hT : Hid (CrcTabIn w))
    (hP : ∀ W, Below w.heap.size w W → P 0 W) (hS : ∀ i W, i < 3 → P i W → Calls Tryd.prog 21 #[.int .i64 (kbit (bl k) n i : Nat), q] W (EndPost (P (i + 1)))) :
    Calls Tryd.prog 20 #[.string k, .int .i64 z, .func (.func 21) #[] #[q]] w (EndPost (P 3)) := by
  obtain ⟨k2, hk2, hs2, hadd⟩ := key_xI k hk
  have HC1 := hide (iCrcV k w (by unfold maxLen; omega) h0 hT)
  have HC2 := hide (fun W (h : Below w.heap.size w W) => iCrcV k2 W (by unfold maxLen; omega) (Nat.lt_of_lt_of_le h0 h.size) (hide (hT.out.below h h0)))
  have ha := crcV_le (bl k)
  have hb := crcV_le (bl k2)
  have HK : Hid (∀ i, kbit (bl k) n i = (crcV (bl k) + i * crcV (bl k2)) % n) := fun i => by rw [hk2]; rfl
  have HP := hide hP
  have HS := hide hS
  generalize crcV (bl k) = a at *
  generalize crcV (bl k2) = b at *
  clear hk2 hs2 hP hS
  have e0 : IntKind.i64.wrap (8 * (z : Int)) = (n : Int) := by rw [IntKind.wrap_i64]; omega
  have hn0 : ¬ n = 0 := by omega
  have hn2 : ¬ (n : Int) = 0 := by omega
  have hn' := hide hn
  clear hn
  go_enter Tryd.func20, Tryd.ntmps20
  go_wp2_with fail
  refine HC1.out.mono ?_
  rintro e w1 ⟨rfl, hb1⟩
  have HB1 := hide hb1
  clear hb1
  go_wp2_with fail
  refine (HC2.out _ HB1.out).mono ?_
  rintro e w2 ⟨rfl, hb2⟩
  have HB2 := hide (HB1.out.trans (hb2.mono HB1.out.size))
  clear hb2
  go_wp2_with fail
  go_loopw [8, 14] (fun _ i wr => ∃ j : Nat, i = .int .i64 j ∧ j ≤ 3 ∧ Hid (P j wr)) (fun _ i _ => 3 - (intOf i).toNat)
  case atStart => exact ⟨0, rfl, by omega, HP.out _ HB2.out⟩
  case round =>
    obtain ⟨j, rfl, hj, HPj⟩ := hrel
    by_cases hlt : j < 3
    · obtain ⟨jb, hjb⟩ : ∃ y, y = j * b := ⟨_, rfl⟩
      have hjb2 : jb ≤ 2 * 4294967295 := by rw [hjb]; exact Nat.mul_le_mul (by omega) hb
      obtain ⟨x, hx⟩ : ∃ x, x = a + jb := ⟨_, rfl⟩
      obtain ⟨y, hy⟩ : ∃ y, y = x % n := ⟨_, rfl⟩
      have e1 : IntKind.i64.wrap ((j : Int) * (b : Int)) = (jb : Int) := by
        have : ((j : Int) * (b : Int)) = ((jb : Nat) : Int) := by rw [hjb, Int.natCast_mul]
        rw [IntKind.wrap_i64, this]
        omega
      have e2 : IntKind.i64.wrap ((a : Int) + (jb : Int)) = (x : Int) := by rw [IntKind.wrap_i64]; omega
      have e3 : (x : Int).tmod n = (y : Int) := by rw [hy]; exact (Int.ofNat_tmod x n).symm
      have HY := hide (show kbit (bl k) n j = y by rw [HK.out j, hy, hx, hjb])
      have HC3 := hide (HS.out j wr hlt HPj.out)
      rw [HY.out] at HC3
      clear hjb hx hy
      go_wp2_with fail
      refine HC3.out.mono ?_
      rintro e w3 ⟨rfl, hp3⟩
      go_wp2_with fail
      go_roundw
      case rel => exact ⟨j + 1, by go_num, by omega, hp3⟩
      case measure => simp [intOf]; omega
    · have HJ := hide (show j = 3 by omega)
      go_wp2_with fail
      go_end0
      exact ⟨rfl, by rw [← HJ.out]; exact HPj.out⟩

set_option maxHeartbeats 1000000 in
theorem each2_any (q r : Value) (P : Nat → World → Prop) (k : ByteArray) (z n : Nat) (w : World) (hk : k.size ≤ 1048576) (h1 : 1 ≤ z) (h2 : z ≤ 64) (hn : 8 * z = n) (h0 : 0 < w.heap.size) (hT : Hid (CrcTabIn w))
    (hP : ∀ W, Below w.heap.size w W → P 0 W) (hS : ∀ i W, i < 3 → P i W → Calls Tryd.prog 25 #[.int .i64 (kbit (bl k) n i : Nat), q, r] W (EndPost (P (i + 1)))) :
    Calls Tryd.prog 20 #[.string k, .int .i64 z, .func (.func 25) #[] #[q, r]] w (EndPost (P 3)) := by
  obtain ⟨k2, hk2, hs2, hadd⟩ := key_xI k hk
  have HC1 := hide (iCrcV k w (by unfold maxLen; omega) h0 hT)
  have HC2 := hide (fun W (h : Below w.heap.size w W) => iCrcV k2 W (by unfold maxLen; omega) (Nat.lt_of_lt_of_le h0 h.size) (hide (hT.out.below h h0)))
  have ha := crcV_le (bl k)
  have hb := crcV_le (bl k2)
  have HK : Hid (∀ i, kbit (bl k) n i = (crcV (bl k) + i * crcV (bl k2)) % n) := fun i => by rw [hk2]; rfl
  have HP := hide hP
  have HS := hide hS
  generalize crcV (bl k) = a at *
  generalize crcV (bl k2) = b at *
  clear hk2 hs2 hP hS
  have e0 : IntKind.i64.wrap (8 * (z : Int)) = (n : Int) := by rw [IntKind.wrap_i64]; omega
  have hn0 : ¬ n = 0 := by omega
  have hn2 : ¬ (n : Int) = 0 := by omega
  have hn' := hide hn
  clear hn
  go_enter Tryd.func20, Tryd.ntmps20
  go_wp2_with fail
  refine HC1.out.mono ?_
  rintro e w1 ⟨rfl, hb1⟩
  have HB1 := hide hb1
  clear hb1
  go_wp2_with fail
  refine (HC2.out _ HB1.out).mono ?_
  rintro e w2 ⟨rfl, hb2⟩
  have HB2 := hide (HB1.out.trans (hb2.mono HB1.out.size))
  clear hb2
  go_wp2_with fail
  go_loopw [8, 14] (fun _ i wr => ∃ j : Nat, i = .int .i64 j ∧ j ≤ 3 ∧ Hid (P j wr)) (fun _ i _ => 3 - (intOf i).toNat)
  case atStart => exact ⟨0, rfl, by omega, HP.out _ HB2.out⟩
  case round =>
    obtain ⟨j, rfl, hj, HPj⟩ := hrel
    by_cases hlt : j < 3
    · obtain ⟨jb, hjb⟩ : ∃ y, y = j * b := ⟨_, rfl⟩
      have hjb2 : jb ≤ 2 * 4294967295 := by rw [hjb]; exact Nat.mul_le_mul (by omega) hb
      obtain ⟨x, hx⟩ : ∃ x, x = a + jb := ⟨_, rfl⟩
      obtain ⟨y, hy⟩ : ∃ y, y = x % n := ⟨_, rfl⟩
      have e1 : IntKind.i64.wrap ((j : Int) * (b : Int)) = (jb : Int) := by
        have : ((j : Int) * (b : Int)) = ((jb : Nat) : Int) := by rw [hjb, Int.natCast_mul]
        rw [IntKind.wrap_i64, this]
        omega
      have e2 : IntKind.i64.wrap ((a : Int) + (jb : Int)) = (x : Int) := by rw [IntKind.wrap_i64]; omega
      have e3 : (x : Int).tmod n = (y : Int) := by rw [hy]; exact (Int.ofNat_tmod x n).symm
      have HY := hide (show kbit (bl k) n j = y by rw [HK.out j, hy, hx, hjb])
      have HC3 := hide (HS.out j wr hlt HPj.out)
      rw [HY.out] at HC3
      clear hjb hx hy
      go_wp2_with fail
      refine HC3.out.mono ?_
      rintro e w3 ⟨rfl, hp3⟩
      go_wp2_with fail
      go_roundw
      case rel => exact ⟨j + 1, by go_num, by omega, hp3⟩
      case measure => simp [intOf]; omega
    · have HJ := hide (show j = 3 by omega)
      go_wp2_with fail
      go_end0
      exact ⟨rfl, by rw [← HJ.out]; exact HPj.out⟩

end Go.Proofs.YtncfodifcgjicaaDoor
