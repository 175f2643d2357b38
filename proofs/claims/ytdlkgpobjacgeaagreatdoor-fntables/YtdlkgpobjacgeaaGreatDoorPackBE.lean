/-
  Texts of this proof, put together: BlmS.
-/
import Derived.Test.YtdlkgpobjacgeaaGreatDoorPackAK
import Derived.Test.YtdlkgpobjacgeaaGreatDoorPackAT
import Derived.Test.YtdlkgpobjacgeaaGreatDoorPackAG
import Derived.StillTailTactics
import Derived.WalkLawsBesides

/-
  Contract of spec.l10Bits.
-/
namespace Go.Proofs.YtdlkgpobjacgeaaGreatDoor
open Go.ChangeShapes Go.WideShapes Go.ChangeAt Go.RowKit

theorem sCrcV (s : ByteArray) (w : World) (hm : s.size ≤ maxLen) : Calls Tryz.prog 104 #[.string s] w fun e w' => e = .returned (.int .i64 (crcV (bl s) : Nat)) ∧ w = w' := by
  have := sCrc_any s w hm
  rwa [crcV_int] at this
/-- a key and the byte behind it -/
theorem key_x (k : ByteArray) (h : k.size ≤ 1048576) : ∃ k2 : ByteArray, bl k2 = bl k ++ [120] ∧ k2.size = k.size + 1 ∧ ∀ W, (Op.stringOp .add k ⟨#[120]⟩).run Tryz.prog W = .ok (.string k2) W := by
  refine ⟨k ++ ⟨#[120]⟩, ?_, by rw [ByteArray.size_append]; rfl, fun W => ?_⟩
  · unfold bl
    rw [ByteArray.data_append, Array.toList_append]
  · exact run_string_add_sum (P := Tryz.prog) (w := W) k ⟨#[120]⟩ (by rw [show (ByteArray.mk #[120]).size = 1 from rfl]; omega)

def Bits3 (w : World) (k : List UInt8) (n : Nat) (e : Ending) (w' : World) : Prop :=
  ∃ g, e = .returned (.slice (some ⟨g, 0, none⟩) 3 3) ∧ w.heap.size ≤ g ∧ g < w'.heap.size ∧ (∀ i, i < 3 → w'.cell? ⟨g, i, none⟩ = some (.int .i64 (kbit k n i : Nat))) ∧ Below w.heap.size w w'
set_option maxHeartbeats 1000000 in
theorem l10Bits_any (k : ByteArray) (size n : Nat) (w : World) (hk : k.size ≤ 1048576) (h1 : 1 ≤ size) (h2 : size ≤ 64) (hn : 8 * size = n) :
    Calls Tryz.prog 84 #[.string k, .int .i64 size] w (Bits3 w (bl k) n) := by
  obtain ⟨k2, hk2, hs2, hadd⟩ := key_x k hk
  have HC1 := hide (fun W => sCrcV k W (by unfold maxLen; omega))
  have HC2 := hide (fun W => sCrcV k2 W (by unfold maxLen; omega))
  have ha := crcV_le (bl k)
  have hb := crcV_le (bl k2)
  have HK : Hid (∀ i, kbit (bl k) n i = (crcV (bl k) + i * crcV (bl k2)) % n) := fun i => by rw [hk2]; rfl
  generalize crcV (bl k) = a at *
  generalize crcV (bl k2) = b at *
  clear hk2 hs2
  have e1 : IntKind.i64.wrap (8 * (size : Int)) = (n : Int) := by rw [IntKind.wrap_i64]; omega
  obtain ⟨y0, hy0⟩ : ∃ y, y = a % n := ⟨_, rfl⟩
  obtain ⟨y1, hy1⟩ : ∃ y, y = (a + b) % n := ⟨_, rfl⟩
  obtain ⟨y2, hy2⟩ : ∃ y, y = (a + 2 * b) % n := ⟨_, rfl⟩
  have hlt : y0 < n ∧ y1 < n ∧ y2 < n := ⟨hy0 ▸ Nat.mod_lt _ (by omega), hy1 ▸ Nat.mod_lt _ (by omega), hy2 ▸ Nat.mod_lt _ (by omega)⟩
  have e2 : (a : Int).tmod n = y0 := by rw [hy0]; exact (Int.ofNat_tmod a n).symm
  have e3 : IntKind.i64.wrap ((a : Int) + b) = ((a + b : Nat) : Int) := by rw [IntKind.wrap_i64]; omega
  have e4 : ((a + b : Nat) : Int).tmod n = y1 := by rw [hy1]; exact (Int.ofNat_tmod _ n).symm
  have e5 : IntKind.i64.wrap (2 * (b : Int)) = ((2 * b : Nat) : Int) := by rw [IntKind.wrap_i64]; omega
  have e6 : IntKind.i64.wrap ((a : Int) + (2 * b : Nat)) = ((a + 2 * b : Nat) : Int) := by rw [IntKind.wrap_i64]; omega
  have e7 : ((a + 2 * b : Nat) : Int).tmod n = y2 := by rw [hy2]; exact (Int.ofNat_tmod _ n).symm
  have HY := hide (show y0 = kbit (bl k) n 0 ∧ y1 = kbit (bl k) n 1 ∧ y2 = kbit (bl k) n 2 from ⟨by rw [HK.out 0, hy0, Nat.zero_mul, Nat.add_zero], by rw [HK.out 1, hy1, Nat.one_mul], by rw [HK.out 2, hy2]⟩)
  clear hy0 hy1 hy2 HK
  generalize a + b = ab at *
  generalize a + 2 * b = ab2 at *
  generalize 2 * b = b2 at *
  have hn0 : ¬ n = 0 := by omega
  have hn1 : ((n : Int) == 0) = false := by rw [beq_eq_false_iff_ne]; omega
  have hn2 : ¬ (n : Int) = 0 := by omega
  have hn' := hide hn
  clear hn
  go_enter Tryz.func84, Tryz.ntmps84
  go_wp2_with fail
  refine (HC1.out _).mono ?_
  rintro e w1 ⟨rfl, rfl⟩
  go_wp2_with fail
  refine (HC2.out _).mono ?_
  rintro e w1 ⟨rfl, rfl⟩
  go_wp2_with fail
  go_still_tail 17, (by kernel_rfl)
  change wpList _ _ _ _ _ w.drew
  go_wp2_with fail
  go_ret
  obtain ⟨r0, r1, r2⟩ := HY.out
  refine ⟨w.heap.size, rfl, Nat.le_refl _, ?_, fun i hi => ?_, ((Below.refl _ _).alloc (Nat.le_refl _) _).drew⟩
  · show w.heap.size < (w.alloc _).heap.size
    simp
  · show (w.alloc _).cell? _ = _
    have : i = 0 ∨ i = 1 ∨ i = 2 := by omega
    rcases this with rfl | rfl | rfl
    · rw [← r0]; simp
    · rw [← r1]; simp
    · rw [← r2]; simp
end Go.Proofs.YtdlkgpobjacgeaaGreatDoor
