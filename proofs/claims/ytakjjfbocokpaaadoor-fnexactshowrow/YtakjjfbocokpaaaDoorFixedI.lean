/-
  Contract of impl.Fixed.
-/
import Derived.Test.YtakjjfbocokpaaaDoorSmall
import Derived.Test.YtakjjfbocokpaaaDoorPut
import Derived.Test.YtakjjfbocokpaaaDoorConv
namespace Go.Proofs.YtakjjfbocokpaaaDoor
open Go.ChangeShapes Go.WideShapes Go.ChangeAt Go.RowKit

set_option maxRecDepth 40000 in
theorem iFixed_yes (n k : Nat) (w : World) (h1 : 1 ≤ k) (h7 : k ≤ 7) (hn : n < 256 ^ k) :
    Calls Tryd.prog 89 #[.int .i64 n, .int .i64 k] w (StrPost w (lowB n k)) := by
  have hz : ((n : Int) / 2 ^ (8 * k) != 0) = false := by
    rw [pow2_256, Int.ediv_eq_zero_of_lt (by omega) (by exact_mod_cast hn)]; rfl
  have hn0 : decide ((n : Int) < 0) = false := by simp
  have HN := hide hn
  clear hn
  have hmk := run_make8 k (by omega)
  go_enter Tryd.func89, Tryd.ntmps89
  go_wp2_with (go_at_call 110; refine (widthOk_any _ _).mono ?_; rintro e w' ⟨rfl, rfl⟩)
  go_loopw [6, 7] (fun a sh wr => ∃ j : Nat, j ≤ k ∧ a = .int .i64 j ∧ sh = .int .i64 (8 * (k : Int) - 8 - 8 * (j : Int)) ∧ Holds8 5 wr w.heap.size (rowOf (lowB n k) j) ∧ Below w.heap.size w wr ∧ w.heap.size < wr.heap.size)
    (fun a _ _ => k - (intOf a).toNat)
  case atStart =>
    refine ⟨0, Nat.zero_le _, rfl, by go_num, ?_, (Below.refl _ _).alloc (Nat.le_refl _) _, by simp⟩
    rw [rowOf_zero, length_lowB]
    exact Holds8.new _ _ _
  case round =>
    obtain ⟨j, hj, rfl, rfl, hrow, hbel, hsz⟩ := hrel
    have HR := hide hrow
    have HB := hide hbel
    clear hrow hbel
    by_cases hlt : j < k
    · obtain ⟨q, hq⟩ : ∃ q : Nat, k = j + 1 + q := ⟨k - 1 - j, by omega⟩
      have e : (8 * (k : Int) - 8 - 8 * (j : Int)) = ((8 * q : Nat) : Int) := by omega
      rw [e]
      have hq6 : q ≤ 6 := by omega
      have HQ := hide hq
      clear e hq
      have C1 := hide (show #[Value.int .u8 ((n : Int) / 2 ^ (8 * q) % 256)] = (byteVals (((lowB n k).drop j).take 1)).toArray by
        rw [take1_drop _ _ (by rw [length_lowB]; omega), lowB_at]
        have := HQ.out
        rw [pow2_256, show k - 1 - j = q by omega]
        simp [byteVals])
      have C2 := hide (show (((lowB n k).drop j).take 1).length = 1 by simp [length_lowB]; omega)
      have C3 := hide (show (rowOf (lowB n k) j).length = k by rw [length_rowOf _ _ (by rw [length_lowB]; omega), length_lowB])
      have C4 := hide (rowOf_step (lowB n k) j 1 (by rw [length_lowB]; omega))
      go_wp2_with (go_at_call 104; refine (put_new w.heap.size k j 1 (rowOf (lowB n k) j) (((lowB n k).drop j).take 1) _ wr HR.out hsz C1.out C3.out C2.out (by omega) (by omega) (by omega)).mono ?_; rintro e w' ⟨rfl, hrow', hbel', hsz'⟩)
      go_roundw
      case rel =>
        refine ⟨j + 1, by omega, rfl, ?_, by rw [← C4.out]; exact hrow', HB.out.trans hbel', by omega⟩
        have := HQ.out
        go_num
      case measure => simp [intOf]; omega
    · obtain rfl : j = k := by omega
      have hcv := fun W (hW : Holds8 5 W w.heap.size (lowB n j)) => run_convert_bytes_back (P := Tryd.prog) W 22 9 5 ⟨w.heap.size, 0, none⟩ j (lowB n j) Tryd.underlying22 Tryd.underlying5 Tryd.underlying9 (fun i hi => by rw [addr_add0]; exact hW.cell i hi)
      have h8 : Holds8 5 wr w.heap.size (lowB n j) := by
        have := HR.out
        rwa [show rowOf (lowB n j) j = lowB n j by have := rowOf_all (lowB n j); rwa [length_lowB] at this] at this
      have hcv := hcv wr h8
      rw [length_lowB] at hcv
      clear h8
      go_wp2
      go_ret
      exact ⟨rfl, HB.out⟩

set_option maxRecDepth 40000 in
theorem iFixed_no (n k : Int) (w : World) (h : ¬ (1 ≤ k ∧ k ≤ 7 ∧ 0 ≤ n ∧ n < ((256 ^ k.toNat : Nat) : Int))) (hb : n < 9223372036854775808) :
    Calls Tryd.prog 89 #[.int .i64 n, .int .i64 k] w (StrPost w []) := by
  by_cases hk : 1 ≤ k ∧ k ≤ 7
  · obtain ⟨k, rfl⟩ : ∃ m : Nat, k = (m : Int) := ⟨k.toNat, by omega⟩
    obtain ⟨hk1, hk2⟩ := hk
    by_cases hn : n < 0
    · have hd : decide (n < 0) = true := by simpa using hn
      clear h
      go_enter Tryd.func89, Tryd.ntmps89
      go_wp2_with (go_at_call 110; refine (widthOk_any _ _).mono ?_; rintro e w' ⟨rfl, rfl⟩)
      go_ret
      exact ⟨rfl, Below.refl _ _⟩
    · have hd : decide (n < 0) = false := by simpa using hn
      obtain ⟨n, rfl⟩ : ∃ m : Nat, n = (m : Int) := ⟨n.toNat, by omega⟩
      have hz : ((n : Int) / 2 ^ (8 * k) != 0) = true := by
        have : 256 ^ k ≤ n := by
          refine Nat.le_of_not_lt fun hc => h ⟨hk1, hk2, by omega, ?_⟩
          rw [Int.toNat_natCast]
          exact_mod_cast hc
        have h2 : 0 < n / 256 ^ k := Nat.div_pos this (Nat.pow_pos (by omega))
        have h3 : ((n / 256 ^ k : Nat) : Int) ≠ 0 := by omega
        rw [pow2_256, ← Int.natCast_ediv, bne_iff_ne]
        exact h3
      clear h
      go_enter Tryd.func89, Tryd.ntmps89
      go_wp2_with (go_at_call 110; refine (widthOk_any _ _).mono ?_; rintro e w' ⟨rfl, rfl⟩)
      go_ret
      exact ⟨rfl, Below.refl _ _⟩
  · have hd : (decide (1 ≤ k) && decide (k ≤ 7)) = false := by simp; omega
    clear h hk
    go_enter Tryd.func89, Tryd.ntmps89
    go_wp2_with (go_at_call 110; refine (widthOk_any _ _).mono ?_; rw [hd]; rintro e w' ⟨rfl, rfl⟩)
    go_ret
    exact ⟨rfl, Below.refl _ _⟩

/-- What spec.Fixed gives for a width within bounds and a number that isn't negative. -/
def fixedL (n k : Nat) : List UInt8 := if n / 256 ^ k = 0 then lowB n k else []

/-- Fixed, for whatever numbers. -/
def fixedV (n k : Int) : List UInt8 := if 1 ≤ k ∧ k ≤ 7 ∧ 0 ≤ n then fixedL n.toNat k.toNat else []

set_option maxRecDepth 40000 in
theorem iFixed_any (n k : Int) (w : World) (hb : n < 9223372036854775808) : Calls Tryd.prog 89 #[.int .i64 n, .int .i64 k] w (StrPost w (fixedV n k)) := by
  by_cases h : 1 ≤ k ∧ k ≤ 7 ∧ 0 ≤ n ∧ n < ((256 ^ k.toNat : Nat) : Int)
  · obtain ⟨h1, h2, h3, h4⟩ := h
    have h5 : n.toNat < 256 ^ k.toNat := by omega
    rw [fixedV, if_pos ⟨h1, h2, h3⟩, fixedL, if_pos (Nat.div_eq_of_lt h5)]
    have := iFixed_yes n.toNat k.toNat w (by omega) (by omega) h5
    rwa [Int.toNat_of_nonneg h3, Int.toNat_of_nonneg (by omega)] at this
  · have e : fixedV n k = [] := by
      unfold fixedV
      split
      · rename_i h'
        have h5 : 256 ^ k.toNat ≤ n.toNat := by
          refine Nat.le_of_not_lt fun hc => h ⟨h'.1, h'.2.1, h'.2.2, by omega⟩
        have := Nat.div_pos h5 (Nat.pow_pos (by omega))
        rw [fixedL, if_neg (by omega)]
      · rfl
    rw [e]
    exact iFixed_no n k w h hb
end Go.Proofs.YtakjjfbocokpaaaDoor
