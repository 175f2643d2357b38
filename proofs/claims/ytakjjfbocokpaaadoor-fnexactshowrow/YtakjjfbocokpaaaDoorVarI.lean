/-
  Contract of impl.Var.
-/
import Derived.Test.YtakjjfbocokpaaaDoorPut
import Derived.Test.YtakjjfbocokpaaaDoorConv
import Derived.Test.YtakjjfbocokpaaaDoorMath2
namespace Go.Proofs.YtakjjfbocokpaaaDoor
open Go.ChangeShapes Go.WideShapes Go.ChangeAt Go.RowKit

set_option maxRecDepth 20000 in
theorem iVar_yes (n : Nat) (w : World) (hn : n ≤ 562949953421311) :
    Calls Tryd.prog 73 #[.int .i64 n] w (StrPost w (varL n)) := by
  have hmk : ∀ w, (Instr.makeSlice 22 (.int .i64 7) (.int .i64 7)).run Tryd.prog w = .ok (.slice (some ⟨w.heap.size, 0, none⟩) 7 7) (w.alloc (.cells (byteVals (List.replicate 7 0)).toArray 5)) := run_make8 7 (by omega)
  have hlen := varL_len7 n hn
  have HL := hide hlen
  have hd0 : decide ((n : Int) < 0) = false := by simp
  have hd1 : decide (562949953421311 < (n : Int)) = false := by simp; omega
  have HN := hide hn
  clear hlen hn
  go_enter Tryd.func73, Tryd.ntmps73
  go_wp2
  go_loopw [0, 4] (fun x a wr => ∃ j m : Nat, j < 7 ∧ Hid (m ≤ 562949953421311) ∧ x = .int .i64 m ∧ a = .int .i64 j ∧ Hid ((varL n).drop j = varL m) ∧ Holds8 5 wr w.heap.size (rowOf (padTo 7 (varL n)) j) ∧ Below w.heap.size w wr ∧ w.heap.size < wr.heap.size)
    (fun x _ _ => (intOf x).toNat)
  case atStart =>
    refine ⟨0, n, by omega, HN.out, rfl, rfl, by simp [Hid], ?_, (Below.refl _ _).alloc (Nat.le_refl _) _, by simp⟩
    rw [rowOf_zero, length_padTo 7 _ HL.out]
    exact Holds8.new _ _ _
  case round =>
    obtain ⟨j, m, hj, HM, rfl, rfl, HD, hrow, hbel, hsz⟩ := hrel
    clear hd0 hd1 hmk
    have HR := hide hrow
    have HB := hide hbel
    clear hrow hbel
    have hp7 := length_padTo 7 _ HL.out
    have C3 := hide (show (rowOf (padTo 7 (varL n)) j).length = 7 by rw [length_rowOf _ _ (by omega), hp7])
    have C4 := hide (rowOf_step (padTo 7 (varL n)) j 1 (by omega))
    have C2 := hide (show (((padTo 7 (varL n)).drop j).take 1).length = 1 by simp [hp7]; omega)
    have HP := hide hp7
    clear hp7
    by_cases hlt : 128 ≤ m
    · have hdr := HD.out
      rw [varL_big m hlt] at hdr
      obtain ⟨h1, h2, h3⟩ := drop_step hdr
      have C1 := hide (show #[Value.int .u8 ((m : Int) % 128 + 128)] = (byteVals (((padTo 7 (varL n)).drop j).take 1)).toArray by
        have := HP.out
        rw [take1_drop _ _ (by omega), padTo_at 7 _ j h1, h3 h1]
        simp [byteVals]
        omega)
      have C5 := hide h2
      have hj6 : j < 6 := by
        have := HL.out
        have hh := varL_pos (m / 128)
        rw [← h2, List.length_drop] at hh
        omega
      clear h2 h3 h1 hdr
      have hm2 := HM.out
      go_wp2_with (go_at_call 104; refine (put_new w.heap.size 7 j 1 (rowOf (padTo 7 (varL n)) j) (((padTo 7 (varL n)).drop j).take 1) _ wr HR.out hsz C1.out C3.out C2.out (by omega) (by omega) (by omega)).mono ?_; rintro e w' ⟨rfl, hrow', hbel', hsz'⟩)
      go_roundw
      case rel => exact ⟨j + 1, m / 128, by omega, Nat.le_trans (Nat.div_le_self _ _) HM.out, by go_num, rfl, C5.out, by rw [← C4.out]; exact hrow', HB.out.trans hbel', by omega⟩
      case measure => simp [intOf]; omega
    · have hdr := HD.out
      rw [varL_small m (by omega)] at hdr
      obtain ⟨h1, h2, h3⟩ := drop_step hdr
      have hlast : (varL n).length = j + 1 := by
        have := congrArg List.length h2
        simp at this
        omega
      have C1 := hide (show #[Value.int .u8 (m : Int)] = (byteVals (((padTo 7 (varL n)).drop j).take 1)).toArray by
        have := HP.out
        rw [take1_drop _ _ (by omega), padTo_at 7 _ j h1, h3 h1]
        simp [byteVals]
        omega)
      have HE := hide hlast
      clear h2 h3 h1 hdr hlast
      have C6 := hide (show (splice (rowOf (padTo 7 (varL n)) j) j (((padTo 7 (varL n)).drop j).take 1)).take (j + 1) = varL n by
        have hP := HP.out
        have hL := HL.out
        rw [C4.out, rowOf, ← HE.out, List.take_append_of_le_length (by rw [List.length_take, hP]; omega), List.take_take, Nat.min_self, padTo, List.take_append_of_le_length (Nat.le_refl _), List.take_length])
      go_wp2_with (go_at_call 104; refine (put_new w.heap.size 7 j 1 (rowOf (padTo 7 (varL n)) j) (((padTo 7 (varL n)).drop j).take 1) _ wr HR.out hsz C1.out C3.out C2.out (by omega) (by omega) (by omega)).mono ?_; rintro e w' ⟨rfl, hrow', hbel', hsz'⟩; have hcv := run_convTake w.heap.size (j + 1) 7 _ (varL n) w' hrow' HE.out C6.out; have HB' := hide hbel'; clear hrow' hbel')
      go_ret
      exact ⟨rfl, HB.out.trans HB'.out⟩

theorem iVar_no (n : Int) (w : World) (h : ¬ (0 ≤ n ∧ n ≤ 562949953421311)) :
    Calls Tryd.prog 73 #[.int .i64 n] w (StrPost w []) := by
  by_cases h0 : n < 0
  · have hd0 : decide (n < 0) = true := by simpa using h0
    clear h h0
    go_enter Tryd.func73, Tryd.ntmps73
    go_wp2
    go_ret
    exact ⟨rfl, Below.refl _ _⟩
  · have hd0 : decide (n < 0) = false := by simpa using h0
    have hd1 : decide (562949953421311 < n) = true := by simp; omega
    clear h h0
    go_enter Tryd.func73, Tryd.ntmps73
    go_wp2
    go_ret
    exact ⟨rfl, Below.refl _ _⟩

/-- Var, for whatever number -/
def varV (n : Int) : List UInt8 := if 0 ≤ n ∧ n ≤ 562949953421311 then varL n.toNat else []

theorem iVar_any (n : Int) (w : World) : Calls Tryd.prog 73 #[.int .i64 n] w (StrPost w (varV n)) := by
  by_cases h : 0 ≤ n ∧ n ≤ 562949953421311
  · rw [varV, if_pos h]
    have := iVar_yes n.toNat w (by omega)
    rwa [Int.toNat_of_nonneg h.1] at this
  · rw [varV, if_neg h]
    exact iVar_no n w h
end Go.Proofs.YtakjjfbocokpaaaDoor
