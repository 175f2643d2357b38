/-
  Contract of impl.Hex.
-/
import Derived.Test.YtbogonhmpibelaaDoorPut
import Derived.Test.YtbogonhmpibelaaDoorConv
import Derived.Test.YtbogonhmpibelaaDoorMath4
import Derived.Test.YtbogonhmpibelaaDoorBytes
import Derived.Deep.RegionWith
import Derived.Deep.DeepMust
namespace Go.Proofs.YtbogonhmpibelaaDoor
open Go.ChangeShapes Go.WideShapes Go.ChangeAt Go.RowKit

theorem hexIdx : ∀ (k : Nat) (h : k < 16), (ByteArray.mk #[48, 49, 50, 51, 52, 53, 54, 55, 56, 57, 97, 98, 99, 100, 101, 102])[k]'h = hexD k := by decide

theorem hexIdxI (k : Nat) (x : Int) (hx : x = (k : Int)) (h : k < 16) (hb : x.toNat < (ByteArray.mk #[48, 49, 50, 51, 52, 53, 54, 55, 56, 57, 97, 98, 99, 100, 101, 102]).size) : (ByteArray.mk #[48, 49, 50, 51, 52, 53, 54, 55, 56, 57, 97, 98, 99, 100, 101, 102])[x.toNat]'hb = hexD k := by
  subst hx; exact hexIdx k h

set_option maxHeartbeats 4000000 in
theorem iHex_any (s : ByteArray) (w : World) (hm : s.size ≤ 549755813888) :
    Calls Tryd.prog 16 #[.string s] w (StrPost w (hexL (bl s))) := by
  have hmk : ∀ w, (Instr.makeSlice 22 (.int .i64 (2 * (s.size : Int))) (.int .i64 (2 * (s.size : Int)))).run Tryd.prog w = .ok (.slice (some ⟨w.heap.size, 0, none⟩) (2 * s.size) (2 * s.size)) (w.alloc (.cells (byteVals (List.replicate (2 * s.size) 0)).toArray 5)) := fun w => by
    have := run_make8 (2 * s.size) (by omega) w
    rwa [show ((2 * s.size : Nat) : Int) = 2 * (s.size : Int) by omega] at this
  have HL := hide (show (hexL (bl s)).length = 2 * s.size by rw [length_hexL, bl_len])
  go_enter Tryd.func16, Tryd.ntmps16
  go_wp2
  clear hmk
  go_loopw [4, 5, 12] (fun a _ i wr => ∃ j : Nat, j ≤ s.size ∧ a = .int .i64 ((2 * j : Nat) : Int) ∧ i = .int .i64 j ∧ Hid (Holds8 5 wr w.heap.size (rowOf (hexL (bl s)) (2 * j))) ∧ Hid (Below w.heap.size w wr) ∧ w.heap.size < wr.heap.size)
    (fun _ _ i _ => s.size - (intOf i).toNat)
  case atStart =>
    refine ⟨0, Nat.zero_le _, rfl, rfl, ?_, (Below.refl _ _).alloc (Nat.le_refl _) _, by simp⟩
    show Holds8 _ _ _ _
    rw [Nat.mul_zero, rowOf_zero, HL.out]
    exact Holds8.new _ _ _
  case round =>
    obtain ⟨j, hj, rfl, rfl, HR, HB, hsz⟩ := hrel
    by_cases hlt : j < s.size
    · have hc : (s[j]'hlt).toNat < 256 := (s[j]'hlt).toNat_lt
      have h3 := and15 (s[j]'hlt).toNat hc
      rw [Int.natCast_emod] at h3
      have b1 : (((s[j]'hlt).toNat : Int) / 16).toNat < 16 := by omega
      have b2 : (((s[j]'hlt).toNat : Int) % 16).toNat < 16 := by omega
      go_wp2
      have C1 := hide (show #[Value.int .u8 (((ByteArray.mk #[48, 49, 50, 51, 52, 53, 54, 55, 56, 57, 97, 98, 99, 100, 101, 102])[(((s[j]'hlt).toNat : Int) / 16).toNat]'b1).toNat : Int), Value.int .u8 (((ByteArray.mk #[48, 49, 50, 51, 52, 53, 54, 55, 56, 57, 97, 98, 99, 100, 101, 102])[(((s[j]'hlt).toNat : Int) % 16).toNat]'b2).toNat : Int)] = (byteVals (((hexL (bl s)).drop (2 * j)).take 2)).toArray by
        rw [hexIdxI ((s[j]'hlt).toNat / 16) _ (by omega) (by omega), hexIdxI ((s[j]'hlt).toNat % 16) _ (by omega) (by omega), hexL_drop _ _ (by rw [bl_len]; exact hlt), bl_at s j hlt]; rfl)
      have C2 := hide (show (((hexL (bl s)).drop (2 * j)).take 2).length = 2 by rw [hexL_drop _ _ (by rw [bl_len]; exact hlt)]; rfl)
      have C3 := hide (show (rowOf (hexL (bl s)) (2 * j)).length = 2 * s.size by rw [length_rowOf _ _ (by rw [HL.out]; omega), HL.out])
      have C4 := hide (rowOf_step (hexL (bl s)) (2 * j) 2 (by rw [HL.out]; omega))
      go_region_with (go_at_call 23; go_must (refine (put_drew w.heap.size (2 * s.size) (2 * j) 2 (2 * (j : Int)) (rowOf (hexL (bl s)) (2 * j)) (((hexL (bl s)).drop (2 * j)).take 2) _ wr HR.out hsz (by omega) C1.out C3.out C2.out (by omega) (by omega) (by omega)).mono ?_); rintro e w' ⟨rfl, hrow', hbel', hsz'⟩)
      all_goals
        go_wp2
        go_roundw
        case rel => exact ⟨j + 1, by omega, by go_num, by go_num, by rw [Nat.mul_add, ← C4.out]; exact hrow', HB.out.trans hbel', by omega⟩
        case measure => simp [intOf]; omega
    · obtain rfl : j = s.size := by omega
      have hcv := run_convTake w.heap.size (2 * s.size) (2 * s.size) _ (hexL (bl s)) wr HR.out HL.out (by rw [← HL.out, rowOf_all, List.take_length])
      go_wp2
      go_ret
      exact ⟨rfl, HB.out⟩
end Go.Proofs.YtbogonhmpibelaaDoor
