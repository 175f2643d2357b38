/-
  Contract of (*impl.chaWords).text.
-/
import Derived.Test.YtakjjfbocokpaaaDoorMathY
import Derived.Test.YtakjjfbocokpaaaDoorPut
import Derived.Test.YtakjjfbocokpaaaDoorConv
namespace Go.Proofs.YtakjjfbocokpaaaDoor
open Go.ChangeShapes Go.WideShapes Go.ChangeAt Go.RowKit

set_option maxRecDepth 100000

theorem put_newI (g n p m : Nat) (q : Int) (L cs : List UInt8) (vs : Array Value) (w : World)
    (hg : Holds8 5 w g L) (hlt : g < w.heap.size) (hq : (p : Int) = q) (hv : vs = (byteVals cs).toArray) (hL : L.length = n) (hm : cs.length = m) (hfit : p + m ≤ n) (hpos : 0 < m) (hn : n ≤ 1099511627776) :
    Calls Tryd.prog 104 #[.slice (some ⟨g, 0, none⟩) n n, .int .i64 q, .slice (some ⟨w.heap.size, 0, none⟩) m m] (w.alloc (.cells vs 5)) (PutNew 5 w g p m L cs) := by
  subst hq
  exact put_new g n p m L cs vs w hg hlt hv hL hm hfit hpos hn
theorem word4_arr (x : Nat) (h : x < 4294967296) : #[Value.int .u8 ((x : Int) % 256), .int .u8 ((x : Int) / 256 % 256), .int .u8 ((x : Int) / 65536 % 256), .int .u8 ((x : Int) / 16777216)] = (byteVals (word4 x)).toArray := by
  have : (x : Int) / 16777216 = ((x / 16777216 % 256 : Nat) : Int) := by omega
  rw [this]
  simp [byteVals, word4]
set_option maxHeartbeats 4000000 in
theorem iText (T : TypeId) (g : Nat) (L : List Nat) (w : World) (hW : Words .u32 T [] w g L) (hl : L.length = 16) (hF : Fit L) (hg : g < w.heap.size) :
    Calls Tryd.prog 109 #[.pointer (some ⟨g, 0, none⟩)] w (StrPost w (wBytes L)) := by
  have hmk : (Instr.makeSlice 22 (.int .i64 64) (.int .i64 64)).run Tryd.prog w = .ok (.slice (some ⟨w.heap.size, 0, none⟩) 64 64) (w.alloc (.cells (byteVals (List.replicate 64 0)).toArray 5)) := run_make8 64 (by omega) w
  have HL := hide (show (wBytes L).length = 64 by rw [length_wBytes, hl])
  have HW := hide hW
  have Hl := hide hl
  clear hW hl
  go_enter Tryd.func109, Tryd.ntmps109
  go_wp2
  clear hmk
  go_loopw [4, 6, 9] (fun a _ i wr => ∃ j : Nat, j ≤ 16 ∧ a = .int .i64 ((4 * j : Nat) : Int) ∧ i = .int .i64 j ∧ Hid (Holds8 5 wr w.heap.size (rowOf (wBytes L) (4 * j))) ∧ Hid (Below w.heap.size w wr) ∧ w.heap.size < wr.heap.size)
    (fun _ _ i _ => 16 - (intOf i).toNat)
  case atStart =>
    refine ⟨0, Nat.zero_le _, rfl, rfl, ?_, (Below.refl _ _).alloc (Nat.le_refl _) _, by simp⟩
    show Holds8 _ _ _ _
    rw [Nat.mul_zero, rowOf_zero, HL.out]
    exact Holds8.new _ _ _
  case round =>
    obtain ⟨j, hj, rfl, rfl, HR, HB, hsz⟩ := hrel
    by_cases hlt : j < 16
    · have c1 := (HW.out.below HB.out hg).cell j (by rw [Hl.out]; exact hlt)
      have bx := hF.wd j
      have C0 := hide (wBytes_at L j (by rw [Hl.out]; exact hlt))
      generalize wd L j = x at *
      have C1 := hide (show #[Value.int .u8 ((x : Int) % 256), .int .u8 ((x : Int) / 256 % 256), .int .u8 ((x : Int) / 65536 % 256), .int .u8 ((x : Int) / 16777216)] = (byteVals (((wBytes L).drop (4 * j)).take 4)).toArray by rw [C0.out]; exact word4_arr x bx)
      have C2 := hide (show (((wBytes L).drop (4 * j)).take 4).length = 4 by rw [C0.out]; rfl)
      have C3 := hide (show (rowOf (wBytes L) (4 * j)).length = 64 by rw [length_rowOf _ _ (by rw [HL.out]; omega), HL.out])
      have C4 := hide (rowOf_step (wBytes L) (4 * j) 4 (by rw [HL.out]; omega))
      go_wp2_with (go_at_call 104; go_loud (refine (put_newI w.heap.size 64 (4 * j) 4 _ (rowOf (wBytes L) (4 * j)) (((wBytes L).drop (4 * j)).take 4) _ wr HR.out hsz (by omega) C1.out C3.out C2.out (by omega) (by omega) (by omega)).mono ?_); rintro e w' ⟨rfl, hrow', hbel', hsz'⟩)
      go_roundw
      case rel => exact ⟨j + 1, by omega, by go_num, by go_num, by rw [Nat.mul_add, ← C4.out]; exact hrow', HB.out.trans hbel', by omega⟩
      case measure => simp [intOf]; omega
    · have e4 : j = 16 := by omega
      have hcv := run_convTake w.heap.size 64 64 _ (wBytes L) wr HR.out HL.out (by rw [e4, show 4 * 16 = (wBytes L).length from HL.out.symm, rowOf_all, ← HL.out, List.take_length])
      go_wp2
      go_ret
      exact ⟨rfl, HB.out⟩
end Go.Proofs.YtakjjfbocokpaaaDoor
