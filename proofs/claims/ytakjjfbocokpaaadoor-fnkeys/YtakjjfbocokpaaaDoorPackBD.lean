/-
  Texts of this proof, put together: KeyS.
-/
import Derived.Test.YtakjjfbocokpaaaDoorPackBB
import Derived.StillTailTactics
import Derived.Laws.StructEq

/-
  Contracts of laws.sameKeys (what is equal is told equal) and laws.big.
-/
namespace Go.Proofs.YtakjjfbocokpaaaDoor
open Go.ChangeShapes Go.WideShapes Go.ChangeAt Go.RowKit
set_option maxRecDepth 20000

theorem big_any (a : Option Addr) (n cap : Nat) (w : World) : Calls Tryd.prog 12 #[.slice a n cap] w fun e w' => e = .returned (.bool (decide ((1048576 : Int) < (n : Int)))) ∧ w' = w := by
  go_enter Tryd.func12, Tryd.ntmps12
  go_wp2
  go_ret
  exact ⟨rfl, rfl⟩

set_option maxHeartbeats 1000000 in
theorem sameKeys_same (m : ByteArray) (a1 a2 : Option Addr) (c1 c2 : Nat) (L : List Slot) (x : Int) (w : World) (h1 : SlotRd w w.heap.size a1 L) (h2 : SlotRd w w.heap.size a2 L) (hl : L.length ≤ 2097152) :
    Calls Tryd.prog 26 #[.agg #[.string m, .slice a1 L.length c1, .int .i64 x], .agg #[.string m, .slice a2 L.length c2, .int .i64 x]] w (BoolPost w true) := by
  have H1 := hide h1
  have H2 := hide h2
  clear h1 h2
  obtain ⟨n, hn⟩ : ∃ n, n = L.length := ⟨_, rfl⟩
  have HN := hide hn
  rw [← hn] at hl
  rw [← hn]
  clear hn
  obtain ⟨W, hW⟩ : ∃ W, W = (w.alloc (.cells #[.string m, .slice a1 n c1, .int .i64 x] 31)).alloc (.cells #[.string m, .slice a2 n c2, .int .i64 x] 31) := ⟨_, rfl⟩
  have HX := hide (show BoxB 31 W w.heap.size (.string m) (.slice a1 n c1) (.int .i64 x) from hW ▸ (BoxB.new _ w _ _ _).alloc _)
  have HY := hide (show BoxB 31 W (w.heap.size + 1) (.string m) (.slice a2 n c2) (.int .i64 x) from hW ▸ (by simpa using BoxB.new 31 (w.alloc (.cells #[.string m, .slice a1 n c1, .int .i64 x] 31)) (.string m) (.slice a2 n c2) (.int .i64 x)))
  have HB := hide (show Below w.heap.size w W from hW ▸ ((Below.refl _ _).alloc (Nat.le_refl _) _).alloc (by simp) _)
  go_enter Tryd.func26, Tryd.ntmps26
  go_wp2_with fail
  rw [← hW]
  clear hW
  go_loopw [5] (fun i wr => ∃ j : Nat, i = .int .i64 j ∧ j ≤ n ∧ Hid (Below W.heap.size W wr)) (fun i _ => n - (intOf i).toNat)
  case atStart => exact ⟨0, rfl, by omega, Below.refl _ _⟩
  case round =>
    obtain ⟨j, rfl, hj, HBr⟩ := hrel
    obtain ⟨x0, x1, x2⟩ := (HX.out.below HBr.out HX.out.lt).cells
    obtain ⟨y0, y1, y2⟩ := (HY.out.below HBr.out HY.out.lt).cells
    have HBw := hide (HB.out.trans (HBr.out.mono HB.out.size))
    by_cases hlt : j < n
    · have hjL : j < L.length := by rw [← HN.out]; exact hlt
      obtain ⟨b1, o1, rfl, hb1, hc1⟩ := H1.out (by omega)
      obtain ⟨b2, o2, rfl, hb2, hc2⟩ := H2.out (by omega)
      obtain ⟨p0, p1⟩ := hc1 j hjL
      obtain ⟨q0, q1⟩ := hc2 j hjL
      have d0 := (HBw.out.cell (p := ⟨b1, o1 + j * 2, none⟩) hb1).trans p0
      have d1 := (HBw.out.cell (p := ⟨b1, o1 + j * 2 + 1, none⟩) hb1).trans p1
      have e0 := (HBw.out.cell (p := ⟨b2, o2 + j * 2, none⟩) hb2).trans q0
      have e1 := (HBw.out.cell (p := ⟨b2, o2 + j * 2 + 1, none⟩) hb2).trans q1
      clear hc1 hc2 p0 p1 q0 q1 hjL
      generalize tn L j = tt at *
      generalize ky L j = kk at *
      go_wp2_with fail
      go_still_tail 10, (by kernel_rfl)
      change wpList _ _ _ _ _ wr.drew
      go_wp2_with fail
      go_roundw
      case rel => exact ⟨j + 1, by go_num, by omega, hide HBr.out.drew⟩
      case measure => simp [intOf]; omega
    · go_wp2_with fail
      go_ret
      exact ⟨rfl, HBw.out⟩
end Go.Proofs.YtakjjfbocokpaaaDoor
