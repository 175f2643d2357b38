/-
  The walk of laws.FnExactShowRow.
-/
import Derived.Test.YtakjjfbocokpaaaDoorSzLogRow
import Derived.Test.YtakjjfbocokpaaaDoorLogI
import Derived.Test.YtakjjfbocokpaaaDoorLogS
import Derived.Test.YtakjjfbocokpaaaDoorRowLogRow
namespace Go.Proofs.YtakjjfbocokpaaaDoor
open Go.ChangeShapes Go.WideShapes Go.ChangeAt Go.RowKit

set_option maxHeartbeats 1000000 in
set_option maxRecDepth 20000 in
theorem law_ShowRow (t b n : Int) (x : ByteArray) (y : Bool) (w : World) (_ : (Lit.int .i64 t).wf = true) (_ : (Lit.int .i64 b).wf = true) (_ : (Lit.int .i64 n).wf = true) (hx : x.size ≤ maxLen) (h0 : 1 < w.heap.size) (hT : Hid (CrcTabIn w)) :
    Calls Tryd.prog 8 #[.agg #[.int .i64 t, .int .i64 b, .int .i64 n, .string x, .bool y]] w (TruePost w) := by
  have HB0 := hide ((Below.refl _ w).alloc (Nat.le_refl _) (.cells #[.int .i64 t, .int .i64 b, .int .i64 n, .string x, .bool y] 53))
  have HD := hide (fun (w' : World) (h : Below (w.heap.size + 1) (w.alloc (.cells #[.int .i64 t, .int .i64 b, .int .i64 n, .string x, .bool y] 53)) w') => box5_cells h)
  have HSZ := hide (fun W => szLogRow_any t b n x y 1048576 W hx (by omega) (by omega))
  have HTO := hide (fun W => toLogRow_any t b n x y W)
  have HSP := hide (fun W => sShowRow_any t b n x y W)
  have HIM := hide (fun W (h : Below w.heap.size w W) => iShowRow_any t b n x y W (Nat.lt_of_lt_of_le h0 h.size) (hide (hT.out.below h h0)))
  obtain ⟨V, hV⟩ : ∃ V, V = showR (t, b, n, x, y) := ⟨_, rfl⟩
  rw [← hV] at HSP HIM
  clear hV hx
  go_enter Tryd.func8, Tryd.ntmps8
  go_wp2_with fail
  refine (HSZ.out _).mono ?_
  rintro e w1 ⟨z, rfl, hz0, hz1, _, hb1⟩
  rw [Go.Deep.nblk_alloc] at hb1
  have HW1 := hide hb1
  clear hb1 HSZ
  by_cases hz : z < 0
  · go_wp2_with fail
    go_ret
    exact ⟨rfl, HB0.out.trans (HW1.out.mono (by omega))⟩
  obtain ⟨c0, c1, c2, c3, c4⟩ := HD.out _ HW1.out
  have hs1 := HW1.out.size
  rw [Go.Deep.nblk_alloc] at hs1
  go_wp2_with fail
  refine (HTO.out _).mono ?_
  rintro e w2 ⟨rfl, hb2⟩
  have HW2 := hide (HW1.out.trans (hb2.mono hs1))
  clear hb2 c0 c1 c2 c3 c4 hz hz0 hz1
  go_wp2_with fail
  refine (HSP.out _).mono ?_
  rintro e w3 ⟨rfl, hb3⟩
  have HW3 := hide (HW2.out.trans (hb3.mono (by have := HW2.out.size; rw [Go.Deep.nblk_alloc] at this; exact this)))
  clear hb3
  obtain ⟨c0, c1, c2, c3, c4⟩ := HD.out _ HW3.out
  have hs3 := HW3.out.size
  rw [Go.Deep.nblk_alloc] at hs3
  go_wp2_with fail
  refine (HTO.out _).mono ?_
  rintro e w4 ⟨rfl, hb4⟩
  have HW4 := hide (HW3.out.trans (hb4.mono hs3))
  clear hb4 c0 c1 c2 c3 c4
  have HB4 := hide (HB0.out.trans (HW4.out.mono (by omega)))
  go_wp2_with fail
  refine (HIM.out _ HB4.out).mono ?_
  rintro e w5 ⟨rfl, hb5⟩
  have HB5 := hide (HB4.out.trans (hb5.mono HB4.out.size))
  clear hb5
  go_wp2_with fail
  go_ret
  exact ⟨rfl, HB5.out⟩
end Go.Proofs.YtakjjfbocokpaaaDoor
