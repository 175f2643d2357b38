/-
  The walk of laws.FnExactIterOk.
-/
import Derived.Test.YtphfakdbgohhgaaIterT
import Derived.Test.YtphfakdbgohhgaaIterZ
import Derived.Deep.RegionHeld3
namespace Go.Proofs.Ytphfakdbgohhgaa
open Go.ChangeShapes Go.WideShapes Go.ChangeAt Go.RowKit

set_option maxHeartbeats 1000000 in
set_option maxRecDepth 20000 in
theorem law_IterOk (a : Option Addr) (cap : Nat) (P : List KVE) (b c : ByteArray) (x : Int) (w : World) (hr : elKV.Rd w w.heap.size a P) (hl : P.length ≤ maxLen) (hk : ∀ z ∈ P, cameKV z) (hb : b.size ≤ maxLen) (hcc : c.size ≤ maxLen) (_ : (Lit.int .i64 x).wf = true) :
    Calls Try.prog 5 #[.agg #[.slice a P.length cap, .string b, .string c, .int .i64 x]] w (TruePost w) := by
  have HR := hide hr
  have HB0 := hide ((Below.refl _ w).alloc (Nat.le_refl _) (.cells #[.slice a P.length cap, .string b, .string c, .int .i64 x] 52))
  have HX0 := hide (BoxV.new 52 w #[.slice a P.length cap, .string b, .string c, .int .i64 x])
  have HSZ := hide (fun W (h : Below w.heap.size w W) => szIter_any a cap P b c x 1048576 W ((HR.out.below h (Nat.le_refl _)).mono h.size) hl hk hb hcc (by omega) (by omega))
  have HTO := hide (fun W (h : Below w.heap.size w W) (h2 : P.length ≤ 1048576) => toIter_any a cap P b c x W ((HR.out.below h (Nat.le_refl _)).mono h.size) h2)
  have HSP := hide (fun W g (hf : itFit P b c) (h : elKV.Holds W g P) => sIterOk_any (some ⟨g, 0, none⟩) P.length (P, b, c, x) W h.rd (by have := hf.1.1; show P.length ≤ _; omega))
  have HIM := hide (fun W g (hf : itFit P b c) (h : elKV.Holds W g P) (h3 : Below w.heap.size w W) => iIterOk_any (some ⟨g, 0, none⟩) P.length (P, b, c, x) W h.rd (by have := hf.1.1; show P.length ≤ _; omega))
  have HEQ := hide (fun W a1 a2 c1 c2 (h1 : elKV.Rd W W.heap.size a1 P) (h2 : elKV.Rd W W.heap.size a2 P) (hf : itFit P b c) => eqIter_same a1 a2 c1 c2 P b c x W h1 h2 (by have := hf.1.1; omega))
  obtain ⟨V, hV⟩ : ∃ V, V = decide (itOk (P, b, c, x)) := ⟨_, rfl⟩
  rw [← hV] at HSP HIM
  dsimp only at HSP HIM
  have hqq : (V != V) = false := by cases V <;> rfl
  clear hV hr hk hb hcc
  go_enter Try.func5, Try.ntmps5
  go_wp2_with fail
  refine (HSZ.out _ HB0.out).mono ?_
  rintro e w1 ⟨y, rfl, hy0, hy1, hP, hb1⟩
  have HP := hide hP
  have HB1 := hide (HB0.out.trans (hb1.mono HB0.out.size))
  have HX1 := hide (HX0.out.below hb1 HX0.out.lt)
  clear hP hb1 HSZ HB0 HX0
  by_cases hy : y < 0
  · go_wp2_with fail
    go_ret
    exact ⟨rfl, HB1.out⟩
  have HZ := hide (HP.out (by omega))
  obtain ⟨c0, c1, c2, c3⟩ := HX1.out.four'
  clear HP
  go_wp2_with fail
  refine (HTO.out _ HB1.out HZ.out.1.1).mono ?_
  rintro e w2 ⟨g2, rfl, hg2, hz2, hh2, hb2⟩
  have HB2 := hide (HB1.out.trans (hb2.mono HB1.out.size))
  have HX2 := hide (HX1.out.below hb2 HX1.out.lt)
  have HH2 := hide hh2
  clear c0 c1 c2 c3 hb2 hh2 HB1 HX1
  go_wp2_with fail
  refine (HSP.out _ _ HZ.out HH2.out).mono ?_
  rintro e w3 ⟨rfl, hb3⟩
  have HB3 := hide (HB2.out.trans (hb3.mono HB2.out.size))
  have HX3 := hide (HX2.out.below hb3 HX2.out.lt)
  obtain ⟨c0, c1, c2, c3⟩ := HX3.out.four'
  clear hb3 HB2 HX2 HH2 HSP
  go_wp2_with fail
  refine (HTO.out _ HB3.out HZ.out.1.1).mono ?_
  rintro e w4 ⟨g4, rfl, hg4, hz4, hh4, hb4⟩
  have HB4 := hide (HB3.out.trans (hb4.mono HB3.out.size))
  have HX4 := hide (HX3.out.below hb4 HX3.out.lt)
  have HH4 := hide hh4
  clear c0 c1 c2 c3 hb4 hh4 HB3 HX3
  obtain ⟨W, hW⟩ : ∃ W, W = w4.alloc (.cells #[.slice (some ⟨g4, 0, none⟩) P.length P.length, .string b, .string c, .int .i64 x] 56) := ⟨_, rfl⟩
  have HXW := hide (show BoxV 52 W w.heap.size _ from hW ▸ HX4.out.alloc _)
  have HBW := hide (show Below w.heap.size w W from hW ▸ HB4.out.alloc HB4.out.size _)
  have HYW := hide (show BoxV 56 W w4.heap.size _ from hW ▸ BoxV.new 56 w4 #[.slice (some ⟨g4, 0, none⟩) P.length P.length, .string b, .string c, .int .i64 x])
  have HHW := hide (show elKV.Holds W g4 P from hW ▸ HH4.out.below ((Below.refl w4.heap.size w4).alloc (Nat.le_refl _) _) hz4)
  have hzW : w4.heap.size < W.heap.size := HYW.out.lt
  clear HB4 HX4 HH4
  go_wp2_with fail
  rw [← hW]
  clear hW
  refine (HIM.out _ _ HZ.out HHW.out HBW.out).mono ?_
  rintro e w5 ⟨rfl, hb5⟩
  have HB5 := hide (HBW.out.trans (hb5.mono HBW.out.size))
  have HX5 := hide (HXW.out.below hb5 HXW.out.lt)
  have HY5 := hide (HYW.out.below hb5 HYW.out.lt)
  have HH5 := hide (HHW.out.below hb5 (by omega))
  have hz5 := hb5.size
  obtain ⟨c0, c1, c2, c3⟩ := HX5.out.four'
  obtain ⟨d0, d1, d2, d3⟩ := HY5.out.four'
  clear hb5 HBW HXW HYW HHW HIM
  go_wp2_with fail
  go_region_held3 (fun w' => (w'.cell? ⟨w.heap.size, 0, none⟩ = some (.slice a P.length cap) ∧ w'.cell? ⟨w.heap.size, 1, none⟩ = some (.string b) ∧ w'.cell? ⟨w.heap.size, 2, none⟩ = some (.string c) ∧ w'.cell? ⟨w.heap.size, 3, none⟩ = some (.int .i64 x)) ∧
      (w'.cell? ⟨w4.heap.size, 0, none⟩ = some (.slice (some ⟨g4, 0, none⟩) P.length P.length) ∧ w'.cell? ⟨w4.heap.size, 1, none⟩ = some (.string b) ∧ w'.cell? ⟨w4.heap.size, 2, none⟩ = some (.string c) ∧ w'.cell? ⟨w4.heap.size, 3, none⟩ = some (.int .i64 x)))
    (first
      | with_reducible exact ⟨HX5.out.four', HY5.out.four'⟩
      | with_reducible exact ⟨HX5.out.drew.four', HY5.out.drew.four'⟩
      | with_reducible exact ⟨HX6.out.four', HY6.out.four'⟩
      | with_reducible exact ⟨HX7.out.four', HY7.out.four'⟩)
    (first
      | (go_at_call 33
         refine (HTO.out _ HB5.out.drew HZ.out.1.1).mono ?_
         rintro e w6 ⟨g6, rfl, hg6, hz6, hh6, hb6⟩
         have hb6' := below_drew' hb6
         have HB6 := hide (HB5.out.trans (hb6'.mono HB5.out.size))
         have HX6 := hide (HX5.out.below hb6' HX5.out.lt)
         have HY6 := hide (HY5.out.below hb6' HY5.out.lt)
         have HH6 := hide (HH5.out.below hb6' (by omega))
         have HG6 := hide hh6
         clear hb6 hb6' hh6)
      | (go_at_call 35
         refine (HEQ.out _ _ _ _ _ HH6.out.rd HG6.out.rd HZ.out).mono ?_
         rintro e w7 ⟨rfl, hb7⟩
         have HB7 := hide (HB6.out.trans (hb7.mono HB6.out.size))
         have HX7 := hide (HX6.out.below hb7 HX6.out.lt)
         have HY7 := hide (HY6.out.below hb7 HY6.out.lt)
         clear hb7))
  go_wp2_with fail
  go_ret
  exact ⟨rfl, HB7.out⟩
end Go.Proofs.Ytphfakdbgohhgaa
