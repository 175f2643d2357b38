/-
  The walk of laws.FnExactKeyOk: it returns true.
-/
import Derived.Test.YtpgbjbhoefjodaaKeyZ
import Derived.Test.YtpgbjbhoefjodaaKeyT
import Derived.Test.YtpgbjbhoefjodaaKeyE
import Derived.Test.YtpgbjbhoefjodaaKeyP
import Derived.Test.YtpgbjbhoefjodaaBox
import Derived.Deep.RegionHeld3
namespace Go.Proofs.Ytpgbjbhoefjodaa
open Go.ChangeShapes Go.WideShapes Go.ChangeAt Go.RowKit

set_option maxHeartbeats 2000000 in
theorem law_keyOk (m : ByteArray) (a : Option Addr) (cap : Nat) (L : List Slot) (x : Int) (w : World) (hm : m.size ≤ maxLen) (hr : SlotRd w w.heap.size a L) (hl : L.length ≤ maxLen) (hk : ∀ j, (ky L j).size ≤ maxLen) (_hx : (Lit.int .i64 x).wf = true) :
    Calls Try.prog 3 #[.agg #[.string m, .slice a L.length cap, .int .i64 x]] w (TruePost w) := by
  have HR := hide hr
  clear hr
  go_enter Try.func3, Try.ntmps3
  go_wp2_with fail
  have hB0 := fun o => (Below.refl w.heap.size w).alloc (Nat.le_refl _) o
  refine (szKeyDev_any m a cap L x 1048576 _ hm ((HR.out.below (hB0 _) (Nat.le_refl _)).mono (by simp)) hl hk (by omega) (by omega)).mono ?_
  rintro e w1 ⟨y, rfl, hy0, hy1, hP, hb1⟩
  have HX1 := hide ((Box3.new w (.string m) (.slice a L.length cap) (.int .i64 x) 24).below hb1 (by simp))
  have HB1 := hide ((hB0 _).trans (hb1.mono (by simp)))
  have HP := hide hP
  clear hP hb1 hB0 hm hl hk
  obtain ⟨x1, c10, c11, c12⟩ := HX1.out
  by_cases hy : y < 0
  · go_wp2_with fail
    go_ret
    exact ⟨rfl, HB1.out⟩
  have hlen := (HP.out (by omega)).2.1
  have HL := hide hlen
  clear hlen
  go_wp2_with fail
  refine (toKeyDev_any m a cap L x _ ((HR.out.below HB1.out (Nat.le_refl _)).mono HB1.out.size) HL.out).mono ?_
  rintro e w2 ⟨g2, rfl, hg2, hz2, hh2, hb2⟩
  have HX2 := hide (HX1.out.below hb2 x1)
  have HB2 := hide (HB1.out.trans (hb2.mono HB1.out.size))
  have HH2 := hide hh2
  clear hh2 hb2 c10 c11 c12 HX1 HB1 hy
  go_wp2_with fail
  refine (sKeyOk_any m _ _ L x _ HH2.out.rd (by have := HL.out; omega)).mono ?_
  rintro e w3 ⟨rfl, hb3⟩
  have HX3 := hide (HX2.out.below hb3 HX2.out.1)
  have HB3 := hide (HB2.out.trans (hb3.mono HB2.out.size))
  clear hb3 HX2 HB2 HH2
  obtain ⟨x3, c30, c31, c32⟩ := HX3.out
  obtain ⟨V, hV⟩ : ∃ V, V = devOkB m L x := ⟨_, rfl⟩
  rw [← hV]
  have HE := hide hV
  clear hV
  go_wp2_with fail
  refine (toKeyDev_any m a cap L x _ ((HR.out.below HB3.out (Nat.le_refl _)).mono HB3.out.size) HL.out).mono ?_
  rintro e w4 ⟨g4, rfl, hg4, hz4, hh4, hb4⟩
  have HX4 := hide (HX3.out.below hb4 x3)
  have HB4 := hide (HB3.out.trans (hb4.mono HB3.out.size))
  have HH4 := hide hh4
  clear hh4 hb4 HX3 HB3 c30 c31 c32 x3
  go_wp2_with fail
  have hal := fun o => (Below.refl w4.heap.size w4).alloc (Nat.le_refl _) o
  have HI := hide (fun W hr => iKeyOk_any m (some ⟨g4, 0, none⟩) L.length L x W hr (by have := HL.out; omega))
  rw [show devOkB m L x = V from HE.out.symm] at HI
  refine (HI.out _ ((HH4.out.rd.below (hal _) (Nat.le_refl _)).mono (by simp))).mono ?_
  rintro e w5 ⟨rfl, hb5⟩
  have HD5 := hide ((Box3.new w4 (.string m) (.slice (some ⟨g4, 0, none⟩) L.length L.length) (.int .i64 x) 29).below hb5 (by simp))
  have HX5 := hide ((HX4.out.below (hal _) HX4.out.1).below hb5 (by have := HX4.out.1; simp; omega))
  have HH5 := hide ((HH4.out.below (hal _) hz4).below hb5 (by simp; omega))
  have hz5 : g4 < w5.heap.size := by have := hb5.size; simp at this; omega
  have HB5 := hide ((HB4.out.trans ((hal _).mono HB4.out.size)).trans (hb5.mono (by have := HB4.out.size; simp; omega)))
  clear hb5 hal HX4 HB4 HH4 HI HE
  obtain ⟨x5, c50, c51, c52⟩ := HX5.out
  obtain ⟨d5, e50, e51, e52⟩ := HD5.out
  go_wp2_with fail
  go_region_held3 (fun w' => w'.cell? ⟨w.heap.size, 0, none⟩ = some (.string m) ∧ w'.cell? ⟨w.heap.size, 1, none⟩ = some (.slice a L.length cap) ∧ w'.cell? ⟨w.heap.size, 2, none⟩ = some (.int .i64 x) ∧
      w'.cell? ⟨w4.heap.size, 0, none⟩ = some (.string m) ∧ w'.cell? ⟨w4.heap.size, 1, none⟩ = some (.slice (some ⟨g4, 0, none⟩) L.length L.length) ∧ w'.cell? ⟨w4.heap.size, 2, none⟩ = some (.int .i64 x))
    (first
      | exact ⟨c50, c51, c52, e50, e51, e52⟩
      | exact ⟨c60, c61, c62, e60, e61, e62⟩
      | exact ⟨c70, c71, c72, e70, e71, e72⟩)
    (first
      | (go_at_call 9; refine (toKeyDev_any m a cap L x _ ((HR.out.below HB5.out.drew (Nat.le_refl _)).mono HB5.out.size) HL.out).mono ?_; rintro e w6 ⟨g6, rfl, hg6, hz6, hh6, hb6⟩; have HX6 := hide (HX5.out.drew.below hb6 x5); have HD6 := hide (HD5.out.drew.below hb6 d5); have HB6 := hide (HB5.out.drew.trans (hb6.mono HB5.out.size)); have HH6 := hide hh6; have HG6 := hide (HH5.out.drew.below hb6 hz5); clear hh6 hb6; obtain ⟨_, c60, c61, c62⟩ := HX6.out; obtain ⟨_, e60, e61, e62⟩ := HD6.out)
      | (go_at_call 11; refine (eqKeyDev_same m _ _ _ _ L x _ HG6.out.rd HH6.out.rd (by have := HL.out; omega)).mono ?_; rintro e w7 ⟨rfl, hb7⟩; have HB7 := hide (HB6.out.trans (hb7.mono HB6.out.size)); have HX7 := hide (HX6.out.below hb7 HX6.out.1); have HD7 := hide (HD6.out.below hb7 HD6.out.1); clear hb7; obtain ⟨_, c70, c71, c72⟩ := HX7.out; obtain ⟨_, e70, e71, e72⟩ := HD7.out))
  all_goals go_wp2_with fail
  all_goals go_ret
  all_goals exact ⟨rfl, HB7.out⟩
end Go.Proofs.Ytpgbjbhoefjodaa
