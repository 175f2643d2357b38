/-
  The walk of laws.FnExactDevRead: it returns true.
-/
import Derived.Test.YtnbaffdonbnocaaStrZ
import Derived.Test.YtnbaffdonbnocaaStrT
import Derived.Test.YtnbaffdonbnocaaStrE
import Derived.Test.YtnbaffdonbnocaaDevK
import Derived.Deep.RegionHeld3
namespace Go.Proofs.Ytnbaffdonbnocaa
open Go.ChangeShapes Go.WideShapes Go.ChangeAt Go.RowKit

set_option maxHeartbeats 4000000 in
theorem law_devRead (a a' : Option Addr) (cap cap' : Nat) (S : List ByteArray) (L : List Slot) (x t : Int) (w : World) (hs : StrRd w w.heap.size a S) (hsl : S.length ≤ maxLen) (hsk : ∀ j, (st S j).size ≤ maxLen) (hr : SlotRd w w.heap.size a' L) (hl : L.length ≤ maxLen) (hk : ∀ j, (ky L j).size ≤ maxLen) (_hx : (Lit.int .i64 x).wf = true) (_ht : (Lit.int .i64 t).wf = true) :
    Calls Try.prog 6 #[.agg #[.slice a S.length cap, .slice a' L.length cap', .int .i64 x], .int .i64 t] w (TruePost w) := by
  have HS := hide hs
  have HR := hide hr
  clear hr hs
  go_enter Try.func6, Try.ntmps6
  go_wp2_with fail
  have hB0 := fun o => (Below.refl w.heap.size w).alloc (Nat.le_refl _) o
  refine (szDev_any a a' cap cap' S L x 1048576 _ ((HS.out.below (hB0 _) (Nat.le_refl _)).mono (by simp)) hsl hsk ((HR.out.below (hB0 _) (Nat.le_refl _)).mono (by simp)) hl hk (by omega) (by omega)).mono ?_
  rintro e w1 ⟨y, rfl, hy0, hy1, hP, hb1⟩
  have HX1 := hide ((BoxB.new 43 w (.slice a S.length cap) (.slice a' L.length cap') (.int .i64 x)).below hb1 (by simp))
  have HB1 := hide ((hB0 _).trans (hb1.mono (by simp)))
  have HP := hide hP
  clear hP hb1 hB0 hl hk hsl hsk
  obtain ⟨c10, c11, c12⟩ := HX1.out.cells
  by_cases hy : y < 0
  · go_wp2_with fail
    go_ret
    exact ⟨rfl, HB1.out⟩
  have HSL := hide (HP.out (by omega)).1
  have HL := hide (HP.out (by omega)).2
  have HTO := hide (fun W (h1 : Below w.heap.size w W) => toDev_any a a' cap cap' S L x W ((HS.out.below h1 (Nat.le_refl _)).mono h1.size) HSL.out ((HR.out.below h1 (Nat.le_refl _)).mono h1.size) HL.out)
  clear HS HR
  go_wp2_with fail
  refine (HTO.out _ HB1.out).mono ?_
  rintro e w2 ⟨g2, k2, rfl, hg2, hgk2, hz2, ht2, hh2, hb2⟩
  have HX2 := hide (HX1.out.below hb2 HX1.out.lt)
  have HB2 := hide (HB1.out.trans (hb2.mono HB1.out.size))
  have HH2 := hide hh2
  have HT2 := hide ht2
  clear hh2 ht2 hb2 c10 c11 c12 HX1 HB1 hy
  go_wp2_with fail
  refine (sDevRead_any _ _ _ _ S L x t _ HT2.out.rd (by have := HSL.out; omega) HH2.out.rd (by have := HL.out; omega)).mono ?_
  rintro e w3 ⟨rfl, hb3⟩
  have HX3 := hide (HX2.out.below hb3 HX2.out.lt)
  have HB3 := hide (HB2.out.trans (hb3.mono HB2.out.size))
  clear hb3 HX2 HB2 HH2 HT2
  obtain ⟨c30, c31, c32⟩ := HX3.out.cells
  obtain ⟨V, hV⟩ : ∃ V, V = readS S L x t := ⟨_, rfl⟩
  obtain ⟨U, hU⟩ : ∃ U, U = readB S L x t := ⟨_, rfl⟩
  rw [← hV, ← hU]
  have HE := hide hV
  have HF := hide hU
  clear hV hU
  go_wp2_with fail
  refine (HTO.out _ HB3.out).mono ?_
  rintro e w4 ⟨g4, k4, rfl, hg4, hgk4, hz4, ht4, hh4, hb4⟩
  have HX4 := hide (HX3.out.below hb4 HX3.out.lt)
  have HB4 := hide (HB3.out.trans (hb4.mono HB3.out.size))
  have HH4 := hide hh4
  have HT4 := hide ht4
  clear hh4 ht4 hb4 HX3 HB3 c30 c31 c32
  have HI := hide (fun W h1 h2 => iDevRead_any (some ⟨g4, 0, none⟩) (some ⟨k4, 0, none⟩) S.length L.length S L x t W h1 (by have := HSL.out; omega) h2 (by have := HL.out; omega))
  rw [show readS S L x t = V from HE.out.symm, show readB S L x t = U from HF.out.symm] at HI
  obtain ⟨W4, hW4⟩ : ∃ W4, W4 = w4.alloc (.cells #[.slice (some ⟨g4, 0, none⟩) S.length S.length, .slice (some ⟨k4, 0, none⟩) L.length L.length, .int .i64 x] 27) := ⟨_, rfl⟩
  have hal : Below w4.heap.size w4 W4 := hW4 ▸ (Below.refl w4.heap.size w4).alloc (Nat.le_refl _) _
  have HD := hide (show BoxB 27 W4 w4.heap.size _ _ _ from hW4 ▸ BoxB.new 27 w4 _ _ _)
  have HX := hide (HX4.out.below hal HX4.out.lt)
  have HH := hide (HH4.out.below hal hz4)
  have HT := hide (HT4.out.below hal (by omega))
  have HB := hide (HB4.out.trans (hal.mono HB4.out.size))
  have hz : k4 < W4.heap.size := Nat.lt_of_lt_of_le hz4 hal.size
  go_wp2_with fail
  rw [← hW4]
  clear hW4 hal HX4 HB4 HH4 HT4
  refine (HI.out _ HT.out.rd HH.out.rd).mono ?_
  rintro e w5 ⟨rfl, hb5⟩
  have HD5 := hide (HD.out.below hb5 HD.out.lt)
  have HX5 := hide (HX.out.below hb5 HX.out.lt)
  have HH5 := hide (HH.out.below hb5 hz)
  have HT5 := hide (HT.out.below hb5 (by omega))
  have HB5 := hide (HB.out.trans (hb5.mono HB.out.size))
  have hz5 : k4 < w5.heap.size := Nat.lt_of_lt_of_le hz hb5.size
  clear hb5 HX HB HH HT HD HI HE HF hz
  obtain ⟨c0, c1, c2⟩ := HX5.out.cells
  obtain ⟨e0, e1, e2⟩ := HD5.out.cells
  go_wp2_with fail
  go_region_held3 (fun w' => (w'.cell? ⟨w.heap.size, 0, none⟩ = some (.slice a S.length cap) ∧ w'.cell? ⟨w.heap.size, 1, none⟩ = some (.slice a' L.length cap') ∧ w'.cell? ⟨w.heap.size, 2, none⟩ = some (.int .i64 x)) ∧
      (w'.cell? ⟨w4.heap.size, 0, none⟩ = some (.slice (some ⟨g4, 0, none⟩) S.length S.length) ∧ w'.cell? ⟨w4.heap.size, 1, none⟩ = some (.slice (some ⟨k4, 0, none⟩) L.length L.length) ∧ w'.cell? ⟨w4.heap.size, 2, none⟩ = some (.int .i64 x)))
    (first
      | with_reducible exact ⟨HX5.out.cells, HD5.out.cells⟩
      | with_reducible exact ⟨HX5.out.drew.cells, HD5.out.drew.cells⟩
      | with_reducible exact ⟨HX6.out.cells, HD6.out.cells⟩
      | with_reducible exact ⟨HX7.out.cells, HD7.out.cells⟩)
    (first
      | (go_at_call 19; refine (HTO.out _ HB5.out.drew).mono ?_; rintro e w6 ⟨g6, k6, rfl, hg6, hgk6, hz6, ht6, hh6, hb6⟩; have HX6 := hide (HX5.out.drew.below hb6 HX5.out.lt); have HD6 := hide (HD5.out.drew.below hb6 HD5.out.lt); have HB6 := hide (HB5.out.drew.trans (hb6.mono HB5.out.size)); have HH6 := hide hh6; have HT6 := hide ht6; have HG6 := hide (HH5.out.drew.below hb6 hz5); have HU6 := hide (HT5.out.drew.below hb6 (Nat.lt_trans hgk4 hz5)); clear hh6 ht6 hb6)
      | (go_at_call 21; refine (eqDev_same _ _ _ _ _ _ _ _ S L x _ HU6.out.rd HT6.out.rd (by have := HSL.out; omega) HG6.out.rd HH6.out.rd (by have := HL.out; omega)).mono ?_; rintro e w7 ⟨rfl, hb7⟩; have HB7 := hide (HB6.out.trans (hb7.mono HB6.out.size)); have HX7 := hide (HX6.out.below hb7 HX6.out.lt); have HD7 := hide (HD6.out.below hb7 HD6.out.lt); clear hb7))
  all_goals go_wp2_with fail
  all_goals go_ret
  all_goals exact ⟨rfl, HB7.out⟩
end Go.Proofs.Ytnbaffdonbnocaa
