/-
  Texts of this proof, put together: OrdEntA.
-/
import Derived.Test.YtdlkgpobjacgeaaGreatDoorPackBB
import Derived.Test.YtdlkgpobjacgeaaGreatDoorPackAL
import Derived.Test.YtdlkgpobjacgeaaGreatDoorPackAJ
import Derived.Test.YtdlkgpobjacgeaaGreatDoorPackAH
import Derived.StillTailTactics
import Derived.Deep.DeepCutAuto
import Derived.Deep.RegionHeld3
import Derived.Deep.QuietTactic
import Derived.BigQuiet

/-
  Contract of slices.BinarySearchFunc over rows of impl.Ent. (Written by mkord.py.)
-/
namespace Go.Proofs.YtdlkgpobjacgeaaGreatDoor
open Go.ChangeShapes Go.WideShapes Go.ChangeAt Go.RowKit

def FoundEnt (w : World) (p : Nat) (e : Ending) (w' : World) : Prop := ∃ b : Bool, e = .returned (.tuple #[.int .i64 (p : Int), .bool b]) ∧ Below w.heap.size w w'

set_option maxHeartbeats 2000000 in
set_option maxRecDepth 20000 in
theorem searchEnt_any (a : Option Addr) (cap : Nat) (L : List EntE) (x0 : ByteArray) (x1 : Int) (x2 : Bool) (x3 : ByteArray) (p : Nat) (w : World) (hr : elEnt.Rd w w.heap.size a L) (hp : p ≤ L.length)
    (h1 : ∀ i (h : i < L.length), i < p → cmpE L[i] (x0, x1, x2, x3) < 0) (h2 : ∀ i (h : i < L.length), p ≤ i → 0 ≤ cmpE L[i] (x0, x1, x2, x3)) (hl : L.length ≤ 2097152) :
    Calls Tryz.prog 110 #[.slice a L.length cap, .agg #[.string x0, .int .i64 x1, .bool x2, .string x3], .func (.func 109) #[.agg #[]] #[]] w (FoundEnt w p) := by
  have HR := hide hr
  have H1 := hide h1
  have H2 := hide h2
  clear hr h1 h2
  obtain ⟨n, hn⟩ : ∃ n, n = L.length := ⟨_, rfl⟩
  have HN := hide hn
  rw [← hn] at hl hp
  rw [← hn]
  clear hn
  go_enter Tryz.func110, Tryz.ntmps110
  go_wp2_with fail
  go_loopw [9, 10, 11] (fun i j _ wr => ∃ (u v : Nat), i = .int .i64 u ∧ j = .int .i64 v ∧ u ≤ p ∧ p ≤ v ∧ v ≤ n ∧ Hid (Below w.heap.size w wr) ∧ Hid (BoxV 30 wr w.heap.size #[.string x0, .int .i64 x1, .bool x2, .string x3])) (fun i j _ _ => (intOf j).toNat - (intOf i).toNat)
  case atStart => exact ⟨0, n, rfl, rfl, by omega, by omega, by omega, (Below.refl _ _).alloc (Nat.le_refl _) _, BoxV.new _ w _⟩
  case round =>
    obtain ⟨u, v, rfl, rfl, hup, hpv, hvn, HB, HX⟩ := hrel
    obtain ⟨b0, b1, b2, b3⟩ := (show wr.cell? ⟨w.heap.size, 0, none⟩ = some (.string x0) ∧ wr.cell? ⟨w.heap.size, 1, none⟩ = some (.int .i64 x1) ∧ wr.cell? ⟨w.heap.size, 2, none⟩ = some (.bool x2) ∧ wr.cell? ⟨w.heap.size, 3, none⟩ = some (.string x3) from ⟨HX.out.cell 0 _ rfl, HX.out.cell 1 _ rfl, HX.out.cell 2 _ rfl, HX.out.cell 3 _ rfl⟩)
    by_cases hlt : u < v
    · obtain ⟨h, hh⟩ : ∃ h, h = (u + v) / 2 := ⟨_, rfl⟩
      have hu : u ≤ h := by omega
      have hv : h < v := by omega
      have HH := hide hh
      have hhn : h < n := by omega
      have hjL : h < L.length := by rw [← HN.out]; omega
      obtain ⟨b, o, rfl, hb, hc⟩ := HR.out (by omega)
      obtain ⟨y0, y1, y2, y3, hy⟩ := partsEnt L[h]
      obtain ⟨p0, p1, p2, p3⟩ := cellsEnt hy (hc h hjL)
      have d0 := (HB.out.cell (p := ⟨b, o + h * 4, none⟩) hb).trans p0
      have d1 := (HB.out.cell (p := ⟨b, o + h * 4 + 1, none⟩) hb).trans p1
      have d2 := (HB.out.cell (p := ⟨b, o + h * 4 + 2, none⟩) hb).trans p2
      have d3 := (HB.out.cell (p := ⟨b, o + h * 4 + 3, none⟩) hb).trans p3
      have HO1 := hide (show h < p → cmpE (y0, y1, y2, y3) (x0, x1, x2, x3) < 0 from fun hp => hy ▸ H1.out h hjL hp)
      have HO2 := hide (show p ≤ h → 0 ≤ cmpE (y0, y1, y2, y3) (x0, x1, x2, x3) from fun hp => hy ▸ H2.out h hjL hp)
      obtain ⟨z, hz⟩ : ∃ z, z = cmpE (y0, y1, y2, y3) (x0, x1, x2, x3) := ⟨_, rfl⟩
      have HC := hide (fun W => compareE_any y0 y1 y2 y3 x0 x1 x2 x3 W)
      rw [← hz] at HO1 HO2 HC
      clear hc p0 p1 p2 p3 hz hy
      go_upto_region 5 with (fail)
      rw [show ((u : Int) + (v : Int)) / 2 = (h : Int) by omega]
      have hi1 : (h : Int) < (n : Int) := by omega
      clear hjL hh
      go_still_tail 6, (by kernel_rfl)
      change wpList _ _ _ _ _ wr.drew
      go_wp2_with fail
      refine (HC.out _).mono ?_
      rintro e w1 ⟨rfl, hb1⟩
      have HB1 := hide (HB.out.drew.trans (hb1.mono HB.out.size))
      have HX1 := hide (HX.out.below (below_drew' hb1) HX.out.lt)
      clear hb1 HB HX d0 d1 d2 d3 b0 b1 b2 b3
      by_cases hc : z < 0
      · have hlp : h < p := Nat.lt_of_not_le fun hq => by have := HO2.out hq; omega
        go_wp2_with fail
        go_roundw
        case rel => exact ⟨h + 1, v, by go_num, rfl, by omega, hpv, hvn, HB1, HX1⟩
        case measure => simp [intOf]; omega
      · have hlp : p ≤ h := Nat.le_of_not_lt fun hq => hc (HO1.out hq)
        go_wp2_with fail
        go_roundw
        case rel => exact ⟨u, h, rfl, rfl, hup, hlp, by omega, HB1, HX1⟩
        case measure => simp [intOf]; omega
    · have huv2 : v = p := by omega
      have huv3 : u = p := by omega
      subst huv2 huv3
      by_cases hvn2 : u < n
      · have hjL : u < L.length := by rw [← HN.out]; exact hvn2
        obtain ⟨b, o, rfl, hb, hc⟩ := HR.out (by omega)
        obtain ⟨y0, y1, y2, y3, hy⟩ := partsEnt L[u]
        obtain ⟨p0, p1, p2, p3⟩ := cellsEnt hy (hc u hjL)
        have d0 := (HB.out.cell (p := ⟨b, o + u * 4, none⟩) hb).trans p0
        have d1 := (HB.out.cell (p := ⟨b, o + u * 4 + 1, none⟩) hb).trans p1
        have d2 := (HB.out.cell (p := ⟨b, o + u * 4 + 2, none⟩) hb).trans p2
        have d3 := (HB.out.cell (p := ⟨b, o + u * 4 + 3, none⟩) hb).trans p3
        have g1 : decide ((u : Int) < (n : Int)) = true := decide_eq_true (by omega)
        have g2 : decide (u < n) = true := decide_eq_true hvn2
        have hi1 : (u : Int) < (n : Int) := by omega
        have hwb := HB.out.size
        clear hc p0 p1 p2 p3 hjL hy
        go_wp2_with fail
        go_region_held3 (fun w' => (w'.cell? ⟨w.heap.size, 0, none⟩ = some (.string x0) ∧ w'.cell? ⟨w.heap.size, 1, none⟩ = some (.int .i64 x1) ∧ w'.cell? ⟨w.heap.size, 2, none⟩ = some (.bool x2) ∧ w'.cell? ⟨w.heap.size, 3, none⟩ = some (.string x3)) ∧ w'.cell? ⟨b, o + u * 4, none⟩ = some (.string y0) ∧ w'.cell? ⟨b, o + u * 4 + 1, none⟩ = some (.int .i64 y1) ∧ w'.cell? ⟨b, o + u * 4 + 2, none⟩ = some (.bool y2) ∧ w'.cell? ⟨b, o + u * 4 + 3, none⟩ = some (.string y3))
          (first
            | exact ⟨⟨b0, b1, b2, b3⟩, d0, d1, d2, d3⟩
            | exact ⟨⟨e0, e1, e2, e3⟩, f0, f1, f2, f3⟩)
          (first
            | (go_at_call 109
               refine (compareE_any y0 y1 y2 y3 x0 x1 x2 x3 _).mono ?_
               rintro e w1 ⟨rfl, hb1⟩
               have HB1 := hide (HB.out.drew.trans (hb1.mono HB.out.size))
               have HX1 := hide (HX.out.below (below_drew' hb1) HX.out.lt)
               obtain ⟨e0, e1, e2, e3⟩ := (show w1.cell? ⟨w.heap.size, 0, none⟩ = some (.string x0) ∧ w1.cell? ⟨w.heap.size, 1, none⟩ = some (.int .i64 x1) ∧ w1.cell? ⟨w.heap.size, 2, none⟩ = some (.bool x2) ∧ w1.cell? ⟨w.heap.size, 3, none⟩ = some (.string x3) from ⟨HX1.out.cell 0 _ rfl, HX1.out.cell 1 _ rfl, HX1.out.cell 2 _ rfl, HX1.out.cell 3 _ rfl⟩)
               have f0 := ((below_drew' hb1).cell (p := ⟨b, o + u * 4, none⟩) (Nat.lt_of_lt_of_le hb hwb)).trans d0
               have f1 := ((below_drew' hb1).cell (p := ⟨b, o + u * 4 + 1, none⟩) (Nat.lt_of_lt_of_le hb hwb)).trans d1
               have f2 := ((below_drew' hb1).cell (p := ⟨b, o + u * 4 + 2, none⟩) (Nat.lt_of_lt_of_le hb hwb)).trans d2
               have f3 := ((below_drew' hb1).cell (p := ⟨b, o + u * 4 + 3, none⟩) (Nat.lt_of_lt_of_le hb hwb)).trans d3
               clear hb1))
        all_goals go_wp2_with fail
        all_goals go_ret2
        all_goals exact ⟨_, rfl, HB1.out⟩
      · have g1 : decide ((u : Int) < (n : Int)) = false := decide_eq_false (by omega)
        have g2 : decide (u < n) = false := decide_eq_false hvn2
        go_wp2_with fail
        go_quiet (fail)
        go_wp2_with fail
        go_ret2
        exact ⟨_, rfl, ⟨HB.out.os, HB.out.tape, HB.out.output, HB.out.size, HB.out.block⟩⟩
end Go.Proofs.YtdlkgpobjacgeaaGreatDoor
