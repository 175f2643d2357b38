/-
  Texts of this proof, put together: KeyB.
-/
import Derived.Test.YtakjjfbocokpaaaDoorPackAA
import Derived.Test.YtakjjfbocokpaaaDoorPackAV
import Derived.Test.YtakjjfbocokpaaaDoorPackAU
import Derived.StillTailTactics
import Derived.Deep.DeepCutAuto
import Derived.Deep.RegionHeld3
import Derived.Deep.QuietTactic
import Derived.BigQuiet

/-
  Contract of slices.BinarySearchFunc over slots and impl.compareSlots.
-/
namespace Go.Proofs.YtakjjfbocokpaaaDoor
open Go.ChangeShapes Go.WideShapes Go.ChangeAt Go.RowKit
set_option maxRecDepth 20000

def FoundPost (w : World) (p : Nat) (e : Ending) (w' : World) : Prop := ∃ b : Bool, e = .returned (.tuple #[.int .i64 (p : Int), .bool b]) ∧ Below w.heap.size w w'
/-- a box of two cells -/
def BoxP (T : TypeId) (w : World) (g : Nat) (v0 v1 : Value) : Prop := w.heap[g]? = some (.cells #[v0, v1] T (0, 0))
theorem BoxP.new (T : TypeId) (w : World) (v0 v1 : Value) : BoxP T (w.alloc (.cells #[v0, v1] T)) w.heap.size v0 v1 := Go.Deep.blk_alloc_new w _
theorem BoxP.lt {T : TypeId} {w : World} {g : Nat} {v0 v1 : Value} (h : BoxP T w g v0 v1) : g < w.heap.size := (Array.getElem?_eq_some_iff.1 h).1
theorem BoxP.below {T : TypeId} {w w' : World} {g B : Nat} {v0 v1 : Value} (h : BoxP T w g v0 v1) (hb : Below B w w') (hg : g < B) : BoxP T w' g v0 v1 := (hb.block g hg).trans h
theorem BoxP.cells {T : TypeId} {w : World} {g : Nat} {v0 v1 : Value} (h : BoxP T w g v0 v1) : w.cell? ⟨g, 0, none⟩ = some v0 ∧ w.cell? ⟨g, 1, none⟩ = some v1 := by
  unfold BoxP at h
  exact ⟨by simp [World.cell?, h], by simp [World.cell?, h]⟩

set_option maxHeartbeats 2000000 in
theorem search_any (a : Option Addr) (cap : Nat) (L : List Slot) (t : Int) (k : ByteArray) (w : World) (hr : SlotRd w w.heap.size a L) (ha : Asc L) (hl : L.length ≤ 2097152) :
    Calls Tryd.prog 94 #[.slice a L.length cap, .agg #[.int .i64 t, .string k], .func (.func 65) #[] #[]] w (FoundPost w (posL L t)) := by
  have HR := hide hr
  have HA := hide ha
  clear hr ha
  obtain ⟨p, hp⟩ : ∃ p, p = posL L t := ⟨_, rfl⟩
  have HP := hide hp
  rw [← hp]
  obtain ⟨n, hn⟩ : ∃ n, n = L.length := ⟨_, rfl⟩
  have HN := hide hn
  rw [← hn] at hl
  rw [← hn]
  clear hn hp
  go_enter Tryd.func94, Tryd.ntmps94
  go_wp2_with fail
  go_loopw [9, 10, 11] (fun i j _ wr => ∃ (u v : Nat), i = .int .i64 u ∧ j = .int .i64 v ∧ u ≤ v ∧ v ≤ n ∧ Hid (∀ k, k < u → tn L k < t) ∧ Hid (∀ k, v ≤ k → k < n → t ≤ tn L k) ∧ Hid (Below w.heap.size w wr) ∧ Hid (BoxP 74 wr w.heap.size (.int .i64 t) (.string k))) (fun i j _ _ => (intOf j).toNat - (intOf i).toNat)
  case atStart => exact ⟨0, n, rfl, rfl, by omega, by omega, fun k h => by omega, fun k h h' => by omega, (Below.refl _ _).alloc (Nat.le_refl _) _, BoxP.new _ w _ _⟩
  case round =>
    obtain ⟨u, v, rfl, rfl, huv, hvn, HU, HV, HB, HX⟩ := hrel
    obtain ⟨x0, x1⟩ := HX.out.cells
    by_cases hlt : u < v
    · obtain ⟨h, hh⟩ : ∃ h, h = (u + v) / 2 := ⟨_, rfl⟩
      have hu : u ≤ h := by omega
      have hv : h < v := by omega
      have HH := hide hh
      have hhn : h < n := by omega
      have hjL : h < L.length := by rw [← HN.out]; omega
      obtain ⟨b, o, rfl, hb, hc⟩ := HR.out (by omega)
      obtain ⟨p0, p1⟩ := hc h hjL
      have d0 := (HB.out.cell (p := ⟨b, o + h * 2, none⟩) hb).trans p0
      have d1 := (HB.out.cell (p := ⟨b, o + h * 2 + 1, none⟩) hb).trans p1
      clear hc p0 p1
      go_upto_region 5 with (fail)
      rw [show ((u : Int) + (v : Int)) / 2 = (h : Int) by omega]
      have HJ := hide hjL
      have hi1 : (h : Int) < (n : Int) := by omega
      clear hjL hh
      go_still_tail 6, (by kernel_rfl)
      change wpList _ _ _ _ _ wr.drew
      go_wp2_with fail
      refine (compareSlots_any (tn L h) t (ky L h) k _).mono ?_
      rintro e w1 ⟨rfl, hb1⟩
      have HB1 := hide (HB.out.drew.trans (hb1.mono HB.out.size))
      have HX1 := hide (HX.out.below (below_of_drew hb1) HX.out.lt)
      clear hb1 HB HX d0 d1 x0 x1
      by_cases hc : tn L h < t
      · have t0 : cmpI (tn L h) t < 0 := cmpI_lt.2 hc
        have HU1 := hide (show ∀ k, k < h + 1 → tn L k < t from fun k hk => by
          rcases Nat.lt_or_ge k h with h1 | h1
          · have := HA.out.lt k h h1 HJ.out; omega
          · rw [show k = h by omega]; exact hc)
        clear hc
        go_wp2_with fail
        go_roundw
        case rel => exact ⟨h + 1, v, by go_num, rfl, by omega, hvn, HU1, HV, HB1, HX1⟩
        case measure => simp [intOf]; omega
      · have t0 : 0 ≤ cmpI (tn L h) t := Int.not_lt.1 fun h1 => hc (cmpI_lt.1 h1)
        have HV1 := hide (show ∀ k, h ≤ k → k < n → t ≤ tn L k from fun k hk hkn => by
          rcases Nat.lt_or_ge h k with h1 | h1
          · have := HA.out.lt h k h1 (by rw [← HN.out]; exact hkn); omega
          · rw [show k = h by omega]; omega)
        clear hc
        go_wp2_with fail
        go_roundw
        case rel => exact ⟨u, h, rfl, rfl, hu, by omega, HU, HV1, HB1, HX1⟩
        case measure => simp [intOf]; omega
    · have huv2 : v = u := by omega
      subst huv2
      have HPv := hide (show p = v from HP.out.trans (posL_eq L t v (by rw [← HN.out]; exact hvn) HU.out (fun h => HV.out v (Nat.le_refl _) (by rw [HN.out]; exact h))))
      by_cases hvn2 : v < n
      · have hjL : v < L.length := by rw [← HN.out]; exact hvn2
        obtain ⟨b, o, rfl, hb, hc⟩ := HR.out (by omega)
        obtain ⟨p0, p1⟩ := hc v hjL
        have d0 := (HB.out.cell (p := ⟨b, o + v * 2, none⟩) hb).trans p0
        have d1 := (HB.out.cell (p := ⟨b, o + v * 2 + 1, none⟩) hb).trans p1
        have g1 : decide ((v : Int) < (n : Int)) = true := decide_eq_true (by omega)
        have g2 : decide (v < n) = true := decide_eq_true hvn2
        have hi1 : (v : Int) < (n : Int) := by omega
        clear hc p0 p1 hjL
        go_wp2_with fail
        go_region_held3 (fun w' => (w'.cell? ⟨w.heap.size, 0, none⟩ = some (.int .i64 t) ∧ w'.cell? ⟨w.heap.size, 1, none⟩ = some (.string k)) ∧ w'.cell? ⟨b, o + v * 2, none⟩ = some (.int .i64 (tn L v)) ∧ w'.cell? ⟨b, o + v * 2 + 1, none⟩ = some (.string (ky L v)))
          (first
            | exact ⟨⟨x0, x1⟩, d0, d1⟩
            | exact ⟨⟨e0, e1⟩, f0, f1⟩)
          (first
            | (go_at_call 65
               refine (compareSlots_any (tn L v) t (ky L v) k _).mono ?_
               rintro e w1 ⟨rfl, hb1⟩
               have HB1 := hide (HB.out.drew.trans (hb1.mono HB.out.size))
               have HX1 := hide (HX.out.below (below_of_drew hb1) HX.out.lt)
               obtain ⟨e0, e1⟩ := HX1.out.cells
               have f0 := ((below_of_drew hb1).cell (p := ⟨b, o + v * 2, none⟩) (Nat.lt_of_lt_of_le hb HB.out.size)).trans d0
               have f1 := ((below_of_drew hb1).cell (p := ⟨b, o + v * 2 + 1, none⟩) (Nat.lt_of_lt_of_le hb HB.out.size)).trans d1
               clear hb1))
        all_goals go_wp2_with fail
        all_goals go_ret2
        all_goals exact ⟨_, by rw [HPv.out]; rfl, HB1.out⟩
      · have g1 : decide ((v : Int) < (n : Int)) = false := decide_eq_false (by omega)
        have g2 : decide (v < n) = false := decide_eq_false hvn2
        go_wp2_with fail
        go_quiet (fail)
        go_wp2_with fail
        go_ret2
        exact ⟨_, by rw [HPv.out]; rfl, ⟨HB.out.os, HB.out.tape, HB.out.output, HB.out.size, HB.out.block⟩⟩
end Go.Proofs.YtakjjfbocokpaaaDoor
