/-
  Texts of this proof, put together: MarkLogRow.
-/
import Derived.Test.YtakjjfbocokpaaaDoorPackAF
import Derived.Test.YtakjjfbocokpaaaDoorPackAJ
import Derived.Deep.RegionHeld3

/-
  Contracts of laws.markLogRowS and laws.heldLogRowS: marks are written into a row of impl.LogRow, and found there. (Written by mkrow.py.)
-/
namespace Go.Proofs.YtakjjfbocokpaaaDoor
open Go.ChangeShapes Go.WideShapes Go.ChangeAt Go.RowKit

def markLogRow (k : Nat) : LogRowE := ((((k : Nat)) : Int), (((k + 1 : Nat)) : Int), (((k + 2 : Nat)) : Int), markS (k + 3), decide ((k + 4) % 3 = 0))
def MarkedLogRow (B : Nat) (w : World) (a : Option Addr) (n cap k : Nat) (e : Ending) (w' : World) : Prop :=
  e = .returned (.int .i64 ((k + 5 * n : Nat) : Int)) ∧ elLogRow.Owns B w' (.slice a n cap) (marksG markLogRow 5 k n) ∧ Only (Value.slice a n cap).ownBlock w w'

set_option maxHeartbeats 1000000 in
theorem markLogRowS_any (B : Nat) (a : Option Addr) (cap k : Nat) (L : List LogRowE) (w : World) (hO : elLogRow.Owns B w (.slice a L.length cap) L) (hk : 0 < k) (hl : k + 5 * L.length ≤ 8388608) :
    Calls Tryd.prog 43 #[.slice a L.length cap, .int .i64 k] w (MarkedLogRow B w a L.length cap k) := by
  have HO := hide hO
  clear hO
  obtain ⟨n, hn⟩ : ∃ n, n = L.length := ⟨_, rfl⟩
  have HN := hide hn
  rw [← hn] at hl HO
  rw [← hn]
  clear hn
  go_enter Tryd.func43, Tryd.ntmps43
  go_wp2_with fail
  go_loopw [1, 5] (fun q i wr => ∃ j : Nat, i = .int .i64 j ∧ q = .int .i64 ((k + 5 * j : Nat) : Int) ∧ j ≤ n ∧ Hid (elLogRow.Owns B wr (.slice a n cap) (mixG markLogRow 5 L k j)) ∧ Hid (Only (Value.slice a n cap).ownBlock w wr)) (fun _ i _ => n - (intOf i).toNat)
  case atStart => exact ⟨0, rfl, rfl, by omega, by rw [mixG_zero]; exact HO, Only.refl _ _⟩
  case round =>
    obtain ⟨j, rfl, rfl, hj, HW, HT⟩ := hrel
    by_cases hlt : j < n
    · have hjL : j < L.length := by rw [← HN.out]; exact hlt
      have HS := hide (mixG_step markLogRow 5 L k j hjL)
      have hlm : (mixG markLogRow 5 L k j).length = n := by rw [length_mixG _ _ L k j (by omega), HN.out]
      generalize mixG markLogRow 5 L k j = M at HW HS hlm
      obtain ⟨g, rfl, hg, hgz⟩ := HW.out.pos (by omega)
      obtain ⟨x0, x1, x2, x3, x4, hx⟩ := partsLogRow (M[j]'(by omega))
      have HQ := hide (show M[j]? = some (x0, x1, x2, x3, x4) by rw [List.getElem?_eq_getElem (by omega), hx])
      have HLM := hide hlm
      clear hx hlm hjL
      obtain ⟨c0, c1, c2, c3, c4⟩ := cellsXLogRow (o := j * 5) (HW.out.cellsAt HLM.out j _ HQ.out)
      have z0 := HW.out.frozenAt HLM.out (j * 5)
      have z1 := HW.out.frozenAt HLM.out (j * 5 + 1)
      have z2 := HW.out.frozenAt HLM.out (j * 5 + 2)
      have z3 := HW.out.frozenAt HLM.out (j * 5 + 3)
      have z4 := HW.out.frozenAt HLM.out (j * 5 + 4)
      go_wp2_with fail
      refine (markText_z ((k : Int) + 5 * (j : Int) + 3) (k + 5 * j + 3) _ (by omega) (by omega) (by omega)).mono ?_
      rintro e w3 ⟨rfl, hb3⟩
      have oa3_0 : elLogRow.Owns B (wr.setCell ⟨g, j * 5, none⟩ (.int .i64 ((k : Int) + 5 * (j : Int)))) (.slice (some ⟨g, 0, none⟩) n cap) (M.set j (((k : Int) + 5 * (j : Int)), x1, x2, x3, x4)) := (HW.out).setAt HLM.out j _ (HQ.out) 0 (by decide) (.int .i64 ((k : Int) + 5 * (j : Int))) (((k : Int) + 5 * (j : Int)), x1, x2, x3, x4) rfl
      have ta3_0 := (HT.out).trans (Only.set g (j * 5) wr (.int .i64 ((k : Int) + 5 * (j : Int))))
      have oa3_1 : elLogRow.Owns B ((wr.setCell ⟨g, j * 5, none⟩ (.int .i64 ((k : Int) + 5 * (j : Int)))).setCell ⟨g, j * 5 + 1, none⟩ (.int .i64 ((k : Int) + 5 * (j : Int) + 1))) (.slice (some ⟨g, 0, none⟩) n cap) ((M.set j (((k : Int) + 5 * (j : Int)), x1, x2, x3, x4)).set j (((k : Int) + 5 * (j : Int)), ((k : Int) + 5 * (j : Int) + 1), x2, x3, x4)) := (oa3_0).setAt (by rw [List.length_set]; exact HLM.out) j _ (set_at (((k : Int) + 5 * (j : Int)), x1, x2, x3, x4) HQ.out) 1 (by decide) (.int .i64 ((k : Int) + 5 * (j : Int) + 1)) (((k : Int) + 5 * (j : Int)), ((k : Int) + 5 * (j : Int) + 1), x2, x3, x4) rfl
      rw [List.set_set] at oa3_1
      have ta3_1 := (ta3_0).trans (Only.set g (j * 5 + 1) (wr.setCell ⟨g, j * 5, none⟩ (.int .i64 ((k : Int) + 5 * (j : Int)))) (.int .i64 ((k : Int) + 5 * (j : Int) + 1)))
      have oa3_2 : elLogRow.Owns B (((wr.setCell ⟨g, j * 5, none⟩ (.int .i64 ((k : Int) + 5 * (j : Int)))).setCell ⟨g, j * 5 + 1, none⟩ (.int .i64 ((k : Int) + 5 * (j : Int) + 1))).setCell ⟨g, j * 5 + 2, none⟩ (.int .i64 ((k : Int) + 5 * (j : Int) + 2))) (.slice (some ⟨g, 0, none⟩) n cap) ((M.set j (((k : Int) + 5 * (j : Int)), ((k : Int) + 5 * (j : Int) + 1), x2, x3, x4)).set j (((k : Int) + 5 * (j : Int)), ((k : Int) + 5 * (j : Int) + 1), ((k : Int) + 5 * (j : Int) + 2), x3, x4)) := (oa3_1).setAt (by rw [List.length_set]; exact HLM.out) j _ (set_at (((k : Int) + 5 * (j : Int)), ((k : Int) + 5 * (j : Int) + 1), x2, x3, x4) HQ.out) 2 (by decide) (.int .i64 ((k : Int) + 5 * (j : Int) + 2)) (((k : Int) + 5 * (j : Int)), ((k : Int) + 5 * (j : Int) + 1), ((k : Int) + 5 * (j : Int) + 2), x3, x4) rfl
      rw [List.set_set] at oa3_2
      have ta3_2 := (ta3_1).trans (Only.set g (j * 5 + 2) ((wr.setCell ⟨g, j * 5, none⟩ (.int .i64 ((k : Int) + 5 * (j : Int)))).setCell ⟨g, j * 5 + 1, none⟩ (.int .i64 ((k : Int) + 5 * (j : Int) + 1))) (.int .i64 ((k : Int) + 5 * (j : Int) + 2)))
      have HW3 := hide (El.Owns.below (show elLogRow.Owns B _ _ _ from oa3_2) hb3 (Nat.le_refl _))
      have HT3 := hide ((ta3_2).then_below hb3 (by have := (HT.out).size; simpa using this))
      have hgz3 : g < w3.heap.size := by have := hb3.size; (try simp at this); omega
      clear hb3 c0 z0 c1 z1 c2 z2 c3 z3 c4 z4 oa3_0 ta3_0 oa3_1 ta3_1 oa3_2 ta3_2
      obtain ⟨c0, c1, c2, c3, c4⟩ := cellsXLogRow (o := j * 5) (HW3.out.cellsAt (by rw [List.length_set]; exact HLM.out) j _ (set_at (((k : Int) + 5 * (j : Int)), ((k : Int) + 5 * (j : Int) + 1), ((k : Int) + 5 * (j : Int) + 2), x3, x4) HQ.out))
      have z0 := HW3.out.frozenAt (by rw [List.length_set]; exact HLM.out) (j * 5)
      have z1 := HW3.out.frozenAt (by rw [List.length_set]; exact HLM.out) (j * 5 + 1)
      have z2 := HW3.out.frozenAt (by rw [List.length_set]; exact HLM.out) (j * 5 + 2)
      have z3 := HW3.out.frozenAt (by rw [List.length_set]; exact HLM.out) (j * 5 + 3)
      have z4 := HW3.out.frozenAt (by rw [List.length_set]; exact HLM.out) (j * 5 + 4)
      go_wp2_with fail
      go_roundw
      case rel =>
        have of_0 : elLogRow.Owns B (w3.setCell ⟨g, j * 5 + 3, none⟩ (.string (markS (k + 5 * j + 3)))) (.slice (some ⟨g, 0, none⟩) n cap) ((M.set j (((k : Int) + 5 * (j : Int)), ((k : Int) + 5 * (j : Int) + 1), ((k : Int) + 5 * (j : Int) + 2), x3, x4)).set j (((k : Int) + 5 * (j : Int)), ((k : Int) + 5 * (j : Int) + 1), ((k : Int) + 5 * (j : Int) + 2), (markS (k + 5 * j + 3)), x4)) := (HW3.out).setAt (by rw [List.length_set]; exact HLM.out) j _ (set_at (((k : Int) + 5 * (j : Int)), ((k : Int) + 5 * (j : Int) + 1), ((k : Int) + 5 * (j : Int) + 2), x3, x4) HQ.out) 3 (by decide) (.string (markS (k + 5 * j + 3))) (((k : Int) + 5 * (j : Int)), ((k : Int) + 5 * (j : Int) + 1), ((k : Int) + 5 * (j : Int) + 2), (markS (k + 5 * j + 3)), x4) rfl
        rw [List.set_set] at of_0
        have tf_0 := (HT3.out).trans (Only.set g (j * 5 + 3) w3 (.string (markS (k + 5 * j + 3))))
        have of_1 : elLogRow.Owns B ((w3.setCell ⟨g, j * 5 + 3, none⟩ (.string (markS (k + 5 * j + 3)))).setCell ⟨g, j * 5 + 4, none⟩ (.bool (((k : Int) + 5 * (j : Int) + 4) % 3 == 0))) (.slice (some ⟨g, 0, none⟩) n cap) ((M.set j (((k : Int) + 5 * (j : Int)), ((k : Int) + 5 * (j : Int) + 1), ((k : Int) + 5 * (j : Int) + 2), (markS (k + 5 * j + 3)), x4)).set j (((k : Int) + 5 * (j : Int)), ((k : Int) + 5 * (j : Int) + 1), ((k : Int) + 5 * (j : Int) + 2), (markS (k + 5 * j + 3)), (((k : Int) + 5 * (j : Int) + 4) % 3 == 0))) := (of_0).setAt (by rw [List.length_set]; exact HLM.out) j _ (set_at (((k : Int) + 5 * (j : Int)), ((k : Int) + 5 * (j : Int) + 1), ((k : Int) + 5 * (j : Int) + 2), (markS (k + 5 * j + 3)), x4) HQ.out) 4 (by decide) (.bool (((k : Int) + 5 * (j : Int) + 4) % 3 == 0)) (((k : Int) + 5 * (j : Int)), ((k : Int) + 5 * (j : Int) + 1), ((k : Int) + 5 * (j : Int) + 2), (markS (k + 5 * j + 3)), (((k : Int) + 5 * (j : Int) + 4) % 3 == 0)) rfl
        rw [List.set_set] at of_1
        have tf_1 := (tf_0).trans (Only.set g (j * 5 + 4) (w3.setCell ⟨g, j * 5 + 3, none⟩ (.string (markS (k + 5 * j + 3)))) (.bool (((k : Int) + 5 * (j : Int) + 4) % 3 == 0)))
        have hm : ((((k : Int) + 5 * (j : Int)), ((k : Int) + 5 * (j : Int) + 1), ((k : Int) + 5 * (j : Int) + 2), (markS (k + 5 * j + 3)), (((k : Int) + 5 * (j : Int) + 4) % 3 == 0)) : LogRowE) = markLogRow (k + 5 * j) := by
          unfold markLogRow
          rw [show (((k + 5 * j : Nat)) : Int) = (k : Int) + 5 * (j : Int) from by omega]
          rw [show (((k + 5 * j + 1 : Nat)) : Int) = (k : Int) + 5 * (j : Int) + 1 from by omega]
          rw [show (((k + 5 * j + 2 : Nat)) : Int) = (k : Int) + 5 * (j : Int) + 2 from by omega]
          rw [markB (k + 5 * j + 4) ((k : Int) + 5 * (j : Int) + 4) (by omega)]
        rw [hm, HS.out] at of_1
        exact ⟨j + 1, by go_num, by go_num, by omega, of_1, tf_1⟩
      case measure => simp [intOf]; omega
    · have hjn : j = n := by omega
      subst hjn
      have HW1 := hide (show elLogRow.Owns B wr (.slice a j cap) (marksG markLogRow 5 k j) from by
        have := HW.out
        rwa [HN.out, mixG_all, ← HN.out] at this)
      go_wp2_with fail
      go_ret
      exact ⟨rfl, HW1.out, HT.out⟩

set_option maxHeartbeats 1000000 in
theorem heldLogRowS_any (a : Option Addr) (cap k n : Nat) (w : World) (hr : elLogRow.Rd w w.heap.size a (marksG markLogRow 5 k n)) (hk : 0 < k) (hl : k + 5 * n ≤ 8388608) :
    Calls Tryd.prog 44 #[.slice a n cap, .int .i64 k] w (fun e w' => e = .returned (.int .i64 ((k + 5 * n : Nat) : Int)) ∧ Below w.heap.size w w') := by
  have HR := hide hr
  clear hr
  go_enter Tryd.func44, Tryd.ntmps44
  go_wp2_with fail
  go_loopw [1, 5] (fun q i wr => ∃ j : Nat, i = .int .i64 j ∧ q = .int .i64 ((k + 5 * j : Nat) : Int) ∧ j ≤ n ∧ Hid (Below w.heap.size w wr)) (fun _ i _ => n - (intOf i).toNat)
  case atStart => exact ⟨0, rfl, rfl, by omega, Below.refl _ _⟩
  case round =>
    obtain ⟨j, rfl, rfl, hj, HB⟩ := hrel
    by_cases hlt : j < n
    · obtain ⟨b, o, rfl, hb, hc⟩ := HR.out (by rw [length_marksG]; omega)
      have hx : (marksG markLogRow 5 k n)[j]'(by rw [length_marksG]; exact hlt) = markLogRow (k + 5 * j) := by
        have := marksG_at markLogRow 5 k n j hlt
        rw [List.getElem?_eq_getElem (by rw [length_marksG]; exact hlt)] at this
        exact Option.some.inj this
      obtain ⟨p0, p1, p2, p3, p4⟩ := cellsLogRow (hx.trans (by unfold markLogRow; rfl)) (hc j (by rw [length_marksG]; exact hlt))
      have d0 := (HB.out.cell (p := ⟨b, o + j * 5, none⟩) hb).trans p0
      have d1 := (HB.out.cell (p := ⟨b, o + j * 5 + 1, none⟩) hb).trans p1
      have d2 := (HB.out.cell (p := ⟨b, o + j * 5 + 2, none⟩) hb).trans p2
      have d3 := (HB.out.cell (p := ⟨b, o + j * 5 + 3, none⟩) hb).trans p3
      have d4 := (HB.out.cell (p := ⟨b, o + j * 5 + 4, none⟩) hb).trans p4
      have hi0 : (j : Int) < (n : Int) := by omega
      clear hc hx p0 p1 p2 p3 p4
      all_goals go_wp2_with fail
      all_goals go_region_held3 (fun w' => w'.cell? ⟨b, o + j * 5 + 3, none⟩ = some (.string (markS (k + 5 * j + 3))))
        (first
          | exact d3
          | exact r3)
        (first
          | (go_at_call 86; refine (markText_z ((k : Int) + 5 * (j : Int) + 3) (k + 5 * j + 3) _ (by omega) (by omega) (by omega)).mono ?_; rintro e w3 ⟨rfl, hb3⟩; have HB3 := hide ((HB.out).drew.trans (hb3.mono (HB.out).size)); have r3 := (hb3.cell (p := ⟨b, o + j * 5 + 3, none⟩) (Nat.lt_of_lt_of_le hb (HB.out).size)).trans d3; have s4 := (hb3.cell (p := ⟨b, o + j * 5 + 4, none⟩) (Nat.lt_of_lt_of_le hb (HB.out).size)).trans d4; clear hb3))
      all_goals (clear d4; have d4 := s4; clear s4)
      all_goals by_cases hq4 : ((k : Int) + 5 * (j : Int) + 1 + 1 + 1 + 1) % 3 = 0
      all_goals first
        | rw [show decide ((k + 5 * j + 4) % 3 = 0) = true from decide_eq_true (by omega)] at d4
        | rw [show decide ((k + 5 * j + 4) % 3 = 0) = false from decide_eq_false (by omega)] at d4
      all_goals go_wp2_with fail
      all_goals go_roundw
      all_goals first
        | exact ⟨j + 1, by go_num, by go_num, by omega, hide (HB3.out)⟩
        | (simp [intOf]; omega)
    · have hjn : j = n := by omega
      subst hjn
      go_wp2_with fail
      go_ret
      exact ⟨rfl, HB.out⟩
end Go.Proofs.YtakjjfbocokpaaaDoor
