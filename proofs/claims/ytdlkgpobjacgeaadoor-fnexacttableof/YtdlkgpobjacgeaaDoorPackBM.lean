/-
  Texts of this proof, put together: MarkEnt, MarkPart.
-/
import Derived.Test.YtdlkgpobjacgeaaDoorPackAF
import Derived.Test.YtdlkgpobjacgeaaDoorPackAI
import Derived.Deep.RegionHeld3

/-
  Contracts of laws.markEntS and laws.heldEntS: marks are written into a row of impl.Ent, and found there. (Written by mkrow.py.)
-/
namespace Go.Proofs.YtdlkgpobjacgeaaDoor
open Go.ChangeShapes Go.WideShapes Go.ChangeAt Go.RowKit

def markEnt (k : Nat) : EntE := (markS (k), (((k + 1 : Nat)) : Int), decide ((k + 2) % 3 = 0), markS (k + 3))
def MarkedEnt (B : Nat) (w : World) (a : Option Addr) (n cap k : Nat) (e : Ending) (w' : World) : Prop :=
  e = .returned (.int .i64 ((k + 4 * n : Nat) : Int)) ∧ elEnt.Owns B w' (.slice a n cap) (marksG markEnt 4 k n) ∧ Only (Value.slice a n cap).ownBlock w w'

set_option maxHeartbeats 1000000 in
theorem markEntS_any (B : Nat) (a : Option Addr) (cap k : Nat) (L : List EntE) (w : World) (hO : elEnt.Owns B w (.slice a L.length cap) L) (hk : 0 < k) (hl : k + 4 * L.length ≤ 8388608) :
    Calls Tryd.prog 13 #[.slice a L.length cap, .int .i64 k] w (MarkedEnt B w a L.length cap k) := by
  have HO := hide hO
  clear hO
  obtain ⟨n, hn⟩ : ∃ n, n = L.length := ⟨_, rfl⟩
  have HN := hide hn
  rw [← hn] at hl HO
  rw [← hn]
  clear hn
  go_enter Tryd.func13, Tryd.ntmps13
  go_wp2_with fail
  go_loopw [1, 5] (fun q i wr => ∃ j : Nat, i = .int .i64 j ∧ q = .int .i64 ((k + 4 * j : Nat) : Int) ∧ j ≤ n ∧ Hid (elEnt.Owns B wr (.slice a n cap) (mixG markEnt 4 L k j)) ∧ Hid (Only (Value.slice a n cap).ownBlock w wr)) (fun _ i _ => n - (intOf i).toNat)
  case atStart => exact ⟨0, rfl, rfl, by omega, by rw [mixG_zero]; exact HO, Only.refl _ _⟩
  case round =>
    obtain ⟨j, rfl, rfl, hj, HW, HT⟩ := hrel
    by_cases hlt : j < n
    · have hjL : j < L.length := by rw [← HN.out]; exact hlt
      have HS := hide (mixG_step markEnt 4 L k j hjL)
      have hlm : (mixG markEnt 4 L k j).length = n := by rw [length_mixG _ _ L k j (by omega), HN.out]
      generalize mixG markEnt 4 L k j = M at HW HS hlm
      obtain ⟨g, rfl, hg, hgz⟩ := HW.out.pos (by omega)
      obtain ⟨x0, x1, x2, x3, hx⟩ := partsEnt (M[j]'(by omega))
      have HQ := hide (show M[j]? = some (x0, x1, x2, x3) by rw [List.getElem?_eq_getElem (by omega), hx])
      have HLM := hide hlm
      clear hx hlm hjL
      obtain ⟨c0, c1, c2, c3⟩ := cellsXEnt (o := j * 4) (HW.out.cellsAt HLM.out j _ HQ.out)
      have z0 := HW.out.frozenAt HLM.out (j * 4)
      have z1 := HW.out.frozenAt HLM.out (j * 4 + 1)
      have z2 := HW.out.frozenAt HLM.out (j * 4 + 2)
      have z3 := HW.out.frozenAt HLM.out (j * 4 + 3)
      go_wp2_with fail
      refine (markText_z ((k : Int) + 4 * (j : Int)) (k + 4 * j) _ (by omega) (by omega) (by omega)).mono ?_
      rintro e w0 ⟨rfl, hb0⟩
      have HW0 := hide (El.Owns.below (show elEnt.Owns B _ _ _ from HW.out) hb0 (Nat.le_refl _))
      have HT0 := hide ((HT.out).then_below hb0 (by have := (HT.out).size; simpa using this))
      have hgz0 : g < w0.heap.size := by have := hb0.size; (try simp at this); omega
      clear hb0 c0 z0 c1 z1 c2 z2 c3 z3
      obtain ⟨c0, c1, c2, c3⟩ := cellsXEnt (o := j * 4) (HW0.out.cellsAt HLM.out j _ (HQ.out))
      have z0 := HW0.out.frozenAt HLM.out (j * 4)
      have z1 := HW0.out.frozenAt HLM.out (j * 4 + 1)
      have z2 := HW0.out.frozenAt HLM.out (j * 4 + 2)
      have z3 := HW0.out.frozenAt HLM.out (j * 4 + 3)
      go_wp2_with fail
      refine (markText_z ((k : Int) + 4 * (j : Int) + 3) (k + 4 * j + 3) _ (by omega) (by omega) (by omega)).mono ?_
      rintro e w3 ⟨rfl, hb3⟩
      have oa3_0 : elEnt.Owns B (w0.setCell ⟨g, j * 4, none⟩ (.string (markS (k + 4 * j)))) (.slice (some ⟨g, 0, none⟩) n cap) (M.set j ((markS (k + 4 * j)), x1, x2, x3)) := (HW0.out).setAt HLM.out j _ (HQ.out) 0 (by decide) (.string (markS (k + 4 * j))) ((markS (k + 4 * j)), x1, x2, x3) rfl
      have ta3_0 := (HT0.out).trans (Only.set g (j * 4) w0 (.string (markS (k + 4 * j))))
      have oa3_1 : elEnt.Owns B ((w0.setCell ⟨g, j * 4, none⟩ (.string (markS (k + 4 * j)))).setCell ⟨g, j * 4 + 1, none⟩ (.int .i64 ((k : Int) + 4 * (j : Int) + 1))) (.slice (some ⟨g, 0, none⟩) n cap) ((M.set j ((markS (k + 4 * j)), x1, x2, x3)).set j ((markS (k + 4 * j)), ((k : Int) + 4 * (j : Int) + 1), x2, x3)) := (oa3_0).setAt (by rw [List.length_set]; exact HLM.out) j _ (set_at ((markS (k + 4 * j)), x1, x2, x3) HQ.out) 1 (by decide) (.int .i64 ((k : Int) + 4 * (j : Int) + 1)) ((markS (k + 4 * j)), ((k : Int) + 4 * (j : Int) + 1), x2, x3) rfl
      rw [List.set_set] at oa3_1
      have ta3_1 := (ta3_0).trans (Only.set g (j * 4 + 1) (w0.setCell ⟨g, j * 4, none⟩ (.string (markS (k + 4 * j)))) (.int .i64 ((k : Int) + 4 * (j : Int) + 1)))
      have oa3_2 : elEnt.Owns B (((w0.setCell ⟨g, j * 4, none⟩ (.string (markS (k + 4 * j)))).setCell ⟨g, j * 4 + 1, none⟩ (.int .i64 ((k : Int) + 4 * (j : Int) + 1))).setCell ⟨g, j * 4 + 2, none⟩ (.bool (((k : Int) + 4 * (j : Int) + 2) % 3 == 0))) (.slice (some ⟨g, 0, none⟩) n cap) ((M.set j ((markS (k + 4 * j)), ((k : Int) + 4 * (j : Int) + 1), x2, x3)).set j ((markS (k + 4 * j)), ((k : Int) + 4 * (j : Int) + 1), (((k : Int) + 4 * (j : Int) + 2) % 3 == 0), x3)) := (oa3_1).setAt (by rw [List.length_set]; exact HLM.out) j _ (set_at ((markS (k + 4 * j)), ((k : Int) + 4 * (j : Int) + 1), x2, x3) HQ.out) 2 (by decide) (.bool (((k : Int) + 4 * (j : Int) + 2) % 3 == 0)) ((markS (k + 4 * j)), ((k : Int) + 4 * (j : Int) + 1), (((k : Int) + 4 * (j : Int) + 2) % 3 == 0), x3) rfl
      rw [List.set_set] at oa3_2
      have ta3_2 := (ta3_1).trans (Only.set g (j * 4 + 2) ((w0.setCell ⟨g, j * 4, none⟩ (.string (markS (k + 4 * j)))).setCell ⟨g, j * 4 + 1, none⟩ (.int .i64 ((k : Int) + 4 * (j : Int) + 1))) (.bool (((k : Int) + 4 * (j : Int) + 2) % 3 == 0)))
      have HW3 := hide (El.Owns.below (show elEnt.Owns B _ _ _ from oa3_2) hb3 (Nat.le_refl _))
      have HT3 := hide ((ta3_2).then_below hb3 (by have := (HT0.out).size; simpa using this))
      have hgz3 : g < w3.heap.size := by have := hb3.size; (try simp at this); omega
      clear hb3 c0 z0 c1 z1 c2 z2 c3 z3 oa3_0 ta3_0 oa3_1 ta3_1 oa3_2 ta3_2
      obtain ⟨c0, c1, c2, c3⟩ := cellsXEnt (o := j * 4) (HW3.out.cellsAt (by rw [List.length_set]; exact HLM.out) j _ (set_at ((markS (k + 4 * j)), ((k : Int) + 4 * (j : Int) + 1), (((k : Int) + 4 * (j : Int) + 2) % 3 == 0), x3) HQ.out))
      have z0 := HW3.out.frozenAt (by rw [List.length_set]; exact HLM.out) (j * 4)
      have z1 := HW3.out.frozenAt (by rw [List.length_set]; exact HLM.out) (j * 4 + 1)
      have z2 := HW3.out.frozenAt (by rw [List.length_set]; exact HLM.out) (j * 4 + 2)
      have z3 := HW3.out.frozenAt (by rw [List.length_set]; exact HLM.out) (j * 4 + 3)
      go_wp2_with fail
      go_roundw
      case rel =>
        have of_0 : elEnt.Owns B (w3.setCell ⟨g, j * 4 + 3, none⟩ (.string (markS (k + 4 * j + 3)))) (.slice (some ⟨g, 0, none⟩) n cap) ((M.set j ((markS (k + 4 * j)), ((k : Int) + 4 * (j : Int) + 1), (((k : Int) + 4 * (j : Int) + 2) % 3 == 0), x3)).set j ((markS (k + 4 * j)), ((k : Int) + 4 * (j : Int) + 1), (((k : Int) + 4 * (j : Int) + 2) % 3 == 0), (markS (k + 4 * j + 3)))) := (HW3.out).setAt (by rw [List.length_set]; exact HLM.out) j _ (set_at ((markS (k + 4 * j)), ((k : Int) + 4 * (j : Int) + 1), (((k : Int) + 4 * (j : Int) + 2) % 3 == 0), x3) HQ.out) 3 (by decide) (.string (markS (k + 4 * j + 3))) ((markS (k + 4 * j)), ((k : Int) + 4 * (j : Int) + 1), (((k : Int) + 4 * (j : Int) + 2) % 3 == 0), (markS (k + 4 * j + 3))) rfl
        rw [List.set_set] at of_0
        have tf_0 := (HT3.out).trans (Only.set g (j * 4 + 3) w3 (.string (markS (k + 4 * j + 3))))
        have hm : (((markS (k + 4 * j)), ((k : Int) + 4 * (j : Int) + 1), (((k : Int) + 4 * (j : Int) + 2) % 3 == 0), (markS (k + 4 * j + 3))) : EntE) = markEnt (k + 4 * j) := by
          unfold markEnt
          rw [show (((k + 4 * j + 1 : Nat)) : Int) = (k : Int) + 4 * (j : Int) + 1 from by omega]
          rw [markB (k + 4 * j + 2) ((k : Int) + 4 * (j : Int) + 2) (by omega)]
        rw [hm, HS.out] at of_0
        exact ⟨j + 1, by go_num, by go_num, by omega, of_0, tf_0⟩
      case measure => simp [intOf]; omega
    · have hjn : j = n := by omega
      subst hjn
      have HW1 := hide (show elEnt.Owns B wr (.slice a j cap) (marksG markEnt 4 k j) from by
        have := HW.out
        rwa [HN.out, mixG_all, ← HN.out] at this)
      go_wp2_with fail
      go_ret
      exact ⟨rfl, HW1.out, HT.out⟩

set_option maxHeartbeats 1000000 in
theorem heldEntS_any (a : Option Addr) (cap k n : Nat) (w : World) (hr : elEnt.Rd w w.heap.size a (marksG markEnt 4 k n)) (hk : 0 < k) (hl : k + 4 * n ≤ 8388608) :
    Calls Tryd.prog 20 #[.slice a n cap, .int .i64 k] w (fun e w' => e = .returned (.int .i64 ((k + 4 * n : Nat) : Int)) ∧ Below w.heap.size w w') := by
  have HR := hide hr
  clear hr
  go_enter Tryd.func20, Tryd.ntmps20
  go_wp2_with fail
  go_loopw [1, 5] (fun q i wr => ∃ j : Nat, i = .int .i64 j ∧ q = .int .i64 ((k + 4 * j : Nat) : Int) ∧ j ≤ n ∧ Hid (Below w.heap.size w wr)) (fun _ i _ => n - (intOf i).toNat)
  case atStart => exact ⟨0, rfl, rfl, by omega, Below.refl _ _⟩
  case round =>
    obtain ⟨j, rfl, rfl, hj, HB⟩ := hrel
    by_cases hlt : j < n
    · obtain ⟨b, o, rfl, hb, hc⟩ := HR.out (by rw [length_marksG]; omega)
      have hx : (marksG markEnt 4 k n)[j]'(by rw [length_marksG]; exact hlt) = markEnt (k + 4 * j) := by
        have := marksG_at markEnt 4 k n j hlt
        rw [List.getElem?_eq_getElem (by rw [length_marksG]; exact hlt)] at this
        exact Option.some.inj this
      obtain ⟨p0, p1, p2, p3⟩ := cellsEnt (hx.trans (by unfold markEnt; rfl)) (hc j (by rw [length_marksG]; exact hlt))
      have d0 := (HB.out.cell (p := ⟨b, o + j * 4, none⟩) hb).trans p0
      have d1 := (HB.out.cell (p := ⟨b, o + j * 4 + 1, none⟩) hb).trans p1
      have d2 := (HB.out.cell (p := ⟨b, o + j * 4 + 2, none⟩) hb).trans p2
      have d3 := (HB.out.cell (p := ⟨b, o + j * 4 + 3, none⟩) hb).trans p3
      have hi0 : (j : Int) < (n : Int) := by omega
      clear hc hx p0 p1 p2 p3
      all_goals go_wp2_with fail
      all_goals go_region_held3 (fun w' => w'.cell? ⟨b, o + j * 4, none⟩ = some (.string (markS (k + 4 * j))))
        (first
          | exact d0
          | exact r0)
        (first
          | (go_at_call 37; refine (markText_z ((k : Int) + 4 * (j : Int)) (k + 4 * j) _ (by omega) (by omega) (by omega)).mono ?_; rintro e w0 ⟨rfl, hb0⟩; have HB0 := hide ((HB.out).drew.trans (hb0.mono (HB.out).size)); have r0 := (hb0.cell (p := ⟨b, o + j * 4, none⟩) (Nat.lt_of_lt_of_le hb (HB.out).size)).trans d0; have s1 := (hb0.cell (p := ⟨b, o + j * 4 + 1, none⟩) (Nat.lt_of_lt_of_le hb (HB.out).size)).trans d1; have s2 := (hb0.cell (p := ⟨b, o + j * 4 + 2, none⟩) (Nat.lt_of_lt_of_le hb (HB.out).size)).trans d2; have s3 := (hb0.cell (p := ⟨b, o + j * 4 + 3, none⟩) (Nat.lt_of_lt_of_le hb (HB.out).size)).trans d3; clear hb0))
      all_goals
        clear r0 d0 d1 d2 d3
        have d1 := s1
        clear s1
        have d2 := s2
        clear s2
        have d3 := s3
        clear s3
        all_goals by_cases hq2 : ((k : Int) + 4 * (j : Int) + 1 + 1) % 3 = 0
        all_goals first
          | rw [show decide ((k + 4 * j + 2) % 3 = 0) = true from decide_eq_true (by omega)] at d2
          | rw [show decide ((k + 4 * j + 2) % 3 = 0) = false from decide_eq_false (by omega)] at d2
        all_goals go_wp2_with fail
        all_goals go_region_held3 (fun w' => w'.cell? ⟨b, o + j * 4 + 3, none⟩ = some (.string (markS (k + 4 * j + 3))))
          (first
            | exact d3
            | exact r3)
          (first
            | (go_at_call 37; refine (markText_z ((k : Int) + 4 * (j : Int) + 3) (k + 4 * j + 3) _ (by omega) (by omega) (by omega)).mono ?_; rintro e w3 ⟨rfl, hb3⟩; have HB3 := hide ((HB0.out).drew.trans (hb3.mono (HB0.out).size)); have r3 := (hb3.cell (p := ⟨b, o + j * 4 + 3, none⟩) (Nat.lt_of_lt_of_le hb (HB0.out).size)).trans d3; clear hb3))
        all_goals go_wp2_with fail
        all_goals go_roundw
        all_goals first
          | exact ⟨j + 1, by go_num, by go_num, by omega, hide (HB3.out)⟩
          | (simp [intOf]; omega)
    · have hjn : j = n := by omega
      subst hjn
      go_wp2_with fail
      go_ret
      exact ⟨rfl, HB.out⟩
end Go.Proofs.YtdlkgpobjacgeaaDoor

/-
  Contracts of laws.markPartS and laws.heldPartS: marks are written into a row of impl.Part, and found there. (Written by mkrow.py.)
-/
namespace Go.Proofs.YtdlkgpobjacgeaaDoor
open Go.ChangeShapes Go.WideShapes Go.ChangeAt Go.RowKit

def markPart (k : Nat) : PartE := (markS (k), markS (k + 1))
def MarkedPart (B : Nat) (w : World) (a : Option Addr) (n cap k : Nat) (e : Ending) (w' : World) : Prop :=
  e = .returned (.int .i64 ((k + 2 * n : Nat) : Int)) ∧ elPart.Owns B w' (.slice a n cap) (marksG markPart 2 k n) ∧ Only (Value.slice a n cap).ownBlock w w'

set_option maxHeartbeats 1000000 in
theorem markPartS_any (B : Nat) (a : Option Addr) (cap k : Nat) (L : List PartE) (w : World) (hO : elPart.Owns B w (.slice a L.length cap) L) (hk : 0 < k) (hl : k + 2 * L.length ≤ 8388608) :
    Calls Tryd.prog 38 #[.slice a L.length cap, .int .i64 k] w (MarkedPart B w a L.length cap k) := by
  have HO := hide hO
  clear hO
  obtain ⟨n, hn⟩ : ∃ n, n = L.length := ⟨_, rfl⟩
  have HN := hide hn
  rw [← hn] at hl HO
  rw [← hn]
  clear hn
  go_enter Tryd.func38, Tryd.ntmps38
  go_wp2_with fail
  go_loopw [1, 5] (fun q i wr => ∃ j : Nat, i = .int .i64 j ∧ q = .int .i64 ((k + 2 * j : Nat) : Int) ∧ j ≤ n ∧ Hid (elPart.Owns B wr (.slice a n cap) (mixG markPart 2 L k j)) ∧ Hid (Only (Value.slice a n cap).ownBlock w wr)) (fun _ i _ => n - (intOf i).toNat)
  case atStart => exact ⟨0, rfl, rfl, by omega, by rw [mixG_zero]; exact HO, Only.refl _ _⟩
  case round =>
    obtain ⟨j, rfl, rfl, hj, HW, HT⟩ := hrel
    by_cases hlt : j < n
    · have hjL : j < L.length := by rw [← HN.out]; exact hlt
      have HS := hide (mixG_step markPart 2 L k j hjL)
      have hlm : (mixG markPart 2 L k j).length = n := by rw [length_mixG _ _ L k j (by omega), HN.out]
      generalize mixG markPart 2 L k j = M at HW HS hlm
      obtain ⟨g, rfl, hg, hgz⟩ := HW.out.pos (by omega)
      obtain ⟨x0, x1, hx⟩ := partsPart (M[j]'(by omega))
      have HQ := hide (show M[j]? = some (x0, x1) by rw [List.getElem?_eq_getElem (by omega), hx])
      have HLM := hide hlm
      clear hx hlm hjL
      obtain ⟨c0, c1⟩ := cellsXPart (o := j * 2) (HW.out.cellsAt HLM.out j _ HQ.out)
      have z0 := HW.out.frozenAt HLM.out (j * 2)
      have z1 := HW.out.frozenAt HLM.out (j * 2 + 1)
      go_wp2_with fail
      refine (markText_z ((k : Int) + 2 * (j : Int)) (k + 2 * j) _ (by omega) (by omega) (by omega)).mono ?_
      rintro e w0 ⟨rfl, hb0⟩
      have HW0 := hide (El.Owns.below (show elPart.Owns B _ _ _ from HW.out) hb0 (Nat.le_refl _))
      have HT0 := hide ((HT.out).then_below hb0 (by have := (HT.out).size; simpa using this))
      have hgz0 : g < w0.heap.size := by have := hb0.size; (try simp at this); omega
      clear hb0 c0 z0 c1 z1
      obtain ⟨c0, c1⟩ := cellsXPart (o := j * 2) (HW0.out.cellsAt HLM.out j _ (HQ.out))
      have z0 := HW0.out.frozenAt HLM.out (j * 2)
      have z1 := HW0.out.frozenAt HLM.out (j * 2 + 1)
      go_wp2_with fail
      refine (markText_z ((k : Int) + 2 * (j : Int) + 1) (k + 2 * j + 1) _ (by omega) (by omega) (by omega)).mono ?_
      rintro e w1 ⟨rfl, hb1⟩
      have oa1_0 : elPart.Owns B (w0.setCell ⟨g, j * 2, none⟩ (.string (markS (k + 2 * j)))) (.slice (some ⟨g, 0, none⟩) n cap) (M.set j ((markS (k + 2 * j)), x1)) := (HW0.out).setAt HLM.out j _ (HQ.out) 0 (by decide) (.string (markS (k + 2 * j))) ((markS (k + 2 * j)), x1) rfl
      have ta1_0 := (HT0.out).trans (Only.set g (j * 2) w0 (.string (markS (k + 2 * j))))
      have HW1 := hide (El.Owns.below (show elPart.Owns B _ _ _ from oa1_0) hb1 (Nat.le_refl _))
      have HT1 := hide ((ta1_0).then_below hb1 (by have := (HT0.out).size; simpa using this))
      have hgz1 : g < w1.heap.size := by have := hb1.size; (try simp at this); omega
      clear hb1 c0 z0 c1 z1 oa1_0 ta1_0
      obtain ⟨c0, c1⟩ := cellsXPart (o := j * 2) (HW1.out.cellsAt (by rw [List.length_set]; exact HLM.out) j _ (set_at ((markS (k + 2 * j)), x1) HQ.out))
      have z0 := HW1.out.frozenAt (by rw [List.length_set]; exact HLM.out) (j * 2)
      have z1 := HW1.out.frozenAt (by rw [List.length_set]; exact HLM.out) (j * 2 + 1)
      go_wp2_with fail
      go_roundw
      case rel =>
        have of_0 : elPart.Owns B (w1.setCell ⟨g, j * 2 + 1, none⟩ (.string (markS (k + 2 * j + 1)))) (.slice (some ⟨g, 0, none⟩) n cap) ((M.set j ((markS (k + 2 * j)), x1)).set j ((markS (k + 2 * j)), (markS (k + 2 * j + 1)))) := (HW1.out).setAt (by rw [List.length_set]; exact HLM.out) j _ (set_at ((markS (k + 2 * j)), x1) HQ.out) 1 (by decide) (.string (markS (k + 2 * j + 1))) ((markS (k + 2 * j)), (markS (k + 2 * j + 1))) rfl
        rw [List.set_set] at of_0
        have tf_0 := (HT1.out).trans (Only.set g (j * 2 + 1) w1 (.string (markS (k + 2 * j + 1))))
        have hm : (((markS (k + 2 * j)), (markS (k + 2 * j + 1))) : PartE) = markPart (k + 2 * j) := by
          rfl
        rw [hm, HS.out] at of_0
        exact ⟨j + 1, by go_num, by go_num, by omega, of_0, tf_0⟩
      case measure => simp [intOf]; omega
    · have hjn : j = n := by omega
      subst hjn
      have HW1 := hide (show elPart.Owns B wr (.slice a j cap) (marksG markPart 2 k j) from by
        have := HW.out
        rwa [HN.out, mixG_all, ← HN.out] at this)
      go_wp2_with fail
      go_ret
      exact ⟨rfl, HW1.out, HT.out⟩

set_option maxHeartbeats 1000000 in
theorem heldPartS_any (a : Option Addr) (cap k n : Nat) (w : World) (hr : elPart.Rd w w.heap.size a (marksG markPart 2 k n)) (hk : 0 < k) (hl : k + 2 * n ≤ 8388608) :
    Calls Tryd.prog 39 #[.slice a n cap, .int .i64 k] w (fun e w' => e = .returned (.int .i64 ((k + 2 * n : Nat) : Int)) ∧ Below w.heap.size w w') := by
  have HR := hide hr
  clear hr
  go_enter Tryd.func39, Tryd.ntmps39
  go_wp2_with fail
  go_loopw [1, 5] (fun q i wr => ∃ j : Nat, i = .int .i64 j ∧ q = .int .i64 ((k + 2 * j : Nat) : Int) ∧ j ≤ n ∧ Hid (Below w.heap.size w wr)) (fun _ i _ => n - (intOf i).toNat)
  case atStart => exact ⟨0, rfl, rfl, by omega, Below.refl _ _⟩
  case round =>
    obtain ⟨j, rfl, rfl, hj, HB⟩ := hrel
    by_cases hlt : j < n
    · obtain ⟨b, o, rfl, hb, hc⟩ := HR.out (by rw [length_marksG]; omega)
      have hx : (marksG markPart 2 k n)[j]'(by rw [length_marksG]; exact hlt) = markPart (k + 2 * j) := by
        have := marksG_at markPart 2 k n j hlt
        rw [List.getElem?_eq_getElem (by rw [length_marksG]; exact hlt)] at this
        exact Option.some.inj this
      obtain ⟨p0, p1⟩ := cellsPart (hx.trans (by unfold markPart; rfl)) (hc j (by rw [length_marksG]; exact hlt))
      have d0 := (HB.out.cell (p := ⟨b, o + j * 2, none⟩) hb).trans p0
      have d1 := (HB.out.cell (p := ⟨b, o + j * 2 + 1, none⟩) hb).trans p1
      have hi0 : (j : Int) < (n : Int) := by omega
      clear hc hx p0 p1
      all_goals go_wp2_with fail
      all_goals go_region_held3 (fun w' => w'.cell? ⟨b, o + j * 2, none⟩ = some (.string (markS (k + 2 * j))))
        (first
          | exact d0
          | exact r0)
        (first
          | (go_at_call 37; refine (markText_z ((k : Int) + 2 * (j : Int)) (k + 2 * j) _ (by omega) (by omega) (by omega)).mono ?_; rintro e w0 ⟨rfl, hb0⟩; have HB0 := hide ((HB.out).drew.trans (hb0.mono (HB.out).size)); have r0 := (hb0.cell (p := ⟨b, o + j * 2, none⟩) (Nat.lt_of_lt_of_le hb (HB.out).size)).trans d0; have s1 := (hb0.cell (p := ⟨b, o + j * 2 + 1, none⟩) (Nat.lt_of_lt_of_le hb (HB.out).size)).trans d1; clear hb0))
      all_goals
        clear r0 d0 d1
        have d1 := s1
        clear s1
        all_goals go_wp2_with fail
        all_goals go_region_held3 (fun w' => w'.cell? ⟨b, o + j * 2 + 1, none⟩ = some (.string (markS (k + 2 * j + 1))))
          (first
            | exact d1
            | exact r1)
          (first
            | (go_at_call 37; refine (markText_z ((k : Int) + 2 * (j : Int) + 1) (k + 2 * j + 1) _ (by omega) (by omega) (by omega)).mono ?_; rintro e w1 ⟨rfl, hb1⟩; have HB1 := hide ((HB0.out).drew.trans (hb1.mono (HB0.out).size)); have r1 := (hb1.cell (p := ⟨b, o + j * 2 + 1, none⟩) (Nat.lt_of_lt_of_le hb (HB0.out).size)).trans d1; clear hb1))
        all_goals go_wp2_with fail
        all_goals go_roundw
        all_goals first
          | exact ⟨j + 1, by go_num, by go_num, by omega, hide (HB1.out)⟩
          | (simp [intOf]; omega)
    · have hjn : j = n := by omega
      subst hjn
      go_wp2_with fail
      go_ret
      exact ⟨rfl, HB.out⟩
end Go.Proofs.YtdlkgpobjacgeaaDoor
