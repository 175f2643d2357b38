/-
  Texts of this proof, put together: MarkOp.
-/
import Derived.Test.YtmdhihgfnlnbnaaPackAF
import Derived.Test.YtmdhihgfnlnbnaaPackAK
import Derived.Deep.RegionHeld3

/-
  Contracts of laws.markOpS and laws.heldOpS: marks are written into a row of impl.Op, and found there. (Written by mkrow.py.)
-/
namespace Go.Proofs.Ytmdhihgfnlnbnaa
open Go.ChangeShapes Go.WideShapes Go.ChangeAt Go.RowKit

def markOp (k : Nat) : OpE := (markS (k), decide ((k + 1) % 3 = 0), markS (k + 2))
def MarkedOp (B : Nat) (w : World) (a : Option Addr) (n cap k : Nat) (e : Ending) (w' : World) : Prop :=
  e = .returned (.int .i64 ((k + 3 * n : Nat) : Int)) ∧ elOp.Owns B w' (.slice a n cap) (marksG markOp 3 k n) ∧ Only (Value.slice a n cap).ownBlock w w'

set_option maxHeartbeats 1000000 in
theorem markOpS_any (B : Nat) (a : Option Addr) (cap k : Nat) (L : List OpE) (w : World) (hO : elOp.Owns B w (.slice a L.length cap) L) (hk : 0 < k) (hl : k + 3 * L.length ≤ 8388608) :
    Calls Try.prog 26 #[.slice a L.length cap, .int .i64 k] w (MarkedOp B w a L.length cap k) := by
  have HO := hide hO
  clear hO
  obtain ⟨n, hn⟩ : ∃ n, n = L.length := ⟨_, rfl⟩
  have HN := hide hn
  rw [← hn] at hl HO
  rw [← hn]
  clear hn
  go_enter Try.func26, Try.ntmps26
  go_wp2_with fail
  go_loopw [1, 5] (fun q i wr => ∃ j : Nat, i = .int .i64 j ∧ q = .int .i64 ((k + 3 * j : Nat) : Int) ∧ j ≤ n ∧ Hid (elOp.Owns B wr (.slice a n cap) (mixG markOp 3 L k j)) ∧ Hid (Only (Value.slice a n cap).ownBlock w wr)) (fun _ i _ => n - (intOf i).toNat)
  case atStart => exact ⟨0, rfl, rfl, by omega, by rw [mixG_zero]; exact HO, Only.refl _ _⟩
  case round =>
    obtain ⟨j, rfl, rfl, hj, HW, HT⟩ := hrel
    by_cases hlt : j < n
    · have hjL : j < L.length := by rw [← HN.out]; exact hlt
      have HS := hide (mixG_step markOp 3 L k j hjL)
      have hlm : (mixG markOp 3 L k j).length = n := by rw [length_mixG _ _ L k j (by omega), HN.out]
      generalize mixG markOp 3 L k j = M at HW HS hlm
      obtain ⟨g, rfl, hg, hgz⟩ := HW.out.pos (by omega)
      obtain ⟨x0, x1, x2, hx⟩ := partsOp (M[j]'(by omega))
      have HQ := hide (show M[j]? = some (x0, x1, x2) by rw [List.getElem?_eq_getElem (by omega), hx])
      have HLM := hide hlm
      clear hx hlm hjL
      obtain ⟨c0, c1, c2⟩ := cellsXOp (o := j * 3) (HW.out.cellsAt HLM.out j _ HQ.out)
      have z0 := HW.out.frozenAt HLM.out (j * 3)
      have z1 := HW.out.frozenAt HLM.out (j * 3 + 1)
      have z2 := HW.out.frozenAt HLM.out (j * 3 + 2)
      go_wp2_with fail
      refine (markText_z ((k : Int) + 3 * (j : Int)) (k + 3 * j) _ (by omega) (by omega) (by omega)).mono ?_
      rintro e w0 ⟨rfl, hb0⟩
      have HW0 := hide (El.Owns.below (show elOp.Owns B _ _ _ from HW.out) hb0 (Nat.le_refl _))
      have HT0 := hide ((HT.out).then_below hb0 (by have := (HT.out).size; simpa using this))
      have hgz0 : g < w0.heap.size := by have := hb0.size; (try simp at this); omega
      clear hb0 c0 z0 c1 z1 c2 z2
      obtain ⟨c0, c1, c2⟩ := cellsXOp (o := j * 3) (HW0.out.cellsAt HLM.out j _ (HQ.out))
      have z0 := HW0.out.frozenAt HLM.out (j * 3)
      have z1 := HW0.out.frozenAt HLM.out (j * 3 + 1)
      have z2 := HW0.out.frozenAt HLM.out (j * 3 + 2)
      go_wp2_with fail
      refine (markText_z ((k : Int) + 3 * (j : Int) + 2) (k + 3 * j + 2) _ (by omega) (by omega) (by omega)).mono ?_
      rintro e w2 ⟨rfl, hb2⟩
      have oa2_0 : elOp.Owns B (w0.setCell ⟨g, j * 3, none⟩ (.string (markS (k + 3 * j)))) (.slice (some ⟨g, 0, none⟩) n cap) (M.set j ((markS (k + 3 * j)), x1, x2)) := (HW0.out).setAt HLM.out j _ (HQ.out) 0 (by decide) (.string (markS (k + 3 * j))) ((markS (k + 3 * j)), x1, x2) rfl
      have ta2_0 := (HT0.out).trans (Only.set g (j * 3) w0 (.string (markS (k + 3 * j))))
      have oa2_1 : elOp.Owns B ((w0.setCell ⟨g, j * 3, none⟩ (.string (markS (k + 3 * j)))).setCell ⟨g, j * 3 + 1, none⟩ (.bool (((k : Int) + 3 * (j : Int) + 1) % 3 == 0))) (.slice (some ⟨g, 0, none⟩) n cap) ((M.set j ((markS (k + 3 * j)), x1, x2)).set j ((markS (k + 3 * j)), (((k : Int) + 3 * (j : Int) + 1) % 3 == 0), x2)) := (oa2_0).setAt (by rw [List.length_set]; exact HLM.out) j _ (set_at ((markS (k + 3 * j)), x1, x2) HQ.out) 1 (by decide) (.bool (((k : Int) + 3 * (j : Int) + 1) % 3 == 0)) ((markS (k + 3 * j)), (((k : Int) + 3 * (j : Int) + 1) % 3 == 0), x2) rfl
      rw [List.set_set] at oa2_1
      have ta2_1 := (ta2_0).trans (Only.set g (j * 3 + 1) (w0.setCell ⟨g, j * 3, none⟩ (.string (markS (k + 3 * j)))) (.bool (((k : Int) + 3 * (j : Int) + 1) % 3 == 0)))
      have HW2 := hide (El.Owns.below (show elOp.Owns B _ _ _ from oa2_1) hb2 (Nat.le_refl _))
      have HT2 := hide ((ta2_1).then_below hb2 (by have := (HT0.out).size; simpa using this))
      have hgz2 : g < w2.heap.size := by have := hb2.size; (try simp at this); omega
      clear hb2 c0 z0 c1 z1 c2 z2 oa2_0 ta2_0 oa2_1 ta2_1
      obtain ⟨c0, c1, c2⟩ := cellsXOp (o := j * 3) (HW2.out.cellsAt (by rw [List.length_set]; exact HLM.out) j _ (set_at ((markS (k + 3 * j)), (((k : Int) + 3 * (j : Int) + 1) % 3 == 0), x2) HQ.out))
      have z0 := HW2.out.frozenAt (by rw [List.length_set]; exact HLM.out) (j * 3)
      have z1 := HW2.out.frozenAt (by rw [List.length_set]; exact HLM.out) (j * 3 + 1)
      have z2 := HW2.out.frozenAt (by rw [List.length_set]; exact HLM.out) (j * 3 + 2)
      go_wp2_with fail
      go_roundw
      case rel =>
        have of_0 : elOp.Owns B (w2.setCell ⟨g, j * 3 + 2, none⟩ (.string (markS (k + 3 * j + 2)))) (.slice (some ⟨g, 0, none⟩) n cap) ((M.set j ((markS (k + 3 * j)), (((k : Int) + 3 * (j : Int) + 1) % 3 == 0), x2)).set j ((markS (k + 3 * j)), (((k : Int) + 3 * (j : Int) + 1) % 3 == 0), (markS (k + 3 * j + 2)))) := (HW2.out).setAt (by rw [List.length_set]; exact HLM.out) j _ (set_at ((markS (k + 3 * j)), (((k : Int) + 3 * (j : Int) + 1) % 3 == 0), x2) HQ.out) 2 (by decide) (.string (markS (k + 3 * j + 2))) ((markS (k + 3 * j)), (((k : Int) + 3 * (j : Int) + 1) % 3 == 0), (markS (k + 3 * j + 2))) rfl
        rw [List.set_set] at of_0
        have tf_0 := (HT2.out).trans (Only.set g (j * 3 + 2) w2 (.string (markS (k + 3 * j + 2))))
        have hm : (((markS (k + 3 * j)), (((k : Int) + 3 * (j : Int) + 1) % 3 == 0), (markS (k + 3 * j + 2))) : OpE) = markOp (k + 3 * j) := by
          unfold markOp
          rw [markB (k + 3 * j + 1) ((k : Int) + 3 * (j : Int) + 1) (by omega)]
        rw [hm, HS.out] at of_0
        exact ⟨j + 1, by go_num, by go_num, by omega, of_0, tf_0⟩
      case measure => simp [intOf]; omega
    · have hjn : j = n := by omega
      subst hjn
      have HW1 := hide (show elOp.Owns B wr (.slice a j cap) (marksG markOp 3 k j) from by
        have := HW.out
        rwa [HN.out, mixG_all, ← HN.out] at this)
      go_wp2_with fail
      go_ret
      exact ⟨rfl, HW1.out, HT.out⟩

set_option maxHeartbeats 1000000 in
theorem heldOpS_any (a : Option Addr) (cap k n : Nat) (w : World) (hr : elOp.Rd w w.heap.size a (marksG markOp 3 k n)) (hk : 0 < k) (hl : k + 3 * n ≤ 8388608) :
    Calls Try.prog 27 #[.slice a n cap, .int .i64 k] w (fun e w' => e = .returned (.int .i64 ((k + 3 * n : Nat) : Int)) ∧ Below w.heap.size w w') := by
  have HR := hide hr
  clear hr
  go_enter Try.func27, Try.ntmps27
  go_wp2_with fail
  go_loopw [1, 5] (fun q i wr => ∃ j : Nat, i = .int .i64 j ∧ q = .int .i64 ((k + 3 * j : Nat) : Int) ∧ j ≤ n ∧ Hid (Below w.heap.size w wr)) (fun _ i _ => n - (intOf i).toNat)
  case atStart => exact ⟨0, rfl, rfl, by omega, Below.refl _ _⟩
  case round =>
    obtain ⟨j, rfl, rfl, hj, HB⟩ := hrel
    by_cases hlt : j < n
    · obtain ⟨b, o, rfl, hb, hc⟩ := HR.out (by rw [length_marksG]; omega)
      have hx : (marksG markOp 3 k n)[j]'(by rw [length_marksG]; exact hlt) = markOp (k + 3 * j) := by
        have := marksG_at markOp 3 k n j hlt
        rw [List.getElem?_eq_getElem (by rw [length_marksG]; exact hlt)] at this
        exact Option.some.inj this
      obtain ⟨p0, p1, p2⟩ := cellsOp (hx.trans (by unfold markOp; rfl)) (hc j (by rw [length_marksG]; exact hlt))
      have d0 := (HB.out.cell (p := ⟨b, o + j * 3, none⟩) hb).trans p0
      have d1 := (HB.out.cell (p := ⟨b, o + j * 3 + 1, none⟩) hb).trans p1
      have d2 := (HB.out.cell (p := ⟨b, o + j * 3 + 2, none⟩) hb).trans p2
      have hi0 : (j : Int) < (n : Int) := by omega
      clear hc hx p0 p1 p2
      all_goals go_wp2_with fail
      all_goals go_region_held3 (fun w' => w'.cell? ⟨b, o + j * 3, none⟩ = some (.string (markS (k + 3 * j))))
        (first
          | exact d0
          | exact r0)
        (first
          | (go_at_call 57; refine (markText_z ((k : Int) + 3 * (j : Int)) (k + 3 * j) _ (by omega) (by omega) (by omega)).mono ?_; rintro e w0 ⟨rfl, hb0⟩; have HB0 := hide ((HB.out).drew.trans (hb0.mono (HB.out).size)); have r0 := (hb0.cell (p := ⟨b, o + j * 3, none⟩) (Nat.lt_of_lt_of_le hb (HB.out).size)).trans d0; have s1 := (hb0.cell (p := ⟨b, o + j * 3 + 1, none⟩) (Nat.lt_of_lt_of_le hb (HB.out).size)).trans d1; have s2 := (hb0.cell (p := ⟨b, o + j * 3 + 2, none⟩) (Nat.lt_of_lt_of_le hb (HB.out).size)).trans d2; clear hb0))
      all_goals
        clear r0 d0 d1 d2
        have d1 := s1
        clear s1
        have d2 := s2
        clear s2
        all_goals by_cases hq1 : ((k : Int) + 3 * (j : Int) + 1) % 3 = 0
        all_goals first
          | rw [show decide ((k + 3 * j + 1) % 3 = 0) = true from decide_eq_true (by omega)] at d1
          | rw [show decide ((k + 3 * j + 1) % 3 = 0) = false from decide_eq_false (by omega)] at d1
        all_goals go_wp2_with fail
        all_goals go_region_held3 (fun w' => w'.cell? ⟨b, o + j * 3 + 2, none⟩ = some (.string (markS (k + 3 * j + 2))))
          (first
            | exact d2
            | exact r2)
          (first
            | (go_at_call 57; refine (markText_z ((k : Int) + 3 * (j : Int) + 2) (k + 3 * j + 2) _ (by omega) (by omega) (by omega)).mono ?_; rintro e w2 ⟨rfl, hb2⟩; have HB2 := hide ((HB0.out).drew.trans (hb2.mono (HB0.out).size)); have r2 := (hb2.cell (p := ⟨b, o + j * 3 + 2, none⟩) (Nat.lt_of_lt_of_le hb (HB0.out).size)).trans d2; clear hb2))
        all_goals go_wp2_with fail
        all_goals go_roundw
        all_goals first
          | exact ⟨j + 1, by go_num, by go_num, by omega, hide (HB2.out)⟩
          | (simp [intOf]; omega)
    · have hjn : j = n := by omega
      subst hjn
      go_wp2_with fail
      go_ret
      exact ⟨rfl, HB.out⟩
end Go.Proofs.Ytmdhihgfnlnbnaa
