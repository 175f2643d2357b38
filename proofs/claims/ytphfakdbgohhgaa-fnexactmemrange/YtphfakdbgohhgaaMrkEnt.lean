/-
  Contract of laws.markEntS: marks are written into a row of impl.Ent. (Written by mkrow.py.)
-/
import Derived.Test.YtphfakdbgohhgaaRowEnt
import Derived.Test.YtphfakdbgohhgaaMarkT
import Derived.Deep.RegionHeld3
namespace Go.Proofs.Ytphfakdbgohhgaa
open Go.ChangeShapes Go.WideShapes Go.ChangeAt Go.RowKit

def markEnt (k : Nat) : EntE := (markS (k), (((k + 1 : Nat)) : Int), decide ((k + 2) % 3 = 0), markS (k + 3))
def MarkedEnt (B : Nat) (w : World) (a : Option Addr) (n cap k : Nat) (e : Ending) (w' : World) : Prop :=
  e = .returned (.int .i64 ((k + 4 * n : Nat) : Int)) ∧ elEnt.Owns B w' (.slice a n cap) (marksG markEnt 4 k n) ∧ Only (Value.slice a n cap).ownBlock w w'

set_option maxHeartbeats 1000000 in
theorem markEntS_any (B : Nat) (a : Option Addr) (cap k : Nat) (L : List EntE) (w : World) (hO : elEnt.Owns B w (.slice a L.length cap) L) (hk : 0 < k) (hl : k + 4 * L.length ≤ 8388608) :
    Calls Try.prog 28 #[.slice a L.length cap, .int .i64 k] w (MarkedEnt B w a L.length cap k) := by
  have HO := hide hO
  clear hO
  obtain ⟨n, hn⟩ : ∃ n, n = L.length := ⟨_, rfl⟩
  have HN := hide hn
  rw [← hn] at hl HO
  rw [← hn]
  clear hn
  go_enter Try.func28, Try.ntmps28
  go_wp2_with fail
  go_loopw [1, 5] (fun q i wr => ∃ j : Nat, i = .int .i64 j ∧ q = .int .i64 ((k + 4 * j : Nat) : Int) ∧ j ≤ n ∧ Hid (elEnt.Owns B wr (.slice a n cap) (mixG markEnt 4 L k j)) ∧ Hid (Only (Value.slice a n cap).ownBlock w wr)) (fun _ i _ => n - (intOf i).toNat)
  case atStart => exact ⟨0, rfl, rfl, by omega, by rw [mixG_zero]; exact HO, Only.refl _ _⟩
  case round =>
    obtain ⟨j, rfl, rfl, hj, HW, HT⟩ := hrel
    by_cases hlt : j < n
    · have hjL : j < L.length := by rw [← HN.out]; exact hlt
      have HS := hide (mixG_step markEnt 4 L k j hjL)
      have hlm : (mixG markEnt 4 L k j).length = n := by rw [length_mixG _ _ L k j (by omega), HN.out]
      generalize mixG markEnt 4 L k j = M at HW HS hlm
      obtain ⟨g, rfl, hg, hgz⟩ := HW.out.pos (by omega)
      obtain ⟨x0, x1, x2, x3, hx⟩ := partsEnt (M[j]'(by omega))
      have HQ := hide (show M[j]? = some (x0, x1, x2, x3) by rw [List.getElem?_eq_getElem (by omega), hx])
      have HLM := hide hlm
      clear hx hlm hjL
      obtain ⟨c0, c1, c2, c3⟩ := cellsXEnt (o := j * 4) (HW.out.cellsAt HLM.out j _ HQ.out)
      have z0 := HW.out.frozenAt HLM.out (j * 4)
      have z1 := HW.out.frozenAt HLM.out (j * 4 + 1)
      have z2 := HW.out.frozenAt HLM.out (j * 4 + 2)
      have z3 := HW.out.frozenAt HLM.out (j * 4 + 3)
      go_wp2_with fail
      refine (markText_z ((k : Int) + 4 * (j : Int)) (k + 4 * j) _ (by omega) (by omega) (by omega)).mono ?_
      rintro e w0 ⟨rfl, hb0⟩
      have HW0 := hide (El.Owns.below (show elEnt.Owns B _ _ _ from HW.out) hb0 (Nat.le_refl _))
      have HT0 := hide ((HT.out).then_below hb0 (by have := (HT.out).size; simpa using this))
      have hgz0 : g < w0.heap.size := by have := hb0.size; (try simp at this); omega
      clear hb0 c0 z0 c1 z1 c2 z2 c3 z3
      obtain ⟨c0, c1, c2, c3⟩ := cellsXEnt (o := j * 4) (HW0.out.cellsAt HLM.out j _ (HQ.out))
      have z0 := HW0.out.frozenAt HLM.out (j * 4)
      have z1 := HW0.out.frozenAt HLM.out (j * 4 + 1)
      have z2 := HW0.out.frozenAt HLM.out (j * 4 + 2)
      have z3 := HW0.out.frozenAt HLM.out (j * 4 + 3)
      go_wp2_with fail
      refine (markText_z ((k : Int) + 4 * (j : Int) + 3) (k + 4 * j + 3) _ (by omega) (by omega) (by omega)).mono ?_
      rintro e w3 ⟨rfl, hb3⟩
      have oa3_0 : elEnt.Owns B (w0.setCell ⟨g, j * 4, none⟩ (.string (markS (k + 4 * j)))) (.slice (some ⟨g, 0, none⟩) n cap) (M.set j ((markS (k + 4 * j)), x1, x2, x3)) := (HW0.out).setAt HLM.out j _ (HQ.out) 0 (by decide) (.string (markS (k + 4 * j))) ((markS (k + 4 * j)), x1, x2, x3) rfl
      have ta3_0 := (HT0.out).trans (Only.set g (j * 4) w0 (.string (markS (k + 4 * j))))
      have oa3_1 : elEnt.Owns B ((w0.setCell ⟨g, j * 4, none⟩ (.string (markS (k + 4 * j)))).setCell ⟨g, j * 4 + 1, none⟩ (.int .i64 ((k : Int) + 4 * (j : Int) + 1))) (.slice (some ⟨g, 0, none⟩) n cap) ((M.set j ((markS (k + 4 * j)), x1, x2, x3)).set j ((markS (k + 4 * j)), ((k : Int) + 4 * (j : Int) + 1), x2, x3)) := (oa3_0).setAt (by rw [List.length_set]; exact HLM.out) j _ (set_at ((markS (k + 4 * j)), x1, x2, x3) HQ.out) 1 (by decide) (.int .i64 ((k : Int) + 4 * (j : Int) + 1)) ((markS (k + 4 * j)), ((k : Int) + 4 * (j : Int) + 1), x2, x3) rfl
      rw [List.set_set] at oa3_1
      have ta3_1 := (ta3_0).trans (Only.set g (j * 4 + 1) (w0.setCell ⟨g, j * 4, none⟩ (.string (markS (k + 4 * j)))) (.int .i64 ((k : Int) + 4 * (j : Int) + 1)))
      have oa3_2 : elEnt.Owns B (((w0.setCell ⟨g, j * 4, none⟩ (.string (markS (k + 4 * j)))).setCell ⟨g, j * 4 + 1, none⟩ (.int .i64 ((k : Int) + 4 * (j : Int) + 1))).setCell ⟨g, j * 4 + 2, none⟩ (.bool (((k : Int) + 4 * (j : Int) + 2) % 3 == 0))) (.slice (some ⟨g, 0, none⟩) n cap) ((M.set j ((markS (k + 4 * j)), ((k : Int) + 4 * (j : Int) + 1), x2, x3)).set j ((markS (k + 4 * j)), ((k : Int) + 4 * (j : Int) + 1), (((k : Int) + 4 * (j : Int) + 2) % 3 == 0), x3)) := (oa3_1).setAt (by rw [List.length_set]; exact HLM.out) j _ (set_at ((markS (k + 4 * j)), ((k : Int) + 4 * (j : Int) + 1), x2, x3) HQ.out) 2 (by decide) (.bool (((k : Int) + 4 * (j : Int) + 2) % 3 == 0)) ((markS (k + 4 * j)), ((k : Int) + 4 * (j : Int) + 1), (((k : Int) + 4 * (j : Int) + 2) % 3 == 0), x3) rfl
      rw [List.set_set] at oa3_2
      have ta3_2 := (ta3_1).trans (Only.set g (j * 4 + 2) ((w0.setCell ⟨g, j * 4, none⟩ (.string (markS (k + 4 * j)))).setCell ⟨g, j * 4 + 1, none⟩ (.int .i64 ((k : Int) + 4 * (j : Int) + 1))) (.bool (((k : Int) + 4 * (j : Int) + 2) % 3 == 0)))
      have HW3 := hide (El.Owns.below (show elEnt.Owns B _ _ _ from oa3_2) hb3 (Nat.le_refl _))
      have HT3 := hide ((ta3_2).then_below hb3 (by have := (HT0.out).size; simpa using this))
      have hgz3 : g < w3.heap.size := by have := hb3.size; (try simp at this); omega
      clear hb3 c0 z0 c1 z1 c2 z2 c3 z3 oa3_0 ta3_0 oa3_1 ta3_1 oa3_2 ta3_2
      obtain ⟨c0, c1, c2, c3⟩ := cellsXEnt (o := j * 4) (HW3.out.cellsAt (by rw [List.length_set]; exact HLM.out) j _ (set_at ((markS (k + 4 * j)), ((k : Int) + 4 * (j : Int) + 1), (((k : Int) + 4 * (j : Int) + 2) % 3 == 0), x3) HQ.out))
      have z0 := HW3.out.frozenAt (by rw [List.length_set]; exact HLM.out) (j * 4)
      have z1 := HW3.out.frozenAt (by rw [List.length_set]; exact HLM.out) (j * 4 + 1)
      have z2 := HW3.out.frozenAt (by rw [List.length_set]; exact HLM.out) (j * 4 + 2)
      have z3 := HW3.out.frozenAt (by rw [List.length_set]; exact HLM.out) (j * 4 + 3)
      go_wp2_with fail
      go_roundw
      case rel =>
        have of_0 : elEnt.Owns B (w3.setCell ⟨g, j * 4 + 3, none⟩ (.string (markS (k + 4 * j + 3)))) (.slice (some ⟨g, 0, none⟩) n cap) ((M.set j ((markS (k + 4 * j)), ((k : Int) + 4 * (j : Int) + 1), (((k : Int) + 4 * (j : Int) + 2) % 3 == 0), x3)).set j ((markS (k + 4 * j)), ((k : Int) + 4 * (j : Int) + 1), (((k : Int) + 4 * (j : Int) + 2) % 3 == 0), (markS (k + 4 * j + 3)))) := (HW3.out).setAt (by rw [List.length_set]; exact HLM.out) j _ (set_at ((markS (k + 4 * j)), ((k : Int) + 4 * (j : Int) + 1), (((k : Int) + 4 * (j : Int) + 2) % 3 == 0), x3) HQ.out) 3 (by decide) (.string (markS (k + 4 * j + 3))) ((markS (k + 4 * j)), ((k : Int) + 4 * (j : Int) + 1), (((k : Int) + 4 * (j : Int) + 2) % 3 == 0), (markS (k + 4 * j + 3))) rfl
        rw [List.set_set] at of_0
        have tf_0 := (HT3.out).trans (Only.set g (j * 4 + 3) w3 (.string (markS (k + 4 * j + 3))))
        have hm : (((markS (k + 4 * j)), ((k : Int) + 4 * (j : Int) + 1), (((k : Int) + 4 * (j : Int) + 2) % 3 == 0), (markS (k + 4 * j + 3))) : EntE) = markEnt (k + 4 * j) := by
          unfold markEnt
          rw [show (((k + 4 * j + 1 : Nat)) : Int) = (k : Int) + 4 * (j : Int) + 1 from by omega]
          rw [markB (k + 4 * j + 2) ((k : Int) + 4 * (j : Int) + 2) (by omega)]
        rw [hm, HS.out] at of_0
        exact ⟨j + 1, by go_num, by go_num, by omega, of_0, tf_0⟩
      case measure => simp [intOf]; omega
    · have hjn : j = n := by omega
      subst hjn
      have HW1 := hide (show elEnt.Owns B wr (.slice a j cap) (marksG markEnt 4 k j) from by
        have := HW.out
        rwa [HN.out, mixG_all, ← HN.out] at this)
      go_wp2_with fail
      go_ret
      exact ⟨rfl, HW1.out, HT.out⟩
end Go.Proofs.Ytphfakdbgohhgaa
