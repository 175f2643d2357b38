/-
  Contracts of laws.markKVS and laws.heldKVS: marks are written into a row of impl.KV, and found there. (Written by mkrow.py.)
-/
import Derived.Test.YtphfakdbgohhgaaRowKV
import Derived.Test.YtphfakdbgohhgaaMarkT
import Derived.Deep.RegionHeld3
namespace Go.Proofs.Ytphfakdbgohhgaa
open Go.ChangeShapes Go.WideShapes Go.ChangeAt Go.RowKit

def markKV (k : Nat) : KVE := (markS (k), markS (k + 1))
def MarkedKV (B : Nat) (w : World) (a : Option Addr) (n cap k : Nat) (e : Ending) (w' : World) : Prop :=
  e = .returned (.int .i64 ((k + 2 * n : Nat) : Int)) ∧ elKV.Owns B w' (.slice a n cap) (marksG markKV 2 k n) ∧ Only (Value.slice a n cap).ownBlock w w'

set_option maxHeartbeats 1000000 in
theorem markKVS_any (B : Nat) (a : Option Addr) (cap k : Nat) (L : List KVE) (w : World) (hO : elKV.Owns B w (.slice a L.length cap) L) (hk : 0 < k) (hl : k + 2 * L.length ≤ 8388608) :
    Calls Try.prog 29 #[.slice a L.length cap, .int .i64 k] w (MarkedKV B w a L.length cap k) := by
  have HO := hide hO
  clear hO
  obtain ⟨n, hn⟩ : ∃ n, n = L.length := ⟨_, rfl⟩
  have HN := hide hn
  rw [← hn] at hl HO
  rw [← hn]
  clear hn
  go_enter Try.func29, Try.ntmps29
  go_wp2_with fail
  go_loopw [1, 5] (fun q i wr => ∃ j : Nat, i = .int .i64 j ∧ q = .int .i64 ((k + 2 * j : Nat) : Int) ∧ j ≤ n ∧ Hid (elKV.Owns B wr (.slice a n cap) (mixG markKV 2 L k j)) ∧ Hid (Only (Value.slice a n cap).ownBlock w wr)) (fun _ i _ => n - (intOf i).toNat)
  case atStart => exact ⟨0, rfl, rfl, by omega, by rw [mixG_zero]; exact HO, Only.refl _ _⟩
  case round =>
    obtain ⟨j, rfl, rfl, hj, HW, HT⟩ := hrel
    by_cases hlt : j < n
    · have hjL : j < L.length := by rw [← HN.out]; exact hlt
      have HS := hide (mixG_step markKV 2 L k j hjL)
      have hlm : (mixG markKV 2 L k j).length = n := by rw [length_mixG _ _ L k j (by omega), HN.out]
      generalize mixG markKV 2 L k j = M at HW HS hlm
      obtain ⟨g, rfl, hg, hgz⟩ := HW.out.pos (by omega)
      obtain ⟨x0, x1, hx⟩ := partsKV (M[j]'(by omega))
      have HQ := hide (show M[j]? = some (x0, x1) by rw [List.getElem?_eq_getElem (by omega), hx])
      have HLM := hide hlm
      clear hx hlm hjL
      obtain ⟨c0, c1⟩ := cellsXKV (o := j * 2) (HW.out.cellsAt HLM.out j _ HQ.out)
      have z0 := HW.out.frozenAt HLM.out (j * 2)
      have z1 := HW.out.frozenAt HLM.out (j * 2 + 1)
      go_wp2_with fail
      refine (markText_z ((k : Int) + 2 * (j : Int)) (k + 2 * j) _ (by omega) (by omega) (by omega)).mono ?_
      rintro e w0 ⟨rfl, hb0⟩
      have HW0 := hide (El.Owns.below (show elKV.Owns B _ _ _ from HW.out) hb0 (Nat.le_refl _))
      have HT0 := hide ((HT.out).then_below hb0 (by have := (HT.out).size; simpa using this))
      have hgz0 : g < w0.heap.size := by have := hb0.size; (try simp at this); omega
      clear hb0 c0 z0 c1 z1
      obtain ⟨c0, c1⟩ := cellsXKV (o := j * 2) (HW0.out.cellsAt HLM.out j _ (HQ.out))
      have z0 := HW0.out.frozenAt HLM.out (j * 2)
      have z1 := HW0.out.frozenAt HLM.out (j * 2 + 1)
      go_wp2_with fail
      refine (markText_z ((k : Int) + 2 * (j : Int) + 1) (k + 2 * j + 1) _ (by omega) (by omega) (by omega)).mono ?_
      rintro e w1 ⟨rfl, hb1⟩
      have oa1_0 : elKV.Owns B (w0.setCell ⟨g, j * 2, none⟩ (.string (markS (k + 2 * j)))) (.slice (some ⟨g, 0, none⟩) n cap) (M.set j ((markS (k + 2 * j)), x1)) := (HW0.out).setAt HLM.out j _ (HQ.out) 0 (by decide) (.string (markS (k + 2 * j))) ((markS (k + 2 * j)), x1) rfl
      have ta1_0 := (HT0.out).trans (Only.set g (j * 2) w0 (.string (markS (k + 2 * j))))
      have HW1 := hide (El.Owns.below (show elKV.Owns B _ _ _ from oa1_0) hb1 (Nat.le_refl _))
      have HT1 := hide ((ta1_0).then_below hb1 (by have := (HT0.out).size; simpa using this))
      have hgz1 : g < w1.heap.size := by have := hb1.size; (try simp at this); omega
      clear hb1 c0 z0 c1 z1 oa1_0 ta1_0
      obtain ⟨c0, c1⟩ := cellsXKV (o := j * 2) (HW1.out.cellsAt (by rw [List.length_set]; exact HLM.out) j _ (set_at ((markS (k + 2 * j)), x1) HQ.out))
      have z0 := HW1.out.frozenAt (by rw [List.length_set]; exact HLM.out) (j * 2)
      have z1 := HW1.out.frozenAt (by rw [List.length_set]; exact HLM.out) (j * 2 + 1)
      go_wp2_with fail
      go_roundw
      case rel =>
        have of_0 : elKV.Owns B (w1.setCell ⟨g, j * 2 + 1, none⟩ (.string (markS (k + 2 * j + 1)))) (.slice (some ⟨g, 0, none⟩) n cap) ((M.set j ((markS (k + 2 * j)), x1)).set j ((markS (k + 2 * j)), (markS (k + 2 * j + 1)))) := (HW1.out).setAt (by rw [List.length_set]; exact HLM.out) j _ (set_at ((markS (k + 2 * j)), x1) HQ.out) 1 (by decide) (.string (markS (k + 2 * j + 1))) ((markS (k + 2 * j)), (markS (k + 2 * j + 1))) rfl
        rw [List.set_set] at of_0
        have tf_0 := (HT1.out).trans (Only.set g (j * 2 + 1) w1 (.string (markS (k + 2 * j + 1))))
        have hm : (((markS (k + 2 * j)), (markS (k + 2 * j + 1))) : KVE) = markKV (k + 2 * j) := by
          rfl
        rw [hm, HS.out] at of_0
        exact ⟨j + 1, by go_num, by go_num, by omega, of_0, tf_0⟩
      case measure => simp [intOf]; omega
    · have hjn : j = n := by omega
      subst hjn
      have HW1 := hide (show elKV.Owns B wr (.slice a j cap) (marksG markKV 2 k j) from by
        have := HW.out
        rwa [HN.out, mixG_all, ← HN.out] at this)
      go_wp2_with fail
      go_ret
      exact ⟨rfl, HW1.out, HT.out⟩

set_option maxHeartbeats 1000000 in
theorem heldKVS_any (a : Option Addr) (cap k n : Nat) (w : World) (hr : elKV.Rd w w.heap.size a (marksG markKV 2 k n)) (hk : 0 < k) (hl : k + 2 * n ≤ 8388608) :
    Calls Try.prog 30 #[.slice a n cap, .int .i64 k] w (fun e w' => e = .returned (.int .i64 ((k + 2 * n : Nat) : Int)) ∧ Below w.heap.size w w') := by
  have HR := hide hr
  clear hr
  go_enter Try.func30, Try.ntmps30
  go_wp2_with fail
  go_loopw [1, 5] (fun q i wr => ∃ j : Nat, i = .int .i64 j ∧ q = .int .i64 ((k + 2 * j : Nat) : Int) ∧ j ≤ n ∧ Hid (Below w.heap.size w wr)) (fun _ i _ => n - (intOf i).toNat)
  case atStart => exact ⟨0, rfl, rfl, by omega, Below.refl _ _⟩
  case round =>
    obtain ⟨j, rfl, rfl, hj, HB⟩ := hrel
    by_cases hlt : j < n
    · obtain ⟨b, o, rfl, hb, hc⟩ := HR.out (by rw [length_marksG]; omega)
      have hx : (marksG markKV 2 k n)[j]'(by rw [length_marksG]; exact hlt) = markKV (k + 2 * j) := by
        have := marksG_at markKV 2 k n j hlt
        rw [List.getElem?_eq_getElem (by rw [length_marksG]; exact hlt)] at this
        exact Option.some.inj this
      obtain ⟨p0, p1⟩ := cellsKV (hx.trans (by unfold markKV; rfl)) (hc j (by rw [length_marksG]; exact hlt))
      have d0 := (HB.out.cell (p := ⟨b, o + j * 2, none⟩) hb).trans p0
      have d1 := (HB.out.cell (p := ⟨b, o + j * 2 + 1, none⟩) hb).trans p1
      have hi0 : (j : Int) < (n : Int) := by omega
      clear hc hx p0 p1
      all_goals go_wp2_with fail
      all_goals go_region_held3 (fun w' => w'.cell? ⟨b, o + j * 2, none⟩ = some (.string (markS (k + 2 * j))))
        (first
          | exact d0
          | exact r0)
        (first
          | (go_at_call 71; refine (markText_z ((k : Int) + 2 * (j : Int)) (k + 2 * j) _ (by omega) (by omega) (by omega)).mono ?_; rintro e w0 ⟨rfl, hb0⟩; have HB0 := hide ((HB.out).drew.trans (hb0.mono (HB.out).size)); have r0 := (hb0.cell (p := ⟨b, o + j * 2, none⟩) (Nat.lt_of_lt_of_le hb (HB.out).size)).trans d0; have s1 := (hb0.cell (p := ⟨b, o + j * 2 + 1, none⟩) (Nat.lt_of_lt_of_le hb (HB.out).size)).trans d1; clear hb0))
      all_goals
        clear r0 d0 d1
        have d1 := s1
        clear s1
        all_goals go_wp2_with fail
        all_goals go_region_held3 (fun w' => w'.cell? ⟨b, o + j * 2 + 1, none⟩ = some (.string (markS (k + 2 * j + 1))))
          (first
            | exact d1
            | exact r1)
          (first
            | (go_at_call 71; refine (markText_z ((k : Int) + 2 * (j : Int) + 1) (k + 2 * j + 1) _ (by omega) (by omega) (by omega)).mono ?_; rintro e w1 ⟨rfl, hb1⟩; have HB1 := hide ((HB0.out).drew.trans (hb1.mono (HB0.out).size)); have r1 := (hb1.cell (p := ⟨b, o + j * 2 + 1, none⟩) (Nat.lt_of_lt_of_le hb (HB0.out).size)).trans d1; clear hb1))
        all_goals go_wp2_with fail
        all_goals go_roundw
        all_goals first
          | exact ⟨j + 1, by go_num, by go_num, by omega, hide (HB1.out)⟩
          | (simp [intOf]; omega)
    · have hjn : j = n := by omega
      subst hjn
      go_wp2_with fail
      go_ret
      exact ⟨rfl, HB.out⟩
end Go.Proofs.Ytphfakdbgohhgaa
