/-
  Contract of spec.ReadVar.
-/
import Derived.Test.YtmdhihgfnlnbnaaReadVarI
import Derived.Test.YtmdhihgfnlnbnaaVarS
import Derived.Deep.RegionWith
namespace Go.Proofs.Ytmdhihgfnlnbnaa
open Go.ChangeShapes Go.WideShapes Go.ChangeAt Go.RowKit

set_option maxRecDepth 20000 in
theorem sReadVar_any (s : ByteArray) (w : World) (hm : s.size ≤ maxLen) :
    Calls Try.prog 82 #[.string s] w (RvPost w s) := by
  unfold maxLen at hm
  go_enter Try.func82, Try.ntmps82
  go_wp2
  go_loopw [4, 5, 6] (fun k _ _ wr => ∃ j : Nat, j ≤ 7 ∧ j ≤ s.size ∧ k = .int .i64 ((j + 1 : Nat) : Int) ∧ Hid (∀ t, t < (bl s).length → t < j → varL (le7 ((bl s).take (t + 1))) ≠ (bl s).take (t + 1)) ∧ Hid (Below w.heap.size w wr)) (fun k _ _ _ => 8 - (intOf k).toNat)
  case atStart => exact ⟨0, by omega, by omega, rfl, fun t _ h => by omega, Below.refl _ _⟩
  case round =>
    obtain ⟨j, hj7, hjs, rfl, HA, HB⟩ := hrel
    by_cases hlt : j < 7 ∧ j < s.size
    · obtain ⟨hl7, hls⟩ := hlt
      have hd13 : decide ((j : Int) + 1 ≤ (s.size : Int)) = true := decide_eq_true (by omega)
      have HP : Hid (∀ q, q < j + 1 → ∀ hq : q < s.size, ((bl s).take (j + 1)).drop q = s[q] :: ((bl s).take (j + 1)).drop (q + 1)) := by
        intro q hq hqs
        rw [List.drop_eq_getElem_cons (by rw [List.length_take, bl_len]; omega), List.getElem_take, bl_at s q hqs]
      go_wp2
      go_loop [5, 6] (fun n i => ∃ p : Nat, p ≤ j + 1 ∧ i = .int .i64 ((p : Int) - 1) ∧ n = .int .i64 (le7 (((bl s).take (j + 1)).drop p) : Nat)) (fun _ i => ((intOf i) + 1).toNat)
      case atStart => exact ⟨j + 1, by omega, by go_num, by rw [List.drop_of_length_le (by rw [List.length_take]; omega)]; rfl⟩
      case round =>
        obtain ⟨p, hp, rfl, rfl⟩ := hrel
        cases p with
        | zero =>
          rw [List.drop_zero]
          have HM := hide (le7_take_lt (bl s) (j + 1) (by omega))
          by_cases hv : varL (le7 ((bl s).take (j + 1))) = (bl s).take (j + 1)
          · have HG := hide (readVarL_good (l := bl s) (k := j) (by rw [bl_len]; exact hls) hl7 hv)
            have ht : (varL (le7 (List.take (j + 1) (bl s))) == (s.extract 0 (j + 1)).toList) = true := by rw [bl_extract, beq_iff_eq]; exact hv
            clear hv
            go_wp2
            go_region_with (go_at_call 53; refine (sVar_yes _ _ HM.out).mono ?_; rintro e w' ⟨rfl, hb'⟩; have HB' := hide hb'; clear hb')
            all_goals (try go_wp2)
            all_goals go_ret2
            all_goals exact rvPost_of HG.out rfl (HB.out.drew.trans (HB'.out.mono HB.out.size))
          · have HN := hide hv
            have ht : (varL (le7 (List.take (j + 1) (bl s))) == (s.extract 0 (j + 1)).toList) = false := by rw [bl_extract, beq_eq_false_iff_ne]; exact hv
            clear hv
            go_wp2
            go_region_with (go_at_call 53; refine (sVar_yes _ _ HM.out).mono ?_; rintro e w' ⟨rfl, hb'⟩; have HB' := hide hb'; clear hb')
            all_goals (try go_wp2)
            all_goals
              go_roundw
              case rel =>
                refine ⟨j + 1, by omega, by omega, by go_num, fun t ht htj => ?_, HB.out.drew.trans (HB'.out.mono HB.out.size)⟩
                by_cases htj' : t < j
                · exact HA.out t ht htj'
                · obtain rfl : t = j := by omega
                  exact HN.out
              case measure => simp [intOf]; omega
        | succ q =>
          have hqs : q < s.size := by omega
          have HD := hide (HP.out q (by omega) hqs)
          have hbd := le7_drop_lt (bl s) j q hl7
          have hc : (s[q]'hqs).toNat < 256 := (s[q]'hqs).toNat_lt
          go_wp2
          go_round
          case rel => exact ⟨q, by omega, rfl, by rw [HD.out, le7]; go_num⟩
          case measure => simp [intOf]
    · have HR := hide (readVarL_bad (l := bl s) (fun t ht ht7 => HA.out t ht (by rw [bl_len] at ht; omega)))
      by_cases h7 : j < 7
      · have hd13 : decide ((j : Int) + 1 ≤ (s.size : Int)) = false := decide_eq_false (by omega)
        have hd8 : decide ((j : Int) + 1 ≤ 7) = true := decide_eq_true (by omega)
        go_wp2
        go_ret2
        exact rvPost_of HR.out rfl HB.out
      · have hd8 : decide ((j : Int) + 1 ≤ 7) = false := decide_eq_false (by omega)
        go_wp2
        go_ret2
        exact rvPost_of HR.out rfl HB.out
end Go.Proofs.Ytmdhihgfnlnbnaa
