/-
  Texts of this proof, put together: OpkP.
-/
import Derived.Test.YtphfakdbgohhgaaPackAB
import Derived.Test.YtphfakdbgohhgaaPackAH
import Derived.Test.YtphfakdbgohhgaaPackAN
import Derived.StillTailTactics
import Derived.Deep.QuietTactic
import Derived.BigQuiet

/-
  Contract of spec.l7Op.
-/
namespace Go.Proofs.Ytphfakdbgohhgaa
open Go.ChangeShapes Go.WideShapes Go.ChangeAt Go.RowKit

theorem empty_not {v : ByteArray} (hz : ¬ v.size = 0) : v.toList.isEmpty = false := by
  rw [List.isEmpty_eq_false_iff]
  intro h
  apply hz
  rw [ByteArray.toList_eq] at h
  rw [← bl_len]
  exact congrArg List.length h
theorem empty_mk {v : ByteArray} (hz : v.size = 0) : v = ⟨#[]⟩ := by
  apply ba_ext
  have := bl_len v
  rw [hz] at this
  exact List.eq_nil_of_length_eq_zero this

set_option maxHeartbeats 1000000 in
theorem l7Op_any (k : ByteArray) (d : Bool) (v : ByteArray) (w : World) :
    Calls Try.prog 66 #[.agg #[.string k, .bool d, .string v]] w (BoolPost w (decide (opOk (k, d, v)))) := by
  have hB := fun o => (Below.refl w.heap.size w).alloc (Nat.le_refl _) o
  by_cases hk : 1 ≤ k.size ∧ k.size ≤ 10
  · obtain ⟨hk0, hk1⟩ := hk
    by_cases hv : v.size ≤ 16
    · cases d with
      | false =>
        rw [decide_eq_true (show opOk (k, false, v) from ⟨hk0, hk1, hv, fun h => by cases h⟩)]
        go_enter Try.func66, Try.ntmps66
        go_wp2_with fail
        refine (in_yes (k.size : Int) 1 10 _ (by omega) (by omega)).mono ?_
        rintro e w1 ⟨rfl, rfl⟩
        go_wp2_with fail
        go_ret
        exact ⟨rfl, hB _⟩
      | true =>
        by_cases hz : v.size = 0
        · obtain rfl := empty_mk hz
          rw [decide_eq_true (show opOk (k, true, ⟨#[]⟩) from ⟨hk0, hk1, hv, fun _ => rfl⟩)]
          clear hv hz
          go_enter Try.func66, Try.ntmps66
          go_wp2_with fail
          refine (in_yes (k.size : Int) 1 10 _ (by omega) (by omega)).mono ?_
          rintro e w1 ⟨rfl, rfl⟩
          go_wp2_with fail
          go_ret
          exact ⟨rfl, hB _⟩
        · rw [decide_eq_false (show ¬ opOk (k, true, v) from fun h => hz (h.2.2.2 rfl))]
          have hne := empty_not hz
          clear hz
          go_enter Try.func66, Try.ntmps66
          go_wp2_with fail
          refine (in_yes (k.size : Int) 1 10 _ (by omega) (by omega)).mono ?_
          rintro e w1 ⟨rfl, rfl⟩
          go_wp2_with fail
          go_ret
          exact ⟨rfl, hB _⟩
    · rw [decide_eq_false (show ¬ opOk (k, d, v) from fun h => hv h.2.2.1)]
      go_enter Try.func66, Try.ntmps66
      go_wp2_with fail
      refine (in_yes (k.size : Int) 1 10 _ (by omega) (by omega)).mono ?_
      rintro e w1 ⟨rfl, rfl⟩
      go_wp2_with fail
      go_ret
      exact ⟨rfl, hB _⟩
  · rw [decide_eq_false (show ¬ opOk (k, d, v) from fun h => hk ⟨h.1, h.2.1⟩)]
    have hk' : (k.size : Int) < 1 ∨ 10 < (k.size : Int) := by omega
    clear hk
    have HK := hide hk'
    clear hk'
    go_enter Try.func66, Try.ntmps66
    go_wp2_with fail
    refine (in_no (k.size : Int) 1 10 _ HK.out).mono ?_
    rintro e w1 ⟨rfl, rfl⟩
    go_wp2_with fail
    go_ret
    exact ⟨rfl, hB _⟩
end Go.Proofs.Ytphfakdbgohhgaa
