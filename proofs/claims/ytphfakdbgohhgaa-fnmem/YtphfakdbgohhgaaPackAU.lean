/-
  Texts of this proof, put together: OpkO.
-/
import Derived.Test.YtphfakdbgohhgaaPackAI
import Derived.Test.YtphfakdbgohhgaaPackAB
import Derived.Test.YtphfakdbgohhgaaPackAH
import Derived.StillTailTactics
import Derived.Deep.QuietTactic
import Derived.BigQuiet

/-
  Contracts of impl.keyOk, valOk and opOk.
-/
namespace Go.Proofs.Ytphfakdbgohhgaa
open Go.ChangeShapes Go.WideShapes Go.ChangeAt Go.RowKit

theorem keyOk_any (k : ByteArray) (w : World) :
    Calls Try.prog 93 #[.string k] w fun e w' => e = .returned (.bool (decide (1 ≤ k.size ∧ k.size ≤ 10))) ∧ w' = w := by
  by_cases h1 : 1 ≤ k.size
  · by_cases h2 : k.size ≤ 10
    · rw [decide_eq_true ⟨h1, h2⟩]
      go_enter Try.func93, Try.ntmps93
      go_wp2
      go_ret
      exact ⟨by simp; omega, rfl⟩
    · rw [decide_eq_false fun h => h2 h.2]
      go_enter Try.func93, Try.ntmps93
      go_wp2
      go_ret
      exact ⟨by simp; omega, rfl⟩
  · rw [decide_eq_false fun h => h1 h.1]
    go_enter Try.func93, Try.ntmps93
    go_wp2
    go_ret
    exact ⟨by simp, rfl⟩
theorem valOk_any (k : ByteArray) (w : World) :
    Calls Try.prog 94 #[.string k] w fun e w' => e = .returned (.bool (decide (k.size ≤ 16))) ∧ w' = w := by
  go_enter Try.func94, Try.ntmps94
  go_wp2
  go_ret
  exact ⟨by simp; omega, rfl⟩

theorem opOk_any (k : ByteArray) (d : Bool) (v : ByteArray) (w : World) :
    Calls Try.prog 106 #[.agg #[.string k, .bool d, .string v]] w (BoolPost w (decide (opOk (k, d, v)))) := by
  have hB := fun o => (Below.refl w.heap.size w).alloc (Nat.le_refl _) o
  by_cases hk : 1 ≤ k.size ∧ k.size ≤ 10
  · have HK := hide (decide_eq_true hk)
    by_cases hv : v.size ≤ 16
    · have HVV := hide (decide_eq_true hv)
      cases d with
      | false =>
        rw [decide_eq_true (show opOk (k, false, v) from ⟨hk.1, hk.2, hv, fun h => by cases h⟩)]
        clear hk hv
        go_enter Try.func106, Try.ntmps106
        go_wp2_with fail
        refine (keyOk_any k _).mono ?_
        rintro e w1 ⟨rfl, rfl⟩
        rw [HK.out]
        go_wp2_with fail
        refine (valOk_any v _).mono ?_
        rintro e w1 ⟨rfl, rfl⟩
        rw [HVV.out]
        go_wp2_with fail
        go_ret
        exact ⟨rfl, hB _⟩
      | true =>
        by_cases hz : v.size = 0
        · obtain rfl : v = ⟨#[]⟩ := by
            apply ba_ext
            have := bl_len v
            rw [hz] at this
            exact List.eq_nil_of_length_eq_zero this
          rw [decide_eq_true (show opOk (k, true, ⟨#[]⟩) from ⟨hk.1, hk.2, hv, fun _ => rfl⟩)]
          clear hk hv hz
          go_enter Try.func106, Try.ntmps106
          go_wp2_with fail
          refine (keyOk_any k _).mono ?_
          rintro e w1 ⟨rfl, rfl⟩
          rw [HK.out]
          go_wp2_with fail
          refine (valOk_any _ _).mono ?_
          rintro e w1 ⟨rfl, rfl⟩
          rw [HVV.out]
          go_wp2_with fail
          go_ret
          exact ⟨rfl, hB _⟩
        · rw [decide_eq_false (show ¬ opOk (k, true, v) from fun h => hz (h.2.2.2 rfl))]
          have hne : v ≠ ⟨#[]⟩ := fun h => hz (by rw [h]; rfl)
          have hne2 : v.toList.isEmpty = false := by
            rw [List.isEmpty_eq_false_iff]
            exact fun h => hne (ba_ext (by rw [ByteArray.toList_eq] at h; exact h))
          clear hk hv hz
          go_enter Try.func106, Try.ntmps106
          go_wp2_with fail
          refine (keyOk_any k _).mono ?_
          rintro e w1 ⟨rfl, rfl⟩
          rw [HK.out]
          go_wp2_with fail
          refine (valOk_any _ _).mono ?_
          rintro e w1 ⟨rfl, rfl⟩
          rw [HVV.out]
          go_wp2_with fail
          go_ret
          exact ⟨rfl, hB _⟩
    · have HVV := hide (decide_eq_false hv)
      rw [decide_eq_false (show ¬ opOk (k, d, v) from fun h => hv h.2.2.1)]
      clear hk hv
      go_enter Try.func106, Try.ntmps106
      go_wp2_with fail
      refine (keyOk_any k _).mono ?_
      rintro e w1 ⟨rfl, rfl⟩
      rw [HK.out]
      go_wp2_with fail
      refine (valOk_any _ _).mono ?_
      rintro e w1 ⟨rfl, rfl⟩
      rw [HVV.out]
      go_wp2_with fail
      go_ret
      exact ⟨rfl, hB _⟩
  · have HK := hide (decide_eq_false hk)
    rw [decide_eq_false (show ¬ opOk (k, d, v) from fun h => hk ⟨h.1, h.2.1⟩)]
    clear hk
    go_enter Try.func106, Try.ntmps106
    go_wp2_with fail
    refine (keyOk_any k _).mono ?_
    rintro e w1 ⟨rfl, rfl⟩
    rw [HK.out]
    go_wp2_with fail
    go_ret
    exact ⟨rfl, hB _⟩
end Go.Proofs.Ytphfakdbgohhgaa
