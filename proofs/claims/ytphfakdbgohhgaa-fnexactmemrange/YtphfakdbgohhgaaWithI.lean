/-
  Contract of impl.within: a key within bounds.
-/
import Derived.Test.YtphfakdbgohhgaaMemA
import Derived.Test.YtphfakdbgohhgaaOpkP
namespace Go.Proofs.Ytphfakdbgohhgaa
open Go.ChangeShapes Go.WideShapes Go.ChangeAt Go.RowKit

theorem klessW {k f : ByteArray} (b : Bool) (h : kless k f = b) : Op.bytesLess k.toList f.toList = b := h
theorem within_any (k f t : ByteArray) (w : World) :
    Calls Try.prog 63 #[.string k, .string f, .string t] w fun e w' => e = .returned (.bool (decide (withinK k f t))) ∧ w' = w := by
  obtain ⟨V, hV⟩ : ∃ V, V = decide (withinK k f t) := ⟨_, rfl⟩
  rw [← hV]
  cases h1 : kless k f with
  | true =>
    have z1 := klessW true h1
    have HV := hide (show V = false from hV.trans (decide_eq_false fun h => by rw [h.1] at h1; cases h1))
    clear hV h1
    go_enter Try.func63, Try.ntmps63
    go_wp2_with fail
    go_ret
    exact ⟨by rw [HV.out]; rfl, rfl⟩
  | false =>
    have z1 := klessW false h1
    by_cases h2 : t.size = 0
    · have z2 : t.toList.isEmpty = true := by rw [empty_mk h2, ByteArray.toList_eq]; rfl
      have HV := hide (show V = true from hV.trans (decide_eq_true ⟨h1, .inl h2⟩))
      clear hV h1 h2
      go_enter Try.func63, Try.ntmps63
      go_wp2_with fail
      go_ret
      exact ⟨by rw [HV.out]; rfl, rfl⟩
    · have z2 := empty_not h2
      cases h3 : kless k t with
      | true =>
        have z3 := klessW true h3
        have HV := hide (show V = true from hV.trans (decide_eq_true ⟨h1, .inr h3⟩))
        clear hV h1 h2 h3
        go_enter Try.func63, Try.ntmps63
        go_wp2_with fail
        go_ret
        exact ⟨by rw [HV.out]; rfl, rfl⟩
      | false =>
        have z3 := klessW false h3
        have HV := hide (show V = false from hV.trans (decide_eq_false fun h => h.2.elim h2 (fun h => by rw [h] at h3; cases h3)))
        clear hV h1 h2 h3
        go_enter Try.func63, Try.ntmps63
        go_wp2_with fail
        go_ret
        exact ⟨by rw [HV.out]; rfl, rfl⟩
end Go.Proofs.Ytphfakdbgohhgaa
