/-
  The walk of laws.FnExactReadFixed: it returns true.
-/
import Derived.Test.YtbogonhmpibelaaReadFixedI
import Derived.Test.YtbogonhmpibelaaReadFixedS
namespace Go.Proofs.Ytbogonhmpibelaa
open Go.ChangeShapes Go.WideShapes Go.ChangeAt Go.RowKit

theorem law_readFixed (a0 : ByteArray) (a1 : Int) (w0 : a0.size ≤ maxLen) (_w1 : (Lit.int .i64 a1).wf = true) (w : World) :
    Calls Try.prog 4 #[.string a0, .int .i64 a1] w fun e w' => e = .returned (.bool true) ∧ Below w.heap.size w w' := by
  by_cases hb : 1048576 < a0.size
  · go_enter Try.func4, Try.ntmps4
    go_wp2
    go_ret
    exact ⟨rfl, Below.refl _ _⟩
  · by_cases h : 1 ≤ a1 ∧ a1 ≤ 7 ∧ a1 ≤ a0.size
    · obtain ⟨h1, h2, h3⟩ := h
      obtain ⟨k, rfl⟩ : ∃ k : Nat, a1 = (k : Int) := ⟨a1.toNat, by omega⟩
      go_enter Try.func4, Try.ntmps4
      go_wp2_with (first | (go_at_call 11; refine (sReadFixed_yes a0 k _ (by omega) (by omega) (by omega) w0).mono ?_; rintro e w' ⟨rfl, rfl⟩) | (go_at_call 12; refine (iReadFixed_yes a0 k _ (by omega) (by omega) (by omega) w0).mono ?_; rintro e w' ⟨rfl, rfl⟩))
      go_ret
      exact ⟨rfl, Below.refl _ _⟩
    · have H := hide h
      clear h
      go_enter Try.func4, Try.ntmps4
      go_wp2_with (first | (go_at_call 11; refine (sReadFixed_no a0 a1 _ H.out).mono ?_; rintro e w' ⟨rfl, rfl⟩) | (go_at_call 12; refine (iReadFixed_no a0 a1 _ H.out).mono ?_; rintro e w' ⟨rfl, rfl⟩))
      go_ret
      exact ⟨rfl, Below.refl _ _⟩
end Go.Proofs.Ytbogonhmpibelaa
