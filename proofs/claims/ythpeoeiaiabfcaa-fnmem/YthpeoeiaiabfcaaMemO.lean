/-
  What the law of chapter 9 asks, on lists. Nothing here speaks of a program.
-/
import Derived.Test.YthpeoeiaiabfcaaMemN
namespace Go.Proofs.Ythpeoeiaiabfcaa
open Go.RowKit

theorem put_letters (L : List En) (e : En) : (putB L e = true ∧ memOkL L ∧ memOkL (insE e L) ∧ putM L e = insE e L) ∨ (putB L e = false ∧ memOkL L ∧ putM L e = L) ∨ (putB L e = false ∧ ¬ memOkL L ∧ putM L e = []) := by
  by_cases h : memOkL L
  · by_cases k : memOkL (insE e L)
    · obtain ⟨h1, h2⟩ := putM_yes h k
      exact .inl ⟨h2, h, k, h1⟩
    · obtain ⟨h1, h2⟩ := putM_no h k
      exact .inr (.inl ⟨h2, h, h1⟩)
  · obtain ⟨h1, h2⟩ := putM_bad (e := e) h
    exact .inr (.inr ⟨h2, h, h1⟩)
theorem get_self {M : List En} (h : memOkL M) {x : En} (hx : x ∈ M) : getM M x.1 x.2.1 = x ∧ getB M x.1 x.2.1 = true := by
  have hs := getE_self h.2.2 hx
  unfold getM getB
  rw [if_pos h, hs, decide_eq_true h]
  exact ⟨rfl, rfl⟩
theorem mapM_ok (K : List En) (q : Int) : mapOk (mapM K q) := by
  unfold mapM
  split
  · next h => exact mapE_ok h
  · exact ⟨fun x hx => by simp at hx, List.Pairwise.nil⟩
theorem rangP_more (f t : ByteArray) (M : List KV) (j d : Nat) : ∃ s, rangP f t M (j + d) = rangP f t M j ++ s := by
  unfold rangP
  rw [List.take_add, List.filter_append]
  exact ⟨_, rfl⟩
theorem rangP_at {f t : ByteArray} {M : List KV} {j : Nat} {x : KV} (h : M[j]? = some x) (hv : withinK x.1 f t) : (rangeE f t M)[(rangP f t M j).length]? = some x := by
  obtain ⟨hj, _⟩ := List.getElem?_eq_some_iff.1 h
  obtain ⟨s, hs⟩ := rangP_more f t M (j + 1) (M.length - (j + 1))
  rw [show j + 1 + (M.length - (j + 1)) = M.length by omega, rangP_all, rangP_yes h hv] at hs
  rw [hs]
  simp
end Go.Proofs.Ythpeoeiaiabfcaa
