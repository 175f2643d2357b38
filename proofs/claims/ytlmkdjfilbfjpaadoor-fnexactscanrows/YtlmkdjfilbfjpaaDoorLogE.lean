/-
  Plain mathematics for chapter 8: the rows that a string claims to hold, one after another.
-/
import Derived.Test.YtlmkdjfilbfjpaaDoorLogV
namespace Go.Proofs.YtlmkdjfilbfjpaaDoor
open Go.ChangeShapes Go.WideShapes Go.ChangeAt Go.RowKit

def clN : Nat → List UInt8 → List Lg
  | 0, _ => []
  | k + 1, u => rowU u :: clN k (rowR u)
def restN : Nat → List UInt8 → List UInt8
  | 0, u => u
  | k + 1, u => restN k (rowR u)
theorem clN_len : ∀ k u, (clN k u).length = k
  | 0, _ => rfl
  | k + 1, u => by rw [clN, List.length_cons, clN_len k]
theorem restN_succ : ∀ k u, restN (k + 1) u = rowR (restN k u)
  | 0, _ => rfl
  | k + 1, u => by rw [restN, restN_succ k, restN]
theorem clN_succ : ∀ k u, clN (k + 1) u = clN k u ++ [rowU (restN k u)]
  | 0, _ => rfl
  | k + 1, u => by rw [clN, clN_succ k, clN, restN, List.cons_append]
theorem rowR_le (u : List UInt8) : (rowR u).length ≤ u.length - 4 := by
  unfold rowR
  have h1 := cutR_le (cutVr (cutVr (cutVr (u.drop 4))))
  have h2 := cutVr_le (cutVr (cutVr (u.drop 4)))
  have h3 := cutVr_le (cutVr (u.drop 4))
  have h4 := cutVr_le (u.drop 4)
  have h5 : (u.drop 4).length = u.length - 4 := List.length_drop ..
  omega
theorem rowR_lt {u : List UInt8} (h : u ≠ []) : (rowR u).length < u.length := by
  have := rowR_le u
  have := List.length_pos_iff.2 h
  omega
/-- if all rows claimed so far stand there, they are the first rows -/
theorem cl_good : ∀ k u, (∀ r ∈ clN k u, rowOkL r) → rowsS (clN k u) <+: u → scanV u = clN k u ++ scanV (restN k u) ∧ u = rowsS (clN k u) ++ restN k u
  | 0, u, _, _ => ⟨rfl, rfl⟩
  | k + 1, u, h, hp => by
    have h1 : rowOkL (rowU u) := h _ (by simp [clN])
    rw [clN, rowsS_cons] at hp
    have h2 : showR (rowU u) <+: u := (List.prefix_append _ _).trans hp
    have hg : goodU u := ⟨showR_ne h1, h2⟩
    have h3 := good_rest hg
    have h4 := (good_split hg).2
    rw [← h3] at h4
    have h5 : rowsS (clN k (rowR u)) <+: rowR u := by
      rw [h4] at hp
      have e : rowU (showR (rowU u) ++ rowR u) = rowU u := by rw [← h4]
      have e2 : rowR (showR (rowU u) ++ rowR u) = rowR u := by rw [← h4]
      rw [e, e2] at hp
      exact (List.prefix_append_right_inj _).mp hp
    obtain ⟨i1, i2⟩ := cl_good k (rowR u) (fun r hr => h r (by simp [clN, hr])) h5
    constructor
    · rw [scan_step hg, ← h3, i1, clN, restN, List.cons_append]
    · rw [clN, rowsS_cons, restN, List.append_assoc, ← i2]
      exact h4
/-- a whole string of rows -/
theorem cl_done {k : Nat} {u : List UInt8} (h : ∀ r ∈ clN k u, rowOkL r) (hp : rowsS (clN k u) <+: u) (he : restN k u = []) : scanV u = clN k u := by
  rw [(cl_good k u h hp).1, he]
  simp [scanV, scanF]
/-- the row behind does not stand there -/
theorem cl_stop {k : Nat} {u : List UInt8} (h : ∀ r ∈ clN k u, rowOkL r) (hp : rowsS (clN k u) <+: u) (hn : ¬ (showR (rowU (restN k u)) ≠ [] ∧ showR (rowU (restN k u)) <+: u.drop (rowsS (clN k u)).length)) : scanV u = clN k u := by
  obtain ⟨h1, h2⟩ := cl_good k u h hp
  have e : u.drop (rowsS (clN k u)).length = restN k u := by
    have e0 : u.drop (rowsS (clN k u)).length = (rowsS (clN k u) ++ restN k u).drop (rowsS (clN k u)).length := by rw [← h2]
    rw [e0, List.drop_left]
  rw [e] at hn
  rw [h1, scan_stop hn, List.append_nil]
/-- one row more that stands there -/
theorem pre_step {pre : List Lg} {x : Lg} {u : List UInt8} (h : ∀ r ∈ pre, rowOkL r) (hp : rowsS pre <+: u) (h1 : showR x ≠ []) (h2 : showR x <+: u.drop (rowsS pre).length) :
    (∀ r ∈ pre ++ [x], rowOkL r) ∧ rowsS (pre ++ [x]) <+: u ∧ (rowsS (pre ++ [x])).length = (rowsS pre).length + (showR x).length ∧ (rowsS (pre ++ [x])).length ≤ u.length := by
  have hc : rowsS (pre ++ [x]) = rowsS pre ++ showR x := by rw [rowsS_append, rowsS_one]
  have h4 : rowsS (pre ++ [x]) <+: u := by
    obtain ⟨y, hy⟩ := hp
    have e : u.drop (rowsS pre).length = y := by
      have e0 : u.drop (rowsS pre).length = (rowsS pre ++ y).drop (rowsS pre).length := by rw [hy]
      rw [e0, List.drop_left]
    rw [e] at h2
    obtain ⟨z, hz⟩ := h2
    exact ⟨z, by rw [hc, List.append_assoc, hz, hy]⟩
  refine ⟨fun r hr => ?_, h4, by rw [hc, List.length_append], h4.length_le⟩
  rcases List.mem_append.mp hr with hr | hr
  · exact h r hr
  · rw [List.mem_singleton] at hr
    rw [hr]
    exact ok_of_show h1
end Go.Proofs.YtlmkdjfilbfjpaaDoor
