/-
  What KeyWipe and KeyAdd answer, on lists of slots: nothing here speaks of the program.
-/
import Derived.Test.YtpgbjbhoefjodaaDoorMathI
namespace Go.Proofs.YtpgbjbhoefjodaaDoor
open Go.RowKit

theorem Asc.lt {L : List Slot} (h : Asc L) (i j : Nat) (hij : i < j) (hj : j < L.length) : tn L i < tn L j := by
  induction j with
  | zero => omega
  | succ j ih =>
    have h1 := h j (by omega)
    rcases Nat.lt_or_ge i j with h2 | h2
    · have := ih h2 (by omega); omega
    · rw [show i = j by omega]; exact h1
/-- the slots of the others -/
def filtL (L : List Slot) (t : Int) : List Slot := L.filter fun s => s.1 != t
theorem filtL_snoc (L : List Slot) (t : Int) (j : Nat) (hj : j < L.length) : filtL (L.take (j + 1)) t = filtL (L.take j) t ++ (if tn L j = t then [] else [(tn L j, ky L j)]) := by
  rw [List.take_succ_eq_append_getElem hj, filtL, List.filter_append, pair_at L j hj]
  by_cases h : tn L j = t
  · rw [if_pos h]; simp [filtL, h]
  · rw [if_neg h]; simp [filtL, h]
theorem filter_keep (L : List Slot) (t : Int) (h : ∀ s ∈ L, s.1 ≠ t) : filtL L t = L := by
  unfold filtL
  rw [List.filter_eq_self]
  intro s hs
  simpa using h s hs
theorem filtL_none {L : List Slot} {t : Int} (h : slotIx L t = none) : filtL L t = L := by
  refine filter_keep L t fun s hs => ?_
  obtain ⟨j, hj, rfl⟩ := List.mem_iff_getElem.1 hs
  rw [← tn_at L j hj]
  exact slotIx_of_none h j hj
theorem filtL_some {L : List Slot} {t : Int} {i : Nat} (ha : Asc L) (h : slotIx L t = some i) : filtL L t = L.eraseIdx i := by
  obtain ⟨hi, ht, hb⟩ := slotIx_of_some h
  have e : L = L.take i ++ L[i] :: L.drop (i + 1) := by rw [List.getElem_cons_drop, List.take_append_drop]
  have h1 : filtL (L.take i) t = L.take i := by
    refine filter_keep _ t fun s hs => ?_
    obtain ⟨j, hj, rfl⟩ := List.mem_iff_getElem.1 hs
    rw [List.length_take] at hj
    rw [List.getElem_take, ← tn_at L j (by omega)]
    exact hb j (by omega)
  have h2 : filtL (L.drop (i + 1)) t = L.drop (i + 1) := by
    refine filter_keep _ t fun s hs => ?_
    obtain ⟨j, hj, rfl⟩ := List.mem_iff_getElem.1 hs
    rw [List.length_drop] at hj
    rw [List.getElem_drop, ← tn_at L (i + 1 + j) (by omega)]
    have := ha.lt i (i + 1 + j) (by omega) (by omega)
    omega
  have h3 : filtL L t = filtL (L.take i) t ++ filtL (L.drop (i + 1)) t := by
    conv => lhs; rw [e]
    unfold filtL
    rw [List.filter_append, List.filter_cons, if_neg (by simp [← tn_at L i hi, ht])]
  rw [h3, h1, h2, List.eraseIdx_eq_take_drop_succ]

/-- a device and a truth, as KeyAdd and KeyWipe answer them -/
structure DevR where
  m : ByteArray
  L : List Slot
  x : Int
  ok : Bool
def wipeV (m : ByteArray) (L : List Slot) (x t : Int) : DevR :=
  if devOkB m L x = true then (if x = 1000000 then ⟨m, L, x, false⟩ else (match slotIx L t with
    | some i => ⟨m, L.eraseIdx i, x + 1, true⟩
    | none => ⟨m, L, x, false⟩)) else ⟨noKey, [], 0, false⟩
theorem wipeV_bad {m : ByteArray} {L : List Slot} {x t : Int} (h : devOkB m L x = false) : wipeV m L x t = ⟨noKey, [], 0, false⟩ := by unfold wipeV; rw [h]; rfl
theorem wipeV_full {m : ByteArray} {L : List Slot} {x t : Int} (h : devOkB m L x = true) (hx : x = 1000000) : wipeV m L x t = ⟨m, L, x, false⟩ := by unfold wipeV; rw [if_pos h, if_pos hx]
theorem wipeV_none {m : ByteArray} {L : List Slot} {x t : Int} (h : devOkB m L x = true) (hi : slotIx L t = none) : wipeV m L x t = ⟨m, L, x, false⟩ := by
  unfold wipeV
  rw [if_pos h]
  split
  · rfl
  · rw [hi]
theorem wipeV_some {m : ByteArray} {L : List Slot} {x t : Int} {i : Nat} (h : devOkB m L x = true) (hx : x ≠ 1000000) (hi : slotIx L t = some i) : wipeV m L x t = ⟨m, L.eraseIdx i, x + 1, true⟩ := by
  unfold wipeV
  rw [if_pos h, if_neg hx, hi]
end Go.Proofs.YtpgbjbhoefjodaaDoor
