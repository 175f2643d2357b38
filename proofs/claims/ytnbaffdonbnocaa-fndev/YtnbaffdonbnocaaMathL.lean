/-
  Lists of slots (a tenant and a key): nothing here speaks of the program.
-/
import Derived.Test.YtnbaffdonbnocaaMath
namespace Go.Proofs.Ytnbaffdonbnocaa
open Go.RowKit

abbrev Slot := Int × ByteArray
def tn (L : List Slot) (i : Nat) : Int := (L.getD i (0, ByteArray.empty)).1
def ky (L : List Slot) (i : Nat) : ByteArray := (L.getD i (0, ByteArray.empty)).2
theorem tn_at (L : List Slot) (i : Nat) (h : i < L.length) : tn L i = L[i].1 := by simp [tn, List.getD, h]
theorem ky_at (L : List Slot) (i : Nat) (h : i < L.length) : ky L i = L[i].2 := by simp [ky, List.getD, h]
theorem pair_at (L : List Slot) (i : Nat) (h : i < L.length) : L[i] = (tn L i, ky L i) := by rw [tn_at L i h, ky_at L i h]
def slotVals (L : List Slot) : List Value := L.flatMap fun s => [.int .i64 s.1, .string s.2]
theorem slotVals_cons (s : Slot) (L : List Slot) : slotVals (s :: L) = .int .i64 s.1 :: .string s.2 :: slotVals L := by simp [slotVals]
theorem slotVals_append (L M : List Slot) : slotVals (L ++ M) = slotVals L ++ slotVals M := by simp [slotVals]
theorem length_slotVals (L : List Slot) : (slotVals L).length = L.length * 2 := by
  induction L with
  | nil => rfl
  | cons s r ih => rw [slotVals_cons, List.length_cons, List.length_cons, ih, List.length_cons]; omega
theorem slotVals_at0 : ∀ (L : List Slot) (j : Nat), j < L.length → (slotVals L)[j * 2]? = some (.int .i64 (tn L j))
  | [], j, h => by simp at h
  | s :: r, 0, _ => by simp [slotVals_cons, tn]
  | s :: r, j + 1, h => by
    rw [slotVals_cons, show (j + 1) * 2 = j * 2 + 1 + 1 by omega, List.getElem?_cons_succ, List.getElem?_cons_succ, slotVals_at0 r j (by simpa using h)]
    simp [tn]
theorem slotVals_at1 : ∀ (L : List Slot) (j : Nat), j < L.length → (slotVals L)[j * 2 + 1]? = some (.string (ky L j))
  | [], j, h => by simp at h
  | s :: r, 0, _ => by simp [slotVals_cons, ky]
  | s :: r, j + 1, h => by
    rw [slotVals_cons, show (j + 1) * 2 + 1 = j * 2 + 1 + 1 + 1 by omega, List.getElem?_cons_succ, List.getElem?_cons_succ, slotVals_at1 r j (by simpa using h)]
    simp [ky]
theorem slotVals_one (L : List Slot) : ∀ v ∈ slotVals L, v.oneCell' = true := by
  intro v hv
  simp only [slotVals, List.mem_flatMap, List.mem_cons, List.not_mem_nil, or_false] at hv
  obtain ⟨s, _, rfl | rfl⟩ := hv <;> rfl
theorem slotVals_take (L : List Slot) (n : Nat) : slotVals (L.take n) = (slotVals L).take (n * 2) := by
  induction L generalizing n with
  | nil => simp [slotVals]
  | cons s r ih =>
    cases n with
    | zero => simp [slotVals]
    | succ n => rw [List.take_succ_cons, slotVals_cons, slotVals_cons, ih, show (n + 1) * 2 = n * 2 + 1 + 1 by omega, List.take_succ_cons, List.take_succ_cons]
theorem slotVals_set (L : List Slot) (j : Nat) (s : Slot) : slotVals (L.set j s) = ((slotVals L).set (j * 2) (.int .i64 s.1)).set (j * 2 + 1) (.string s.2) := by
  induction L generalizing j with
  | nil => simp [slotVals]
  | cons r L ih =>
    cases j with
    | zero => simp [slotVals_cons]
    | succ j => rw [List.set_cons_succ, slotVals_cons, slotVals_cons, ih, show (j + 1) * 2 = j * 2 + 1 + 1 by omega, List.set_cons_succ, List.set_cons_succ, List.set_cons_succ, List.set_cons_succ]

/-- The slice at a reads as L, in a block below B. -/
def SlotRd (w : World) (B : Nat) (a : Option Addr) (L : List Slot) : Prop :=
  0 < L.length → ∃ b off, a = some ⟨b, off, none⟩ ∧ b < B ∧ ∀ j, j < L.length → w.cell? ⟨b, off + j * 2, none⟩ = some (.int .i64 (tn L j)) ∧ w.cell? ⟨b, off + j * 2 + 1, none⟩ = some (.string (ky L j))
theorem SlotRd.below {w w' : World} {B B' : Nat} {a : Option Addr} {L : List Slot} (h : SlotRd w B a L) (hb : Below B' w w') (hB : B ≤ B') : SlotRd w' B a L := fun hp => by
  obtain ⟨b, off, ha, hlt, hc⟩ := h hp
  refine ⟨b, off, ha, hlt, fun j hj => ?_⟩
  rw [hb.cell (p := ⟨b, off + j * 2, none⟩) (Nat.lt_of_lt_of_le hlt hB), hb.cell (p := ⟨b, off + j * 2 + 1, none⟩) (Nat.lt_of_lt_of_le hlt hB)]
  exact hc j hj
theorem SlotRd.mono {w : World} {B B' : Nat} {a : Option Addr} {L : List Slot} (h : SlotRd w B a L) (hB : B ≤ B') : SlotRd w B' a L := fun hp => by
  obtain ⟨b, off, ha, hlt, hc⟩ := h hp
  exact ⟨b, off, ha, by omega, hc⟩
end Go.Proofs.Ytnbaffdonbnocaa
