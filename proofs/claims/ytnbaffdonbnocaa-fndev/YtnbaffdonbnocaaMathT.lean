/-
  Lists of strings: nothing here speaks of the program.
-/
import Derived.Test.YtnbaffdonbnocaaMath
namespace Go.Proofs.Ytnbaffdonbnocaa
open Go.RowKit

def st (S : List ByteArray) (i : Nat) : ByteArray := S.getD i ByteArray.empty
theorem st_at (S : List ByteArray) (i : Nat) (h : i < S.length) : st S i = S[i] := by simp [st, List.getD, h]
theorem st_out (S : List ByteArray) (i : Nat) (h : ¬ i < S.length) : st S i = ByteArray.empty := by simp [st, List.getD, h]
def strVals (S : List ByteArray) : List Value := S.map fun s => .string s
theorem strVals_append (S M : List ByteArray) : strVals (S ++ M) = strVals S ++ strVals M := by simp [strVals]
theorem length_strVals (S : List ByteArray) : (strVals S).length = S.length * 1 := by simp [strVals]
theorem strVals_at (S : List ByteArray) (j : Nat) (h : j < S.length) : (strVals S)[j]? = some (.string (st S j)) := by simp [strVals, st, h]
theorem strVals_one (S : List ByteArray) : ∀ v ∈ strVals S, v.oneCell' = true := by
  intro v hv
  simp only [strVals, List.mem_map] at hv
  obtain ⟨s, _, rfl⟩ := hv
  rfl
theorem strVals_take (S : List ByteArray) (n : Nat) : strVals (S.take n) = (strVals S).take n := by simp [strVals, List.map_take]
theorem strVals_set (S : List ByteArray) (j : Nat) (s : ByteArray) : strVals (S.set j s) = (strVals S).set j (.string s) := by simp [strVals, List.map_set]
theorem st_set (S : List ByteArray) (j i : Nat) (s : ByteArray) (h : j < S.length) : st (S.set j s) i = if j = i then s else st S i := by
  by_cases e : j = i
  · subst e; simp [st, List.getD, h]
  · rw [if_neg e]
    simp [st, List.getD, List.getElem?_set_ne e]

/-- The slice at a reads as the strings S, in a block below B. -/
def StrRd (w : World) (B : Nat) (a : Option Addr) (S : List ByteArray) : Prop :=
  0 < S.length → ∃ b off, a = some ⟨b, off, none⟩ ∧ b < B ∧ ∀ j, j < S.length → w.cell? ⟨b, off + j, none⟩ = some (.string (st S j))
theorem StrRd.below {w w' : World} {B B' : Nat} {a : Option Addr} {S : List ByteArray} (h : StrRd w B a S) (hb : Below B' w w') (hB : B ≤ B') : StrRd w' B a S := fun hp => by
  obtain ⟨b, off, ha, hlt, hc⟩ := h hp
  refine ⟨b, off, ha, hlt, fun j hj => ?_⟩
  rw [hb.cell (p := ⟨b, off + j, none⟩) (Nat.lt_of_lt_of_le hlt hB)]
  exact hc j hj
theorem StrRd.mono {w : World} {B B' : Nat} {a : Option Addr} {S : List ByteArray} (h : StrRd w B a S) (hB : B ≤ B') : StrRd w B' a S := fun hp => by
  obtain ⟨b, off, ha, hlt, hc⟩ := h hp
  exact ⟨b, off, ha, by omega, hc⟩
end Go.Proofs.Ytnbaffdonbnocaa
