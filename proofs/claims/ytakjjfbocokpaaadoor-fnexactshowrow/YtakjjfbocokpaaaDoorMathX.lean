/-
  Plain mathematics for chapter 3 (ChaCha20) on lists of natural numbers. Nothing here speaks of a program.
-/
import Derived.Test.YtakjjfbocokpaaaDoorBytes
namespace Go.Proofs.YtakjjfbocokpaaaDoor
open Go.RowKit

/-- word i of a row of words -/
def wd (L : List Nat) (i : Nat) : Nat := L.getD i 0
def rotl (x n : Nat) : Nat := (x * 2 ^ n % 4294967296) ||| (x / 2 ^ (32 - n))
def addW (L : List Nat) (a b : Nat) : List Nat := L.set a ((wd L a + wd L b) % 4294967296)
def rotW (L : List Nat) (d a n : Nat) : List Nat := L.set d (rotl (wd L d ^^^ wd L a) n)
def quarter (L : List Nat) (a b c d : Nat) : List Nat :=
  rotW (addW (rotW (addW (rotW (addW (rotW (addW L a b) d a 16) c d) b c 12) a b) d a 8) c d) b c 7
def colRound (L : List Nat) : Nat → List Nat
  | 0 => L
  | i + 1 => quarter (colRound L i) i (4 + i) (8 + i) (12 + i)
def diaRound (L : List Nat) : Nat → List Nat
  | 0 => L
  | i + 1 => quarter (diaRound L i) i (4 + (i + 1) % 4) (8 + (i + 2) % 4) (12 + (i + 3) % 4)
def dround (L : List Nat) : List Nat := diaRound (colRound L 4) 4
theorem dround_eq (L : List Nat) : dround L = quarter (quarter (quarter (quarter (quarter (quarter (quarter (quarter L 0 4 8 12) 1 5 9 13) 2 6 10 14) 3 7 11 15) 0 5 10 15) 1 6 11 12) 2 7 8 13) 3 4 9 14 := rfl
def drounds (L : List Nat) : Nat → List Nat
  | 0 => L
  | i + 1 => dround (drounds L i)

/-! ### bounds -/
def Fit (L : List Nat) : Prop := ∀ x ∈ L, x < 4294967296
theorem Fit.wd {L : List Nat} (h : Fit L) (i : Nat) : wd L i < 4294967296 := by
  unfold Go.Proofs.YtakjjfbocokpaaaDoor.wd
  rcases Nat.lt_or_ge i L.length with hi | hi
  · simp only [List.getD, List.getElem?_eq_getElem hi, Option.getD_some]; exact h _ (List.getElem_mem hi)
  · simp [List.getD, List.getElem?_eq_none hi]
theorem Fit.set {L : List Nat} (h : Fit L) (i x : Nat) (hx : x < 4294967296) : Fit (L.set i x) := by
  intro y hy
  rcases List.mem_or_eq_of_mem_set hy with h1 | rfl
  · exact h _ h1
  · exact hx
theorem rotl_lt (x n : Nat) (hx : x < 4294967296) : rotl x n < 4294967296 :=
  Nat.or_lt_two_pow (n := 32) (Nat.mod_lt _ (by omega)) (Nat.lt_of_le_of_lt (Nat.div_le_self _ _) hx)
theorem xorlt (a b : Nat) (ha : a < 4294967296) (hb : b < 4294967296) : a ^^^ b < 4294967296 := Nat.xor_lt_two_pow (n := 32) ha hb
theorem Fit.addW {L : List Nat} (h : Fit L) (a b : Nat) : Fit (addW L a b) := h.set _ _ (Nat.mod_lt _ (by omega))
theorem Fit.rotW {L : List Nat} (h : Fit L) (d a n : Nat) : Fit (rotW L d a n) := h.set _ _ (rotl_lt _ _ (xorlt _ _ (h.wd _) (h.wd _)))
theorem Fit.quarter {L : List Nat} (h : Fit L) (a b c d : Nat) : Fit (quarter L a b c d) :=
  (((((((h.addW _ _).rotW _ _ _).addW _ _).rotW _ _ _).addW _ _).rotW _ _ _).addW _ _).rotW _ _ _
theorem Fit.colRound {L : List Nat} (h : Fit L) : ∀ i, Fit (colRound L i)
  | 0 => h
  | i + 1 => (Fit.colRound h i).quarter _ _ _ _
theorem Fit.diaRound {L : List Nat} (h : Fit L) : ∀ i, Fit (diaRound L i)
  | 0 => h
  | i + 1 => (Fit.diaRound h i).quarter _ _ _ _
theorem Fit.dround {L : List Nat} (h : Fit L) : Fit (dround L) := (h.colRound 4).diaRound 4
theorem Fit.drounds {L : List Nat} (h : Fit L) : ∀ i, Fit (drounds L i)
  | 0 => h
  | i + 1 => (Fit.drounds h i).dround
theorem length_addW (L : List Nat) (a b : Nat) : (addW L a b).length = L.length := by simp [addW]
theorem length_rotW (L : List Nat) (d a n : Nat) : (rotW L d a n).length = L.length := by simp [rotW]
theorem length_quarter (L : List Nat) (a b c d : Nat) : (quarter L a b c d).length = L.length := by simp [quarter, length_addW, length_rotW]
theorem length_colRound (L : List Nat) : ∀ i, (colRound L i).length = L.length
  | 0 => rfl
  | i + 1 => by rw [colRound, length_quarter, length_colRound L i]
theorem length_diaRound (L : List Nat) : ∀ i, (diaRound L i).length = L.length
  | 0 => rfl
  | i + 1 => by rw [diaRound, length_quarter, length_diaRound L i]
theorem length_dround (L : List Nat) : (dround L).length = L.length := by rw [dround, length_diaRound, length_colRound]
theorem length_drounds (L : List Nat) : ∀ i, (drounds L i).length = L.length
  | 0 => rfl
  | i + 1 => by rw [drounds, length_dround, length_drounds L i]

/-! ### rows of words in memory -/
def wordVals (k : IntKind) (L : List Nat) : List Value := L.map fun (x : Nat) => .int k (x : Int)
theorem length_wordVals (k : IntKind) (L : List Nat) : (wordVals k L).length = L.length := by simp [wordVals]
/-- block g holds the words L, and behind them the cells tl -/
def Words (k : IntKind) (T : TypeId) (tl : List Value) (w : World) (g : Nat) (L : List Nat) : Prop := w.heap[g]? = some (.cells (wordVals k L ++ tl).toArray T (0, 0))
theorem Words.cell {k : IntKind} {T : TypeId} {tl : List Value} {w : World} {g : Nat} {L : List Nat} (h : Words k T tl w g L) (j : Nat) (hj : j < L.length) : w.cell? ⟨g, j, none⟩ = some (.int k (wd L j : Nat)) := by
  unfold Words at h
  have : (wordVals k L ++ tl)[j]? = some (.int k (wd L j : Nat)) := by
    rw [List.getElem?_append_left (by rw [length_wordVals]; exact hj)]
    simp [wordVals, wd, hj]
  simp [World.cell?, h, this]
theorem Words.frozen {k : IntKind} {T : TypeId} {tl : List Value} {w : World} {g : Nat} {L : List Nat} (h : Words k T tl w g L) (j : Nat) : w.frozen? ⟨g, j, none⟩ = false := by
  unfold Words at h
  simp [World.frozen?, h]
theorem wordVals_set (k : IntKind) (L : List Nat) (j x : Nat) : (wordVals k L).set j (.int k (x : Int)) = wordVals k (L.set j x) := by
  simp [wordVals, List.map_set]
theorem Words.set {k : IntKind} {T : TypeId} {tl : List Value} {w : World} {g : Nat} {L : List Nat} (h : Words k T tl w g L) (j x : Nat) (hj : j < L.length) (y : Int) (hy : y = (x : Int)) : Words k T tl (w.setCell ⟨g, j, none⟩ (.int k y)) g (L.set j x) := by
  subst hy
  unfold Words at *
  simp only [World.setCell, Array.getElem?_modify, h]
  simp [← wordVals_set, List.set_append_left, length_wordVals, hj]
theorem Words.below {k : IntKind} {T : TypeId} {tl : List Value} {w w' : World} {g B : Nat} {L : List Nat} (h : Words k T tl w g L) (hb : Below B w w') (hg : g < B) : Words k T tl w' g L := by
  unfold Words at *; rw [hb.block g hg, h]
theorem Words.alloc {k : IntKind} {T : TypeId} {tl : List Value} {w : World} {g : Nat} {L : List Nat} (h : Words k T tl w g L) (hg : g < w.heap.size) (o : Obj) : Words k T tl (w.alloc o) g L := by
  unfold Words at *; rw [Below.heap_alloc w o g hg, h]
theorem Words.drew {k : IntKind} {T : TypeId} {tl : List Value} {w : World} {g : Nat} {L : List Nat} (h : Words k T tl w g L) : Words k T tl w.drew g L := h
end Go.Proofs.YtakjjfbocokpaaaDoor
