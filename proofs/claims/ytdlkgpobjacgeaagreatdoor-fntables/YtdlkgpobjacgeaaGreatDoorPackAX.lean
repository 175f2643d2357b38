/-
  Texts of this proof, put together: StrRow.
-/
import Derived.Test.YtdlkgpobjacgeaaGreatDoorPackAH
import Derived.Test.YtdlkgpobjacgeaaGreatDoorPackAG
import Derived.Laws.IdiomCopy
import Derived.Deep.Draws

/-
  Rows of strings, one cell each; many cells of a block set at once. Nothing here names a function of the program.
-/
namespace Go.Proofs.YtdlkgpobjacgeaaGreatDoor
open Go.ChangeShapes Go.WideShapes Go.ChangeAt Go.RowKit

def elStr : El ByteArray where
  T := 9
  c := 1
  enc := fun x => [.string x]
  len := fun _ => rfl
  one := fun x v hv => by
    simp only [List.mem_singleton] at hv
    subst hv
    rfl
theorem infoStr : (Tryz.prog.info? 9).map (fun i => (i.zero, i.size, i.bytes)) = some (some (.string ⟨#[]⟩), 1, 16) := by kernel_rfl
theorem strVals (L : List ByteArray) : elStr.vals L = L.map Value.string := by
  induction L with
  | nil => rfl
  | cons x L ih => rw [El.vals_cons, ih]; rfl

/-- an array into which vs is laid from place o on -/
def putAll (cur : Array Value) : Nat → List Value → Array Value
  | _, [] => cur
  | o, v :: r => putAll (cur.setIfInBounds o v) (o + 1) r
theorem putAll_list : ∀ (vs : List Value) (cur : Array Value) (o : Nat), o + vs.length ≤ cur.size → (putAll cur o vs).toList = cur.toList.take o ++ vs ++ cur.toList.drop (o + vs.length)
  | [], cur, o, h => by simp [putAll]
  | v :: r, cur, o, h => by
    rw [List.length_cons] at h
    have hs : (cur.setIfInBounds o v).size = cur.size := Array.size_setIfInBounds
    rw [putAll, putAll_list r _ (o + 1) (by rw [hs]; omega), Array.toList_setIfInBounds, List.length_cons]
    have ho : o < cur.toList.length := by rw [Array.length_toList]; omega
    rw [List.take_set, List.drop_set_of_lt (by omega), List.take_succ_eq_append_getElem ho, List.set_append_right _ _ (by rw [List.length_take]; omega)]
    have hm : o - (cur.toList.take o).length = 0 := by rw [List.length_take]; omega
    rw [hm, show o + 1 + r.length = o + (r.length + 1) by omega]
    simp
theorem size_putAll (vs : List Value) (cur : Array Value) (o : Nat) : (putAll cur o vs).size = cur.size := by
  induction vs generalizing cur o with
  | nil => rfl
  | cons v r ih => rw [putAll, ih, Array.size_setIfInBounds]
theorem heap_setCells_same (g : Nat) (T : TypeId) : ∀ (vs : List Value) (o : Nat) (w : World) (cur : Array Value), w.heap[g]? = some (.cells cur T (0, 0)) → (w.setCells g o vs).heap[g]? = some (.cells (putAll cur o vs) T (0, 0))
  | [], _, _, _, h => h
  | v :: r, o, w, cur, h => by
    rw [World.setCells, putAll]
    exact heap_setCells_same g T r (o + 1) _ _ (heap_setCell_same w g o _ T v h)
theorem only_setCells (g : Nat) : ∀ (vs : List Value) (o : Nat) (w : World), Only (some g) w (w.setCells g o vs)
  | [], _, _ => Only.refl _ _
  | v :: r, o, w => by
    rw [World.setCells]
    exact (Only.set g o w v).trans (only_setCells g r (o + 1) _)
theorem Only.of_drewN {o : Option Nat} {a b : World} {n : Nat} (h : Only o (a.drewN n) b) : Only o a b := ⟨h.os, h.tape, h.output, h.size, h.block⟩
theorem Only.none_alloc (w : World) (o : Obj) : Only none w (w.alloc o) := ⟨rfl, rfl, rfl, by simp, fun i hi _ => Below.heap_alloc w o i hi⟩
theorem Only.widen {o : Option Nat} {a b : World} (h : Only none a b) : Only o a b := ⟨h.os, h.tape, h.output, h.size, fun i hi _ => h.block i hi (by simp)⟩
theorem Only.fresh {w a b : World} (h : Only none w a) (k : Only (some w.heap.size) a b) : Only none w b :=
  ⟨k.os.trans h.os, k.tape.trans h.tape, k.output.trans h.output, Nat.le_trans h.size k.size, fun i hi _ => (k.block i (Nat.lt_of_lt_of_le hi h.size) (fun e => by have := Option.some.inj e; omega)).trans (h.block i hi (by simp))⟩
/-- a block of which more cells have been set is owned with what stands in its first cells -/
theorem ownStr {B g n cap : Nat} {w : World} {cur : Array Value} (L : List ByteArray) (hB : B ≤ g) (hh : w.heap[g]? = some (.cells cur 9 (0, 0))) (hn : L.length = n) (hc : n ≤ cap) (hm : cap ≤ maxLen) (hs : cur.size = cap) (ht : cur.toList.take n = L.map Value.string) :
    elStr.Owns B w (.slice (some ⟨g, 0, none⟩) n cap) L := by
  subst hn
  refine ⟨elStr.length_vals L, .inr ⟨g, cap, cur, rfl, hB, hh, hc, hm, ?_, ?_⟩⟩
  · show cur.size = cap * 1; omega
  · show cur.toList.take (L.length * 1) = _
    rw [Nat.mul_one, ht, strVals]
/-- what is owned, opened -/
theorem ownStr_open {B : Nat} {w : World} {v : Value} {L : List ByteArray} (h : elStr.Owns B w v L) : (v = .slice none 0 0 ∧ L = []) ∨
    ∃ g cap cur, v = .slice (some ⟨g, 0, none⟩) L.length cap ∧ B ≤ g ∧ g < w.heap.size ∧ w.heap[g]? = some (.cells cur 9 (0, 0)) ∧ L.length ≤ cap ∧ cap ≤ maxLen ∧ cur.size = cap ∧ cur.toList.take L.length = L.map Value.string := by
  obtain ⟨hl, ⟨rfl, h0⟩ | ⟨g, cap, cur, rfl, hg, hh, hn, hc, hs, ht⟩⟩ := h
  · exact .inl ⟨rfl, List.eq_nil_of_length_eq_zero h0⟩
  · refine .inr ⟨g, cap, cur, rfl, hg, (Array.getElem?_eq_some_iff.1 hh).1, hh, hn, hc, ?_, ?_⟩
    · have : cur.size = cap * 1 := hs
      omega
    · have : cur.toList.take (L.length * 1) = elStr.vals L := ht
      rwa [Nat.mul_one, strVals] at this
theorem ownStr_cell {w : World} {g : Nat} {cur : Array Value} {L : List ByteArray} (hh : w.heap[g]? = some (.cells cur 9 (0, 0))) (ht : cur.toList.take L.length = L.map Value.string) (j : Nat) (hj : j < L.length) : w.cell? ⟨g, j, none⟩ = some (.string L[j]) := by
  have h1 : cur[j]? = some (.string L[j]) := by
    have := congrArg (·[j]?) ht
    simpa [List.getElem?_take, hj] using this
  simp [World.cell?, hh, h1]
theorem cell_some {w : World} {g : Nat} {T : TypeId} {cur : Array Value} (hh : w.heap[g]? = some (.cells cur T (0, 0))) (j : Nat) (hj : j < cur.size) : (w.cell? ⟨g, j, none⟩).isSome = true := by
  simp [World.cell?, hh, hj]
theorem shape_of {w : World} {g : Nat} {T : TypeId} {cur : Array Value} (hh : w.heap[g]? = some (.cells cur T (0, 0))) : w.shape? g = some (T, cur.size) := by
  simp [World.shape?, hh]
end Go.Proofs.YtdlkgpobjacgeaaGreatDoor
