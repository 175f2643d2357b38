/-
  A slice of slots that the call itself owns: made, filled, appended to, read.
-/
import Derived.Test.YtnbaffdonbnocaaSmallI
import Derived.Test.YtnbaffdonbnocaaMathL
import Derived.OwnWalk
namespace Go.Proofs.Ytnbaffdonbnocaa
open Go.ChangeShapes Go.WideShapes Go.ChangeAt Go.RowKit

/-- what lay there before a call lies there behind it, its marks too -/
theorem oldCells {W w1 : World} (hb : Below W.heap.size W w1) : (∀ b o, b < W.heap.size → w1.cell? ⟨b, o, none⟩ = W.cell? ⟨b, o, none⟩) ∧ (∀ b o, b < W.heap.size → w1.frozen? ⟨b, o, none⟩ = W.frozen? ⟨b, o, none⟩) :=
  ⟨fun _ _ h => hb.cell h, fun _ _ h => hb.frozen h⟩

theorem infoS : (Try.prog.info? 36).map (fun i => (i.zero, i.size, i.bytes)) = some (some (.agg #[.int .i64 0, .string ⟨#[]⟩]), 2, 24) := by kernel_rfl
def zeroS : Slot := (0, ⟨#[]⟩)
theorem made_slots (n : Nat) : madeCells #[.int .i64 0, .string ⟨#[]⟩] (n * 2) = (slotVals (List.replicate n zeroS)).toArray := by
  apply Array.ext_getElem?
  intro i
  have key : ∀ l : List Value, l.toArray[i]? = l[i]? := fun l => by simp
  rw [key (slotVals _)]
  clear key
  by_cases h : i < n * 2
  · have e : i = i / 2 * 2 + i % 2 := by omega
    have hz : ∀ j, j < n → tn (List.replicate n zeroS) j = 0 ∧ ky (List.replicate n zeroS) j = ⟨#[]⟩ := fun j hj => by simp [tn, ky, List.getD, hj, zeroS]
    obtain ⟨h0, h1⟩ := hz (i / 2) (by omega)
    rcases Nat.mod_two_eq_zero_or_one i with hm | hm
    · rw [show i = i / 2 * 2 by omega, slotVals_at0 _ _ (by rw [List.length_replicate]; omega), h0]
      simp [madeCells, show i / 2 * 2 < n * 2 by omega]
    · rw [show i = i / 2 * 2 + 1 by omega, slotVals_at1 _ _ (by rw [List.length_replicate]; omega), h1]
      simp [madeCells, show i / 2 * 2 + 1 < n * 2 by omega, Nat.add_mod]
  · rw [List.getElem?_eq_none (by rw [length_slotVals, List.length_replicate]; omega)]
    simp [madeCells, h]
theorem run_makeS (n : Nat) (hn : n ≤ 1099511627776) (w : World) : (Instr.makeSlice 25 (.int .i64 (n : Int)) (.int .i64 (n : Int))).run Try.prog w = .ok (.slice (some ⟨w.heap.size, 0, none⟩) n n) (w.alloc (.cells (slotVals (List.replicate n zeroS)).toArray 36)) := by
  obtain ⟨i, hi, hz0, hz1, hz2⟩ := info_parts infoS
  have h := run_make (P := Try.prog) w 25 36 i (.agg #[.int .i64 0, .string ⟨#[]⟩]) Try.underlying25 hi hz0 .i64 .i64 n n (by omega) (by omega) (by rw [hz2]; omega) (by omega)
  rw [h, hz1]
  simp [Value.cells, made_slots]

/-- block g is a row of the slots L -/
def HoldsS (w : World) (g : Nat) (L : List Slot) : Prop := w.heap[g]? = some (.cells (slotVals L).toArray 36 (0, 0))
theorem HoldsS.cells {w : World} {g : Nat} {L : List Slot} (h : HoldsS w g L) (j : Nat) (hj : j < L.length) : w.cell? ⟨g, j * 2, none⟩ = some (.int .i64 (tn L j)) ∧ w.cell? ⟨g, j * 2 + 1, none⟩ = some (.string (ky L j)) := by
  unfold HoldsS at h
  have h0 := slotVals_at0 L j hj
  have h1 := slotVals_at1 L j hj
  constructor
  · simp [World.cell?, h, h0]
  · simp [World.cell?, h, h1]
theorem HoldsS.frozen {w : World} {g : Nat} {L : List Slot} (h : HoldsS w g L) (o : Nat) : w.frozen? ⟨g, o, none⟩ = false := frozen_of_row w g o _ 36 h
theorem HoldsS.new (w : World) (L : List Slot) : HoldsS (w.alloc (.cells (slotVals L).toArray 36)) w.heap.size L := by
  unfold HoldsS; exact Go.Deep.blk_alloc_new w _
theorem HoldsS.block {w w' : World} {g : Nat} {L : List Slot} (h : HoldsS w g L) (e : w'.heap[g]? = w.heap[g]?) : HoldsS w' g L := by
  unfold HoldsS at *; rw [e, h]
theorem HoldsS.below {w w' : World} {g B : Nat} {L : List Slot} (h : HoldsS w g L) (hb : Below B w w') (hg : g < B) : HoldsS w' g L := h.block (hb.block g hg)
theorem HoldsS.set {w : World} {g : Nat} {L : List Slot} (h : HoldsS w g L) (j : Nat) (t : Int) (k : ByteArray) : HoldsS ((w.setCell ⟨g, j * 2, none⟩ (.int .i64 t)).setCell ⟨g, j * 2 + 1, none⟩ (.string k)) g (L.set j (t, k)) := by
  unfold HoldsS at *
  have h1 := heap_setCell_same w g (j * 2) _ 36 (.int .i64 t) h
  have h2 := heap_setCell_same _ g (j * 2 + 1) _ 36 (.string k) h1
  rw [h2, slotVals_set, List.setIfInBounds_toArray, List.setIfInBounds_toArray]

theorem HoldsS.set_other {w : World} {g : Nat} {L : List Slot} {p : Addr} (h : HoldsS w g L) (hp : p.block ≠ g) (u : Value) : HoldsS (w.setCell p u) g L := h.block (heap_setCell_other w p g u (fun e => hp e.symm))

def OwnsS (B : Nat) (w : World) (v : Value) (L : List Slot) : Prop := w.ownsRow B 36 2 v L.length (slotVals L)
theorem HoldsS.owns {w : World} {g B : Nat} {L : List Slot} (h : HoldsS w g L) (hB : B ≤ g) (hl : L.length ≤ maxLen) : OwnsS B w (.slice (some ⟨g, 0, none⟩) L.length L.length) L :=
  ⟨length_slotVals L, .inr ⟨g, L.length, (slotVals L).toArray, rfl, hB, h, Nat.le_refl _, hl, by simp [length_slotVals], by rw [← length_slotVals L]; simp⟩⟩
theorem OwnsS.nil (B : Nat) (w : World) : OwnsS B w (.slice none 0 0) [] := ⟨rfl, .inl ⟨rfl, rfl⟩⟩
/-- What is owned is a slice, its block and its cells. -/
theorem OwnsS.form {B : Nat} {w : World} {v : Value} {L : List Slot} (h : OwnsS B w v L) : ∃ a cap, v = .slice a L.length cap ∧ SlotRd w w.heap.size a L ∧ L.length ≤ cap ∧ cap ≤ maxLen := by
  obtain ⟨hl, ⟨rfl, h0⟩ | ⟨g, cap, cur, rfl, hg, hh, hn, hc, hs, ht⟩⟩ := h
  · refine ⟨none, 0, by rw [h0], fun hp => by omega, by omega, by unfold maxLen; omega⟩
  · refine ⟨_, cap, rfl, fun _ => ⟨g, 0, rfl, (Array.getElem?_eq_some_iff.1 hh).1, fun j hj => ?_⟩, hn, hc⟩
    have e : ∀ i, i < L.length * 2 → cur[i]? = (slotVals L)[i]? := fun i hi => by
      rw [← ht, List.getElem?_take, if_pos hi, Array.getElem?_toList]
    have e0 := e (j * 2) (by omega)
    have e1 := e (j * 2 + 1) (by omega)
    rw [slotVals_at0 L j hj] at e0
    rw [slotVals_at1 L j hj] at e1
    constructor
    · simp [World.cell?, hh, e0]
    · simp [World.cell?, hh, e1]
theorem OwnsS.keep {B : Nat} {w w' : World} {v : Value} {L : List Slot} (h : OwnsS B w v L) (hk : ∀ g, B ≤ g → g < w.heap.size → w'.heap[g]? = w.heap[g]?) : OwnsS B w' v L := by
  obtain ⟨hl, ⟨rfl, h0⟩ | ⟨g, cap, cur, rfl, hg, hh, hr⟩⟩ := h
  · exact ⟨hl, .inl ⟨rfl, h0⟩⟩
  · exact ⟨hl, .inr ⟨g, cap, cur, rfl, hg, by rw [hk g hg (Array.getElem?_eq_some_iff.1 hh).1]; exact hh, hr⟩⟩
theorem OwnsS.below {B B' : Nat} {w w' : World} {v : Value} {L : List Slot} (h : OwnsS B w v L) (hb : Below B' w w') (hB : w.heap.size ≤ B') : OwnsS B w' v L :=
  h.keep fun g _ hg => hb.block g (by omega)
theorem OwnsS.mono {B B' : Nat} {w : World} {v : Value} {L : List Slot} (h : OwnsS B w v L) (hB : B' ≤ B) : OwnsS B' w v L := by
  obtain ⟨hl, ⟨rfl, h0⟩ | ⟨g, cap, cur, rfl, hg, hr⟩⟩ := h
  · exact ⟨hl, .inl ⟨rfl, h0⟩⟩
  · exact ⟨hl, .inr ⟨g, cap, cur, rfl, by omega, hr⟩⟩
def IntPost (w : World) (x : Int) (e : Ending) (w' : World) : Prop := e = .returned (.int .i64 x) ∧ Below w.heap.size w w'
def BoolPost (w : World) (b : Bool) (e : Ending) (w' : World) : Prop := e = .returned (.bool b) ∧ Below w.heap.size w w'
end Go.Proofs.Ytnbaffdonbnocaa
