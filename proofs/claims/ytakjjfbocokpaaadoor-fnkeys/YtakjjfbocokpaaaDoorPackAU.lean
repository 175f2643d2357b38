/-
  Texts of this proof, put together: Posts, OwnS, Box, OwnB.
-/
import Derived.Test.YtakjjfbocokpaaaDoorPackAB
import Derived.Test.YtakjjfbocokpaaaDoorPackAA
import Derived.OwnWalk

/-
  What a call leaves: posts of our contracts that name no type of the program; worlds in which one old block alone has turned.
-/
namespace Go.Proofs.YtakjjfbocokpaaaDoor
open Go.ChangeShapes Go.WideShapes Go.ChangeAt Go.RowKit

def IntPost (w : World) (x : Int) (e : Ending) (w' : World) : Prop := e = .returned (.int .i64 x) ∧ Below w.heap.size w w'
def BoolPost (w : World) (b : Bool) (e : Ending) (w' : World) : Prop := e = .returned (.bool b) ∧ Below w.heap.size w w'
def StringPost (w : World) (s : ByteArray) (e : Ending) (w' : World) : Prop := e = .returned (.string s) ∧ Below w.heap.size w w'
def TruePost (w : World) (e : Ending) (w' : World) : Prop := e = .returned (.bool true) ∧ Below w.heap.size w w'
/-- the result of a size: an int, not negative only if all fits -/
def SzPost (w : World) (P : Prop) (e : Ending) (w' : World) : Prop := ∃ x : Int, e = .returned (.int .i64 x) ∧ -1 ≤ x ∧ x ≤ 1048576 ∧ (0 ≤ x → P) ∧ Below w.heap.size w w'

/-- of the old blocks, block o alone may have turned -/
def Only (o : Option Nat) (w w' : World) : Prop := w.grownBy w' o
theorem Only.refl (o : Option Nat) (w : World) : Only o w w := ⟨rfl, rfl, rfl, Nat.le_refl _, fun _ _ _ => rfl⟩
theorem Only.trans {o : Option Nat} {a b c : World} (h : Only o a b) (k : Only o b c) : Only o a c :=
  ⟨k.os.trans h.os, k.tape.trans h.tape, k.output.trans h.output, Nat.le_trans h.size k.size, fun i hi hne => (k.block i (Nat.lt_of_lt_of_le hi h.size) hne).trans (h.block i hi hne)⟩
theorem Only.then_below {o : Option Nat} {a b c : World} {B : Nat} (h : Only o a b) (k : Below B b c) (hB : a.heap.size ≤ B) : Only o a c :=
  ⟨k.os.trans h.os, k.tape.trans h.tape, k.output.trans h.output, Nat.le_trans h.size k.size, fun i hi hne => (k.block i (by omega)).trans (h.block i hi hne)⟩
theorem Only.below {o : Option Nat} {a b : World} {B : Nat} (h : Only o a b) (ho : ∀ g, o = some g → B ≤ g) (hB : B ≤ a.heap.size) : Below B a b :=
  ⟨h.os, h.tape, h.output, h.size, fun i hi => h.block i (by omega) (fun e => by have := ho i e.symm; omega)⟩
theorem Only.set (g o : Nat) (w : World) (v : Value) : Only (some g) w (w.setCell ⟨g, o, none⟩ v) :=
  ⟨rfl, rfl, rfl, by simp, fun k _ hk => heap_setCell_other w ⟨g, o, none⟩ k v (fun e => hk (by simp [e]))⟩
theorem Only.of_drew {o : Option Nat} {a b : World} (h : Only o a.drew b) : Only o a b := ⟨h.os, h.tape, h.output, h.size, h.block⟩
theorem Only.drew {o : Option Nat} {a b : World} (h : Only o a b) : Only o a b.drew := ⟨h.os, h.tape, h.output, h.size, h.block⟩
end Go.Proofs.YtakjjfbocokpaaaDoor

/-
  A slice of slots that the call itself owns: made, filled, appended to, read.
-/
namespace Go.Proofs.YtakjjfbocokpaaaDoor
open Go.ChangeShapes Go.WideShapes Go.ChangeAt Go.RowKit

/-- what lay there before a call lies there behind it, its marks too -/
theorem oldCells {W w1 : World} (hb : Below W.heap.size W w1) : (∀ b o, b < W.heap.size → w1.cell? ⟨b, o, none⟩ = W.cell? ⟨b, o, none⟩) ∧ (∀ b o, b < W.heap.size → w1.frozen? ⟨b, o, none⟩ = W.frozen? ⟨b, o, none⟩) :=
  ⟨fun _ _ h => hb.cell h, fun _ _ h => hb.frozen h⟩

theorem infoS : (Tryd.prog.info? 74).map (fun i => (i.zero, i.size, i.bytes)) = some (some (.agg #[.int .i64 0, .string ⟨#[]⟩]), 2, 24) := by kernel_rfl
def zeroS : Slot := (0, ⟨#[]⟩)
theorem made_slots (n : Nat) : madeCells #[.int .i64 0, .string ⟨#[]⟩] (n * 2) = (slotVals (List.replicate n zeroS)).toArray := by
  apply Array.ext_getElem?
  intro i
  have key : ∀ l : List Value, l.toArray[i]? = l[i]? := fun l => by simp
  rw [key (slotVals _)]
  clear key
  by_cases h : i < n * 2
  · have e : i = i / 2 * 2 + i % 2 := by omega
    have hz : ∀ j, j < n → tn (List.replicate n zeroS) j = 0 ∧ ky (List.replicate n zeroS) j = ⟨#[]⟩ := fun j hj => by simp [tn, ky, List.getD, hj, zeroS]
    obtain ⟨h0, h1⟩ := hz (i / 2) (by omega)
    rcases Nat.mod_two_eq_zero_or_one i with hm | hm
    · rw [show i = i / 2 * 2 by omega, slotVals_at0 _ _ (by rw [List.length_replicate]; omega), h0]
      simp [madeCells, show i / 2 * 2 < n * 2 by omega]
    · rw [show i = i / 2 * 2 + 1 by omega, slotVals_at1 _ _ (by rw [List.length_replicate]; omega), h1]
      simp [madeCells, show i / 2 * 2 + 1 < n * 2 by omega, Nat.add_mod]
  · rw [List.getElem?_eq_none (by rw [length_slotVals, List.length_replicate]; omega)]
    simp [madeCells, h]
theorem run_makeS (n : Nat) (hn : n ≤ 1099511627776) (w : World) : (Instr.makeSlice 29 (.int .i64 (n : Int)) (.int .i64 (n : Int))).run Tryd.prog w = .ok (.slice (some ⟨w.heap.size, 0, none⟩) n n) (w.alloc (.cells (slotVals (List.replicate n zeroS)).toArray 74)) := by
  obtain ⟨i, hi, hz0, hz1, hz2⟩ := info_parts infoS
  have h := run_make (P := Tryd.prog) w 29 74 i (.agg #[.int .i64 0, .string ⟨#[]⟩]) Tryd.underlying29 hi hz0 .i64 .i64 n n (by omega) (by omega) (by rw [hz2]; omega) (by omega)
  rw [h, hz1]
  simp [Value.cells, made_slots]

/-- block g is a row of the slots L -/
def HoldsS (w : World) (g : Nat) (L : List Slot) : Prop := w.heap[g]? = some (.cells (slotVals L).toArray 74 (0, 0))
theorem HoldsS.cells {w : World} {g : Nat} {L : List Slot} (h : HoldsS w g L) (j : Nat) (hj : j < L.length) : w.cell? ⟨g, j * 2, none⟩ = some (.int .i64 (tn L j)) ∧ w.cell? ⟨g, j * 2 + 1, none⟩ = some (.string (ky L j)) := by
  unfold HoldsS at h
  have h0 := slotVals_at0 L j hj
  have h1 := slotVals_at1 L j hj
  constructor
  · simp [World.cell?, h, h0]
  · simp [World.cell?, h, h1]
theorem HoldsS.frozen {w : World} {g : Nat} {L : List Slot} (h : HoldsS w g L) (o : Nat) : w.frozen? ⟨g, o, none⟩ = false := frozen_of_row w g o _ 74 h
theorem HoldsS.new (w : World) (L : List Slot) : HoldsS (w.alloc (.cells (slotVals L).toArray 74)) w.heap.size L := by
  unfold HoldsS; exact Go.Deep.blk_alloc_new w _
theorem HoldsS.block {w w' : World} {g : Nat} {L : List Slot} (h : HoldsS w g L) (e : w'.heap[g]? = w.heap[g]?) : HoldsS w' g L := by
  unfold HoldsS at *; rw [e, h]
theorem HoldsS.below {w w' : World} {g B : Nat} {L : List Slot} (h : HoldsS w g L) (hb : Below B w w') (hg : g < B) : HoldsS w' g L := h.block (hb.block g hg)
theorem HoldsS.set {w : World} {g : Nat} {L : List Slot} (h : HoldsS w g L) (j : Nat) (t : Int) (k : ByteArray) : HoldsS ((w.setCell ⟨g, j * 2, none⟩ (.int .i64 t)).setCell ⟨g, j * 2 + 1, none⟩ (.string k)) g (L.set j (t, k)) := by
  unfold HoldsS at *
  have h1 := heap_setCell_same w g (j * 2) _ 74 (.int .i64 t) h
  have h2 := heap_setCell_same _ g (j * 2 + 1) _ 74 (.string k) h1
  rw [h2, slotVals_set, List.setIfInBounds_toArray, List.setIfInBounds_toArray]

theorem HoldsS.set_other {w : World} {g : Nat} {L : List Slot} {p : Addr} (h : HoldsS w g L) (hp : p.block ≠ g) (u : Value) : HoldsS (w.setCell p u) g L := h.block (heap_setCell_other w p g u (fun e => hp e.symm))

def OwnsS (B : Nat) (w : World) (v : Value) (L : List Slot) : Prop := w.ownsRow B 74 2 v L.length (slotVals L)
theorem HoldsS.owns {w : World} {g B : Nat} {L : List Slot} (h : HoldsS w g L) (hB : B ≤ g) (hl : L.length ≤ maxLen) : OwnsS B w (.slice (some ⟨g, 0, none⟩) L.length L.length) L :=
  ⟨length_slotVals L, .inr ⟨g, L.length, (slotVals L).toArray, rfl, hB, h, Nat.le_refl _, hl, by simp [length_slotVals], by rw [← length_slotVals L]; simp⟩⟩
theorem OwnsS.nil (B : Nat) (w : World) : OwnsS B w (.slice none 0 0) [] := ⟨rfl, .inl ⟨rfl, rfl⟩⟩
/-- What is owned is a slice, its block and its cells. -/
theorem OwnsS.form {B : Nat} {w : World} {v : Value} {L : List Slot} (h : OwnsS B w v L) : ∃ a cap, v = .slice a L.length cap ∧ SlotRd w w.heap.size a L ∧ L.length ≤ cap ∧ cap ≤ maxLen := by
  obtain ⟨hl, ⟨rfl, h0⟩ | ⟨g, cap, cur, rfl, hg, hh, hn, hc, hs, ht⟩⟩ := h
  · refine ⟨none, 0, by rw [h0], fun hp => by omega, by omega, by unfold maxLen; omega⟩
  · refine ⟨_, cap, rfl, fun _ => ⟨g, 0, rfl, (Array.getElem?_eq_some_iff.1 hh).1, fun j hj => ?_⟩, hn, hc⟩
    have e : ∀ i, i < L.length * 2 → cur[i]? = (slotVals L)[i]? := fun i hi => by
      rw [← ht, List.getElem?_take, if_pos hi, Array.getElem?_toList]
    have e0 := e (j * 2) (by omega)
    have e1 := e (j * 2 + 1) (by omega)
    rw [slotVals_at0 L j hj] at e0
    rw [slotVals_at1 L j hj] at e1
    constructor
    · simp [World.cell?, hh, e0]
    · simp [World.cell?, hh, e1]
theorem OwnsS.keep {B : Nat} {w w' : World} {v : Value} {L : List Slot} (h : OwnsS B w v L) (hk : ∀ g, B ≤ g → g < w.heap.size → w'.heap[g]? = w.heap[g]?) : OwnsS B w' v L := by
  obtain ⟨hl, ⟨rfl, h0⟩ | ⟨g, cap, cur, rfl, hg, hh, hr⟩⟩ := h
  · exact ⟨hl, .inl ⟨rfl, h0⟩⟩
  · exact ⟨hl, .inr ⟨g, cap, cur, rfl, hg, by rw [hk g hg (Array.getElem?_eq_some_iff.1 hh).1]; exact hh, hr⟩⟩
theorem OwnsS.below {B B' : Nat} {w w' : World} {v : Value} {L : List Slot} (h : OwnsS B w v L) (hb : Below B' w w') (hB : w.heap.size ≤ B') : OwnsS B w' v L :=
  h.keep fun g _ hg => hb.block g (by omega)
theorem OwnsS.mono {B B' : Nat} {w : World} {v : Value} {L : List Slot} (h : OwnsS B w v L) (hB : B' ≤ B) : OwnsS B' w v L := by
  obtain ⟨hl, ⟨rfl, h0⟩ | ⟨g, cap, cur, rfl, hg, hr⟩⟩ := h
  · exact ⟨hl, .inl ⟨rfl, h0⟩⟩
  · exact ⟨hl, .inr ⟨g, cap, cur, rfl, by omega, hr⟩⟩
end Go.Proofs.YtakjjfbocokpaaaDoor

/-
  A struct of three cells in a block of its own; a row of slots as what is read.
-/
namespace Go.Proofs.YtakjjfbocokpaaaDoor
open Go.ChangeShapes Go.WideShapes Go.ChangeAt Go.RowKit

/-- block g holds a struct of three cells -/
def Box3 (w : World) (g : Nat) (v0 v1 v2 : Value) : Prop := g < w.heap.size ∧ w.cell? ⟨g, 0, none⟩ = some v0 ∧ w.cell? ⟨g, 1, none⟩ = some v1 ∧ w.cell? ⟨g, 2, none⟩ = some v2
theorem Box3.below {w w' : World} {g B : Nat} {v0 v1 v2 : Value} (h : Box3 w g v0 v1 v2) (hb : Below B w w') (hg : g < B) : Box3 w' g v0 v1 v2 :=
  ⟨Nat.lt_of_lt_of_le h.1 hb.size, (hb.cell (p := ⟨g, 0, none⟩) hg).trans h.2.1, (hb.cell (p := ⟨g, 1, none⟩) hg).trans h.2.2.1, (hb.cell (p := ⟨g, 2, none⟩) hg).trans h.2.2.2⟩
theorem Box3.new (w : World) (v0 v1 v2 : Value) (T : TypeId) : Box3 (w.alloc (.cells #[v0, v1, v2] T)) w.heap.size v0 v1 v2 :=
  ⟨by simp, by simp, by simp, by simp⟩
theorem Box3.drew {w : World} {g : Nat} {v0 v1 v2 : Value} (h : Box3 w g v0 v1 v2) : Box3 w.drew g v0 v1 v2 := h
theorem HoldsS.drew {w : World} {g : Nat} {L : List Slot} (h : HoldsS w g L) : HoldsS w.drew g L := h
theorem HoldsS.rd {w : World} {g : Nat} {L : List Slot} (h : HoldsS w g L) : SlotRd w w.heap.size (some ⟨g, 0, none⟩) L := fun _ =>
  ⟨g, 0, rfl, (Array.getElem?_eq_some_iff.1 h).1, fun j hj => by rw [Nat.zero_add]; exact h.cells j hj⟩
theorem below_of_drew {w w' : World} (h : Below w.drew.heap.size w.drew w') : Below w.heap.size w w' := ⟨h.os, h.tape, h.output, h.size, h.block⟩
/-- block g is a struct of three cells, known whole -/
def BoxB (T : TypeId) (w : World) (g : Nat) (v0 v1 v2 : Value) : Prop := w.heap[g]? = some (.cells #[v0, v1, v2] T (0, 0))
theorem BoxB.new (T : TypeId) (w : World) (v0 v1 v2 : Value) : BoxB T (w.alloc (.cells #[v0, v1, v2] T)) w.heap.size v0 v1 v2 := Go.Deep.blk_alloc_new w _
theorem BoxB.lt {T : TypeId} {w : World} {g : Nat} {v0 v1 v2 : Value} (h : BoxB T w g v0 v1 v2) : g < w.heap.size := (Array.getElem?_eq_some_iff.1 h).1
theorem BoxB.below {T : TypeId} {w w' : World} {g B : Nat} {v0 v1 v2 : Value} (h : BoxB T w g v0 v1 v2) (hb : Below B w w') (hg : g < B) : BoxB T w' g v0 v1 v2 := (hb.block g hg).trans h
theorem BoxB.alloc {T : TypeId} {w : World} {g : Nat} {v0 v1 v2 : Value} (h : BoxB T w g v0 v1 v2) (o : Obj) : BoxB T (w.alloc o) g v0 v1 v2 := (Below.heap_alloc w o g h.lt).trans h
theorem BoxB.drew {T : TypeId} {w : World} {g : Nat} {v0 v1 v2 : Value} (h : BoxB T w g v0 v1 v2) : BoxB T w.drew g v0 v1 v2 := h
theorem BoxB.cells {T : TypeId} {w : World} {g : Nat} {v0 v1 v2 : Value} (h : BoxB T w g v0 v1 v2) : w.cell? ⟨g, 0, none⟩ = some v0 ∧ w.cell? ⟨g, 1, none⟩ = some v1 ∧ w.cell? ⟨g, 2, none⟩ = some v2 := by
  unfold BoxB at h
  exact ⟨by simp [World.cell?, h], by simp [World.cell?, h], by simp [World.cell?, h]⟩
theorem BoxB.frozen {T : TypeId} {w : World} {g : Nat} {v0 v1 v2 : Value} (h : BoxB T w g v0 v1 v2) : w.frozen? ⟨g, 0, none⟩ = false ∧ w.frozen? ⟨g, 1, none⟩ = false ∧ w.frozen? ⟨g, 2, none⟩ = false :=
  ⟨frozen_of_row w g 0 _ T h, frozen_of_row w g 1 _ T h, frozen_of_row w g 2 _ T h⟩
theorem BoxB.set0 {T : TypeId} {w : World} {g : Nat} {v0 v1 v2 : Value} (h : BoxB T w g v0 v1 v2) (u : Value) : BoxB T (w.setCell ⟨g, 0, none⟩ u) g u v1 v2 := heap_setCell_same w g 0 _ T u h
theorem BoxB.set1 {T : TypeId} {w : World} {g : Nat} {v0 v1 v2 : Value} (h : BoxB T w g v0 v1 v2) (u : Value) : BoxB T (w.setCell ⟨g, 1, none⟩ u) g v0 u v2 := heap_setCell_same w g 1 _ T u h
theorem BoxB.set2 {T : TypeId} {w : World} {g : Nat} {v0 v1 v2 : Value} (h : BoxB T w g v0 v1 v2) (u : Value) : BoxB T (w.setCell ⟨g, 2, none⟩ u) g v0 v1 u := heap_setCell_same w g 2 _ T u h
theorem BoxB.set_other {T : TypeId} {w : World} {g : Nat} {v0 v1 v2 : Value} {p : Addr} (h : BoxB T w g v0 v1 v2) (hp : p.block ≠ g) (u : Value) : BoxB T (w.setCell p u) g v0 v1 v2 := (heap_setCell_other w p g u (fun e => hp e.symm)).trans h
theorem BoxB.box3 {T : TypeId} {w : World} {g : Nat} {v0 v1 v2 : Value} (h : BoxB T w g v0 v1 v2) : Box3 w g v0 v1 v2 := ⟨h.lt, h.cells⟩
end Go.Proofs.YtakjjfbocokpaaaDoor

/-
  Stores into slots that the call owns; worlds in which one old block alone has turned.
-/
namespace Go.Proofs.YtakjjfbocokpaaaDoor
open Go.ChangeShapes Go.WideShapes Go.ChangeAt Go.RowKit

theorem slotVals_set0 (L : List Slot) (j : Nat) (t : Int) : (slotVals L).set (j * 2) (.int .i64 t) = slotVals (L.set j (t, ky L j)) := by
  induction L generalizing j with
  | nil => simp [slotVals]
  | cons r L ih =>
    cases j with
    | zero => simp [slotVals_cons, ky]
    | succ j => rw [List.set_cons_succ, slotVals_cons, slotVals_cons, show ky (r :: L) (j + 1) = ky L j by simp [ky], ← ih, show (j + 1) * 2 = j * 2 + 1 + 1 by omega, List.set_cons_succ, List.set_cons_succ]
theorem slotVals_set1 (L : List Slot) (j : Nat) (k : ByteArray) : (slotVals L).set (j * 2 + 1) (.string k) = slotVals (L.set j (tn L j, k)) := by
  induction L generalizing j with
  | nil => simp [slotVals]
  | cons r L ih =>
    cases j with
    | zero => simp [slotVals_cons, tn]
    | succ j => rw [List.set_cons_succ, slotVals_cons, slotVals_cons, show tn (r :: L) (j + 1) = tn L j by simp [tn], ← ih, show (j + 1) * 2 + 1 = j * 2 + 1 + 1 + 1 by omega, List.set_cons_succ, List.set_cons_succ]
theorem OwnsS.set0 {B g n cap : Nat} {w : World} {L : List Slot} (h : OwnsS B w (.slice (some ⟨g, 0, none⟩) n cap) L) (hn : L.length = n) (j : Nat) (t : Int) : OwnsS B (w.setCell ⟨g, j * 2, none⟩ (.int .i64 t)) (.slice (some ⟨g, 0, none⟩) n cap) (L.set j (t, ky L j)) := by
  subst hn
  have := (World.ownsRow.stored h (j * 2) (.int .i64 t)).1
  rw [slotVals_set0] at this
  unfold OwnsS
  rw [List.length_set]
  exact this
theorem OwnsS.set1 {B g n cap : Nat} {w : World} {L : List Slot} (h : OwnsS B w (.slice (some ⟨g, 0, none⟩) n cap) L) (hn : L.length = n) (j : Nat) (k : ByteArray) : OwnsS B (w.setCell ⟨g, j * 2 + 1, none⟩ (.string k)) (.slice (some ⟨g, 0, none⟩) n cap) (L.set j (tn L j, k)) := by
  subst hn
  have := (World.ownsRow.stored h (j * 2 + 1) (.string k)).1
  rw [slotVals_set1] at this
  unfold OwnsS
  rw [List.length_set]
  exact this
theorem OwnsS.pos {B n cap : Nat} {a : Option Addr} {w : World} {L : List Slot} (h : OwnsS B w (.slice a n cap) L) (hp : 0 < L.length) : ∃ g, a = some ⟨g, 0, none⟩ ∧ B ≤ g ∧ g < w.heap.size := by
  obtain ⟨_, ⟨_, h0⟩ | ⟨g, c, cur, e, hg, hh, _⟩⟩ := h
  · omega
  · simp only [Value.slice.injEq] at e
    exact ⟨g, e.1, hg, (Array.getElem?_eq_some_iff.1 hh).1⟩
theorem OwnsS.cellAt {B g n cap : Nat} {w : World} {L : List Slot} (h : OwnsS B w (.slice (some ⟨g, 0, none⟩) n cap) L) (hn : L.length = n) (j : Nat) (hj : j < L.length) : w.cell? ⟨g, j * 2, none⟩ = some (.int .i64 (tn L j)) ∧ w.cell? ⟨g, j * 2 + 1, none⟩ = some (.string (ky L j)) := by
  subst hn
  exact ⟨(World.ownsRow.cellAt h (j * 2) (by omega)).trans (slotVals_at0 L j hj), (World.ownsRow.cellAt h (j * 2 + 1) (by omega)).trans (slotVals_at1 L j hj)⟩
theorem OwnsS.frozenAt {B g n cap : Nat} {w : World} {L : List Slot} (h : OwnsS B w (.slice (some ⟨g, 0, none⟩) n cap) L) (hn : L.length = n) (o : Nat) : w.frozen? ⟨g, o, none⟩ = false := by
  subst hn
  exact World.ownsRow.frozenAt h o
end Go.Proofs.YtakjjfbocokpaaaDoor
