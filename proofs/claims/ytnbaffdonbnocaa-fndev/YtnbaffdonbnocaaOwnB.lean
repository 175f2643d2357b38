/-
  Stores into slots that the call owns; worlds in which one old block alone has turned.
-/
import Derived.Test.YtnbaffdonbnocaaBox
namespace Go.Proofs.Ytnbaffdonbnocaa
open Go.ChangeShapes Go.WideShapes Go.ChangeAt Go.RowKit

/-- of the old blocks, block o alone may have turned -/
def Only (o : Option Nat) (w w' : World) : Prop := w.grownBy w' o
theorem Only.refl (o : Option Nat) (w : World) : Only o w w := ⟨rfl, rfl, rfl, Nat.le_refl _, fun _ _ _ => rfl⟩
theorem Only.trans {o : Option Nat} {a b c : World} (h : Only o a b) (k : Only o b c) : Only o a c :=
  ⟨k.os.trans h.os, k.tape.trans h.tape, k.output.trans h.output, Nat.le_trans h.size k.size, fun i hi hne => (k.block i (Nat.lt_of_lt_of_le hi h.size) hne).trans (h.block i hi hne)⟩
theorem Only.then_below {o : Option Nat} {a b c : World} {B : Nat} (h : Only o a b) (k : Below B b c) (hB : a.heap.size ≤ B) : Only o a c :=
  ⟨k.os.trans h.os, k.tape.trans h.tape, k.output.trans h.output, Nat.le_trans h.size k.size, fun i hi hne => (k.block i (by omega)).trans (h.block i hi hne)⟩
theorem Only.below {o : Option Nat} {a b : World} {B : Nat} (h : Only o a b) (ho : ∀ g, o = some g → B ≤ g) (hB : B ≤ a.heap.size) : Below B a b :=
  ⟨h.os, h.tape, h.output, h.size, fun i hi => h.block i (by omega) (fun e => by have := ho i e.symm; omega)⟩
theorem Only.set (g o : Nat) (w : World) (v : Value) : Only (some g) w (w.setCell ⟨g, o, none⟩ v) :=
  ⟨rfl, rfl, rfl, by simp, fun k _ hk => heap_setCell_other w ⟨g, o, none⟩ k v (fun e => hk (by simp [e]))⟩
theorem Only.of_drew {o : Option Nat} {a b : World} (h : Only o a.drew b) : Only o a b := ⟨h.os, h.tape, h.output, h.size, h.block⟩
theorem Only.drew {o : Option Nat} {a b : World} (h : Only o a b) : Only o a b.drew := ⟨h.os, h.tape, h.output, h.size, h.block⟩

theorem slotVals_set0 (L : List Slot) (j : Nat) (t : Int) : (slotVals L).set (j * 2) (.int .i64 t) = slotVals (L.set j (t, ky L j)) := by
  induction L generalizing j with
  | nil => simp [slotVals]
  | cons r L ih =>
    cases j with
    | zero => simp [slotVals_cons, ky]
    | succ j => rw [List.set_cons_succ, slotVals_cons, slotVals_cons, show ky (r :: L) (j + 1) = ky L j by simp [ky], ← ih, show (j + 1) * 2 = j * 2 + 1 + 1 by omega, List.set_cons_succ, List.set_cons_succ]
theorem slotVals_set1 (L : List Slot) (j : Nat) (k : ByteArray) : (slotVals L).set (j * 2 + 1) (.string k) = slotVals (L.set j (tn L j, k)) := by
  induction L generalizing j with
  | nil => simp [slotVals]
  | cons r L ih =>
    cases j with
    | zero => simp [slotVals_cons, tn]
    | succ j => rw [List.set_cons_succ, slotVals_cons, slotVals_cons, show tn (r :: L) (j + 1) = tn L j by simp [tn], ← ih, show (j + 1) * 2 + 1 = j * 2 + 1 + 1 + 1 by omega, List.set_cons_succ, List.set_cons_succ]
theorem OwnsS.set0 {B g n cap : Nat} {w : World} {L : List Slot} (h : OwnsS B w (.slice (some ⟨g, 0, none⟩) n cap) L) (hn : L.length = n) (j : Nat) (t : Int) : OwnsS B (w.setCell ⟨g, j * 2, none⟩ (.int .i64 t)) (.slice (some ⟨g, 0, none⟩) n cap) (L.set j (t, ky L j)) := by
  subst hn
  have := (World.ownsRow.stored h (j * 2) (.int .i64 t)).1
  rw [slotVals_set0] at this
  unfold OwnsS
  rw [List.length_set]
  exact this
theorem OwnsS.set1 {B g n cap : Nat} {w : World} {L : List Slot} (h : OwnsS B w (.slice (some ⟨g, 0, none⟩) n cap) L) (hn : L.length = n) (j : Nat) (k : ByteArray) : OwnsS B (w.setCell ⟨g, j * 2 + 1, none⟩ (.string k)) (.slice (some ⟨g, 0, none⟩) n cap) (L.set j (tn L j, k)) := by
  subst hn
  have := (World.ownsRow.stored h (j * 2 + 1) (.string k)).1
  rw [slotVals_set1] at this
  unfold OwnsS
  rw [List.length_set]
  exact this
theorem OwnsS.pos {B n cap : Nat} {a : Option Addr} {w : World} {L : List Slot} (h : OwnsS B w (.slice a n cap) L) (hp : 0 < L.length) : ∃ g, a = some ⟨g, 0, none⟩ ∧ B ≤ g ∧ g < w.heap.size := by
  obtain ⟨_, ⟨_, h0⟩ | ⟨g, c, cur, e, hg, hh, _⟩⟩ := h
  · omega
  · simp only [Value.slice.injEq] at e
    exact ⟨g, e.1, hg, (Array.getElem?_eq_some_iff.1 hh).1⟩
theorem OwnsS.cellAt {B g n cap : Nat} {w : World} {L : List Slot} (h : OwnsS B w (.slice (some ⟨g, 0, none⟩) n cap) L) (hn : L.length = n) (j : Nat) (hj : j < L.length) : w.cell? ⟨g, j * 2, none⟩ = some (.int .i64 (tn L j)) ∧ w.cell? ⟨g, j * 2 + 1, none⟩ = some (.string (ky L j)) := by
  subst hn
  exact ⟨(World.ownsRow.cellAt h (j * 2) (by omega)).trans (slotVals_at0 L j hj), (World.ownsRow.cellAt h (j * 2 + 1) (by omega)).trans (slotVals_at1 L j hj)⟩
theorem OwnsS.frozenAt {B g n cap : Nat} {w : World} {L : List Slot} (h : OwnsS B w (.slice (some ⟨g, 0, none⟩) n cap) L) (hn : L.length = n) (o : Nat) : w.frozen? ⟨g, o, none⟩ = false := by
  subst hn
  exact World.ownsRow.frozenAt h o
end Go.Proofs.Ytnbaffdonbnocaa
