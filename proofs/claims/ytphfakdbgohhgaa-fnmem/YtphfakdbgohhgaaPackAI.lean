/-
  Texts of this proof, put together: RowG, BoxW, BoxN, RowH.
-/
import Derived.Test.YtphfakdbgohhgaaPackAD
import Derived.Test.YtphfakdbgohhgaaPackAA
import Derived.OwnWalk
import Derived.Laws.AppendOwnNone
import Derived.Test.YtphfakdbgohhgaaPackAH

/-
  Rows of elements of whatever type (a struct of c cells): read, owned, stored into, appended to. Nothing here names a type of the program.
-/
namespace Go.Proofs.Ytphfakdbgohhgaa
open Go.ChangeShapes Go.WideShapes Go.ChangeAt Go.RowKit

/-- how an element of type T lies in memory: c cells, each of one value -/
structure El (α : Type) where
  T : TypeId
  c : Nat
  enc : α → List Value
  len : ∀ x, (enc x).length = c
  one : ∀ x, ∀ v ∈ enc x, v.oneCell' = true
section
variable {α : Type} (e : El α)

def El.vals (L : List α) : List Value := L.flatMap e.enc
theorem El.vals_nil : e.vals [] = [] := rfl
theorem El.vals_cons (x : α) (L : List α) : e.vals (x :: L) = e.enc x ++ e.vals L := by simp [El.vals]
theorem El.vals_append (L M : List α) : e.vals (L ++ M) = e.vals L ++ e.vals M := by simp [El.vals]
theorem El.vals_one1 (x : α) : e.vals [x] = e.enc x := by simp [El.vals]
theorem El.length_vals : ∀ L : List α, (e.vals L).length = L.length * e.c
  | [] => by simp [El.vals]
  | x :: L => by rw [El.vals_cons, List.length_append, e.len, El.length_vals L, List.length_cons, Nat.succ_mul, Nat.add_comm]
theorem El.vals_mem (L : List α) : ∀ v ∈ e.vals L, v.oneCell' = true := by
  intro v hv
  simp only [El.vals, List.mem_flatMap] at hv
  obtain ⟨x, _, hx⟩ := hv
  exact e.one x v hx
theorem El.vals_at : ∀ (L : List α) (j i : Nat) (hj : j < L.length), i < e.c → (e.vals L)[j * e.c + i]? = (e.enc L[j])[i]?
  | [], j, i, hj, _ => by simp at hj
  | x :: L, 0, i, _, hi => by
    rw [El.vals_cons, Nat.zero_mul, Nat.zero_add, List.getElem?_append_left (by rw [e.len]; exact hi)]
    rfl
  | x :: L, j + 1, i, hj, hi => by
    rw [El.vals_cons, Nat.succ_mul, List.getElem?_append_right (by rw [e.len]; omega), e.len, show j * e.c + e.c + i - e.c = j * e.c + i by omega, El.vals_at L j i (by simpa using hj) hi]
    rfl
theorem El.vals_set : ∀ (L : List α) (j i : Nat) (hj : j < L.length) (u : Value) (y : α), i < e.c → e.enc y = (e.enc L[j]).set i u → (e.vals L).set (j * e.c + i) u = e.vals (L.set j y)
  | [], j, i, hj, _, _, _, _ => by simp at hj
  | x :: L, 0, i, _, u, y, hi, hy => by
    rw [El.vals_cons, List.set_cons_zero, El.vals_cons, Nat.zero_mul, Nat.zero_add, List.set_append_left _ _ (by rw [e.len]; exact hi), hy]
    rfl
  | x :: L, j + 1, i, hj, u, y, hi, hy => by
    rw [El.vals_cons, List.set_cons_succ, El.vals_cons, Nat.succ_mul, List.set_append_right _ _ (by rw [e.len]; omega), e.len, show j * e.c + e.c + i - e.c = j * e.c + i by omega, El.vals_set L j i (by simpa using hj) u y hi (by simpa using hy)]
theorem El.vals_take : ∀ (L : List α) (n : Nat), e.vals (L.take n) = (e.vals L).take (n * e.c)
  | [], n => by simp [El.vals]
  | x :: L, 0 => by simp [El.vals]
  | x :: L, n + 1 => by
    rw [List.take_succ_cons, El.vals_cons, El.vals_cons, El.vals_take L n, List.take_append, e.len, List.take_of_length_le (l := e.enc x) (by rw [e.len, Nat.succ_mul]; omega), show (n + 1) * e.c - e.c = n * e.c by rw [Nat.succ_mul]; omega]

/-- The slice at a reads as L, in a block below B. -/
def El.Rd (w : World) (B : Nat) (a : Option Addr) (L : List α) : Prop :=
  0 < L.length → ∃ b off, a = some ⟨b, off, none⟩ ∧ b < B ∧ ∀ j (hj : j < L.length) i, i < e.c → w.cell? ⟨b, off + j * e.c + i, none⟩ = (e.enc L[j])[i]?
/-- block g is a row of L -/
def El.Holds (w : World) (g : Nat) (L : List α) : Prop := w.heap[g]? = some (.cells (e.vals L).toArray e.T (0, 0))
/-- the slice v, made by the call (blocks from B on), holds L -/
def El.Owns (B : Nat) (w : World) (v : Value) (L : List α) : Prop := w.ownsRow B e.T e.c v L.length (e.vals L)
end
section
variable {α : Type} {e : El α} {w w' : World} {B B' g : Nat} {a : Option Addr} {L : List α} {v : Value}

theorem El.Rd.keep (h : e.Rd w B a L) (hk : ∀ b o, b < B → w'.cell? ⟨b, o, none⟩ = w.cell? ⟨b, o, none⟩) : e.Rd w' B a L := fun hp => by
  obtain ⟨b, off, ha, hlt, hc⟩ := h hp
  exact ⟨b, off, ha, hlt, fun j hj i hi => (hk b _ hlt).trans (hc j hj i hi)⟩
theorem El.Rd.below (h : e.Rd w B a L) (hb : Below B' w w') (hB : B ≤ B') : e.Rd w' B a L := h.keep fun _ _ hlt => hb.cell (Nat.lt_of_lt_of_le hlt hB)
theorem El.Rd.mono (h : e.Rd w B a L) (hB : B ≤ B') : e.Rd w B' a L := fun hp => by
  obtain ⟨b, off, ha, hlt, hc⟩ := h hp
  exact ⟨b, off, ha, by omega, hc⟩
theorem El.Rd.drew (h : e.Rd w B a L) : e.Rd w.drew B a L := h

theorem El.Holds.new (w : World) (L : List α) : e.Holds (w.alloc (.cells (e.vals L).toArray e.T)) w.heap.size L := Go.Deep.blk_alloc_new w _
theorem El.Holds.lt (h : e.Holds w g L) : g < w.heap.size := (Array.getElem?_eq_some_iff.1 h).1
theorem El.Holds.block (h : e.Holds w g L) (hb : w'.heap[g]? = w.heap[g]?) : e.Holds w' g L := hb.trans h
theorem El.Holds.below (h : e.Holds w g L) (hb : Below B w w') (hg : g < B) : e.Holds w' g L := h.block (hb.block g hg)
theorem El.Holds.frozen (h : e.Holds w g L) (o : Nat) : w.frozen? ⟨g, o, none⟩ = false := frozen_of_row w g o _ e.T h
theorem El.Holds.cell (h : e.Holds w g L) (j : Nat) (hj : j < L.length) (i : Nat) (hi : i < e.c) : w.cell? ⟨g, j * e.c + i, none⟩ = (e.enc L[j])[i]? := by
  unfold El.Holds at h
  have := e.vals_at L j i hj hi
  simp [World.cell?, h, this]
theorem El.Holds.set_other {p : Addr} (h : e.Holds w g L) (hp : p.block ≠ g) (u : Value) : e.Holds (w.setCell p u) g L := h.block (heap_setCell_other w p g u (fun x => hp x.symm))
theorem El.Holds.setAt (h : e.Holds w g L) (j : Nat) (x : α) (hx : L[j]? = some x) (i : Nat) (hi : i < e.c) (u : Value) (y : α) (hy : e.enc y = (e.enc x).set i u) : e.Holds (w.setCell ⟨g, j * e.c + i, none⟩ u) g (L.set j y) := by
  obtain ⟨hj, rfl⟩ := List.getElem?_eq_some_iff.1 hx
  have h1 := heap_setCell_same w g (j * e.c + i) _ e.T u h
  unfold El.Holds
  rw [h1, List.setIfInBounds_toArray, e.vals_set L j i hj u y hi hy]
theorem El.Holds.owns (h : e.Holds w g L) (hB : B ≤ g) (hl : L.length ≤ maxLen) : e.Owns B w (.slice (some ⟨g, 0, none⟩) L.length L.length) L :=
  ⟨e.length_vals L, .inr ⟨g, L.length, (e.vals L).toArray, rfl, hB, h, Nat.le_refl _, hl, by simp [e.length_vals], by rw [← e.length_vals L]; simp⟩⟩

theorem El.Owns.nil (B : Nat) (w : World) : e.Owns B w (.slice none 0 0) [] := ⟨by simp [El.vals], .inl ⟨rfl, rfl⟩⟩
/-- What is owned is a slice, its block and its cells. -/
theorem El.Owns.form (h : e.Owns B w v L) : ∃ a cap, v = .slice a L.length cap ∧ e.Rd w w.heap.size a L ∧ L.length ≤ cap ∧ cap ≤ maxLen := by
  obtain ⟨hl, ⟨rfl, h0⟩ | ⟨g, cap, cur, rfl, hg, hh, hn, hc, hs, ht⟩⟩ := h
  · refine ⟨none, 0, by rw [h0], fun hp => by omega, by omega, by unfold maxLen; omega⟩
  · refine ⟨_, cap, rfl, fun _ => ⟨g, 0, rfl, (Array.getElem?_eq_some_iff.1 hh).1, fun j hj i hi => ?_⟩, hn, hc⟩
    have hb : j * e.c + i < L.length * e.c := by
      have := Nat.mul_le_mul_right e.c (show j + 1 ≤ L.length from hj)
      rw [Nat.succ_mul] at this
      omega
    have h1 : cur[j * e.c + i]? = (e.vals L)[j * e.c + i]? := by rw [← ht, List.getElem?_take, if_pos hb, Array.getElem?_toList]
    rw [e.vals_at L j i hj hi] at h1
    simp [World.cell?, hh, h1]
theorem El.Owns.keep (h : e.Owns B w v L) (hk : ∀ g, B ≤ g → g < w.heap.size → w'.heap[g]? = w.heap[g]?) : e.Owns B w' v L := by
  obtain ⟨hl, ⟨rfl, h0⟩ | ⟨g, cap, cur, rfl, hg, hh, hr⟩⟩ := h
  · exact ⟨hl, .inl ⟨rfl, h0⟩⟩
  · exact ⟨hl, .inr ⟨g, cap, cur, rfl, hg, by rw [hk g hg (Array.getElem?_eq_some_iff.1 hh).1]; exact hh, hr⟩⟩
theorem El.Owns.below (h : e.Owns B w v L) (hb : Below B' w w') (hB : w.heap.size ≤ B') : e.Owns B w' v L := h.keep fun g _ hg => hb.block g (by omega)
theorem El.Owns.mono (h : e.Owns B w v L) (hB : B' ≤ B) : e.Owns B' w v L := by
  obtain ⟨hl, ⟨rfl, h0⟩ | ⟨g, cap, cur, rfl, hg, hr⟩⟩ := h
  · exact ⟨hl, .inl ⟨rfl, h0⟩⟩
  · exact ⟨hl, .inr ⟨g, cap, cur, rfl, by omega, hr⟩⟩
theorem El.Owns.drew (h : e.Owns B w v L) : e.Owns B w.drew v L := h
theorem El.Owns.alloc (h : e.Owns B w v L) (o : Obj) : e.Owns B (w.alloc o) v L := World.ownsRow.alloc h o
theorem El.Owns.lit (B : Nat) (w : World) (L : List α) (vs : Array Value) (n : Nat) (hv : vs = (e.vals L).toArray) (hn : L.length = n) (hB : B ≤ w.heap.size) (hl : n ≤ maxLen) : e.Owns B (w.alloc (.cells vs e.T)) (.slice (some ⟨w.heap.size, 0, none⟩) n n) L := by
  subst hv hn
  exact (El.Holds.new w L).owns hB hl
theorem El.Owns.set_other {p : Addr} (h : e.Owns B w v L) (hp : p.block < B) (u : Value) : e.Owns B (w.setCell p u) v L :=
  h.keep fun g hg _ => heap_setCell_other w p g u (fun x => by omega)
theorem El.Owns.set_ne {p : Addr} (h : e.Owns B w v L) (hk : ∀ k, v.ownBlock = some k → k ≠ p.block) (u : Value) : e.Owns B (w.setCell p u) v L := by
  obtain ⟨hl, ⟨rfl, h0⟩ | ⟨g, cap, cur, rfl, hg, hh, hr⟩⟩ := h
  · exact ⟨hl, .inl ⟨rfl, h0⟩⟩
  · exact ⟨hl, .inr ⟨g, cap, cur, rfl, hg, (heap_setCell_other w p g u (hk g rfl)).trans hh, hr⟩⟩
theorem El.Owns.lt (h : e.Owns B w v L) : ∀ k, v.ownBlock = some k → B ≤ k ∧ k < w.heap.size := World.ownsRow.lt h
theorem El.Owns.pos {n cap : Nat} (h : e.Owns B w (.slice a n cap) L) (hp : 0 < L.length) : ∃ g, a = some ⟨g, 0, none⟩ ∧ B ≤ g ∧ g < w.heap.size := by
  obtain ⟨_, ⟨_, h0⟩ | ⟨g, c, cur, x, hg, hh, _⟩⟩ := h
  · omega
  · simp only [Value.slice.injEq] at x
    exact ⟨g, x.1, hg, (Array.getElem?_eq_some_iff.1 hh).1⟩
theorem El.Owns.cellAt {n cap : Nat} (h : e.Owns B w (.slice (some ⟨g, 0, none⟩) n cap) L) (hn : L.length = n) (j : Nat) (hj : j < L.length) (i : Nat) (hi : i < e.c) : w.cell? ⟨g, j * e.c + i, none⟩ = (e.enc L[j])[i]? := by
  subst hn
  have hb : j * e.c + i < L.length * e.c := by
    have := Nat.mul_le_mul_right e.c (show j + 1 ≤ L.length from hj)
    rw [Nat.succ_mul] at this
    omega
  exact (World.ownsRow.cellAt h (j * e.c + i) hb).trans (e.vals_at L j i hj hi)
theorem El.Owns.frozenAt {n cap : Nat} (h : e.Owns B w (.slice (some ⟨g, 0, none⟩) n cap) L) (hn : L.length = n) (o : Nat) : w.frozen? ⟨g, o, none⟩ = false := by
  subst hn
  exact World.ownsRow.frozenAt h o
theorem El.Owns.cellsAt {n cap : Nat} (h : e.Owns B w (.slice (some ⟨g, 0, none⟩) n cap) L) (hn : L.length = n) (j : Nat) (x : α) (hx : L[j]? = some x) (i : Nat) (hi : i < e.c) : w.cell? ⟨g, j * e.c + i, none⟩ = (e.enc x)[i]? := by
  obtain ⟨hj, rfl⟩ := List.getElem?_eq_some_iff.1 hx
  exact h.cellAt hn j hj i hi
/-- one cell of element j is stored into: y is what it becomes -/
theorem El.Owns.setAt {n cap : Nat} (h : e.Owns B w (.slice (some ⟨g, 0, none⟩) n cap) L) (hn : L.length = n) (j : Nat) (x : α) (hx : L[j]? = some x) (i : Nat) (hi : i < e.c) (u : Value) (y : α) (hy : e.enc y = (e.enc x).set i u) : e.Owns B (w.setCell ⟨g, j * e.c + i, none⟩ u) (.slice (some ⟨g, 0, none⟩) n cap) (L.set j y) := by
  obtain ⟨hj, rfl⟩ := List.getElem?_eq_some_iff.1 hx
  subst hn
  have := (World.ownsRow.stored h (j * e.c + i) u).1
  rw [e.vals_set L j i hj u y hi hy] at this
  unfold El.Owns
  rw [List.length_set]
  exact this
/-- the cells of its first n elements are a row's, too -/
theorem El.Owns.sub (h : e.Owns B w v L) : ∃ a cap, v = .slice a L.length cap ∧ e.Rd w w.heap.size a L := by
  obtain ⟨a, cap, h1, h2, _⟩ := h.form
  exact ⟨a, cap, h1, h2⟩
/-- a slice from p on, of n elements, reads as what stands there -/
theorem El.Rd.slice {b off : Nat} (h : e.Rd w B (some ⟨b, off, none⟩) L) (p n : Nat) (hp : p + n ≤ L.length) : e.Rd w B (some ⟨b, off + p * e.c, none⟩) ((L.drop p).take n) := fun h0 => by
  have hl : ((L.drop p).take n).length = n := by rw [List.length_take, List.length_drop]; omega
  obtain ⟨b', off', ha, hlt, hc⟩ := h (by omega)
  simp only [Option.some.injEq, Addr.mk.injEq, and_true] at ha
  obtain ⟨rfl, rfl⟩ := ha
  refine ⟨b, off + p * e.c, rfl, hlt, fun j hj i hi => ?_⟩
  have := hc (p + j) (by omega) i hi
  rw [Nat.add_mul] at this
  rw [show off + p * e.c + j * e.c + i = off + (p * e.c + j * e.c) + i by omega, this]
  simp
end

/-- a row of which the first j elements are written -/
def fillG {α : Type} (z : α) (L : List α) (j : Nat) : List α := L.take j ++ List.replicate (L.length - j) z
theorem length_fillG {α : Type} (z : α) (L : List α) (j : Nat) (h : j ≤ L.length) : (fillG z L j).length = L.length := by simp [fillG]; omega
theorem fillG_zero {α : Type} (z : α) (L : List α) : fillG z L 0 = List.replicate L.length z := by simp [fillG]
theorem fillG_all {α : Type} (z : α) (L : List α) : fillG z L L.length = L := by simp [fillG]
theorem fillG_set {α : Type} (z : α) (L : List α) (j : Nat) (h : j < L.length) : (fillG z L j).set j L[j] = fillG z L (j + 1) := by
  apply List.ext_getElem?
  intro i
  by_cases hi : i < L.length
  · rw [List.getElem?_set]
    by_cases hij : j = i
    · subst hij
      rw [if_pos rfl, if_pos (by rw [length_fillG z L j (by omega)]; exact h)]
      simp [fillG, List.getElem?_append, show j < min (j + 1) L.length by omega]
    · rw [if_neg hij]
      simp only [fillG, List.getElem?_append, List.length_take]
      by_cases h2 : i < j
      · rw [if_pos (by omega), if_pos (by omega)]; simp [h2, show i < j + 1 by omega]
      · rw [if_neg (by omega), if_neg (by omega)]
        rw [List.getElem?_replicate, List.getElem?_replicate, if_pos (by omega), if_pos (by omega)]
  · rw [List.getElem?_eq_none (by rw [List.length_set, length_fillG z L j (by omega)]; omega), List.getElem?_eq_none (by rw [length_fillG z L (j + 1) (by omega)]; omega)]
theorem fillG_put {α : Type} (z : α) (L : List α) (j : Nat) (x : α) (h : L[j]? = some x) : (fillG z L j).set j x = fillG z L (j + 1) := by
  obtain ⟨hj, rfl⟩ := List.getElem?_eq_some_iff.1 h
  exact fillG_set z L j hj
theorem set_at {α : Type} {L : List α} {j : Nat} {x : α} (y : α) (h : L[j]? = some x) : (L.set j y)[j]? = some y := by
  obtain ⟨hj, _⟩ := List.getElem?_eq_some_iff.1 h
  simp [hj]
theorem markB (m : Nat) (z : Int) (h : z = (m : Int)) : decide (m % 3 = 0) = (z % 3 == 0) := by
  subst h
  by_cases hm : m % 3 = 0
  · rw [decide_eq_true hm]; symm; rw [beq_iff_eq]; omega
  · rw [decide_eq_false hm]; symm; rw [beq_eq_false_iff_ne]; omega
/-- n marked elements, from number k on, c numbers each; the first j of a row marked -/
def marksG {α : Type} (f : Nat → α) (c k n : Nat) : List α := (List.range n).map fun i => f (k + c * i)
theorem length_marksG {α : Type} (f : Nat → α) (c k n : Nat) : (marksG f c k n).length = n := by simp [marksG]
theorem marksG_at {α : Type} (f : Nat → α) (c k n i : Nat) (h : i < n) : (marksG f c k n)[i]? = some (f (k + c * i)) := by simp [marksG, h]
def mixG {α : Type} (f : Nat → α) (c : Nat) (L : List α) (k j : Nat) : List α := marksG f c k j ++ L.drop j
theorem length_mixG {α : Type} (f : Nat → α) (c : Nat) (L : List α) (k j : Nat) (h : j ≤ L.length) : (mixG f c L k j).length = L.length := by simp [mixG, length_marksG]; omega
theorem mixG_zero {α : Type} (f : Nat → α) (c : Nat) (L : List α) (k : Nat) : mixG f c L k 0 = L := by simp [mixG, marksG]
theorem mixG_all {α : Type} (f : Nat → α) (c : Nat) (L : List α) (k : Nat) : mixG f c L k L.length = marksG f c k L.length := by simp [mixG]
theorem mixG_step {α : Type} (f : Nat → α) (c : Nat) (L : List α) (k j : Nat) (h : j < L.length) : (mixG f c L k j).set j (f (k + c * j)) = mixG f c L k (j + 1) := by
  unfold mixG
  rw [List.set_append_right _ _ (by rw [length_marksG]; exact Nat.le_refl _), length_marksG, Nat.sub_self, List.drop_eq_getElem_cons h, List.set_cons_zero]
  simp [marksG, List.range_succ]
/-- append: what is appended is read at a slice (src), which is not the row's own block or is -/
theorem El.append {α : Type} {e : El α} {ops : Array Oper} {rest : List Oper} {o : Oper} {a : Act} {Q : Exit → Act → World → Prop} (hgd : o.guard = none) (s x : Operand) (ST : TypeId)
    (ho : o.op = .call { callee := .builtin .append, args := #[s, x], argTypes := #[ST, ST] }) (hST : Try.prog.underlying ST = some (.slice e.T)) (z : Value) (bytes : Nat)
    (hinf : (Try.prog.info? e.T).map (fun i => (i.zero, i.size, i.bytes)) = some (some z, e.c, bytes)) (hz : z.cells.size = e.c) (hc0 : 0 < e.c) (hby : bytes ≤ 64)
    (B : Nat) (w0 wr : World) (v : Value) (ax : Option Addr) (m cx : Nat) (l cs : List α) (hs : a.eval s = v) (hx : a.eval x = .slice ax m cx) (hm : cs.length = m) (hcx : ax = none → m = 0 ∧ cx = 0)
    (hown : Hid (e.Owns B wr v l)) (hsrc : Hid (e.Rd wr wr.heap.size ax cs)) (hax : ∀ p, ax = some p → ∃ b off, p = ⟨b, off, none⟩) (hbel : Hid (Below B w0 wr)) (hB : B ≤ wr.heap.size) (M : List α) (n : Nat) (hM : l ++ cs = M) (hn : M.length = n) (hlen : n ≤ 1099511627776)
    (h : ∀ a' c' w', Hid (e.Owns B w' (.slice a' n c') M) → Hid (Below B w0 w') → Hid (wr.grownBy w' v.ownBlock) → wr.heap.size ≤ w'.heap.size → wpList Try.prog ops Q rest (a.put o.dst (.slice a' n c')) w') :
    wpList Try.prog ops Q (o :: rest) a wr := by
  obtain ⟨i0, hi, hz0, hz1, hz2⟩ := info_parts hinf
  have hlen' : l.length + cs.length ≤ 1099511627776 := by rw [← List.length_append, hM, hn]; exact hlen
  have fin : ∀ v' w', e.Owns B w' v' (l ++ cs) → Below B w0 w' → wr.grownBy w' v.ownBlock → wr.heap.size ≤ w'.heap.size → wpList Try.prog ops Q rest (a.put o.dst v') w' := fun v' w' h1 h2 h4 h3 => by
    obtain ⟨a', c', rfl, _⟩ := h1.form
    rw [hM, hn] at h1 ⊢
    exact h a' c' w' h1 h2 h4 h3
  subst hm
  cases ax with
  | none =>
    obtain ⟨h0, rfl⟩ := hcx rfl
    obtain rfl : cs = [] := List.eq_nil_of_length_eq_zero h0
    refine wpList_append_own_none hgd s x ST ho B e.T i0 e.c hST hi v l.length (e.vals l) hs hown.out hx (fin v wr (by rw [List.append_nil]; exact hown.out) hbel.out ⟨rfl, rfl, rfl, Nat.le_refl _, fun _ _ _ => rfl⟩ (Nat.le_refl _))
  | some p =>
    obtain ⟨b, off, rfl⟩ := hax p rfl
    refine wpList_plain hgd fun K hK => ?_
    refine wp_append_own _ s x ST ho B e.T i0 z e.c bytes hST hi hz0 hz1 hz2 hz hc0 v l.length (e.vals l) hs hown.out
      ⟨b, off, none⟩ cs.length cx (e.vals cs) hx (e.length_vals cs) ?_ (e.vals_mem cs) (by unfold maxLen; omega) ?_ hB ?_
    · intro j u hj
      have hjl : j < cs.length * e.c := by
        have := (List.getElem?_eq_some_iff.1 hj).1
        rwa [e.length_vals] at this
      have hcl : 0 < cs.length := Nat.pos_of_ne_zero fun h0 => by rw [h0, Nat.zero_mul] at hjl; omega
      obtain ⟨b', off', ha, _, hcell⟩ := hsrc.out hcl
      simp only [Option.some.injEq, Addr.mk.injEq, and_true] at ha
      obtain ⟨rfl, rfl⟩ := ha
      have hd : j / e.c < cs.length := (Nat.div_lt_iff_lt_mul hc0).2 hjl
      have hmod : j % e.c < e.c := Nat.mod_lt _ hc0
      have hjj : j / e.c * e.c + j % e.c = j := by rw [Nat.mul_comm]; exact Nat.div_add_mod j e.c
      have h1 := hcell (j / e.c) hd (j % e.c) hmod
      have h2 := e.vals_at cs (j / e.c) (j % e.c) hd hmod
      rw [hjj] at h2
      rw [addr_add, ← hj, h2, ← h1, show off + j = off + j / e.c * e.c + j % e.c by omega]
    · refine Nat.le_trans (Nat.mul_le_mul hlen' hby) (by decide)
    · intro v' w' h1 h2 _
      refine hK _ _ (fin v' w' ?_ (Below.grown hbel.out h2 hB (fun k hk => (World.ownsRow.lt hown.out k hk).1)) h2 h2.size)
      show World.ownsRow _ _ _ _ _ _ _
      rw [List.length_append, e.vals_append]
      exact h1
/-- make([]T, n): n elements of zero -/
theorem El.run_make {α : Type} (e : El α) (ST : TypeId) (z : α) (zv : Value) (bytes : Nat) (hST : Try.prog.underlying ST = some (.slice e.T))
    (hinf : (Try.prog.info? e.T).map (fun i => (i.zero, i.size, i.bytes)) = some (some zv, e.c, bytes)) (hz : zv.cells = (e.enc z).toArray) (hc0 : 0 < e.c) (hby : bytes ≤ 64) (n : Nat) (hn : n ≤ 1099511627776) (w : World) :
    (Instr.makeSlice ST (.int .i64 (n : Int)) (.int .i64 (n : Int))).run Try.prog w = .ok (.slice (some ⟨w.heap.size, 0, none⟩) n n) (w.alloc (.cells (e.vals (List.replicate n z)).toArray e.T)) := by
  obtain ⟨i, hi, hz0, hz1, hz2⟩ := info_parts hinf
  have hbb : ((i.bytes : Int)) * (n : Int) ≤ 281474976710656 := by
    rw [hz2]
    have : bytes * n ≤ 64 * 1099511627776 := Nat.mul_le_mul hby hn
    omega
  have h := Go.run_make (P := Try.prog) w ST e.T i zv hST hi hz0 .i64 .i64 n n (by omega) (by omega) hbb (by omega)
  rw [h, hz1, hz]
  have key : madeCells (e.enc z).toArray (n * e.c) = (e.vals (List.replicate n z)).toArray := by
    apply Array.ext_getElem?
    intro k
    by_cases hk : k < n * e.c
    · have hd : k / e.c < n := (Nat.div_lt_iff_lt_mul hc0).2 hk
      have hmod : k % e.c < e.c := Nat.mod_lt _ hc0
      have hkk : k / e.c * e.c + k % e.c = k := by rw [Nat.mul_comm]; exact Nat.div_add_mod k e.c
      have h2 := e.vals_at (List.replicate n z) (k / e.c) (k % e.c) (by rw [List.length_replicate]; exact hd) hmod
      rw [hkk, List.getElem_replicate] at h2
      have h3 : (e.vals (List.replicate n z)).toArray[k]? = (e.vals (List.replicate n z))[k]? := by simp
      rw [h3, h2]
      have h4 : k % e.c < (e.enc z).length := by rw [e.len]; exact hmod
      simp [madeCells, hk, e.len, List.getElem?_eq_getElem h4]
    · have h3 : (e.vals (List.replicate n z)).toArray[k]? = none := by
        rw [Array.getElem?_eq_none]
        rw [List.size_toArray, e.length_vals, List.length_replicate]
        omega
      rw [h3]
      simp [madeCells, hk]
  simp only [Int.toNat_natCast]
  rw [key]
end Go.Proofs.Ytphfakdbgohhgaa

/-
  Blocks of memory that hold a struct.
-/
namespace Go.Proofs.Ytphfakdbgohhgaa
open Go.ChangeShapes Go.WideShapes Go.ChangeAt Go.RowKit

def BoxV (T : TypeId) (w : World) (g : Nat) (vs : Array Value) : Prop := w.heap[g]? = some (.cells vs T (0, 0))
theorem BoxV.new (T : TypeId) (w : World) (vs : Array Value) : BoxV T (w.alloc (.cells vs T)) w.heap.size vs := Go.Deep.blk_alloc_new w _
theorem BoxV.lt {T : TypeId} {w : World} {g : Nat} {vs : Array Value} (h : BoxV T w g vs) : g < w.heap.size := (Array.getElem?_eq_some_iff.1 h).1
theorem BoxV.below {T : TypeId} {w w' : World} {g B : Nat} {vs : Array Value} (h : BoxV T w g vs) (hb : Below B w w') (hg : g < B) : BoxV T w' g vs := (hb.block g hg).trans h
theorem BoxV.cell {T : TypeId} {w : World} {g : Nat} {vs : Array Value} (h : BoxV T w g vs) (i : Nat) (v : Value) (hi : vs[i]? = some v) : w.cell? ⟨g, i, none⟩ = some v := by
  unfold BoxV at h
  simp [World.cell?, h, hi]
theorem BoxV.set {T : TypeId} {w : World} {g i : Nat} {vs : Array Value} (h : BoxV T w g vs) (u : Value) : BoxV T (w.setCell ⟨g, i, none⟩ u) g (vs.setIfInBounds i u) := heap_setCell_same w g i _ T u h
theorem BoxV.set_other {T : TypeId} {w : World} {g : Nat} {vs : Array Value} {p : Addr} (h : BoxV T w g vs) (hp : p.block ≠ g) (u : Value) : BoxV T (w.setCell p u) g vs := (heap_setCell_other w p g u (fun e => hp e.symm)).trans h
theorem BoxV.alloc {T : TypeId} {w : World} {g : Nat} {vs : Array Value} (h : BoxV T w g vs) (o : Obj) : BoxV T (w.alloc o) g vs := (Below.heap_alloc w o g h.lt).trans h
theorem BoxV.drew {T : TypeId} {w : World} {g : Nat} {vs : Array Value} (h : BoxV T w g vs) : BoxV T w.drew g vs := h
theorem BoxV.frozen {T : TypeId} {w : World} {g : Nat} {vs : Array Value} (h : BoxV T w g vs) (i : Nat) : w.frozen? ⟨g, i, none⟩ = false := frozen_of_row w g i _ T h
theorem BoxV.three {T : TypeId} {w : World} {g : Nat} {v0 v1 v2 : Value} (h : BoxV T w g #[v0, v1, v2]) : w.cell? ⟨g, 0, none⟩ = some v0 ∧ w.cell? ⟨g, 1, none⟩ = some v1 ∧ w.cell? ⟨g, 2, none⟩ = some v2 :=
  ⟨h.cell 0 v0 rfl, h.cell 1 v1 rfl, h.cell 2 v2 rfl⟩
theorem two_boxV {w w1 : World} {T U : TypeId} {A B : Array Value} (h : Below ((w.alloc (.cells A T)).alloc (.cells B U)).heap.size ((w.alloc (.cells A T)).alloc (.cells B U)) w1) :
    BoxV T w1 w.heap.size A ∧ BoxV U w1 (w.heap.size + 1) B ∧ Below w.heap.size w w1 := by
  have h1 : BoxV T ((w.alloc (.cells A T)).alloc (.cells B U)) w.heap.size A := (BoxV.new T w A).alloc _
  have h2 : BoxV U ((w.alloc (.cells A T)).alloc (.cells B U)) (w.heap.size + 1) B := by
    have := BoxV.new U (w.alloc (.cells A T)) B
    rwa [Go.Deep.nblk_alloc] at this
  refine ⟨h1.below h h1.lt, h2.below h h2.lt, ?_⟩
  have h3 := ((Below.refl w.heap.size w).alloc (Nat.le_refl _) (.cells A T)).alloc (by rw [Go.Deep.nblk_alloc]; omega) (.cells B U)
  exact h3.trans (h.mono h3.size)
end Go.Proofs.Ytphfakdbgohhgaa

/-
  Boxes of two and of four cells: stores into them.
-/
namespace Go.Proofs.Ytphfakdbgohhgaa
open Go.ChangeShapes Go.WideShapes Go.ChangeAt Go.RowKit

section
variable {T : TypeId} {w : World} {g : Nat} {v0 v1 v2 v3 : Value}
theorem BoxV.two' (h : BoxV T w g #[v0, v1]) : w.cell? ⟨g, 0, none⟩ = some v0 ∧ w.cell? ⟨g, 1, none⟩ = some v1 := ⟨h.cell 0 v0 rfl, h.cell 1 v1 rfl⟩
theorem BoxV.two0 (h : BoxV T w g #[v0, v1]) (u : Value) : BoxV T (w.setCell ⟨g, 0, none⟩ u) g #[u, v1] := h.set (i := 0) u
theorem BoxV.two1 (h : BoxV T w g #[v0, v1]) (u : Value) : BoxV T (w.setCell ⟨g, 1, none⟩ u) g #[v0, u] := h.set (i := 1) u
theorem BoxV.four' (h : BoxV T w g #[v0, v1, v2, v3]) : w.cell? ⟨g, 0, none⟩ = some v0 ∧ w.cell? ⟨g, 1, none⟩ = some v1 ∧ w.cell? ⟨g, 2, none⟩ = some v2 ∧ w.cell? ⟨g, 3, none⟩ = some v3 := ⟨h.cell 0 v0 rfl, h.cell 1 v1 rfl, h.cell 2 v2 rfl, h.cell 3 v3 rfl⟩
theorem BoxV.four0 (h : BoxV T w g #[v0, v1, v2, v3]) (u : Value) : BoxV T (w.setCell ⟨g, 0, none⟩ u) g #[u, v1, v2, v3] := h.set (i := 0) u
theorem BoxV.four1 (h : BoxV T w g #[v0, v1, v2, v3]) (u : Value) : BoxV T (w.setCell ⟨g, 1, none⟩ u) g #[v0, u, v2, v3] := h.set (i := 1) u
theorem BoxV.four2 (h : BoxV T w g #[v0, v1, v2, v3]) (u : Value) : BoxV T (w.setCell ⟨g, 2, none⟩ u) g #[v0, v1, u, v3] := h.set (i := 2) u
theorem BoxV.four3 (h : BoxV T w g #[v0, v1, v2, v3]) (u : Value) : BoxV T (w.setCell ⟨g, 3, none⟩ u) g #[v0, v1, v2, u] := h.set (i := 3) u
theorem BoxV.all4 (h : BoxV T w g #[v0, v1, v2, v3]) (u0 u1 u2 u3 : Value) : BoxV T ((((w.setCell ⟨g, 0, none⟩ u0).setCell ⟨g, 1, none⟩ u1).setCell ⟨g, 2, none⟩ u2).setCell ⟨g, 3, none⟩ u3) g #[u0, u1, u2, u3] := (((h.four0 u0).four1 u1).four2 u2).four3 u3
theorem BoxV.froz2 {vs : Array Value} (h : BoxV T w g vs) : w.frozen? ⟨g, 0, none⟩ = false ∧ w.frozen? ⟨g, 1, none⟩ = false := ⟨h.frozen 0, h.frozen 1⟩
theorem BoxV.froz4 {vs : Array Value} (h : BoxV T w g vs) : w.frozen? ⟨g, 0, none⟩ = false ∧ w.frozen? ⟨g, 1, none⟩ = false ∧ w.frozen? ⟨g, 2, none⟩ = false ∧ w.frozen? ⟨g, 3, none⟩ = false := ⟨h.frozen 0, h.frozen 1, h.frozen 2, h.frozen 3⟩
theorem below_four {B : Nat} {w w' : World} (h : Below B w w') {g : Nat} (hg : B ≤ g) (u0 u1 u2 u3 : Value) : Below B w ((((w'.setCell ⟨g, 0, none⟩ u0).setCell ⟨g, 1, none⟩ u1).setCell ⟨g, 2, none⟩ u2).setCell ⟨g, 3, none⟩ u3) := (((h.setCell hg u0).setCell hg u1).setCell hg u2).setCell hg u3
end
end Go.Proofs.Ytphfakdbgohhgaa

/-
  A row in a block of its own reads as its list.
-/
namespace Go.Proofs.Ytphfakdbgohhgaa
open Go.ChangeShapes Go.WideShapes Go.ChangeAt Go.RowKit
theorem El.Holds.rd {α : Type} {e : El α} {w : World} {g : Nat} {L : List α} (h : e.Holds w g L) : e.Rd w w.heap.size (some ⟨g, 0, none⟩) L := fun _ =>
  ⟨g, 0, rfl, h.lt, fun j hj i hi => by rw [Nat.zero_add]; exact h.cell j hj i hi⟩
theorem El.Holds.drew {α : Type} {e : El α} {w : World} {g : Nat} {L : List α} (h : e.Holds w g L) : e.Holds w.drew g L := h
theorem owns_rd {α : Type} {e : El α} {B n cap : Nat} {a : Option Addr} {w : World} {L : List α} (h : e.Owns B w (.slice a n cap) L) : e.Rd w w.heap.size a L := by
  obtain ⟨a', c', q, h, _⟩ := h.form
  simp only [Value.slice.injEq] at q
  rw [q.1]
  exact h
end Go.Proofs.Ytphfakdbgohhgaa
