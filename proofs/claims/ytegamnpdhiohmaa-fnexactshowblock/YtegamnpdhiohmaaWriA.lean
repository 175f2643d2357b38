/-
  Writers of texts and of blocks: what lies in their block, and which blocks a write may turn.
-/
import Derived.Test.YtegamnpdhiohmaaCutM
import Derived.Test.YtegamnpdhiohmaaShowP
import Derived.Test.YtegamnpdhiohmaaFixedI
import Derived.Test.YtegamnpdhiohmaaBlkA
import Derived.Test.YtegamnpdhiohmaaBoxW
import Derived.Test.YtegamnpdhiohmaaOwnI
import Derived.Test.YtegamnpdhiohmaaStrRow
import Derived.Lib.AppendStr
namespace Go.Proofs.Ytegamnpdhiohmaa
open Go.ChangeShapes Go.WideShapes Go.ChangeAt Go.RowKit

/-- of what was there, block g and rows of bytes may have turned, and nothing below g -/
structure Bent (g : Nat) (w w' : World) : Prop where
  below : Below g w w'
  keep : ∀ j cs T f, j ≠ g → T ≠ 5 → w.heap[j]? = some (.cells cs T f) → w'.heap[j]? = some (.cells cs T f)
theorem Bent.refl (g : Nat) (w : World) : Bent g w w := ⟨Below.refl _ _, fun _ _ _ _ _ _ h => h⟩
theorem Bent.trans {g : Nat} {a b c : World} (h : Bent g a b) (k : Bent g b c) : Bent g a c := ⟨h.below.trans k.below, fun j cs T f h1 h2 h3 => k.keep j cs T f h1 h2 (h.keep j cs T f h1 h2 h3)⟩
theorem Bent.of_below {g B : Nat} {w w' : World} (h : Below B w w') (hB : w.heap.size ≤ B) (hg : g ≤ B) : Bent g w w' :=
  ⟨h.mono hg, fun j _ _ _ _ _ h3 => (h.block j (Nat.lt_of_lt_of_le (Array.getElem?_eq_some_iff.1 h3).1 hB)).trans h3⟩
theorem Bent.set (g o : Nat) (w : World) (v : Value) : Bent g w (w.setCell ⟨g, o, none⟩ v) :=
  ⟨(Below.refl g w).setCell (p := ⟨g, o, none⟩) (Nat.le_refl g) v, fun j _ _ _ h1 _ h3 => (heap_setCell_other w ⟨g, o, none⟩ j v h1).trans h3⟩
theorem Owns8.lt {B : Nat} {w : World} {v : Value} {l : List UInt8} (h : Owns8 B w v l) : ∀ k, v.ownBlock = some k → B ≤ k ∧ k < w.heap.size := World.ownsRow.lt h
theorem Owns8.type {B : Nat} {w : World} {v : Value} {l : List UInt8} (h : Owns8 B w v l) : ∀ k, v.ownBlock = some k → ∃ cs, w.heap[k]? = some (.cells cs 5 (0, 0)) := by
  intro k hk
  obtain ⟨_, ⟨rfl, _⟩ | ⟨g, cap, cur, rfl, _, hh, _⟩⟩ := h
  · cases hk
  · injection hk with hk
    subst hk
    exact ⟨cur, hh⟩
theorem Bent.grown {g B : Nat} {w w' : World} {v : Value} {l : List UInt8} (ho : Owns8 B w v l) (hB : g + 1 ≤ B) (hg : g < w.heap.size) (h : w.grownBy w' v.ownBlock) : Bent g w w' :=
  ⟨(Below.refl g w).grown h (by omega) (fun k hk => by have := (ho.lt k hk).1; omega), fun j cs T f h1 h2 h3 =>
    (h.block j (Array.getElem?_eq_some_iff.1 h3).1 (fun e => by
      obtain ⟨cs', hc⟩ := ho.type j e.symm
      rw [hc] at h3
      injection h3 with h3
      injection h3 with h4 h5
      exact h2 h5.symm)).trans h3⟩

/-- a block writer in block g: what it has written, the key ahead, where its restarts begin -/
structure WriAt (w : World) (g : Nat) (X k : List UInt8) (P : List Nat) (v u : Value) : Prop where
  box : BoxV 45 w g #[v, .string ⟨k.toArray⟩, u]
  text : Owns8 (g + 1) w v X
  rest : OwnsW (g + 1) w u P
def Wri (w : World) (g : Nat) (X k : List UInt8) (P : List Nat) : Prop := ∃ v u, WriAt w g X k P v u
theorem row_keep {B : Nat} {w w' : World} {e : TypeId} {z : Nat} {v : Value} {n : Nat} {xs : List Value} (h : w.ownsRow B e z v n xs) (hk : ∀ j, v.ownBlock = some j → B ≤ j → j < w.heap.size → w'.heap[j]? = w.heap[j]?) : w'.ownsRow B e z v n xs := by
  obtain ⟨hl, ⟨rfl, h0⟩ | ⟨g, cap, cur, rfl, hg, hh, hr⟩⟩ := h
  · exact ⟨hl, .inl ⟨rfl, h0⟩⟩
  · exact ⟨hl, .inr ⟨g, cap, cur, rfl, hg, (hk g rfl hg (Array.getElem?_eq_some_iff.1 hh).1).trans hh, hr⟩⟩
theorem OwnsW.type {B : Nat} {w : World} {v : Value} {L : List Nat} (h : OwnsW B w v L) : ∀ k, v.ownBlock = some k → B ≤ k ∧ ∃ cs, w.heap[k]? = some (.cells cs 3 (0, 0)) := by
  intro k hk
  obtain ⟨_, ⟨rfl, _⟩ | ⟨g, cap, cur, rfl, hg, hh, _⟩⟩ := h
  · cases hk
  · injection hk with hk
    subst hk
    exact ⟨hg, cur, hh⟩
/-- rows of bytes and rows of ints lie in different blocks -/
theorem apart8 {A B : Nat} {w : World} {v u : Value} {l : List UInt8} {L : List Nat} (h : Owns8 A w v l) (k : OwnsW B w u L) : ∀ j, v.ownBlock = some j → u.ownBlock = some j → False := by
  intro j h1 h2
  obtain ⟨c1, e1⟩ := h.type j h1
  obtain ⟨_, c2, e2⟩ := k.type j h2
  rw [e1] at e2
  injection e2 with e2
  injection e2 with _ e3
  exact absurd e3 (by decide)
section
variable {w w' : World} {g : Nat} {X k : List UInt8} {P : List Nat} {v u : Value}
theorem WriAt.lt (h : WriAt w g X k P v u) : g < w.heap.size := h.box.lt
theorem WriAt.kept {B : Nat} (h : WriAt w g X k P v u) (hb : Below B w w') (hB : w.heap.size ≤ B) : WriAt w' g X k P v u :=
  ⟨h.box.below hb (Nat.lt_of_lt_of_le h.lt hB), row_keep h.text fun j _ _ hj => hb.block j (by omega), row_keep h.rest fun j _ _ hj => hb.block j (by omega)⟩
theorem WriAt.alloc (h : WriAt w g X k P v u) (o : Obj) : WriAt (w.alloc o) g X k P v u := h.kept ((Below.refl w.heap.size w).alloc (Nat.le_refl _) o) (Nat.le_refl _)
theorem WriAt.drew (h : WriAt w g X k P v u) : WriAt w.drew g X k P v u := ⟨h.box, h.text, h.rest⟩
theorem WriAt.set0 (h : WriAt w g X k P v u) {v' : Value} {X' : List UInt8} (h8 : Owns8 (g + 1) w v' X') : WriAt (w.setCell ⟨g, 0, none⟩ v') g X' k P v' u :=
  ⟨h.box.set (i := 0) v', row_keep h8 fun j _ hj _ => heap_setCell_other w ⟨g, 0, none⟩ j v' (by show j ≠ g; omega), row_keep h.rest fun j _ hj _ => heap_setCell_other w ⟨g, 0, none⟩ j v' (by show j ≠ g; omega)⟩
theorem WriAt.set1 (h : WriAt w g X k P v u) (k' : List UInt8) : WriAt (w.setCell ⟨g, 1, none⟩ (.string ⟨k'.toArray⟩)) g X k' P v u :=
  ⟨h.box.set (i := 1) _, row_keep h.text fun j _ hj _ => heap_setCell_other w ⟨g, 1, none⟩ j _ (by show j ≠ g; omega), row_keep h.rest fun j _ hj _ => heap_setCell_other w ⟨g, 1, none⟩ j _ (by show j ≠ g; omega)⟩
theorem WriAt.set2 (h : WriAt w g X k P v u) {u' : Value} {P' : List Nat} (hu : OwnsW (g + 1) w u' P') : WriAt (w.setCell ⟨g, 2, none⟩ u') g X k P' v u' :=
  ⟨h.box.set (i := 2) u', row_keep h.text fun j _ hj _ => heap_setCell_other w ⟨g, 2, none⟩ j u' (by show j ≠ g; omega), row_keep hu fun j _ hj _ => heap_setCell_other w ⟨g, 2, none⟩ j u' (by show j ≠ g; omega)⟩
/-- bytes appended to the text's row: the rest stands -/
theorem WriAt.grown8 (h : WriAt w g X k P v u) (hg : w.grownBy w' v.ownBlock) {v' : Value} {X' : List UInt8} (h8 : Owns8 (g + 1) w' v' X') : BoxV 45 w' g #[v, .string ⟨k.toArray⟩, u] ∧ OwnsW (g + 1) w' u P ∧ WriAt (w'.setCell ⟨g, 0, none⟩ v') g X' k P v' u := by
  have hb : BoxV 45 w' g #[v, .string ⟨k.toArray⟩, u] := (hg.block g h.lt (fun e => by have := (h.text.lt g e.symm).1; omega)).trans h.box
  have hr : OwnsW (g + 1) w' u P := row_keep h.rest fun j hj _ hl => hg.block j hl (fun e => apart8 h.text h.rest j e.symm hj)
  exact ⟨hb, hr, hb.set (i := 0) v', row_keep h8 fun j _ hj _ => heap_setCell_other w' ⟨g, 0, none⟩ j v' (by show j ≠ g; omega), row_keep hr fun j _ hj _ => heap_setCell_other w' ⟨g, 0, none⟩ j v' (by show j ≠ g; omega)⟩
/-- a number appended to the restarts' row: the rest stands -/
theorem WriAt.grownW (h : WriAt w g X k P v u) (hg : w.grownBy w' u.ownBlock) {u' : Value} {P' : List Nat} (hu : OwnsW (g + 1) w' u' P') : BoxV 45 w' g #[v, .string ⟨k.toArray⟩, u] ∧ WriAt (w'.setCell ⟨g, 2, none⟩ u') g X k P' v u' := by
  have hb : BoxV 45 w' g #[v, .string ⟨k.toArray⟩, u] := (hg.block g h.lt (fun e => by have := (h.rest.type g e.symm).1; omega)).trans h.box
  have ht : Owns8 (g + 1) w' v X := row_keep h.text fun j hj _ hl => hg.block j hl (fun e => apart8 h.text h.rest j hj e.symm)
  exact ⟨hb, hb.set (i := 2) u', row_keep ht fun j _ hj _ => heap_setCell_other w' ⟨g, 2, none⟩ j u' (by show j ≠ g; omega), row_keep hu fun j _ hj _ => heap_setCell_other w' ⟨g, 2, none⟩ j u' (by show j ≠ g; omega)⟩
theorem Wri.kept {B : Nat} (h : Wri w g X k P) (hb : Below B w w') (hB : w.heap.size ≤ B) : Wri w' g X k P := by
  obtain ⟨v, u, h⟩ := h
  exact ⟨v, u, h.kept hb hB⟩
theorem Wri.alloc (h : Wri w g X k P) (o : Obj) : Wri (w.alloc o) g X k P := by
  obtain ⟨v, u, h⟩ := h
  exact ⟨v, u, h.alloc o⟩
theorem Wri.lt (h : Wri w g X k P) : g < w.heap.size := by
  obtain ⟨v, u, h⟩ := h
  exact h.lt
end
/-- a new writer -/
theorem Wri.new (w : World) : Wri (w.alloc (.cells #[.slice none 0 0, .string ⟨#[]⟩, .slice none 0 0] 45)) w.heap.size [] [] [] :=
  ⟨.slice none 0 0, .slice none 0 0, BoxV.new _ w _, ⟨by simp [byteVals], .inl ⟨rfl, rfl⟩⟩, ⟨by simp [wordVals], .inl ⟨rfl, rfl⟩⟩⟩

theorem Owns8.form' {B : Nat} {w : World} {v : Value} {l : List UInt8} (h : Owns8 B w v l) : ∃ a c, v = .slice a l.length c := by
  obtain ⟨_, ⟨rfl, h0⟩ | ⟨g, cap, cur, rfl, _⟩⟩ := h
  · exact ⟨none, 0, by rw [h0]⟩
  · exact ⟨_, cap, rfl⟩
theorem OwnsW.form' {B : Nat} {w : World} {v : Value} {l : List Nat} (h : OwnsW B w v l) : ∃ a c, v = .slice a l.length c := by
  obtain ⟨_, ⟨rfl, h0⟩ | ⟨g, cap, cur, rfl, _⟩⟩ := h
  · exact ⟨none, 0, by rw [h0]⟩
  · exact ⟨_, cap, rfl⟩
theorem strCells_byteVals (t : ByteArray) : Go.Lib.strCells t = byteVals (bl t) := rfl
/-- append(b, s...), b a row of bytes of the call's own -/
theorem appendText {ops : Array Oper} {rest : List Oper} {o : Oper} {a : Act} {Q : Exit → Act → World → Prop} {w : World} (hgd : o.guard = none) (s x : Operand)
    (ho : o.op = .call { callee := .builtin .append, args := #[s, x], argTypes := #[22, 9] })
    (B : Nat) (v : Value) (l : List UInt8) (t : ByteArray) (hs : a.eval s = v) (hx : a.eval x = .string t)
    (hown : Hid (Owns8 B w v l)) (hB : B ≤ w.heap.size) (hlen : l.length + t.size ≤ 1099511627776)
    (n : Nat) (hn : (l ++ bl t).length = n)
    (h : ∀ a' c' w', Hid (Owns8 B w' (.slice a' n c') (l ++ bl t)) → Hid (w.grownBy w' v.ownBlock) → wpList Try.prog ops Q rest (a.put o.dst (.slice a' n c')) w') :
    wpList Try.prog ops Q (o :: rest) a w := by
  obtain ⟨i0, hi, hz0, hz1, hz2⟩ := info_parts info8
  refine Go.Lib.wpList_append_own_string w hgd s x _ _ ho B 5 i0 Try.underlying22 Try.underlying9 hi hz0 hz1 hz2 v l.length (byteVals l) hs hown.out t hx (by unfold maxLen; omega) (by omega) hB ?_
  intro v' w' h1 h2 _
  have h3 : Owns8 B w' v' (l ++ bl t) := by
    show World.ownsRow _ _ _ _ _ _ _
    rw [List.length_append, bl_len]
    rwa [strCells_byteVals, show byteVals l ++ byteVals (bl t) = byteVals (l ++ bl t) by simp [byteVals]] at h1
  obtain ⟨a', c', rfl⟩ := h3.form'
  rw [hn] at h3 ⊢
  exact h a' c' w' h3 h2
end Go.Proofs.Ytegamnpdhiohmaa
