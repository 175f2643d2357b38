/-
  What stays as it was through the exact laws of the block device: the boxes of the devices, and what they hold.
-/
import Derived.Test.YtnbaffdonbnocaaStrZ
import Derived.Test.YtnbaffdonbnocaaStrT
import Derived.Test.YtnbaffdonbnocaaStrE
import Derived.Test.YtnbaffdonbnocaaStrM
namespace Go.Proofs.Ytnbaffdonbnocaa
open Go.ChangeShapes Go.WideShapes Go.ChangeAt Go.RowKit

/-- the device that came in (box b0), the model's answer (box g6), the argument (box g8, its sectors in block gx, its cache in block hx), the answer (box g9) -/
structure Inv (w : World) (va vb : Value) (S : List ByteArray) (L : List Slot) (x : Int) (R : DevR) (g6 : Nat) (v6 u6 : Value) (g8 gx hx g9 : Nat) (v9 u9 : Value) (wc : World) : Prop where
  below : Below w.heap.size w wc
  b0 : BoxB 43 wc w.heap.size va vb (.int .i64 x)
  b6 : BoxB 27 wc g6 v6 u6 (.int .i64 R.x)
  t6 : OwnsT 0 wc v6 R.S
  o6 : OwnsS 0 wc u6 R.L
  b8 : BoxB 27 wc g8 (.slice (some ⟨gx, 0, none⟩) S.length S.length) (.slice (some ⟨hx, 0, none⟩) L.length L.length) (.int .i64 x)
  b9 : BoxB 27 wc g9 v9 u9 (.int .i64 R.x)
  l06 : w.heap.size < g6
  l6x : g6 < gx
  lxh : gx < hx
  lh8 : hx < g8
  l89 : g8 < g9
  k6 : ∀ k, v6.ownBlock = some k → w.heap.size < k ∧ k < g6
  m6 : ∀ k, u6.ownBlock = some k → w.heap.size < k ∧ k < g6
  k9 : ∀ k, v9.ownBlock = some k → g8 < k ∧ k < g9
  m9 : ∀ k, u9.ownBlock = some k → g8 < k ∧ k < g9

section
variable {w : World} {va vb : Value} {S : List ByteArray} {L : List Slot} {x : Int} {R : DevR} {g6 : Nat} {v6 u6 : Value} {g8 gx hx g9 : Nat} {v9 u9 : Value} {wc wc' : World}
theorem Inv.keep (h : Inv w va vb S L x R g6 v6 u6 g8 gx hx g9 v9 u9 wc) (hb : Below wc.heap.size wc wc') : Inv w va vb S L x R g6 v6 u6 g8 gx hx g9 v9 u9 wc' :=
  ⟨h.below.trans (hb.mono h.below.size), h.b0.below hb h.b0.lt, h.b6.below hb h.b6.lt, h.t6.below hb (Nat.le_refl _), h.o6.below hb (Nat.le_refl _), h.b8.below hb h.b8.lt, h.b9.below hb h.b9.lt, h.l06, h.l6x, h.lxh, h.lh8, h.l89, h.k6, h.m6, h.k9, h.m9⟩
theorem Inv.turn {o : Option Nat} (h : Inv w va vb S L x R g6 v6 u6 g8 gx hx g9 v9 u9 wc) (hk : Only o wc wc') (ho : ∀ b, o = some b → (g6 < b ∧ b < g8) ∨ (g8 < b ∧ b < g9)) : Inv w va vb S L x R g6 v6 u6 g8 gx hx g9 v9 u9 wc' := by
  have h1 := h.l06
  have h2 := h.l6x
  have h3 := h.lxh
  have h4 := h.lh8
  have h5 := h.l89
  have ne : ∀ g, (∀ b, o = some b → g ≠ b) → some g ≠ o := fun g hg e => hg g e.symm rfl
  refine ⟨h.below.trans (hk.below (fun g e => by have := ho g e; omega) h.below.size), h.b0.only hk (ne _ fun b e => ?_), h.b6.only hk (ne _ fun b e => ?_), h.t6.only hk (fun k e => ne _ fun b e' => ?_), h.o6.only hk (fun k e => ne _ fun b e' => ?_), h.b8.only hk (ne _ fun b e => ?_), h.b9.only hk (ne _ fun b e => ?_), h1, h2, h3, h4, h5, h.k6, h.m6, h.k9, h.m9⟩
  · have := ho b e; omega
  · have := ho b e; omega
  · have := ho b e'; have := h.k6 k e; omega
  · have := ho b e'; have := h.m6 k e; omega
  · have := ho b e; omega
  · have := ho b e; omega
theorem Inv.mark8 (h : Inv w va vb S L x R g6 v6 u6 g8 gx hx g9 v9 u9 wc) {n m c c' : Nat} (hk : ∃ wm, Only (Value.slice (some ⟨gx, 0, none⟩) n c).ownBlock wc wm ∧ Only (Value.slice (some ⟨hx, 0, none⟩) m c').ownBlock wm wc') : Inv w va vb S L x R g6 v6 u6 g8 gx hx g9 v9 u9 wc' := by
  obtain ⟨wm, h1, h2⟩ := hk
  have i2 := h.l6x
  have i3 := h.lxh
  have i4 := h.lh8
  exact (h.turn h1 (fun b e => by obtain rfl : gx = b := Option.some.inj e; omega)).turn h2 (fun b e => by obtain rfl : hx = b := Option.some.inj e; omega)
theorem Inv.mark9 (h : Inv w va vb S L x R g6 v6 u6 g8 gx hx g9 v9 u9 wc) (hk : ∃ wm, Only v9.ownBlock wc wm ∧ Only u9.ownBlock wm wc') : Inv w va vb S L x R g6 v6 u6 g8 gx hx g9 v9 u9 wc' := by
  obtain ⟨wm, h1, h2⟩ := hk
  exact (h.turn h1 (fun b e => .inr (h.k9 b e))).turn h2 (fun b e => .inr (h.m9 b e))
/-- an owned row of the answer is left by the marks of the argument -/
theorem Inv.ownsT (h : Inv w va vb S L x R g6 v6 u6 g8 gx hx g9 v9 u9 wc) {T : List ByteArray} (ho : OwnsT 0 wc v9 T) {n m c c' : Nat} (hk : ∃ wm, Only (Value.slice (some ⟨gx, 0, none⟩) n c).ownBlock wc wm ∧ Only (Value.slice (some ⟨hx, 0, none⟩) m c').ownBlock wm wc') : OwnsT 0 wc' v9 T := by
  obtain ⟨wm, h1, h2⟩ := hk
  have i3 := h.lxh
  have i4 := h.lh8
  have ne : ∀ k, v9.ownBlock = some k → ∀ b, b ≤ hx → some k ≠ some b := fun k e b hb e' => by have := h.k9 k e; have := Option.some.inj e'; omega
  exact (ho.only h1 (fun k e => ne k e gx (by omega))).only h2 (fun k e => ne k e hx (Nat.le_refl _))
theorem Inv.ownsS (h : Inv w va vb S L x R g6 v6 u6 g8 gx hx g9 v9 u9 wc) {T : List Slot} (ho : OwnsS 0 wc u9 T) {n m c c' : Nat} (hk : ∃ wm, Only (Value.slice (some ⟨gx, 0, none⟩) n c).ownBlock wc wm ∧ Only (Value.slice (some ⟨hx, 0, none⟩) m c').ownBlock wm wc') : OwnsS 0 wc' u9 T := by
  obtain ⟨wm, h1, h2⟩ := hk
  have i3 := h.lxh
  have i4 := h.lh8
  have ne : ∀ k, u9.ownBlock = some k → ∀ b, b ≤ hx → some k ≠ some b := fun k e b hb e' => by have := h.m9 k e; have := Option.some.inj e'; omega
  exact (ho.only h1 (fun k e => ne k e gx (by omega))).only h2 (fun k e => ne k e hx (Nat.le_refl _))
end
theorem lt_of_wf (t : Int) (h : (Lit.int .i64 t).wf = true) : t < 9223372036854775808 := by
  have : -9223372036854775808 ≤ t ∧ t ≤ 9223372036854775807 := by simpa [Lit.wf, IntKind.min, IntKind.max, IntKind.signed, IntKind.bits] using h
  omega
theorem length_putV (S : List ByteArray) (L : List Slot) (x t : Int) (k : ByteArray) : (putV S L x t k).S.length ≤ S.length ∧ (putV S L x t k).L.length ≤ L.length + 1 := by
  unfold putV
  split
  · split
    · simp
    · simp
  · simp
end Go.Proofs.Ytnbaffdonbnocaa
