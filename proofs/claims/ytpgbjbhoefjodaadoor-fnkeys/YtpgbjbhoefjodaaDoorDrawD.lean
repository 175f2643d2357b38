/-
  A device that is drawn: what goes from draw to draw beside the cursor.
-/
import Derived.Test.YtpgbjbhoefjodaaDoorDrawK
import Derived.Test.YtpgbjbhoefjodaaDoorDrawP
import Derived.Test.YtpgbjbhoefjodaaDoorKeyD
namespace Go.Proofs.YtpgbjbhoefjodaaDoor
open Go.ChangeShapes Go.WideShapes Go.ChangeAt Go.RowKit

theorem BoxB.turned {T : TypeId} {w w' : World} {g b : Nat} {v0 v1 v2 : Value} (h : BoxB T w b v0 v1 v2) (ht : Turned g w w') (hne : b ≠ g) : BoxB T w' b v0 v1 v2 :=
  (ht.block b h.lt (fun e => hne (Option.some.inj e))).trans h
theorem OwnsS.turned {B : Nat} {w w' : World} {g : Nat} {v : Value} {L : List Slot} (h : OwnsS B w v L) (ht : Turned g w w') (hB : g < B) : OwnsS B w' v L :=
  h.keep fun k hk hlt => ht.block k hlt (fun e => by have := Option.some.inj e; omega)

/-- the cursor in block g; the result's box gr; the device's box g3: a master, slots of the call's own, a count -/
structure DS (B g : Nat) (a : Option Addr) (cap : Nat) (bs : List Int) (w : World) (gr g3 : Nat) (m : ByteArray) (v : Value) (L : List Slot) (x : Int) (c : Cu) (W : World) : Prop where
  cur : Cursor B g a cap bs W c
  turned : Turned g w W
  res : BoxB 31 W gr (.string ⟨#[]⟩) (.slice none 0 0) (.int .i64 0)
  dev : BoxB 31 W g3 (.string m) v (.int .i64 x)
  own : OwnsS w.heap.size W v L
  lg : g < w.heap.size
  lr : w.heap.size ≤ gr
  l3 : gr < g3
  ne : ∀ k, v.ownBlock = some k → k ≠ gr ∧ k ≠ g3

section
variable {B g : Nat} {a : Option Addr} {cap : Nat} {bs : List Int} {w : World} {gr g3 : Nat} {m : ByteArray} {v : Value} {L : List Slot} {x : Int} {c c' : Cu} {W W' : World}
theorem DS.turn (h : DS B g a cap bs w gr g3 m v L x c W) (hc : Cursor B g a cap bs W' c') (ht : Turned g W W') : DS B g a cap bs w gr g3 m v L x c' W' := by
  have h1 := h.lg
  have h2 := h.lr
  have h3 := h.l3
  exact ⟨hc, h.turned.trans ht, h.res.turned ht (by omega), h.dev.turned ht (by omega), h.own.turned ht h1, h1, h2, h3, h.ne⟩
theorem DS.below (h : DS B g a cap bs w gr g3 m v L x c W) (hb : Below W.heap.size W W') : DS B g a cap bs w gr g3 m v L x c W' :=
  ⟨h.cur.keep (hb.mono h.cur.lt), h.turned.then_below hb h.turned.size, h.res.below hb h.res.lt, h.dev.below hb h.dev.lt, h.own.below hb (Nat.le_refl _), h.lg, h.lr, h.l3, h.ne⟩
theorem DS.alloc (h : DS B g a cap bs w gr g3 m v L x c W) (o : Obj) : DS B g a cap bs w gr g3 m v L x c (W.alloc o) := h.below ((Below.refl _ _).alloc (Nat.le_refl _) _)
theorem DS.drew (h : DS B g a cap bs w gr g3 m v L x c W) : DS B g a cap bs w gr g3 m v L x c W.drew := ⟨h.cur.drew, h.turned.drew, h.res, h.dev, h.own, h.lg, h.lr, h.l3, h.ne⟩
/-- a store into the device's box -/
theorem DS.set {o : Nat} {u : Value} (h : DS B g a cap bs w gr g3 m v L x c W) {m' : ByteArray} {v' : Value} {L' : List Slot} {x' : Int} (hd : BoxB 31 (W.setCell ⟨g3, o, none⟩ u) g3 (.string m') v' (.int .i64 x')) (ho : OwnsS w.heap.size W v' L') (hne : ∀ k, v'.ownBlock = some k → k ≠ gr ∧ k ≠ g3) :
    DS B g a cap bs w gr g3 m' v' L' x' c (W.setCell ⟨g3, o, none⟩ u) := by
  have h1 := h.lg
  have h2 := h.lr
  have h3 := h.l3
  exact ⟨h.cur.keep ((Below.refl _ _).setCell (show g + 1 ≤ g3 by omega) _), ⟨h.turned.os, h.turned.tape, h.turned.output, by simpa using h.turned.size, fun k hk hn => (heap_setCell_other W ⟨g3, o, none⟩ k u (by show k ≠ g3; omega)).trans (h.turned.block k hk hn)⟩,
    h.res.set_other (show g3 ≠ gr by omega) _, hd, ho.set_ne (fun k e => (hne k e).2) _, h1, h2, h3, hne⟩
end
theorem addV_ok_len {m : ByteArray} {L : List Slot} {x t : Int} {k : ByteArray} (h : (addV m L x t k).ok = true) : (addV m L x t k).L.length ≤ 4 := by
  unfold addV at h ⊢
  split
  · rename_i h1
    rw [if_pos h1] at h
    split
    · rename_i h2
      exact (devOkB_iff.1 h2).2.1.1
    · rename_i h2
      rw [if_neg h2] at h
      cases h
  · exact Nat.zero_le _
end Go.Proofs.YtpgbjbhoefjodaaDoor
