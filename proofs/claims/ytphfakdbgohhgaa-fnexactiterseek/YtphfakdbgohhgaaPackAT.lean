/-
  Texts of this proof, put together: IterV.
-/
import Derived.Test.YtphfakdbgohhgaaPackAD
import Derived.Test.YtphfakdbgohhgaaPackAO
import Derived.Test.YtphfakdbgohhgaaPackAS

/-
  What stays while a law of chapter 14 goes on: rows of pairs of strings and boxes.
-/
namespace Go.Proofs.Ytphfakdbgohhgaa
open Go.ChangeShapes Go.WideShapes Go.ChangeAt Go.RowKit

abbrev rK (v : Value) (M : List KVE) : RwE := (elKV.T, elKV.c, v, M.length, elKV.vals M)
abbrev bI (T : TypeId) (g : Nat) (v : Value) (x : ItE) : BxE := (T, g, itBox v x)
abbrev bP (g : Nat) (y : KVE) : BxE := (41, g, #[.string y.1, .string y.2])
section
variable {w wc wc' : World} {bs : List BxE} {rs : List RwE} {x y : RwE} {v : Value} {M N : List KVE}
theorem InvX.k0 (h : InvX w bs (rK v M :: rs) wc) : elKV.Owns 0 wc v M := h.r0
theorem InvX.k1 (h : InvX w bs (x :: rK v M :: rs) wc) : elKV.Owns 0 wc v M := h.r1
theorem InvX.k2 (h : InvX w bs (x :: y :: rK v M :: rs) wc) : elKV.Owns 0 wc v M := h.r2
theorem InvX.callK (h : InvX w bs rs wc) (hb : Below wc.heap.size wc wc') (ho : elKV.Owns wc.heap.size wc' v M) : InvX w bs (rK v M :: rs) wc' := h.call hb ho
theorem InvX.markK0 (h : InvX w bs (rK v M :: rs) wc) (hk : Only v.ownBlock wc wc') (ho : elKV.Owns 0 wc' v N) (hl : N.length = M.length) : InvX w bs (rK v N :: rs) wc' := by
  have h2 : wc'.ownsRow 0 elKV.T elKV.c v M.length (elKV.vals N) := by
    have h3 : wc'.ownsRow 0 elKV.T elKV.c v N.length (elKV.vals N) := ho
    rwa [hl] at h3
  have h4 := h.mark0 hk h2
  rw [← hl] at h4
  exact h4
theorem InvX.markK1 (h : InvX w bs (x :: rK v M :: rs) wc) (hk : Only v.ownBlock wc wc') (ho : elKV.Owns 0 wc' v N) (hl : N.length = M.length) : InvX w bs (x :: rK v N :: rs) wc' := by
  have h2 : wc'.ownsRow 0 elKV.T elKV.c v M.length (elKV.vals N) := by
    have h3 : wc'.ownsRow 0 elKV.T elKV.c v N.length (elKV.vals N) := ho
    rwa [hl] at h3
  have h4 := h.mark1 hk h2
  rw [← hl] at h4
  exact h4
end
theorem newV_len (L : List KV) (f t : ByteArray) : (newV L f t).1.1.length ≤ L.length := by
  unfold newV
  split
  · exact Nat.le_refl _
  · exact Nat.zero_le _
theorem goV_len (x : ItE) (j : Int) : (goV x j).1.1.length = x.1.length := by
  unfold goV
  split <;> rfl
theorem nextV_len (x : ItE) : (nextV x).1.1.length ≤ x.1.length := by
  unfold nextV
  split
  · exact Nat.le_of_eq (goV_len _ _)
  · exact Nat.zero_le _
theorem prevV_len (x : ItE) : (prevV x).1.1.length ≤ x.1.length := by
  unfold prevV
  split
  · exact Nat.le_of_eq (goV_len _ _)
  · exact Nat.zero_le _
theorem seekV_len (x : ItE) (g : ByteArray) : (seekV x g).1.1.length ≤ x.1.length := by
  unfold seekV
  split
  · exact Nat.le_of_eq (goV_len _ _)
  · exact Nat.zero_le _
end Go.Proofs.Ytphfakdbgohhgaa
