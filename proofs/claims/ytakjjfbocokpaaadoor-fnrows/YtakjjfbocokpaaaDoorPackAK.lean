/-
  Texts of this proof, put together: DrawO.
-/
import Derived.Test.YtakjjfbocokpaaaDoorPackAF
import Derived.Test.YtakjjfbocokpaaaDoorPackAH
import Derived.Test.YtakjjfbocokpaaaDoorPackAI
import Derived.Test.YtakjjfbocokpaaaDoorPackAJ

/-
  Draws of which only 'some value' is said.
-/
namespace Go.Proofs.YtakjjfbocokpaaaDoor
open Go.ChangeShapes Go.WideShapes Go.ChangeAt Go.RowKit

/-- the cursor stands somewhere -/
def CurS (B g : Nat) (a : Option Addr) (cap : Nat) (bs : List Int) (w : World) : Prop := ∃ c, Cursor B g a cap bs w c
section
variable {B g : Nat} {a : Option Addr} {cap : Nat} {bs : List Int} {w w' : World}
theorem CurS.lt (h : CurS B g a cap bs w) : g < w.heap.size := by obtain ⟨c, h⟩ := h; exact h.lt
theorem CurS.keep (h : CurS B g a cap bs w) (hb : Below (g + 1) w w') : CurS B g a cap bs w' := by obtain ⟨c, h⟩ := h; exact ⟨c, h.keep hb⟩
theorem CurS.le (h : CurS B g a cap bs w) : B ≤ g := by obtain ⟨c, h⟩ := h; exact h.le
theorem Turned.grown {o : Option Nat} {W W' : World} (h : Turned g w W) (k : W.grownBy W' o) (ho : ∀ i, o = some i → w.heap.size ≤ i) : Turned g w W' :=
  ⟨k.os.trans h.os, k.tape.trans h.tape, k.output.trans h.output, Nat.le_trans h.size k.size, fun j hj hne => (k.block j (Nat.lt_of_lt_of_le hj h.size) (fun e => by have := ho j e.symm; omega)).trans (h.block j hj hne)⟩
theorem El.Owns.turned {α : Type} {e : El α} {D : Nat} {v : Value} {L : List α} (h : e.Owns D w v L) (ht : Turned g w w') (hg : g < D) : e.Owns D w' v L := by
  obtain ⟨hl, ⟨rfl, h0⟩ | ⟨k, c, cur, rfl, hk, hh, hr⟩⟩ := h
  · exact ⟨hl, .inl ⟨rfl, h0⟩⟩
  · exact ⟨hl, .inr ⟨k, c, cur, rfl, hk, (ht.block k (Array.getElem?_eq_some_iff.1 hh).1 (fun e => by have := Option.some.inj e; omega)).trans hh, hr⟩⟩
theorem below_some (n : Nat) (h0 : 0 < n) (hn : n ≤ 1099511627776) (h : CurS B g a cap bs w) :
    Calls Tryd.prog 48 #[.pointer (some ⟨g, 0, none⟩), .int .i64 n] w fun e w' => ∃ x : Nat, x < n ∧ e = .returned (.int .i64 x) ∧ CurS B g a cap bs w' ∧ Turned g w w' := by
  obtain ⟨c, h⟩ := h
  refine (l1Below_any (n : Int) (by omega) h).mono ?_
  rintro e w' ⟨rfl, h1, h2⟩
  have := cBelow_bd bs n c (by omega)
  exact ⟨(cBelow bs n c).toNat, by omega, by rw [Int.toNat_of_nonneg this.1], ⟨_, h1⟩, h2⟩
theorem once_some (n : Int) (hn : n ≤ 1099511627776) (h : CurS B g a cap bs w) :
    Calls Tryd.prog 88 #[.pointer (some ⟨g, 0, none⟩), .int .i64 n] w fun e w' => ∃ b, e = .returned (.bool b) ∧ CurS B g a cap bs w' ∧ Turned g w w' := by
  obtain ⟨c, h⟩ := h
  refine (l1Once_any n hn h).mono ?_
  rintro e w' ⟨rfl, h1, h2⟩
  exact ⟨_, rfl, ⟨_, h1⟩, h2⟩
theorem text_some (m : Nat) (hm : m ≤ 1000) (h : CurS B g a cap bs w) :
    Calls Tryd.prog 67 #[.pointer (some ⟨g, 0, none⟩), .int .i64 m] w fun e w' => ∃ l : List UInt8, l.length ≤ m ∧ e = .returned (.string ⟨l.toArray⟩) ∧ CurS B g a cap bs w' ∧ Turned g w w' := by
  obtain ⟨c, h⟩ := h
  refine (l1Text_any (m : Int) (by omega) (by omega) h).mono ?_
  rintro e w' ⟨rfl, h1, h2⟩
  have := cText_len bs m c (by omega)
  exact ⟨_, by omega, rfl, ⟨_, h1⟩, h2⟩
end
end Go.Proofs.YtakjjfbocokpaaaDoor
