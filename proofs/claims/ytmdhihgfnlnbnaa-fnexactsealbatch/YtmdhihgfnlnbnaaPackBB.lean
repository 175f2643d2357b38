/-
  Texts of this proof, put together: OpenOp.
-/
import Derived.Test.YtmdhihgfnlnbnaaPackBA
import Derived.Test.YtmdhihgfnlnbnaaPackAF

/-
  A slice of laws.Op that came in: it reads as a list. (Written by mkrow.py.)
-/
namespace Go.Proofs.Ytmdhihgfnlnbnaa
open Go.ChangeShapes Go.WideShapes Go.ChangeAt Go.RowKit Go.Joins

def cameOp (x : OpE) : Prop := x.1.size ≤ maxLen ∧ x.2.2.size ≤ maxLen
theorem cameOp_sz {L : List OpE} (h : ∀ z ∈ L, cameOp z) : ∀ x ∈ L, x.1.size ≤ maxLen ∧ x.2.2.size ≤ maxLen := fun x hx => ⟨(h x hx).1, (h x hx).2⟩
set_option maxRecDepth 40000 in
theorem stepOp {H : Type} {enc : TypeId × Value → H} {W : World} (m : Nat) (cs : List Value) (y : DataW H × List MemPlace) (h : DataW.trod enc Try.prog W 0 (fun _ => true) true m 80 cs = some y) : ∃ z : OpE, cs = elOp.enc z ∧ cameOp z := by
  obtain ⟨xs, k, _, _, hlen, hxl, hf⟩ := DataW.trod_struct Try.underlying80 h
  have hl : cs.length = 3 := hlen.trans (by kernel_rfl)
  have hcB : Try.prog.cellsOf 4 = 1 := by kernel_rfl
  have hcS : Try.prog.cellsOf 9 = 1 := by kernel_rfl
  match cs, hl, xs, hxl with
  | [v0, v1, v2], _, [y0, y1, y2], _ =>
    have g0 := hf 0 _ rfl
    have g1 := hf 1 _ rfl
    have g2 := hf 2 _ rfl
    simp [hcS] at g0
    simp [hcB] at g1
    simp [hcS] at g2
    obtain ⟨s0, e0, _, h0⟩ := DataW.trod_string Try.underlying9 g0
    simp only [List.cons.injEq, and_true] at e0
    obtain ⟨s1, e1, _⟩ := DataW.trod_bool Try.underlying4 g1
    simp only [List.cons.injEq, and_true] at e1
    obtain ⟨s2, e2, _, h2⟩ := DataW.trod_string Try.underlying9 g2
    simp only [List.cons.injEq, and_true] at e2
    subst e0 e1 e2
    exact ⟨(s0, s1, s2), rfl, ⟨h0, h2⟩⟩
set_option maxRecDepth 40000 in
theorem openOpS {H : Type} {enc : TypeId × Value → H} {W : World} {base : Nat} {v : Value} {d : DataW H} {p : List MemPlace}
    (hv : Value.okWide Try.prog W .any base 39 v) (h : DataW.Trod enc Try.prog W 0 (fun _ => true) true 39 v d p) :
    ∃ (a : Option Addr) (cap : Nat) (L : List OpE), v = .slice a L.length cap ∧ elOp.Rd W W.heap.size a L ∧ L.length ≤ maxLen ∧ (∀ z ∈ L, cameOp z) := by
  obtain ⟨a0, len0, cap0, rfl⟩ := okWide_slice Try.underlying39 hv
  obtain ⟨fuel, hf⟩ := h
  obtain ⟨a, cap, L, hcs, h1, h2, h3, _⟩ := elOp.open cameOp Try.underlying39 (by kernel_rfl) (by decide) stepOp hf
  simp [Value.cells] at hcs
  obtain ⟨rfl, rfl, rfl⟩ := hcs
  exact ⟨_, _, L, rfl, h1, h2, h3⟩
end Go.Proofs.Ytmdhihgfnlnbnaa
