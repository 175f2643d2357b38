/-
  A slice of laws.Ent that came in: it reads as a list. (Written by mkrow.py.)
-/
import Derived.Test.YtphfakdbgohhgaaRowO
import Derived.Test.YtphfakdbgohhgaaRowEnt
namespace Go.Proofs.Ytphfakdbgohhgaa
open Go.ChangeShapes Go.WideShapes Go.ChangeAt Go.RowKit Go.Joins

def cameEnt (x : EntE) : Prop := x.1.size ≤ maxLen ∧ (Lit.int .i64 x.2.1).wf = true ∧ x.2.2.2.size ≤ maxLen
theorem cameEnt_sz {L : List EntE} (h : ∀ z ∈ L, cameEnt z) : ∀ x ∈ L, x.1.size ≤ maxLen ∧ x.2.2.2.size ≤ maxLen := fun x hx => ⟨(h x hx).1, (h x hx).2.2⟩
set_option maxRecDepth 40000 in
theorem stepEnt {H : Type} {enc : TypeId × Value → H} {W : World} (m : Nat) (cs : List Value) (y : DataW H × List MemPlace) (h : DataW.trod enc Try.prog W 0 (fun _ => true) true m 93 cs = some y) : ∃ z : EntE, cs = elEnt.enc z ∧ cameEnt z := by
  obtain ⟨xs, k, _, _, hlen, hxl, hf⟩ := DataW.trod_struct Try.underlying93 h
  have hl : cs.length = 4 := hlen.trans (by kernel_rfl)
  have hcB : Try.prog.cellsOf 4 = 1 := by kernel_rfl
  have hcI : Try.prog.cellsOf 3 = 1 := by kernel_rfl
  have hcS : Try.prog.cellsOf 9 = 1 := by kernel_rfl
  match cs, hl, xs, hxl with
  | [v0, v1, v2, v3], _, [y0, y1, y2, y3], _ =>
    have g0 := hf 0 _ rfl
    have g1 := hf 1 _ rfl
    have g2 := hf 2 _ rfl
    have g3 := hf 3 _ rfl
    simp [hcS] at g0
    simp [hcI] at g1
    simp [hcB] at g2
    simp [hcS] at g3
    obtain ⟨s0, e0, _, h0⟩ := DataW.trod_string Try.underlying9 g0
    simp only [List.cons.injEq, and_true] at e0
    obtain ⟨s1, e1, _, h1⟩ := DataW.trod_int Try.underlying3 g1
    simp only [List.cons.injEq, and_true] at e1
    obtain ⟨s2, e2, _⟩ := DataW.trod_bool Try.underlying4 g2
    simp only [List.cons.injEq, and_true] at e2
    obtain ⟨s3, e3, _, h3⟩ := DataW.trod_string Try.underlying9 g3
    simp only [List.cons.injEq, and_true] at e3
    subst e0 e1 e2 e3
    exact ⟨(s0, s1, s2, s3), rfl, ⟨h0, h1, h3⟩⟩
set_option maxRecDepth 40000 in
theorem openEntS {H : Type} {enc : TypeId × Value → H} {W : World} {base : Nat} {v : Value} {d : DataW H} {p : List MemPlace}
    (hv : Value.okWide Try.prog W .any base 44 v) (h : DataW.Trod enc Try.prog W 0 (fun _ => true) true 44 v d p) :
    ∃ (a : Option Addr) (cap : Nat) (L : List EntE), v = .slice a L.length cap ∧ elEnt.Rd W W.heap.size a L ∧ L.length ≤ maxLen ∧ (∀ z ∈ L, cameEnt z) := by
  obtain ⟨a0, len0, cap0, rfl⟩ := okWide_slice Try.underlying44 hv
  obtain ⟨fuel, hf⟩ := h
  obtain ⟨a, cap, L, hcs, h1, h2, h3, _⟩ := elEnt.open cameEnt Try.underlying44 (by kernel_rfl) (by decide) stepEnt hf
  simp [Value.cells] at hcs
  obtain ⟨rfl, rfl, rfl⟩ := hcs
  exact ⟨_, _, L, rfl, h1, h2, h3⟩
set_option maxRecDepth 40000 in
theorem openEnt {H : Type} {enc : TypeId × Value → H} {W : World} {base : Nat} {v : Value} {d : DataW H} {p : List MemPlace}
    (hv : Value.okWide Try.prog W .any base 93 v) (h : DataW.Trod enc Try.prog W 0 (fun _ => true) true 93 v d p) :
    ∃ (s0 : ByteArray) (s1 : Int) (s2 : Bool) (s3 : ByteArray), v = .agg #[.string s0, .int .i64 s1, .bool s2, .string s3] ∧ s0.size ≤ maxLen ∧ (Lit.int .i64 s1).wf = true ∧ s3.size ≤ maxLen := by
  obtain ⟨cs, rfl, _⟩ := okWide_struct Try.underlying93 hv
  obtain ⟨fuel, hf⟩ := h
  obtain ⟨⟨s0, s1, s2, s3⟩, hc, hz⟩ := stepEnt _ _ _ hf
  obtain ⟨l⟩ := cs
  have hl : l = [.string s0, .int .i64 s1, .bool s2, .string s3] := by simpa [Value.cells, elEnt] using hc
  subst hl
  exact ⟨s0, s1, s2, s3, rfl, hz⟩
end Go.Proofs.Ytphfakdbgohhgaa
