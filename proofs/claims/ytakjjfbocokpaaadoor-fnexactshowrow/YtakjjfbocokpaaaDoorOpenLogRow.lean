/-
  A slice of laws.LogRow that came in: it reads as a list. (Written by mkrow.py.)
-/
import Derived.Test.YtakjjfbocokpaaaDoorRowO
import Derived.Test.YtakjjfbocokpaaaDoorRowLogRow
namespace Go.Proofs.YtakjjfbocokpaaaDoor
open Go.ChangeShapes Go.WideShapes Go.ChangeAt Go.RowKit Go.Joins

def cameLogRow (x : LogRowE) : Prop := (Lit.int .i64 x.1).wf = true ∧ (Lit.int .i64 x.2.1).wf = true ∧ (Lit.int .i64 x.2.2.1).wf = true ∧ x.2.2.2.1.size ≤ maxLen
theorem cameLogRow_sz {L : List LogRowE} (h : ∀ z ∈ L, cameLogRow z) : ∀ x ∈ L, x.2.2.2.1.size ≤ maxLen := fun x hx => (h x hx).2.2.2
set_option maxRecDepth 40000 in
theorem stepLogRow {H : Type} {enc : TypeId × Value → H} {W : World} (m : Nat) (cs : List Value) (y : DataW H × List MemPlace) (h : DataW.trod enc Tryd.prog W 0 (fun _ => true) true m 53 cs = some y) : ∃ z : LogRowE, cs = elLogRow.enc z ∧ cameLogRow z := by
  obtain ⟨xs, k, _, _, hlen, hxl, hf⟩ := DataW.trod_struct Tryd.underlying53 h
  have hl : cs.length = 5 := hlen.trans (by kernel_rfl)
  have hcB : Tryd.prog.cellsOf 4 = 1 := by kernel_rfl
  have hcI : Tryd.prog.cellsOf 3 = 1 := by kernel_rfl
  have hcS : Tryd.prog.cellsOf 9 = 1 := by kernel_rfl
  match cs, hl, xs, hxl with
  | [v0, v1, v2, v3, v4], _, [y0, y1, y2, y3, y4], _ =>
    have g0 := hf 0 _ rfl
    have g1 := hf 1 _ rfl
    have g2 := hf 2 _ rfl
    have g3 := hf 3 _ rfl
    have g4 := hf 4 _ rfl
    simp [hcI] at g0
    simp [hcI] at g1
    simp [hcI] at g2
    simp [hcS] at g3
    simp [hcB] at g4
    obtain ⟨s0, e0, _, h0⟩ := DataW.trod_int Tryd.underlying3 g0
    simp only [List.cons.injEq, and_true] at e0
    obtain ⟨s1, e1, _, h1⟩ := DataW.trod_int Tryd.underlying3 g1
    simp only [List.cons.injEq, and_true] at e1
    obtain ⟨s2, e2, _, h2⟩ := DataW.trod_int Tryd.underlying3 g2
    simp only [List.cons.injEq, and_true] at e2
    obtain ⟨s3, e3, _, h3⟩ := DataW.trod_string Tryd.underlying9 g3
    simp only [List.cons.injEq, and_true] at e3
    obtain ⟨s4, e4, _⟩ := DataW.trod_bool Tryd.underlying4 g4
    simp only [List.cons.injEq, and_true] at e4
    subst e0 e1 e2 e3 e4
    exact ⟨(s0, s1, s2, s3, s4), rfl, ⟨h0, h1, h2, h3⟩⟩
set_option maxRecDepth 40000 in
theorem openLogRow {H : Type} {enc : TypeId × Value → H} {W : World} {base : Nat} {v : Value} {d : DataW H} {p : List MemPlace}
    (hv : Value.okWide Tryd.prog W .any base 53 v) (h : DataW.Trod enc Tryd.prog W 0 (fun _ => true) true 53 v d p) :
    ∃ (s0 : Int) (s1 : Int) (s2 : Int) (s3 : ByteArray) (s4 : Bool), v = .agg #[.int .i64 s0, .int .i64 s1, .int .i64 s2, .string s3, .bool s4] ∧ (Lit.int .i64 s0).wf = true ∧ (Lit.int .i64 s1).wf = true ∧ (Lit.int .i64 s2).wf = true ∧ s3.size ≤ maxLen := by
  obtain ⟨cs, rfl, _⟩ := okWide_struct Tryd.underlying53 hv
  obtain ⟨fuel, hf⟩ := h
  obtain ⟨⟨s0, s1, s2, s3, s4⟩, hc, hz⟩ := stepLogRow _ _ _ hf
  obtain ⟨l⟩ := cs
  have hl : l = [.int .i64 s0, .int .i64 s1, .int .i64 s2, .string s3, .bool s4] := by simpa [Value.cells, elLogRow] using hc
  subst hl
  exact ⟨s0, s1, s2, s3, s4, rfl, hz⟩
end Go.Proofs.YtakjjfbocokpaaaDoor
