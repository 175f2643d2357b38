/-
  A slice of laws.KV that came in: it reads as a list. (Written by mkrow.py.)
-/
import Derived.Test.YtphfakdbgohhgaaRowO
import Derived.Test.YtphfakdbgohhgaaRowKV
namespace Go.Proofs.Ytphfakdbgohhgaa
open Go.ChangeShapes Go.WideShapes Go.ChangeAt Go.RowKit Go.Joins

def cameKV (x : KVE) : Prop := x.1.size ≤ maxLen ∧ x.2.size ≤ maxLen
theorem cameKV_sz {L : List KVE} (h : ∀ z ∈ L, cameKV z) : ∀ x ∈ L, x.1.size ≤ maxLen ∧ x.2.size ≤ maxLen := fun x hx => ⟨(h x hx).1, (h x hx).2⟩
set_option maxRecDepth 40000 in
theorem stepKV {H : Type} {enc : TypeId × Value → H} {W : World} (m : Nat) (cs : List Value) (y : DataW H × List MemPlace) (h : DataW.trod enc Try.prog W 0 (fun _ => true) true m 99 cs = some y) : ∃ z : KVE, cs = elKV.enc z ∧ cameKV z := by
  obtain ⟨xs, k, _, _, hlen, hxl, hf⟩ := DataW.trod_struct Try.underlying99 h
  have hl : cs.length = 2 := hlen.trans (by kernel_rfl)
  have hcS : Try.prog.cellsOf 9 = 1 := by kernel_rfl
  match cs, hl, xs, hxl with
  | [v0, v1], _, [y0, y1], _ =>
    have g0 := hf 0 _ rfl
    have g1 := hf 1 _ rfl
    simp [hcS] at g0
    simp [hcS] at g1
    obtain ⟨s0, e0, _, h0⟩ := DataW.trod_string Try.underlying9 g0
    simp only [List.cons.injEq, and_true] at e0
    obtain ⟨s1, e1, _, h1⟩ := DataW.trod_string Try.underlying9 g1
    simp only [List.cons.injEq, and_true] at e1
    subst e0 e1
    exact ⟨(s0, s1), rfl, ⟨h0, h1⟩⟩
set_option maxRecDepth 40000 in
theorem openKVS {H : Type} {enc : TypeId × Value → H} {W : World} {base : Nat} {v : Value} {d : DataW H} {p : List MemPlace}
    (hv : Value.okWide Try.prog W .any base 50 v) (h : DataW.Trod enc Try.prog W 0 (fun _ => true) true 50 v d p) :
    ∃ (a : Option Addr) (cap : Nat) (L : List KVE), v = .slice a L.length cap ∧ elKV.Rd W W.heap.size a L ∧ L.length ≤ maxLen ∧ (∀ z ∈ L, cameKV z) := by
  obtain ⟨a0, len0, cap0, rfl⟩ := okWide_slice Try.underlying50 hv
  obtain ⟨fuel, hf⟩ := h
  obtain ⟨a, cap, L, hcs, h1, h2, h3, _⟩ := elKV.open cameKV Try.underlying50 (by kernel_rfl) (by decide) stepKV hf
  simp [Value.cells] at hcs
  obtain ⟨rfl, rfl, rfl⟩ := hcs
  exact ⟨_, _, L, rfl, h1, h2, h3⟩
end Go.Proofs.Ytphfakdbgohhgaa
