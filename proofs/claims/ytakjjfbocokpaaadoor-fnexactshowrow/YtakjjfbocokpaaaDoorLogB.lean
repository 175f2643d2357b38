/-
  What both ShowRows share: a row's box of five cells, the sums of its strings.
-/
import Derived.Test.YtakjjfbocokpaaaDoorLogV
import Derived.Test.YtakjjfbocokpaaaDoorShowP
import Derived.Test.YtakjjfbocokpaaaDoorRowG
import Derived.Deep.RegionHeld3
namespace Go.Proofs.YtakjjfbocokpaaaDoor
open Go.ChangeShapes Go.WideShapes Go.ChangeAt Go.RowKit

def rowV (t b n : Int) (x : ByteArray) (y : Bool) : Value := .agg #[.int .i64 t, .int .i64 b, .int .i64 n, .string x, .bool y]
theorem box5_cells {w w' : World} {v0 v1 v2 v3 v4 : Value} {T : TypeId} (h : Below (w.heap.size + 1) (w.alloc (.cells #[v0, v1, v2, v3, v4] T)) w') :
    w'.cell? ⟨w.heap.size, 0, none⟩ = some v0 ∧ w'.cell? ⟨w.heap.size, 1, none⟩ = some v1 ∧ w'.cell? ⟨w.heap.size, 2, none⟩ = some v2 ∧ w'.cell? ⟨w.heap.size, 3, none⟩ = some v3 ∧ w'.cell? ⟨w.heap.size, 4, none⟩ = some v4 :=
  ⟨(h.cell (p := ⟨w.heap.size, 0, none⟩) (by simp)).trans (by simp), (h.cell (p := ⟨w.heap.size, 1, none⟩) (by simp)).trans (by simp), (h.cell (p := ⟨w.heap.size, 2, none⟩) (by simp)).trans (by simp), (h.cell (p := ⟨w.heap.size, 3, none⟩) (by simp)).trans (by simp), (h.cell (p := ⟨w.heap.size, 4, none⟩) (by simp)).trans (by simp)⟩
theorem ok_bools {t b n : Int} {x : ByteArray} {y : Bool} (h : rowOkL (t, b, n, x, y)) :
    (decide (1 ≤ t) && decide (t ≤ 99)) = true ∧ (decide (0 ≤ b) && decide (b ≤ 1000)) = true ∧ (decide (0 ≤ n) && decide (n < 1000000)) = true ∧ decide ((x.size : Int) ≤ 300) = true := by
  obtain ⟨⟨h1, h2⟩, ⟨h3, h4, h5, h6⟩, h7⟩ := h
  have h7' : x.size ≤ 300 := h7
  simp only at h1 h2 h3 h4 h5 h6
  refine ⟨?_, ?_, ?_, ?_⟩
  · simp; omega
  · simp; omega
  · simp; omega
  · simp; omega
theorem ok_of_bools {t b n : Int} {x : ByteArray} {y : Bool} (h1 : (decide (1 ≤ t) && decide (t ≤ 99)) = true) (h2 : (decide (0 ≤ b) && decide (b ≤ 1000)) = true) (h3 : (decide (0 ≤ n) && decide (n < 1000000)) = true) (h4 : decide ((x.size : Int) ≤ 300) = true) : rowOkL (t, b, n, x, y) := by
  simp at h1 h2 h3 h4
  exact ⟨h1, ⟨h2.1, h2.2, h3.1, by show n ≤ 999999; omega⟩, by show x.size ≤ 300; omega⟩
/-- the four strings of a good row, how long they are, and their sums -/
theorem rest_parts {t b n : Int} {x : ByteArray} {y : Bool} (h : rowOkL (t, b, n, x, y)) : (varV t).length ≤ 7 ∧ (varV b).length ≤ 7 ∧ (varV n).length ≤ 7 ∧ (pieceL (bl x)).length ≤ 307 ∧ x.size ≤ 300 := by
  obtain ⟨_, _, h7⟩ := h
  have h7' : x.size ≤ 300 := h7
  have := piece_len (s := x) (by omega)
  exact ⟨varV_len' _, varV_len' _, varV_len' _, by omega, h7'⟩
end Go.Proofs.YtakjjfbocokpaaaDoor
