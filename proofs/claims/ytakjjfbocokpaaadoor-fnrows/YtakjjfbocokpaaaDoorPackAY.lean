/-
  Texts of this proof, put together: RowLogRow.
-/
import Derived.Test.YtakjjfbocokpaaaDoorPackAI
import Derived.Test.YtakjjfbocokpaaaDoorPackAJ
import Derived.StillTailTactics

/-
  Rows of impl.LogRow (int, int, int, string, bool) in memory. (Written by mkrow.py.)
-/
namespace Go.Proofs.YtakjjfbocokpaaaDoor
open Go.ChangeShapes Go.WideShapes Go.ChangeAt Go.RowKit

abbrev LogRowE := Int × Int × Int × ByteArray × Bool
def elLogRow : El LogRowE where
  T := 49
  c := 5
  enc := fun x => [.int .i64 x.1, .int .i64 x.2.1, .int .i64 x.2.2.1, .string x.2.2.2.1, .bool x.2.2.2.2]
  len := fun _ => rfl
  one := fun x v hv => by
    simp only [List.mem_cons, List.not_mem_nil, or_false] at hv
    rcases hv with rfl | rfl | rfl | rfl | rfl <;> rfl
def zeroLogRow : LogRowE := (0, 0, 0, ⟨#[]⟩, false)
theorem infoLogRow : (Tryd.prog.info? 49).map (fun i => (i.zero, i.size, i.bytes)) = some (some (.agg #[.int .i64 0, .int .i64 0, .int .i64 0, .string ⟨#[]⟩, .bool false]), 5, 48) := by kernel_rfl
theorem makeLogRow (n : Nat) (hn : n ≤ 1099511627776) (w : World) : (Instr.makeSlice 43 (.int .i64 (n : Int)) (.int .i64 (n : Int))).run Tryd.prog w = .ok (.slice (some ⟨w.heap.size, 0, none⟩) n n) (w.alloc (.cells (elLogRow.vals (List.replicate n zeroLogRow)).toArray 49)) :=
  elLogRow.run_make 43 zeroLogRow (.agg #[.int .i64 0, .int .i64 0, .int .i64 0, .string ⟨#[]⟩, .bool false]) 48 Tryd.underlying43 infoLogRow rfl (by decide) (by decide) n hn w
/-- the cells of element j, as the walk spells them -/
theorem cellsLogRow {w : World} {b o j : Nat} {L : List LogRowE} {hj : j < L.length} {f0 f1 f2 f3 f4} (hx : L[j] = (f0, f1, f2, f3, f4)) (h : ∀ i, i < 5 → w.cell? ⟨b, o + j * 5 + i, none⟩ = (elLogRow.enc L[j])[i]?) :
    w.cell? ⟨b, o + j * 5, none⟩ = some (.int .i64 f0) ∧ w.cell? ⟨b, o + j * 5 + 1, none⟩ = some (.int .i64 f1) ∧ w.cell? ⟨b, o + j * 5 + 2, none⟩ = some (.int .i64 f2) ∧ w.cell? ⟨b, o + j * 5 + 3, none⟩ = some (.string f3) ∧ w.cell? ⟨b, o + j * 5 + 4, none⟩ = some (.bool f4) := by
  rw [hx] at h
  exact ⟨h 0 (by omega), h 1 (by omega), h 2 (by omega), h 3 (by omega), h 4 (by omega)⟩
theorem cells0LogRow {w : World} {b j : Nat} {L : List LogRowE} {hj : j < L.length} {f0 f1 f2 f3 f4} (hx : L[j] = (f0, f1, f2, f3, f4)) (h : ∀ i, i < 5 → w.cell? ⟨b, j * 5 + i, none⟩ = (elLogRow.enc L[j])[i]?) :
    w.cell? ⟨b, j * 5, none⟩ = some (.int .i64 f0) ∧ w.cell? ⟨b, j * 5 + 1, none⟩ = some (.int .i64 f1) ∧ w.cell? ⟨b, j * 5 + 2, none⟩ = some (.int .i64 f2) ∧ w.cell? ⟨b, j * 5 + 3, none⟩ = some (.string f3) ∧ w.cell? ⟨b, j * 5 + 4, none⟩ = some (.bool f4) := by
  rw [hx] at h
  exact ⟨h 0 (by omega), h 1 (by omega), h 2 (by omega), h 3 (by omega), h 4 (by omega)⟩
theorem cellsXLogRow {w : World} {b o : Nat} {f0 f1 f2 f3 f4} (h : ∀ i, i < 5 → w.cell? ⟨b, o + i, none⟩ = (elLogRow.enc (f0, f1, f2, f3, f4))[i]?) :
    w.cell? ⟨b, o, none⟩ = some (.int .i64 f0) ∧ w.cell? ⟨b, o + 1, none⟩ = some (.int .i64 f1) ∧ w.cell? ⟨b, o + 2, none⟩ = some (.int .i64 f2) ∧ w.cell? ⟨b, o + 3, none⟩ = some (.string f3) ∧ w.cell? ⟨b, o + 4, none⟩ = some (.bool f4) := ⟨h 0 (by omega), h 1 (by omega), h 2 (by omega), h 3 (by omega), h 4 (by omega)⟩
theorem partsLogRow (x : LogRowE) : ∃ f0 f1 f2 f3 f4, x = (f0, f1, f2, f3, f4) := ⟨_, _, _, _, _, rfl⟩
/-- all strings of an element within 2^20 -/
def fitLogRow (x : LogRowE) : Prop := x.2.2.2.1.size ≤ 1048576
end Go.Proofs.YtakjjfbocokpaaaDoor
