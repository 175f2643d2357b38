/-
  Texts of this proof, put together: RowKV, RowOp.
-/
import Derived.Test.YtmdhihgfnlnbnaaPackAC
import Derived.Test.YtmdhihgfnlnbnaaPackAD
import Derived.StillTailTactics

/-
  Rows of impl.KV (string, string) in memory. (Written by mkrow.py.)
-/
namespace Go.Proofs.Ytmdhihgfnlnbnaa
open Go.ChangeShapes Go.WideShapes Go.ChangeAt Go.RowKit

abbrev KVE := ByteArray × ByteArray
def elKV : El KVE where
  T := 56
  c := 2
  enc := fun x => [.string x.1, .string x.2]
  len := fun _ => rfl
  one := fun x v hv => by
    simp only [List.mem_cons, List.not_mem_nil, or_false] at hv
    rcases hv with rfl | rfl <;> rfl
def zeroKV : KVE := (⟨#[]⟩, ⟨#[]⟩)
theorem infoKV : (Try.prog.info? 56).map (fun i => (i.zero, i.size, i.bytes)) = some (some (.agg #[.string ⟨#[]⟩, .string ⟨#[]⟩]), 2, 32) := by kernel_rfl
theorem makeKV (n : Nat) (hn : n ≤ 1099511627776) (w : World) : (Instr.makeSlice 24 (.int .i64 (n : Int)) (.int .i64 (n : Int))).run Try.prog w = .ok (.slice (some ⟨w.heap.size, 0, none⟩) n n) (w.alloc (.cells (elKV.vals (List.replicate n zeroKV)).toArray 56)) :=
  elKV.run_make 24 zeroKV (.agg #[.string ⟨#[]⟩, .string ⟨#[]⟩]) 32 Try.underlying24 infoKV rfl (by decide) (by decide) n hn w
/-- the cells of element j, as the walk spells them -/
theorem cellsKV {w : World} {b o j : Nat} {L : List KVE} {hj : j < L.length} {f0 f1} (hx : L[j] = (f0, f1)) (h : ∀ i, i < 2 → w.cell? ⟨b, o + j * 2 + i, none⟩ = (elKV.enc L[j])[i]?) :
    w.cell? ⟨b, o + j * 2, none⟩ = some (.string f0) ∧ w.cell? ⟨b, o + j * 2 + 1, none⟩ = some (.string f1) := by
  rw [hx] at h
  exact ⟨h 0 (by omega), h 1 (by omega)⟩
theorem cells0KV {w : World} {b j : Nat} {L : List KVE} {hj : j < L.length} {f0 f1} (hx : L[j] = (f0, f1)) (h : ∀ i, i < 2 → w.cell? ⟨b, j * 2 + i, none⟩ = (elKV.enc L[j])[i]?) :
    w.cell? ⟨b, j * 2, none⟩ = some (.string f0) ∧ w.cell? ⟨b, j * 2 + 1, none⟩ = some (.string f1) := by
  rw [hx] at h
  exact ⟨h 0 (by omega), h 1 (by omega)⟩
theorem cellsXKV {w : World} {b o : Nat} {f0 f1} (h : ∀ i, i < 2 → w.cell? ⟨b, o + i, none⟩ = (elKV.enc (f0, f1))[i]?) :
    w.cell? ⟨b, o, none⟩ = some (.string f0) ∧ w.cell? ⟨b, o + 1, none⟩ = some (.string f1) := ⟨h 0 (by omega), h 1 (by omega)⟩
theorem partsKV (x : KVE) : ∃ f0 f1, x = (f0, f1) := ⟨_, _, rfl⟩
/-- all strings of an element within 2^20 -/
def fitKV (x : KVE) : Prop := x.1.size ≤ 1048576 ∧ x.2.size ≤ 1048576
end Go.Proofs.Ytmdhihgfnlnbnaa

/-
  Rows of impl.Op (string, bool, string) in memory. (Written by mkrow.py.)
-/
namespace Go.Proofs.Ytmdhihgfnlnbnaa
open Go.ChangeShapes Go.WideShapes Go.ChangeAt Go.RowKit

abbrev OpE := ByteArray × Bool × ByteArray
def elOp : El OpE where
  T := 62
  c := 3
  enc := fun x => [.string x.1, .bool x.2.1, .string x.2.2]
  len := fun _ => rfl
  one := fun x v hv => by
    simp only [List.mem_cons, List.not_mem_nil, or_false] at hv
    rcases hv with rfl | rfl | rfl <;> rfl
def zeroOp : OpE := (⟨#[]⟩, false, ⟨#[]⟩)
theorem infoOp : (Try.prog.info? 62).map (fun i => (i.zero, i.size, i.bytes)) = some (some (.agg #[.string ⟨#[]⟩, .bool false, .string ⟨#[]⟩]), 3, 40) := by kernel_rfl
theorem makeOp (n : Nat) (hn : n ≤ 1099511627776) (w : World) : (Instr.makeSlice 25 (.int .i64 (n : Int)) (.int .i64 (n : Int))).run Try.prog w = .ok (.slice (some ⟨w.heap.size, 0, none⟩) n n) (w.alloc (.cells (elOp.vals (List.replicate n zeroOp)).toArray 62)) :=
  elOp.run_make 25 zeroOp (.agg #[.string ⟨#[]⟩, .bool false, .string ⟨#[]⟩]) 40 Try.underlying25 infoOp rfl (by decide) (by decide) n hn w
/-- the cells of element j, as the walk spells them -/
theorem cellsOp {w : World} {b o j : Nat} {L : List OpE} {hj : j < L.length} {f0 f1 f2} (hx : L[j] = (f0, f1, f2)) (h : ∀ i, i < 3 → w.cell? ⟨b, o + j * 3 + i, none⟩ = (elOp.enc L[j])[i]?) :
    w.cell? ⟨b, o + j * 3, none⟩ = some (.string f0) ∧ w.cell? ⟨b, o + j * 3 + 1, none⟩ = some (.bool f1) ∧ w.cell? ⟨b, o + j * 3 + 2, none⟩ = some (.string f2) := by
  rw [hx] at h
  exact ⟨h 0 (by omega), h 1 (by omega), h 2 (by omega)⟩
theorem cells0Op {w : World} {b j : Nat} {L : List OpE} {hj : j < L.length} {f0 f1 f2} (hx : L[j] = (f0, f1, f2)) (h : ∀ i, i < 3 → w.cell? ⟨b, j * 3 + i, none⟩ = (elOp.enc L[j])[i]?) :
    w.cell? ⟨b, j * 3, none⟩ = some (.string f0) ∧ w.cell? ⟨b, j * 3 + 1, none⟩ = some (.bool f1) ∧ w.cell? ⟨b, j * 3 + 2, none⟩ = some (.string f2) := by
  rw [hx] at h
  exact ⟨h 0 (by omega), h 1 (by omega), h 2 (by omega)⟩
theorem cellsXOp {w : World} {b o : Nat} {f0 f1 f2} (h : ∀ i, i < 3 → w.cell? ⟨b, o + i, none⟩ = (elOp.enc (f0, f1, f2))[i]?) :
    w.cell? ⟨b, o, none⟩ = some (.string f0) ∧ w.cell? ⟨b, o + 1, none⟩ = some (.bool f1) ∧ w.cell? ⟨b, o + 2, none⟩ = some (.string f2) := ⟨h 0 (by omega), h 1 (by omega), h 2 (by omega)⟩
theorem partsOp (x : OpE) : ∃ f0 f1 f2, x = (f0, f1, f2) := ⟨_, _, _, rfl⟩
/-- all strings of an element within 2^20 -/
def fitOp (x : OpE) : Prop := x.1.size ≤ 1048576 ∧ x.2.2.size ≤ 1048576
end Go.Proofs.Ytmdhihgfnlnbnaa
