/-
  Rows of impl.KV (string, string) in memory. (Written by mkrow.py.)
-/
import Derived.Test.YtphfakdbgohhgaaRowG
import Derived.Test.YtphfakdbgohhgaaPosts
import Derived.StillTailTactics
namespace Go.Proofs.Ytphfakdbgohhgaa
open Go.ChangeShapes Go.WideShapes Go.ChangeAt Go.RowKit

abbrev KVE := ByteArray × ByteArray
def elKV : El KVE where
  T := 41
  c := 2
  enc := fun x => [.string x.1, .string x.2]
  len := fun _ => rfl
  one := fun x v hv => by
    simp only [List.mem_cons, List.not_mem_nil, or_false] at hv
    rcases hv with rfl | rfl <;> rfl
def zeroKV : KVE := (⟨#[]⟩, ⟨#[]⟩)
theorem infoKV : (Try.prog.info? 41).map (fun i => (i.zero, i.size, i.bytes)) = some (some (.agg #[.string ⟨#[]⟩, .string ⟨#[]⟩]), 2, 32) := by kernel_rfl
theorem makeKV (n : Nat) (hn : n ≤ 1099511627776) (w : World) : (Instr.makeSlice 37 (.int .i64 (n : Int)) (.int .i64 (n : Int))).run Try.prog w = .ok (.slice (some ⟨w.heap.size, 0, none⟩) n n) (w.alloc (.cells (elKV.vals (List.replicate n zeroKV)).toArray 41)) :=
  elKV.run_make 37 zeroKV (.agg #[.string ⟨#[]⟩, .string ⟨#[]⟩]) 32 Try.underlying37 infoKV rfl (by decide) (by decide) n hn w
/-- the cells of element j, as the walk spells them -/
theorem cellsKV {w : World} {b o j : Nat} {L : List KVE} {hj : j < L.length} {f0 f1} (hx : L[j] = (f0, f1)) (h : ∀ i, i < 2 → w.cell? ⟨b, o + j * 2 + i, none⟩ = (elKV.enc L[j])[i]?) :
    w.cell? ⟨b, o + j * 2, none⟩ = some (.string f0) ∧ w.cell? ⟨b, o + j * 2 + 1, none⟩ = some (.string f1) := by
  rw [hx] at h
  exact ⟨h 0 (by omega), h 1 (by omega)⟩
theorem cells0KV {w : World} {b j : Nat} {L : List KVE} {hj : j < L.length} {f0 f1} (hx : L[j] = (f0, f1)) (h : ∀ i, i < 2 → w.cell? ⟨b, j * 2 + i, none⟩ = (elKV.enc L[j])[i]?) :
    w.cell? ⟨b, j * 2, none⟩ = some (.string f0) ∧ w.cell? ⟨b, j * 2 + 1, none⟩ = some (.string f1) := by
  rw [hx] at h
  exact ⟨h 0 (by omega), h 1 (by omega)⟩
theorem cellsXKV {w : World} {b o : Nat} {f0 f1} (h : ∀ i, i < 2 → w.cell? ⟨b, o + i, none⟩ = (elKV.enc (f0, f1))[i]?) :
    w.cell? ⟨b, o, none⟩ = some (.string f0) ∧ w.cell? ⟨b, o + 1, none⟩ = some (.string f1) := ⟨h 0 (by omega), h 1 (by omega)⟩
theorem partsKV (x : KVE) : ∃ f0 f1, x = (f0, f1) := ⟨_, _, rfl⟩
/-- all strings of an element within 2^20 -/
def fitKV (x : KVE) : Prop := x.1.size ≤ 1048576 ∧ x.2.size ≤ 1048576
end Go.Proofs.Ytphfakdbgohhgaa
