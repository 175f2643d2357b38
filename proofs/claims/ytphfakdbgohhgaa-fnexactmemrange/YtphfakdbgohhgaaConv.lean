/-
  Slices of bytes made, and turned into strings, over this program.
-/
import Derived.Test.YtphfakdbgohhgaaSmallI
import Derived.Test.YtphfakdbgohhgaaMath
import Derived.Laws.IdiomStrings
import Derived.OwnWalk
namespace Go.Proofs.Ytphfakdbgohhgaa
open Go.ChangeShapes Go.WideShapes Go.ChangeAt Go.RowKit

theorem info8 : (Try.prog.info? 5).map (fun i => (i.zero, i.size, i.bytes)) = some (some (.int .u8 0), 1, 1) := by kernel_rfl

theorem run_make8 (n : Nat) (hn : n ≤ 1099511627776) (w : World) : (Instr.makeSlice 22 (.int .i64 (n : Int)) (.int .i64 (n : Int))).run Try.prog w = .ok (.slice (some ⟨w.heap.size, 0, none⟩) n n) (w.alloc (.cells (byteVals (List.replicate n 0)).toArray 5)) := by
  obtain ⟨i, hi, hz0, hz1, hz2⟩ := info_parts info8
  have h := run_make (P := Try.prog) w 22 5 i (.int .u8 0) Try.underlying22 hi hz0 .i64 .i64 n n (by omega) (by omega) (by rw [hz2]; omega) (by omega)
  rw [h, hz1]
  simp [Value.cells, made_zero]

theorem run_conv1 (v : Int) (c : UInt8) (hc : v = (c.toNat : Int)) (w : World) : (convert 22 9 (.slice (some ⟨w.heap.size, 0, none⟩) 1 1)).run Try.prog (w.alloc (.cells #[.int .u8 v] 5)) = .ok (.string ⟨#[c]⟩) (w.alloc (.cells #[.int .u8 v] 5)) := by
  subst hc
  exact run_convert_bytes_back (P := Try.prog) _ 22 9 5 ⟨w.heap.size, 0, none⟩ 1 [c] Try.underlying22 Try.underlying5 Try.underlying9 (fun i hi => by rw [addr_add0]; exact (Holds8.new 5 w [c]).cell i hi)

theorem run_convTake (g k cap : Nat) (L l : List UInt8) (w : World) (h : Holds8 5 w g L) (hk : l.length = k) (hp : L.take k = l) : (convert 22 9 (.slice (some ⟨g, 0, none⟩) k cap)).run Try.prog w = .ok (.string ⟨l.toArray⟩) w := by
  subst hk
  refine run_convert_bytes_back (P := Try.prog) w 22 9 5 ⟨g, 0, none⟩ cap l Try.underlying22 Try.underlying5 Try.underlying9 (fun i hi => ?_)
  have hi2 : i < L.length := by
    have := congrArg List.length hp
    simp at this
    omega
  rw [addr_add0, h.cell i hi2]
  have : l[i] = L[i] := (List.getElem_of_eq hp.symm hi).trans List.getElem_take
  rw [this]

def StrPost (w : World) (l : List UInt8) (e : Ending) (w' : World) : Prop := e = .returned (.string ⟨l.toArray⟩) ∧ Below w.heap.size w w'
end Go.Proofs.Ytphfakdbgohhgaa
