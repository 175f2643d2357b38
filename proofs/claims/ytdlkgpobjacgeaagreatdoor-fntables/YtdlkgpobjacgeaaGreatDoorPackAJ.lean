/-
  Texts of this proof, put together: RowEnt, RowPart, ResE.
-/
import Derived.Test.YtdlkgpobjacgeaaGreatDoorPackAH
import Derived.Test.YtdlkgpobjacgeaaGreatDoorPackAG
import Derived.StillTailTactics

/-
  Rows of impl.Ent (string, int, bool, string) in memory. (Written by mkrow.py.)
-/
namespace Go.Proofs.YtdlkgpobjacgeaaGreatDoor
open Go.ChangeShapes Go.WideShapes Go.ChangeAt Go.RowKit

abbrev EntE := ByteArray × Int × Bool × ByteArray
def elEnt : El EntE where
  T := 30
  c := 4
  enc := fun x => [.string x.1, .int .i64 x.2.1, .bool x.2.2.1, .string x.2.2.2]
  len := fun _ => rfl
  one := fun x v hv => by
    simp only [List.mem_cons, List.not_mem_nil, or_false] at hv
    rcases hv with rfl | rfl | rfl | rfl <;> rfl
def zeroEnt : EntE := (⟨#[]⟩, 0, false, ⟨#[]⟩)
theorem infoEnt : (Tryz.prog.info? 30).map (fun i => (i.zero, i.size, i.bytes)) = some (some (.agg #[.string ⟨#[]⟩, .int .i64 0, .bool false, .string ⟨#[]⟩]), 4, 48) := by kernel_rfl
theorem makeEnt (n : Nat) (hn : n ≤ 1099511627776) (w : World) : (Instr.makeSlice 33 (.int .i64 (n : Int)) (.int .i64 (n : Int))).run Tryz.prog w = .ok (.slice (some ⟨w.heap.size, 0, none⟩) n n) (w.alloc (.cells (elEnt.vals (List.replicate n zeroEnt)).toArray 30)) :=
  elEnt.run_make 33 zeroEnt (.agg #[.string ⟨#[]⟩, .int .i64 0, .bool false, .string ⟨#[]⟩]) 48 Tryz.underlying33 infoEnt rfl (by decide) (by decide) n hn w
/-- the cells of element j, as the walk spells them -/
theorem cellsEnt {w : World} {b o j : Nat} {L : List EntE} {hj : j < L.length} {f0 f1 f2 f3} (hx : L[j] = (f0, f1, f2, f3)) (h : ∀ i, i < 4 → w.cell? ⟨b, o + j * 4 + i, none⟩ = (elEnt.enc L[j])[i]?) :
    w.cell? ⟨b, o + j * 4, none⟩ = some (.string f0) ∧ w.cell? ⟨b, o + j * 4 + 1, none⟩ = some (.int .i64 f1) ∧ w.cell? ⟨b, o + j * 4 + 2, none⟩ = some (.bool f2) ∧ w.cell? ⟨b, o + j * 4 + 3, none⟩ = some (.string f3) := by
  rw [hx] at h
  exact ⟨h 0 (by omega), h 1 (by omega), h 2 (by omega), h 3 (by omega)⟩
theorem cells0Ent {w : World} {b j : Nat} {L : List EntE} {hj : j < L.length} {f0 f1 f2 f3} (hx : L[j] = (f0, f1, f2, f3)) (h : ∀ i, i < 4 → w.cell? ⟨b, j * 4 + i, none⟩ = (elEnt.enc L[j])[i]?) :
    w.cell? ⟨b, j * 4, none⟩ = some (.string f0) ∧ w.cell? ⟨b, j * 4 + 1, none⟩ = some (.int .i64 f1) ∧ w.cell? ⟨b, j * 4 + 2, none⟩ = some (.bool f2) ∧ w.cell? ⟨b, j * 4 + 3, none⟩ = some (.string f3) := by
  rw [hx] at h
  exact ⟨h 0 (by omega), h 1 (by omega), h 2 (by omega), h 3 (by omega)⟩
theorem cellsXEnt {w : World} {b o : Nat} {f0 f1 f2 f3} (h : ∀ i, i < 4 → w.cell? ⟨b, o + i, none⟩ = (elEnt.enc (f0, f1, f2, f3))[i]?) :
    w.cell? ⟨b, o, none⟩ = some (.string f0) ∧ w.cell? ⟨b, o + 1, none⟩ = some (.int .i64 f1) ∧ w.cell? ⟨b, o + 2, none⟩ = some (.bool f2) ∧ w.cell? ⟨b, o + 3, none⟩ = some (.string f3) := ⟨h 0 (by omega), h 1 (by omega), h 2 (by omega), h 3 (by omega)⟩
theorem partsEnt (x : EntE) : ∃ f0 f1 f2 f3, x = (f0, f1, f2, f3) := ⟨_, _, _, _, rfl⟩
/-- all strings of an element within 2^20 -/
def fitEnt (x : EntE) : Prop := x.1.size ≤ 1048576 ∧ x.2.2.2.size ≤ 1048576
end Go.Proofs.YtdlkgpobjacgeaaGreatDoor

/-
  Rows of impl.Part (string, string) in memory. (Written by mkrow.py.)
-/
namespace Go.Proofs.YtdlkgpobjacgeaaGreatDoor
open Go.ChangeShapes Go.WideShapes Go.ChangeAt Go.RowKit

abbrev PartE := ByteArray × ByteArray
def elPart : El PartE where
  T := 59
  c := 2
  enc := fun x => [.string x.1, .string x.2]
  len := fun _ => rfl
  one := fun x v hv => by
    simp only [List.mem_cons, List.not_mem_nil, or_false] at hv
    rcases hv with rfl | rfl <;> rfl
def zeroPart : PartE := (⟨#[]⟩, ⟨#[]⟩)
theorem infoPart : (Tryz.prog.info? 59).map (fun i => (i.zero, i.size, i.bytes)) = some (some (.agg #[.string ⟨#[]⟩, .string ⟨#[]⟩]), 2, 32) := by kernel_rfl
theorem makePart (n : Nat) (hn : n ≤ 1099511627776) (w : World) : (Instr.makeSlice 24 (.int .i64 (n : Int)) (.int .i64 (n : Int))).run Tryz.prog w = .ok (.slice (some ⟨w.heap.size, 0, none⟩) n n) (w.alloc (.cells (elPart.vals (List.replicate n zeroPart)).toArray 59)) :=
  elPart.run_make 24 zeroPart (.agg #[.string ⟨#[]⟩, .string ⟨#[]⟩]) 32 Tryz.underlying24 infoPart rfl (by decide) (by decide) n hn w
/-- the cells of element j, as the walk spells them -/
theorem cellsPart {w : World} {b o j : Nat} {L : List PartE} {hj : j < L.length} {f0 f1} (hx : L[j] = (f0, f1)) (h : ∀ i, i < 2 → w.cell? ⟨b, o + j * 2 + i, none⟩ = (elPart.enc L[j])[i]?) :
    w.cell? ⟨b, o + j * 2, none⟩ = some (.string f0) ∧ w.cell? ⟨b, o + j * 2 + 1, none⟩ = some (.string f1) := by
  rw [hx] at h
  exact ⟨h 0 (by omega), h 1 (by omega)⟩
theorem cells0Part {w : World} {b j : Nat} {L : List PartE} {hj : j < L.length} {f0 f1} (hx : L[j] = (f0, f1)) (h : ∀ i, i < 2 → w.cell? ⟨b, j * 2 + i, none⟩ = (elPart.enc L[j])[i]?) :
    w.cell? ⟨b, j * 2, none⟩ = some (.string f0) ∧ w.cell? ⟨b, j * 2 + 1, none⟩ = some (.string f1) := by
  rw [hx] at h
  exact ⟨h 0 (by omega), h 1 (by omega)⟩
theorem cellsXPart {w : World} {b o : Nat} {f0 f1} (h : ∀ i, i < 2 → w.cell? ⟨b, o + i, none⟩ = (elPart.enc (f0, f1))[i]?) :
    w.cell? ⟨b, o, none⟩ = some (.string f0) ∧ w.cell? ⟨b, o + 1, none⟩ = some (.string f1) := ⟨h 0 (by omega), h 1 (by omega)⟩
theorem partsPart (x : PartE) : ∃ f0 f1, x = (f0, f1) := ⟨_, _, rfl⟩
/-- all strings of an element within 2^20 -/
def fitPart (x : PartE) : Prop := x.1.size ≤ 1048576 ∧ x.2.size ≤ 1048576
end Go.Proofs.YtdlkgpobjacgeaaGreatDoor

/-
  A result that is an entry in a block of its own, and something beside it.
-/
namespace Go.Proofs.YtdlkgpobjacgeaaGreatDoor
open Go.ChangeShapes Go.WideShapes Go.ChangeAt Go.RowKit

/-- a result that is an entry in a block of its own, and a bool -/
theorem res_ent' {fn : Func} {p u : Tmp} (h : fn.results = #[.cell p 30, .tmp u]) (tmps : Array Value) (w : World) (g : Nat) (ht : tmps.getD p undef = .pointer (some ⟨g, 0, none⟩)) {v0 v1 v2 v3 : Value} (hx : BoxV 30 w g #[v0, v1, v2, v3]) :
    (results fn tmps).run Tryz.prog w = .ok (.tuple #[.agg #[v0, v1, v2, v3], tmps.getD u undef]) w := by
  obtain ⟨c0, c1, c2, c3⟩ := hx.four'
  rw [Array.getD_eq_getD_getElem?] at ht
  simp only [results, h]
  simp [ht, go_sem, c0, c1, c2, c3]
end Go.Proofs.YtdlkgpobjacgeaaGreatDoor
