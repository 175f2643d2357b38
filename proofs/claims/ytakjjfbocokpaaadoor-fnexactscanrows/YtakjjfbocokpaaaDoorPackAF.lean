/-
  Texts of this proof, put together: RowLogRow, EqLogRow.
-/
import Derived.Test.YtakjjfbocokpaaaDoorPackAD
import Derived.Test.YtakjjfbocokpaaaDoorPackAE
import Derived.StillTailTactics

/-
  Rows of impl.LogRow (int, int, int, string, bool) in memory. (Written by mkrow.py.)
-/
namespace Go.Proofs.YtakjjfbocokpaaaDoor
open Go.ChangeShapes Go.WideShapes Go.ChangeAt Go.RowKit

abbrev LogRowE := Int × Int × Int × ByteArray × Bool
def elLogRow : El LogRowE where
  T := 49
  c := 5
  enc := fun x => [.int .i64 x.1, .int .i64 x.2.1, .int .i64 x.2.2.1, .string x.2.2.2.1, .bool x.2.2.2.2]
  len := fun _ => rfl
  one := fun x v hv => by
    simp only [List.mem_cons, List.not_mem_nil, or_false] at hv
    rcases hv with rfl | rfl | rfl | rfl | rfl <;> rfl
def zeroLogRow : LogRowE := (0, 0, 0, ⟨#[]⟩, false)
theorem infoLogRow : (Tryd.prog.info? 49).map (fun i => (i.zero, i.size, i.bytes)) = some (some (.agg #[.int .i64 0, .int .i64 0, .int .i64 0, .string ⟨#[]⟩, .bool false]), 5, 48) := by kernel_rfl
theorem makeLogRow (n : Nat) (hn : n ≤ 1099511627776) (w : World) : (Instr.makeSlice 43 (.int .i64 (n : Int)) (.int .i64 (n : Int))).run Tryd.prog w = .ok (.slice (some ⟨w.heap.size, 0, none⟩) n n) (w.alloc (.cells (elLogRow.vals (List.replicate n zeroLogRow)).toArray 49)) :=
  elLogRow.run_make 43 zeroLogRow (.agg #[.int .i64 0, .int .i64 0, .int .i64 0, .string ⟨#[]⟩, .bool false]) 48 Tryd.underlying43 infoLogRow rfl (by decide) (by decide) n hn w
/-- the cells of element j, as the walk spells them -/
theorem cellsLogRow {w : World} {b o j : Nat} {L : List LogRowE} {hj : j < L.length} {f0 f1 f2 f3 f4} (hx : L[j] = (f0, f1, f2, f3, f4)) (h : ∀ i, i < 5 → w.cell? ⟨b, o + j * 5 + i, none⟩ = (elLogRow.enc L[j])[i]?) :
    w.cell? ⟨b, o + j * 5, none⟩ = some (.int .i64 f0) ∧ w.cell? ⟨b, o + j * 5 + 1, none⟩ = some (.int .i64 f1) ∧ w.cell? ⟨b, o + j * 5 + 2, none⟩ = some (.int .i64 f2) ∧ w.cell? ⟨b, o + j * 5 + 3, none⟩ = some (.string f3) ∧ w.cell? ⟨b, o + j * 5 + 4, none⟩ = some (.bool f4) := by
  rw [hx] at h
  exact ⟨h 0 (by omega), h 1 (by omega), h 2 (by omega), h 3 (by omega), h 4 (by omega)⟩
theorem cells0LogRow {w : World} {b j : Nat} {L : List LogRowE} {hj : j < L.length} {f0 f1 f2 f3 f4} (hx : L[j] = (f0, f1, f2, f3, f4)) (h : ∀ i, i < 5 → w.cell? ⟨b, j * 5 + i, none⟩ = (elLogRow.enc L[j])[i]?) :
    w.cell? ⟨b, j * 5, none⟩ = some (.int .i64 f0) ∧ w.cell? ⟨b, j * 5 + 1, none⟩ = some (.int .i64 f1) ∧ w.cell? ⟨b, j * 5 + 2, none⟩ = some (.int .i64 f2) ∧ w.cell? ⟨b, j * 5 + 3, none⟩ = some (.string f3) ∧ w.cell? ⟨b, j * 5 + 4, none⟩ = some (.bool f4) := by
  rw [hx] at h
  exact ⟨h 0 (by omega), h 1 (by omega), h 2 (by omega), h 3 (by omega), h 4 (by omega)⟩
theorem cellsXLogRow {w : World} {b o : Nat} {f0 f1 f2 f3 f4} (h : ∀ i, i < 5 → w.cell? ⟨b, o + i, none⟩ = (elLogRow.enc (f0, f1, f2, f3, f4))[i]?) :
    w.cell? ⟨b, o, none⟩ = some (.int .i64 f0) ∧ w.cell? ⟨b, o + 1, none⟩ = some (.int .i64 f1) ∧ w.cell? ⟨b, o + 2, none⟩ = some (.int .i64 f2) ∧ w.cell? ⟨b, o + 3, none⟩ = some (.string f3) ∧ w.cell? ⟨b, o + 4, none⟩ = some (.bool f4) := ⟨h 0 (by omega), h 1 (by omega), h 2 (by omega), h 3 (by omega), h 4 (by omega)⟩
theorem partsLogRow (x : LogRowE) : ∃ f0 f1 f2 f3 f4, x = (f0, f1, f2, f3, f4) := ⟨_, _, _, _, _, rfl⟩
/-- all strings of an element within 2^20 -/
def fitLogRow (x : LogRowE) : Prop := x.2.2.2.1.size ≤ 1048576
end Go.Proofs.YtakjjfbocokpaaaDoor

/-
  Contracts of laws.eqLogRow and of its rows. (Written by mkrow.py.)
-/
namespace Go.Proofs.YtakjjfbocokpaaaDoor
open Go.ChangeShapes Go.WideShapes Go.ChangeAt Go.RowKit

theorem eqLogRow_same (f0 : Int) (f1 : Int) (f2 : Int) (f3 : ByteArray) (f4 : Bool) (w : World) :
    Calls Tryd.prog 85 #[.agg #[.int .i64 f0, .int .i64 f1, .int .i64 f2, .string f3, .bool f4], .agg #[.int .i64 f0, .int .i64 f1, .int .i64 f2, .string f3, .bool f4]] w (TruePost w) := by
  go_enter Tryd.func85, Tryd.ntmps85
  go_wp2
  go_ret
  exact ⟨rfl, ((Below.refl _ _).alloc (Nat.le_refl _) _).alloc (by simp) _⟩

set_option maxRecDepth 40000 in
theorem eqLogRowS_same (a1 a2 : Option Addr) (c1 c2 : Nat) (L : List LogRowE) (w : World) (h1 : elLogRow.Rd w w.heap.size a1 L) (h2 : elLogRow.Rd w w.heap.size a2 L) (hl : L.length ≤ 2097152) :
    Calls Tryd.prog 42 #[.slice a1 L.length c1, .slice a2 L.length c2] w (TruePost w) := by
  have H1 := hide h1
  have H2 := hide h2
  clear h1 h2
  obtain ⟨n, hn⟩ : ∃ n, n = L.length := ⟨_, rfl⟩
  have HN := hide hn
  rw [← hn] at hl
  rw [← hn]
  clear hn
  go_enter Tryd.func42, Tryd.ntmps42
  go_wp2_with fail
  go_loopw [5] (fun i wr => ∃ j : Nat, i = .int .i64 j ∧ j ≤ n ∧ Hid (Below w.heap.size w wr)) (fun i _ => n - (intOf i).toNat)
  case atStart => exact ⟨0, rfl, by omega, Below.refl _ _⟩
  case round =>
    obtain ⟨j, rfl, hj, HB⟩ := hrel
    by_cases hlt : j < n
    · have hjL : j < L.length := by rw [← HN.out]; exact hlt
      obtain ⟨b1, o1, rfl, hb1, hc1⟩ := H1.out (by omega)
      obtain ⟨b2, o2, rfl, hb2, hc2⟩ := H2.out (by omega)
      obtain ⟨f0, f1, f2, f3, f4, hx⟩ := partsLogRow L[j]
      obtain ⟨p0, p1, p2, p3, p4⟩ := cellsLogRow hx (hc1 j hjL)
      obtain ⟨q0, q1, q2, q3, q4⟩ := cellsLogRow hx (hc2 j hjL)
      have d0 := (HB.out.cell (p := ⟨b1, o1 + j * 5, none⟩) hb1).trans p0
      have d1 := (HB.out.cell (p := ⟨b1, o1 + j * 5 + 1, none⟩) hb1).trans p1
      have d2 := (HB.out.cell (p := ⟨b1, o1 + j * 5 + 2, none⟩) hb1).trans p2
      have d3 := (HB.out.cell (p := ⟨b1, o1 + j * 5 + 3, none⟩) hb1).trans p3
      have d4 := (HB.out.cell (p := ⟨b1, o1 + j * 5 + 4, none⟩) hb1).trans p4
      have e0 := (HB.out.cell (p := ⟨b2, o2 + j * 5, none⟩) hb2).trans q0
      have e1 := (HB.out.cell (p := ⟨b2, o2 + j * 5 + 1, none⟩) hb2).trans q1
      have e2 := (HB.out.cell (p := ⟨b2, o2 + j * 5 + 2, none⟩) hb2).trans q2
      have e3 := (HB.out.cell (p := ⟨b2, o2 + j * 5 + 3, none⟩) hb2).trans q3
      have e4 := (HB.out.cell (p := ⟨b2, o2 + j * 5 + 4, none⟩) hb2).trans q4
      clear hc1 hc2 p0 q0 p1 q1 p2 q2 p3 q3 p4 q4 hjL hx
      go_wp2_with fail
      go_still_tail 8, (by kernel_rfl)
      change wpList _ _ _ _ _ wr.drew
      go_wp2_with fail
      refine (eqLogRow_same f0 f1 f2 f3 f4 _).mono ?_
      rintro e w1 ⟨rfl, hb⟩
      have HB1 := hide (HB.out.drew.trans (hb.mono HB.out.size))
      clear hb HB d0 e0 d1 e1 d2 e2 d3 e3 d4 e4
      go_wp2_with fail
      go_roundw
      case rel => exact ⟨j + 1, by go_num, by omega, HB1⟩
      case measure => simp [intOf]; omega
    · go_wp2_with fail
      go_ret
      exact ⟨rfl, HB.out⟩
end Go.Proofs.YtakjjfbocokpaaaDoor
