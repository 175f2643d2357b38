/-
  Texts of this proof, put together: RowOp, EqOp.
-/
import Derived.Test.YtmdhihgfnlnbnaaPackAD
import Derived.Test.YtmdhihgfnlnbnaaPackAE
import Derived.StillTailTactics

/-
  Rows of impl.Op (string, bool, string) in memory. (Written by mkrow.py.)
-/
namespace Go.Proofs.Ytmdhihgfnlnbnaa
open Go.ChangeShapes Go.WideShapes Go.ChangeAt Go.RowKit

abbrev OpE := ByteArray × Bool × ByteArray
def elOp : El OpE where
  T := 62
  c := 3
  enc := fun x => [.string x.1, .bool x.2.1, .string x.2.2]
  len := fun _ => rfl
  one := fun x v hv => by
    simp only [List.mem_cons, List.not_mem_nil, or_false] at hv
    rcases hv with rfl | rfl | rfl <;> rfl
def zeroOp : OpE := (⟨#[]⟩, false, ⟨#[]⟩)
theorem infoOp : (Try.prog.info? 62).map (fun i => (i.zero, i.size, i.bytes)) = some (some (.agg #[.string ⟨#[]⟩, .bool false, .string ⟨#[]⟩]), 3, 40) := by kernel_rfl
theorem makeOp (n : Nat) (hn : n ≤ 1099511627776) (w : World) : (Instr.makeSlice 25 (.int .i64 (n : Int)) (.int .i64 (n : Int))).run Try.prog w = .ok (.slice (some ⟨w.heap.size, 0, none⟩) n n) (w.alloc (.cells (elOp.vals (List.replicate n zeroOp)).toArray 62)) :=
  elOp.run_make 25 zeroOp (.agg #[.string ⟨#[]⟩, .bool false, .string ⟨#[]⟩]) 40 Try.underlying25 infoOp rfl (by decide) (by decide) n hn w
/-- the cells of element j, as the walk spells them -/
theorem cellsOp {w : World} {b o j : Nat} {L : List OpE} {hj : j < L.length} {f0 f1 f2} (hx : L[j] = (f0, f1, f2)) (h : ∀ i, i < 3 → w.cell? ⟨b, o + j * 3 + i, none⟩ = (elOp.enc L[j])[i]?) :
    w.cell? ⟨b, o + j * 3, none⟩ = some (.string f0) ∧ w.cell? ⟨b, o + j * 3 + 1, none⟩ = some (.bool f1) ∧ w.cell? ⟨b, o + j * 3 + 2, none⟩ = some (.string f2) := by
  rw [hx] at h
  exact ⟨h 0 (by omega), h 1 (by omega), h 2 (by omega)⟩
theorem cells0Op {w : World} {b j : Nat} {L : List OpE} {hj : j < L.length} {f0 f1 f2} (hx : L[j] = (f0, f1, f2)) (h : ∀ i, i < 3 → w.cell? ⟨b, j * 3 + i, none⟩ = (elOp.enc L[j])[i]?) :
    w.cell? ⟨b, j * 3, none⟩ = some (.string f0) ∧ w.cell? ⟨b, j * 3 + 1, none⟩ = some (.bool f1) ∧ w.cell? ⟨b, j * 3 + 2, none⟩ = some (.string f2) := by
  rw [hx] at h
  exact ⟨h 0 (by omega), h 1 (by omega), h 2 (by omega)⟩
theorem cellsXOp {w : World} {b o : Nat} {f0 f1 f2} (h : ∀ i, i < 3 → w.cell? ⟨b, o + i, none⟩ = (elOp.enc (f0, f1, f2))[i]?) :
    w.cell? ⟨b, o, none⟩ = some (.string f0) ∧ w.cell? ⟨b, o + 1, none⟩ = some (.bool f1) ∧ w.cell? ⟨b, o + 2, none⟩ = some (.string f2) := ⟨h 0 (by omega), h 1 (by omega), h 2 (by omega)⟩
theorem partsOp (x : OpE) : ∃ f0 f1 f2, x = (f0, f1, f2) := ⟨_, _, _, rfl⟩
/-- all strings of an element within 2^20 -/
def fitOp (x : OpE) : Prop := x.1.size ≤ 1048576 ∧ x.2.2.size ≤ 1048576
end Go.Proofs.Ytmdhihgfnlnbnaa

/-
  Contracts of laws.eqOp and of its rows. (Written by mkrow.py.)
-/
namespace Go.Proofs.Ytmdhihgfnlnbnaa
open Go.ChangeShapes Go.WideShapes Go.ChangeAt Go.RowKit

theorem eqOp_same (f0 : ByteArray) (f1 : Bool) (f2 : ByteArray) (w : World) :
    Calls Try.prog 56 #[.agg #[.string f0, .bool f1, .string f2], .agg #[.string f0, .bool f1, .string f2]] w (TruePost w) := by
  go_enter Try.func56, Try.ntmps56
  go_wp2
  go_ret
  exact ⟨rfl, ((Below.refl _ _).alloc (Nat.le_refl _) _).alloc (by simp) _⟩

set_option maxRecDepth 40000 in
theorem eqOpS_same (a1 a2 : Option Addr) (c1 c2 : Nat) (L : List OpE) (w : World) (h1 : elOp.Rd w w.heap.size a1 L) (h2 : elOp.Rd w w.heap.size a2 L) (hl : L.length ≤ 2097152) :
    Calls Try.prog 25 #[.slice a1 L.length c1, .slice a2 L.length c2] w (TruePost w) := by
  have H1 := hide h1
  have H2 := hide h2
  clear h1 h2
  obtain ⟨n, hn⟩ : ∃ n, n = L.length := ⟨_, rfl⟩
  have HN := hide hn
  rw [← hn] at hl
  rw [← hn]
  clear hn
  go_enter Try.func25, Try.ntmps25
  go_wp2_with fail
  go_loopw [5] (fun i wr => ∃ j : Nat, i = .int .i64 j ∧ j ≤ n ∧ Hid (Below w.heap.size w wr)) (fun i _ => n - (intOf i).toNat)
  case atStart => exact ⟨0, rfl, by omega, Below.refl _ _⟩
  case round =>
    obtain ⟨j, rfl, hj, HB⟩ := hrel
    by_cases hlt : j < n
    · have hjL : j < L.length := by rw [← HN.out]; exact hlt
      obtain ⟨b1, o1, rfl, hb1, hc1⟩ := H1.out (by omega)
      obtain ⟨b2, o2, rfl, hb2, hc2⟩ := H2.out (by omega)
      obtain ⟨f0, f1, f2, hx⟩ := partsOp L[j]
      obtain ⟨p0, p1, p2⟩ := cellsOp hx (hc1 j hjL)
      obtain ⟨q0, q1, q2⟩ := cellsOp hx (hc2 j hjL)
      have d0 := (HB.out.cell (p := ⟨b1, o1 + j * 3, none⟩) hb1).trans p0
      have d1 := (HB.out.cell (p := ⟨b1, o1 + j * 3 + 1, none⟩) hb1).trans p1
      have d2 := (HB.out.cell (p := ⟨b1, o1 + j * 3 + 2, none⟩) hb1).trans p2
      have e0 := (HB.out.cell (p := ⟨b2, o2 + j * 3, none⟩) hb2).trans q0
      have e1 := (HB.out.cell (p := ⟨b2, o2 + j * 3 + 1, none⟩) hb2).trans q1
      have e2 := (HB.out.cell (p := ⟨b2, o2 + j * 3 + 2, none⟩) hb2).trans q2
      clear hc1 hc2 p0 q0 p1 q1 p2 q2 hjL hx
      go_wp2_with fail
      go_still_tail 8, (by kernel_rfl)
      change wpList _ _ _ _ _ wr.drew
      go_wp2_with fail
      refine (eqOp_same f0 f1 f2 _).mono ?_
      rintro e w1 ⟨rfl, hb⟩
      have HB1 := hide (HB.out.drew.trans (hb.mono HB.out.size))
      clear hb HB d0 e0 d1 e1 d2 e2
      go_wp2_with fail
      go_roundw
      case rel => exact ⟨j + 1, by go_num, by omega, HB1⟩
      case measure => simp [intOf]; omega
    · go_wp2_with fail
      go_ret
      exact ⟨rfl, HB.out⟩
end Go.Proofs.Ytmdhihgfnlnbnaa
