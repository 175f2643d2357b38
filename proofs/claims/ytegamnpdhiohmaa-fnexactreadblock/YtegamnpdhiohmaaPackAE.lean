/-
  Texts of this proof, put together: RowEnt, EqEnt, ResE.
-/
import Derived.Test.YtegamnpdhiohmaaPackAD
import Derived.Test.YtegamnpdhiohmaaPackAC
import Derived.StillTailTactics

/-
  Rows of impl.Ent (string, int, bool, string) in memory. (Written by mkrow.py.)
-/
namespace Go.Proofs.Ytegamnpdhiohmaa
open Go.ChangeShapes Go.WideShapes Go.ChangeAt Go.RowKit

abbrev EntE := ByteArray × Int × Bool × ByteArray
def elEnt : El EntE where
  T := 47
  c := 4
  enc := fun x => [.string x.1, .int .i64 x.2.1, .bool x.2.2.1, .string x.2.2.2]
  len := fun _ => rfl
  one := fun x v hv => by
    simp only [List.mem_cons, List.not_mem_nil, or_false] at hv
    rcases hv with rfl | rfl | rfl | rfl <;> rfl
def zeroEnt : EntE := (⟨#[]⟩, 0, false, ⟨#[]⟩)
theorem infoEnt : (Try.prog.info? 47).map (fun i => (i.zero, i.size, i.bytes)) = some (some (.agg #[.string ⟨#[]⟩, .int .i64 0, .bool false, .string ⟨#[]⟩]), 4, 48) := by kernel_rfl
theorem makeEnt (n : Nat) (hn : n ≤ 1099511627776) (w : World) : (Instr.makeSlice 24 (.int .i64 (n : Int)) (.int .i64 (n : Int))).run Try.prog w = .ok (.slice (some ⟨w.heap.size, 0, none⟩) n n) (w.alloc (.cells (elEnt.vals (List.replicate n zeroEnt)).toArray 47)) :=
  elEnt.run_make 24 zeroEnt (.agg #[.string ⟨#[]⟩, .int .i64 0, .bool false, .string ⟨#[]⟩]) 48 Try.underlying24 infoEnt rfl (by decide) (by decide) n hn w
/-- the cells of element j, as the walk spells them -/
theorem cellsEnt {w : World} {b o j : Nat} {L : List EntE} {hj : j < L.length} {f0 f1 f2 f3} (hx : L[j] = (f0, f1, f2, f3)) (h : ∀ i, i < 4 → w.cell? ⟨b, o + j * 4 + i, none⟩ = (elEnt.enc L[j])[i]?) :
    w.cell? ⟨b, o + j * 4, none⟩ = some (.string f0) ∧ w.cell? ⟨b, o + j * 4 + 1, none⟩ = some (.int .i64 f1) ∧ w.cell? ⟨b, o + j * 4 + 2, none⟩ = some (.bool f2) ∧ w.cell? ⟨b, o + j * 4 + 3, none⟩ = some (.string f3) := by
  rw [hx] at h
  exact ⟨h 0 (by omega), h 1 (by omega), h 2 (by omega), h 3 (by omega)⟩
theorem cells0Ent {w : World} {b j : Nat} {L : List EntE} {hj : j < L.length} {f0 f1 f2 f3} (hx : L[j] = (f0, f1, f2, f3)) (h : ∀ i, i < 4 → w.cell? ⟨b, j * 4 + i, none⟩ = (elEnt.enc L[j])[i]?) :
    w.cell? ⟨b, j * 4, none⟩ = some (.string f0) ∧ w.cell? ⟨b, j * 4 + 1, none⟩ = some (.int .i64 f1) ∧ w.cell? ⟨b, j * 4 + 2, none⟩ = some (.bool f2) ∧ w.cell? ⟨b, j * 4 + 3, none⟩ = some (.string f3) := by
  rw [hx] at h
  exact ⟨h 0 (by omega), h 1 (by omega), h 2 (by omega), h 3 (by omega)⟩
theorem cellsXEnt {w : World} {b o : Nat} {f0 f1 f2 f3} (h : ∀ i, i < 4 → w.cell? ⟨b, o + i, none⟩ = (elEnt.enc (f0, f1, f2, f3))[i]?) :
    w.cell? ⟨b, o, none⟩ = some (.string f0) ∧ w.cell? ⟨b, o + 1, none⟩ = some (.int .i64 f1) ∧ w.cell? ⟨b, o + 2, none⟩ = some (.bool f2) ∧ w.cell? ⟨b, o + 3, none⟩ = some (.string f3) := ⟨h 0 (by omega), h 1 (by omega), h 2 (by omega), h 3 (by omega)⟩
theorem partsEnt (x : EntE) : ∃ f0 f1 f2 f3, x = (f0, f1, f2, f3) := ⟨_, _, _, _, rfl⟩
/-- all strings of an element within 2^20 -/
def fitEnt (x : EntE) : Prop := x.1.size ≤ 1048576 ∧ x.2.2.2.size ≤ 1048576
end Go.Proofs.Ytegamnpdhiohmaa

/-
  Contracts of laws.eqEnt and of its rows. (Written by mkrow.py.)
-/
namespace Go.Proofs.Ytegamnpdhiohmaa
open Go.ChangeShapes Go.WideShapes Go.ChangeAt Go.RowKit

theorem eqEnt_same (f0 : ByteArray) (f1 : Int) (f2 : Bool) (f3 : ByteArray) (w : World) :
    Calls Try.prog 41 #[.agg #[.string f0, .int .i64 f1, .bool f2, .string f3], .agg #[.string f0, .int .i64 f1, .bool f2, .string f3]] w (TruePost w) := by
  go_enter Try.func41, Try.ntmps41
  go_wp2
  go_ret
  exact ⟨rfl, ((Below.refl _ _).alloc (Nat.le_refl _) _).alloc (by simp) _⟩

set_option maxRecDepth 40000 in
theorem eqEntS_same (a1 a2 : Option Addr) (c1 c2 : Nat) (L : List EntE) (w : World) (h1 : elEnt.Rd w w.heap.size a1 L) (h2 : elEnt.Rd w w.heap.size a2 L) (hl : L.length ≤ 2097152) :
    Calls Try.prog 16 #[.slice a1 L.length c1, .slice a2 L.length c2] w (TruePost w) := by
  have H1 := hide h1
  have H2 := hide h2
  clear h1 h2
  obtain ⟨n, hn⟩ : ∃ n, n = L.length := ⟨_, rfl⟩
  have HN := hide hn
  rw [← hn] at hl
  rw [← hn]
  clear hn
  go_enter Try.func16, Try.ntmps16
  go_wp2_with fail
  go_loopw [5] (fun i wr => ∃ j : Nat, i = .int .i64 j ∧ j ≤ n ∧ Hid (Below w.heap.size w wr)) (fun i _ => n - (intOf i).toNat)
  case atStart => exact ⟨0, rfl, by omega, Below.refl _ _⟩
  case round =>
    obtain ⟨j, rfl, hj, HB⟩ := hrel
    by_cases hlt : j < n
    · have hjL : j < L.length := by rw [← HN.out]; exact hlt
      obtain ⟨b1, o1, rfl, hb1, hc1⟩ := H1.out (by omega)
      obtain ⟨b2, o2, rfl, hb2, hc2⟩ := H2.out (by omega)
      obtain ⟨f0, f1, f2, f3, hx⟩ := partsEnt L[j]
      obtain ⟨p0, p1, p2, p3⟩ := cellsEnt hx (hc1 j hjL)
      obtain ⟨q0, q1, q2, q3⟩ := cellsEnt hx (hc2 j hjL)
      have d0 := (HB.out.cell (p := ⟨b1, o1 + j * 4, none⟩) hb1).trans p0
      have d1 := (HB.out.cell (p := ⟨b1, o1 + j * 4 + 1, none⟩) hb1).trans p1
      have d2 := (HB.out.cell (p := ⟨b1, o1 + j * 4 + 2, none⟩) hb1).trans p2
      have d3 := (HB.out.cell (p := ⟨b1, o1 + j * 4 + 3, none⟩) hb1).trans p3
      have e0 := (HB.out.cell (p := ⟨b2, o2 + j * 4, none⟩) hb2).trans q0
      have e1 := (HB.out.cell (p := ⟨b2, o2 + j * 4 + 1, none⟩) hb2).trans q1
      have e2 := (HB.out.cell (p := ⟨b2, o2 + j * 4 + 2, none⟩) hb2).trans q2
      have e3 := (HB.out.cell (p := ⟨b2, o2 + j * 4 + 3, none⟩) hb2).trans q3
      clear hc1 hc2 p0 q0 p1 q1 p2 q2 p3 q3 hjL hx
      go_wp2_with fail
      go_still_tail 8, (by kernel_rfl)
      change wpList _ _ _ _ _ wr.drew
      go_wp2_with fail
      refine (eqEnt_same f0 f1 f2 f3 _).mono ?_
      rintro e w1 ⟨rfl, hb⟩
      have HB1 := hide (HB.out.drew.trans (hb.mono HB.out.size))
      clear hb HB d0 e0 d1 e1 d2 e2 d3 e3
      go_wp2_with fail
      go_roundw
      case rel => exact ⟨j + 1, by go_num, by omega, HB1⟩
      case measure => simp [intOf]; omega
    · go_wp2_with fail
      go_ret
      exact ⟨rfl, HB.out⟩
end Go.Proofs.Ytegamnpdhiohmaa

/-
  A result that is an entry in a block of its own, and something beside it.
-/
namespace Go.Proofs.Ytegamnpdhiohmaa
open Go.ChangeShapes Go.WideShapes Go.ChangeAt Go.RowKit

/-- a result that is an entry in a block of its own, and a bool -/
theorem res_ent' {fn : Func} {p u : Tmp} (h : fn.results = #[.cell p 47, .tmp u]) (tmps : Array Value) (w : World) (g : Nat) (ht : tmps.getD p undef = .pointer (some ⟨g, 0, none⟩)) {v0 v1 v2 v3 : Value} (hx : BoxV 47 w g #[v0, v1, v2, v3]) :
    (results fn tmps).run Try.prog w = .ok (.tuple #[.agg #[v0, v1, v2, v3], tmps.getD u undef]) w := by
  obtain ⟨c0, c1, c2, c3⟩ := hx.four'
  rw [Array.getD_eq_getD_getElem?] at ht
  simp only [results, h]
  simp [ht, go_sem, c0, c1, c2, c3]
end Go.Proofs.Ytegamnpdhiohmaa
