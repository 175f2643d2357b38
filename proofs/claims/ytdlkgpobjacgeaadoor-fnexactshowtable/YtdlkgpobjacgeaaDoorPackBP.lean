/-
  Texts of this proof, put together: OpenPart, TabZ.
-/
import Derived.Test.YtdlkgpobjacgeaaDoorPackAZ
import Derived.Test.YtdlkgpobjacgeaaDoorPackAF
import Derived.Test.YtdlkgpobjacgeaaDoorPackAE
import Derived.Lib.SmallJoins

/-
  A slice of laws.Part that came in: it reads as a list. (Written by mkrow.py.)
-/
namespace Go.Proofs.YtdlkgpobjacgeaaDoor
open Go.ChangeShapes Go.WideShapes Go.ChangeAt Go.RowKit Go.Joins

def camePart (x : PartE) : Prop := x.1.size ≤ maxLen ∧ x.2.size ≤ maxLen
theorem camePart_sz {L : List PartE} (h : ∀ z ∈ L, camePart z) : ∀ x ∈ L, x.1.size ≤ maxLen ∧ x.2.size ≤ maxLen := fun x hx => ⟨(h x hx).1, (h x hx).2⟩
set_option maxRecDepth 40000 in
theorem stepPart {H : Type} {enc : TypeId × Value → H} {W : World} (m : Nat) (cs : List Value) (y : DataW H × List MemPlace) (h : DataW.trod enc Tryd.prog W 0 (fun _ => true) true m 98 cs = some y) : ∃ z : PartE, cs = elPart.enc z ∧ camePart z := by
  obtain ⟨xs, k, _, _, hlen, hxl, hf⟩ := DataW.trod_struct Tryd.underlying98 h
  have hl : cs.length = 2 := hlen.trans (by kernel_rfl)
  have hcS : Tryd.prog.cellsOf 9 = 1 := by kernel_rfl
  match cs, hl, xs, hxl with
  | [v0, v1], _, [y0, y1], _ =>
    have g0 := hf 0 _ rfl
    have g1 := hf 1 _ rfl
    simp [hcS] at g0
    simp [hcS] at g1
    obtain ⟨s0, e0, _, h0⟩ := DataW.trod_string Tryd.underlying9 g0
    simp only [List.cons.injEq, and_true] at e0
    obtain ⟨s1, e1, _, h1⟩ := DataW.trod_string Tryd.underlying9 g1
    simp only [List.cons.injEq, and_true] at e1
    subst e0 e1
    exact ⟨(s0, s1), rfl, ⟨h0, h1⟩⟩
set_option maxRecDepth 40000 in
theorem openPartS {H : Type} {enc : TypeId × Value → H} {W : World} {base : Nat} {v : Value} {d : DataW H} {p : List MemPlace}
    (hv : Value.okWide Tryd.prog W .any base 36 v) (h : DataW.Trod enc Tryd.prog W 0 (fun _ => true) true 36 v d p) :
    ∃ (a : Option Addr) (cap : Nat) (L : List PartE), v = .slice a L.length cap ∧ elPart.Rd W W.heap.size a L ∧ L.length ≤ maxLen ∧ (∀ z ∈ L, camePart z) := by
  obtain ⟨a0, len0, cap0, rfl⟩ := okWide_slice Tryd.underlying36 hv
  obtain ⟨fuel, hf⟩ := h
  obtain ⟨a, cap, L, hcs, h1, h2, h3, _⟩ := elPart.open camePart Tryd.underlying36 (by kernel_rfl) (by decide) stepPart hf
  simp [Value.cells] at hcs
  obtain ⟨rfl, rfl, rfl⟩ := hcs
  exact ⟨_, _, L, rfl, h1, h2, h3⟩
end Go.Proofs.YtdlkgpobjacgeaaDoor

/-
  Contracts of laws.szTable, toTable, eqTable, markTable, heldTable; a table that came in.
-/
namespace Go.Proofs.YtdlkgpobjacgeaaDoor
open Go.ChangeShapes Go.WideShapes Go.ChangeAt Go.RowKit Go.Joins

/-- what lay there before a call lies there behind it, its marks too -/
theorem oldC {W w1 : World} (hb : Below W.heap.size W w1) : (∀ b o, b < W.heap.size → w1.cell? ⟨b, o, none⟩ = W.cell? ⟨b, o, none⟩) ∧ (∀ b o, b < W.heap.size → w1.frozen? ⟨b, o, none⟩ = W.frozen? ⟨b, o, none⟩) :=
  ⟨fun _ _ h => hb.cell h, fun _ _ h => hb.frozen h⟩
set_option maxRecDepth 40000 in
theorem open_table {H : Type} {enc : TypeId × Value → H} {W : World} {base : Nat} {v : Value} {d : DataW H} {p : List MemPlace}
    (hv : Value.okWide Tryd.prog W .any base 38 v) (h : DataW.Trod enc Tryd.prog W 0 (fun _ => true) true 38 v d p) :
    ∃ (a : Option Addr) (cap : Nat) (P : List PartE) (b : ByteArray) (x : Int), v = .agg #[.slice a P.length cap, .string b, .int .i64 x] ∧ elPart.Rd W W.heap.size a P ∧ P.length ≤ maxLen ∧ (∀ z ∈ P, camePart z) ∧ b.size ≤ maxLen ∧ (Lit.int .i64 x).wf = true := by
  obtain ⟨v0, v1, v2, y0, y1, y2, n, rfl, k0, _, h0, h1, h2⟩ := open_agg3 Tryd.underlying38 (by kernel_rfl) (by kernel_rfl) hv h
  obtain ⟨b, e1, _, hb⟩ := DataW.trod_string Tryd.underlying9 h1
  obtain ⟨x, e2, _, hx⟩ := DataW.trod_int Tryd.underlying3 h2
  simp only [List.cons.injEq, and_true] at e1 e2
  subst e1 e2
  obtain ⟨a, cap, L, hcs, g1, g2, g3, _⟩ := elPart.open camePart Tryd.underlying36 (by kernel_rfl) (by decide) stepPart h0
  simp only [List.cons.injEq, and_true] at hcs
  subst hcs
  exact ⟨a, cap, L, b, x, rfl, g1, g2, g3, hb, hx⟩

def tabFit (P : List PartE) (b : ByteArray) : Prop := (P.length ≤ 1048576 ∧ ∀ x ∈ P, fitPart x) ∧ b.size ≤ 1048576
theorem szTable_any (a : Option Addr) (cap : Nat) (P : List PartE) (b : ByteArray) (x left : Int) (w : World) (hr : elPart.Rd w w.heap.size a P) (hl : P.length ≤ maxLen) (hk : ∀ x ∈ P, x.1.size ≤ maxLen ∧ x.2.size ≤ maxLen) (hb : b.size ≤ maxLen) (h0 : 0 ≤ left) (h1 : left ≤ 1048576) :
    Calls Tryd.prog 16 #[.agg #[.slice a P.length cap, .string b, .int .i64 x], .int .i64 left] w (SzPost w (tabFit P b)) := by
  have HR := hide hr
  have HK := hide hk
  have HL := hide hl
  clear hr hk hl
  unfold maxLen at hb
  have hal := fun o => (Below.refl w.heap.size w).alloc (Nat.le_refl _) o
  go_enter Tryd.func16, Tryd.ntmps16
  go_wp2_with fail
  refine (szPartS_any a cap P left _ ((HR.out.below (hal _) (Nat.le_refl _)).mono (by simp)) HL.out HK.out (by omega) (by omega)).mono ?_
  rintro e w1 ⟨y, rfl, hy0, hy1, hP, hb1⟩
  have HP := hide hP
  have HX := hide ((BoxV.new 38 w #[.slice a P.length cap, .string b, .int .i64 x]).below hb1 (by simp))
  have HB1 := hide ((hal _).trans (hb1.mono (by simp)))
  obtain ⟨c0, c1, c2⟩ := HX.out.three
  clear hP hb1 hal
  by_cases hy : y < 0
  · go_wp2_with fail
    go_ret
    exact ⟨_, rfl, by omega, by omega, fun h => by omega, HB1.out⟩
  · by_cases hc : y < (b.size : Int)
    · go_wp2_with fail
      go_ret
      exact ⟨_, rfl, by omega, by omega, fun h => by omega, HB1.out⟩
    · go_wp2_with fail
      go_ret
      exact ⟨_, rfl, by omega, by omega, fun h => ⟨HP.out (by omega), by omega⟩, HB1.out⟩

def ToTPost (w : World) (P : List PartE) (b : ByteArray) (x : Int) (e : Ending) (w' : World) : Prop :=
  ∃ g, e = .returned (.agg #[.slice (some ⟨g, 0, none⟩) P.length P.length, .string b, .int .i64 x]) ∧ w.heap.size ≤ g ∧ g < w'.heap.size ∧ elPart.Holds w' g P ∧ Below w.heap.size w w'
set_option maxHeartbeats 1000000 in
theorem toTable_any (a : Option Addr) (cap : Nat) (P : List PartE) (b : ByteArray) (x : Int) (w : World) (hr : elPart.Rd w w.heap.size a P) (hl : P.length ≤ 1048576) :
    Calls Tryd.prog 18 #[.agg #[.slice a P.length cap, .string b, .int .i64 x]] w (ToTPost w P b x) := by
  have HR := hide hr
  have HL := hide hl
  clear hr hl
  go_enter Tryd.func18, Tryd.ntmps18
  go_wp2_with fail
  refine (toPartS_any a cap P _ ((HR.out.below ((((Below.refl _ _).alloc (Nat.le_refl _) _).alloc (by simp) _).alloc (by simp <;> omega) _) (Nat.le_refl _)).mono (by simp <;> omega)) HL.out).mono ?_
  rintro e w1 ⟨rfl, hh1, hb1, hz1⟩
  obtain ⟨oc, of⟩ := oldC hb1
  simp only [Go.Deep.nblk_alloc] at hz1 oc of hh1
  have HH1 := hide hh1
  have HB1 := hide hb1
  clear hh1 hb1
  go_wp2_with fail
  refine bodyPost_ret (v := .agg #[.slice (some ⟨w.heap.size + 1 + 1 + 1, 0, none⟩) P.length P.length, .string b, .int .i64 x]) (by simp [results, Tryd.results18, go_sem, oc]) rfl ?_
  have hB : Below w.heap.size w w1 := ((((Below.refl _ _).alloc (Nat.le_refl _) _).alloc (by simp) _).alloc (by simp <;> omega) _).trans (HB1.out.mono (by simp <;> omega))
  clear HB1 oc of HR
  refine ⟨w.heap.size + 1 + 1 + 1, rfl, by omega, by simpa using hz1, ?_, ?_⟩
  · exact (((((HH1.out.set_other (by simp) _).set_other (by simp) _).set_other (by simp) _).set_other (by simp) _).set_other (by simp) _).set_other (by simp) _
  · exact (((((hB.setCell (by simp <;> omega) _).setCell (by simp <;> omega) _).setCell (by simp <;> omega) _).setCell (by simp <;> omega) _).setCell (by simp <;> omega) _).setCell (by simp <;> omega) _

theorem eqTable_same (a1 a2 : Option Addr) (c1 c2 : Nat) (P : List PartE) (b : ByteArray) (x : Int) (w : World) (h1 : elPart.Rd w w.heap.size a1 P) (h2 : elPart.Rd w w.heap.size a2 P) (hl : P.length ≤ 2097152) :
    Calls Tryd.prog 11 #[.agg #[.slice a1 P.length c1, .string b, .int .i64 x], .agg #[.slice a2 P.length c2, .string b, .int .i64 x]] w (TruePost w) := by
  have H1 := hide h1
  have H2 := hide h2
  have HL := hide hl
  clear h1 h2 hl
  go_enter Tryd.func11, Tryd.ntmps11
  go_wp2_with fail
  have hB := fun o1 o2 => ((Below.refl w.heap.size w).alloc (Nat.le_refl _) o1).alloc (by simp) o2
  refine (eqPartS_same a1 a2 c1 c2 P _ ((H1.out.below (hB _ _) (Nat.le_refl _)).mono (by simp <;> omega)) ((H2.out.below (hB _ _) (Nat.le_refl _)).mono (by simp <;> omega)) HL.out).mono ?_
  rintro e w1 ⟨rfl, hb1⟩
  have HB1 := hide ((hB _ _).trans (hb1.mono (by simp <;> omega)))
  obtain ⟨oc, _⟩ := oldC hb1
  simp only [Go.Deep.nblk_alloc] at oc
  clear hb1 hB
  go_wp2_with fail
  go_ret
  exact ⟨rfl, HB1.out⟩

end Go.Proofs.YtdlkgpobjacgeaaDoor
