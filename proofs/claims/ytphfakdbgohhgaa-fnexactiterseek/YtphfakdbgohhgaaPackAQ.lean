/-
  Texts of this proof, put together: OpenKV, IterZ.
-/
import Derived.Test.YtphfakdbgohhgaaPackAP
import Derived.Test.YtphfakdbgohhgaaPackAJ
import Derived.Test.YtphfakdbgohhgaaPackAD
import Derived.Lib.SmallJoins

/-
  A slice of laws.KV that came in: it reads as a list. (Written by mkrow.py.)
-/
namespace Go.Proofs.Ytphfakdbgohhgaa
open Go.ChangeShapes Go.WideShapes Go.ChangeAt Go.RowKit Go.Joins

def cameKV (x : KVE) : Prop := x.1.size ≤ maxLen ∧ x.2.size ≤ maxLen
theorem cameKV_sz {L : List KVE} (h : ∀ z ∈ L, cameKV z) : ∀ x ∈ L, x.1.size ≤ maxLen ∧ x.2.size ≤ maxLen := fun x hx => ⟨(h x hx).1, (h x hx).2⟩
set_option maxRecDepth 40000 in
theorem stepKV {H : Type} {enc : TypeId × Value → H} {W : World} (m : Nat) (cs : List Value) (y : DataW H × List MemPlace) (h : DataW.trod enc Try.prog W 0 (fun _ => true) true m 99 cs = some y) : ∃ z : KVE, cs = elKV.enc z ∧ cameKV z := by
  obtain ⟨xs, k, _, _, hlen, hxl, hf⟩ := DataW.trod_struct Try.underlying99 h
  have hl : cs.length = 2 := hlen.trans (by kernel_rfl)
  have hcS : Try.prog.cellsOf 9 = 1 := by kernel_rfl
  match cs, hl, xs, hxl with
  | [v0, v1], _, [y0, y1], _ =>
    have g0 := hf 0 _ rfl
    have g1 := hf 1 _ rfl
    simp [hcS] at g0
    simp [hcS] at g1
    obtain ⟨s0, e0, _, h0⟩ := DataW.trod_string Try.underlying9 g0
    simp only [List.cons.injEq, and_true] at e0
    obtain ⟨s1, e1, _, h1⟩ := DataW.trod_string Try.underlying9 g1
    simp only [List.cons.injEq, and_true] at e1
    subst e0 e1
    exact ⟨(s0, s1), rfl, ⟨h0, h1⟩⟩
set_option maxRecDepth 40000 in
theorem openKVS {H : Type} {enc : TypeId × Value → H} {W : World} {base : Nat} {v : Value} {d : DataW H} {p : List MemPlace}
    (hv : Value.okWide Try.prog W .any base 50 v) (h : DataW.Trod enc Try.prog W 0 (fun _ => true) true 50 v d p) :
    ∃ (a : Option Addr) (cap : Nat) (L : List KVE), v = .slice a L.length cap ∧ elKV.Rd W W.heap.size a L ∧ L.length ≤ maxLen ∧ (∀ z ∈ L, cameKV z) := by
  obtain ⟨a0, len0, cap0, rfl⟩ := okWide_slice Try.underlying50 hv
  obtain ⟨fuel, hf⟩ := h
  obtain ⟨a, cap, L, hcs, h1, h2, h3, _⟩ := elKV.open cameKV Try.underlying50 (by kernel_rfl) (by decide) stepKV hf
  simp [Value.cells] at hcs
  obtain ⟨rfl, rfl, rfl⟩ := hcs
  exact ⟨_, _, L, rfl, h1, h2, h3⟩
end Go.Proofs.Ytphfakdbgohhgaa

/-
  Contracts of laws.szIter, toTable, eqTable, markTable, heldTable; an iterator that came in.
-/
namespace Go.Proofs.Ytphfakdbgohhgaa
open Go.ChangeShapes Go.WideShapes Go.ChangeAt Go.RowKit Go.Joins

/-- what lay there before a call lies there behind it, its marks too -/
theorem oldI {W w1 : World} (hb : Below W.heap.size W w1) : (∀ b o, b < W.heap.size → w1.cell? ⟨b, o, none⟩ = W.cell? ⟨b, o, none⟩) ∧ (∀ b o, b < W.heap.size → w1.frozen? ⟨b, o, none⟩ = W.frozen? ⟨b, o, none⟩) :=
  ⟨fun _ _ h => hb.cell h, fun _ _ h => hb.frozen h⟩
set_option maxRecDepth 40000 in
theorem open_iter {H : Type} {enc : TypeId × Value → H} {W : World} {base : Nat} {v : Value} {d : DataW H} {p : List MemPlace}
    (hv : Value.okWide Try.prog W .any base 52 v) (h : DataW.Trod enc Try.prog W 0 (fun _ => true) true 52 v d p) :
    ∃ (a : Option Addr) (cap : Nat) (P : List KVE) (b c : ByteArray) (x : Int), v = .agg #[.slice a P.length cap, .string b, .string c, .int .i64 x] ∧ elKV.Rd W W.heap.size a P ∧ P.length ≤ maxLen ∧ (∀ z ∈ P, cameKV z) ∧ b.size ≤ maxLen ∧ c.size ≤ maxLen ∧ (Lit.int .i64 x).wf = true := by
  obtain ⟨v0, v1, v2, v3, y0, y1, y2, y3, n, rfl, k0, _, h0, h1, h2, h3⟩ := open_agg4 Try.underlying52 (by kernel_rfl) (by kernel_rfl) hv h
  obtain ⟨b, e1, _, hb⟩ := DataW.trod_string Try.underlying9 h1
  obtain ⟨c, e2, _, hc⟩ := DataW.trod_string Try.underlying9 h2
  obtain ⟨x, e3, _, hx⟩ := DataW.trod_int Try.underlying3 h3
  simp only [List.cons.injEq, and_true] at e1 e2 e3
  subst e1 e2 e3
  obtain ⟨a, cap, L, hcs, g1, g2, g3, _⟩ := elKV.open cameKV Try.underlying50 (by kernel_rfl) (by decide) stepKV h0
  simp only [List.cons.injEq, and_true] at hcs
  subst hcs
  exact ⟨a, cap, L, b, c, x, rfl, g1, g2, g3, hb, hc, hx⟩

def itFit (P : List KVE) (b c : ByteArray) : Prop := (P.length ≤ 1048576 ∧ ∀ x ∈ P, fitKV x) ∧ b.size ≤ 1048576 ∧ c.size ≤ 1048576
theorem szIter_any (a : Option Addr) (cap : Nat) (P : List KVE) (b c : ByteArray) (x left : Int) (w : World) (hr : elKV.Rd w w.heap.size a P) (hl : P.length ≤ maxLen) (hk : ∀ x ∈ P, x.1.size ≤ maxLen ∧ x.2.size ≤ maxLen) (hb : b.size ≤ maxLen) (hc : c.size ≤ maxLen) (h0 : 0 ≤ left) (h1 : left ≤ 1048576) :
    Calls Try.prog 31 #[.agg #[.slice a P.length cap, .string b, .string c, .int .i64 x], .int .i64 left] w (SzPost w (itFit P b c)) := by
  have HR := hide hr
  have HK := hide hk
  have HL := hide hl
  clear hr hk hl
  unfold maxLen at hb hc
  have hal := fun o => (Below.refl w.heap.size w).alloc (Nat.le_refl _) o
  go_enter Try.func31, Try.ntmps31
  go_wp2_with fail
  refine (szKVS_any a cap P left _ ((HR.out.below (hal _) (Nat.le_refl _)).mono (by simp)) HL.out HK.out (by omega) (by omega)).mono ?_
  rintro e w1 ⟨y, rfl, hy0, hy1, hP, hb1⟩
  have HP := hide hP
  have HX := hide ((BoxV.new 52 w #[.slice a P.length cap, .string b, .string c, .int .i64 x]).below hb1 (by simp))
  have HB1 := hide ((hal _).trans (hb1.mono (by simp)))
  obtain ⟨c0, c1, c2, c3⟩ := HX.out.four'
  clear hP hb1 hal
  by_cases hy : y < 0
  · go_wp2_with fail
    go_ret
    exact ⟨_, rfl, by omega, by omega, fun h => by omega, HB1.out⟩
  by_cases hz : y < (b.size : Int)
  · go_wp2_with fail
    go_ret
    exact ⟨_, rfl, by omega, by omega, fun h => by omega, HB1.out⟩
  by_cases hw : y - (b.size : Int) < (c.size : Int)
  · go_wp2_with fail
    go_ret
    exact ⟨_, rfl, by omega, by omega, fun h => by omega, HB1.out⟩
  go_wp2_with fail
  go_ret
  exact ⟨_, rfl, by omega, by omega, fun h => ⟨HP.out (by omega), by omega, by omega⟩, HB1.out⟩

def ToIPost (w : World) (P : List KVE) (b c : ByteArray) (x : Int) (e : Ending) (w' : World) : Prop :=
  ∃ g, e = .returned (.agg #[.slice (some ⟨g, 0, none⟩) P.length P.length, .string b, .string c, .int .i64 x]) ∧ w.heap.size ≤ g ∧ g < w'.heap.size ∧ elKV.Holds w' g P ∧ Below w.heap.size w w'
set_option maxHeartbeats 1000000 in
theorem toIter_any (a : Option Addr) (cap : Nat) (P : List KVE) (b c : ByteArray) (x : Int) (w : World) (hr : elKV.Rd w w.heap.size a P) (hl : P.length ≤ 1048576) :
    Calls Try.prog 33 #[.agg #[.slice a P.length cap, .string b, .string c, .int .i64 x]] w (ToIPost w P b c x) := by
  have HR := hide hr
  have HL := hide hl
  clear hr hl
  go_enter Try.func33, Try.ntmps33
  go_wp2_with fail
  refine (toKVS_any a cap P _ ((HR.out.below ((((Below.refl _ _).alloc (Nat.le_refl _) _).alloc (by simp) _).alloc (by simp <;> omega) _) (Nat.le_refl _)).mono (by simp <;> omega)) HL.out).mono ?_
  rintro e w1 ⟨rfl, hh1, hb1, hz1⟩
  obtain ⟨oc, of⟩ := oldI hb1
  simp only [Go.Deep.nblk_alloc] at hz1 oc of hh1
  have HH1 := hide hh1
  have HB1 := hide hb1
  clear hh1 hb1
  go_wp2_with fail
  refine bodyPost_ret (v := .agg #[.slice (some ⟨w.heap.size + 1 + 1 + 1, 0, none⟩) P.length P.length, .string b, .string c, .int .i64 x]) (by simp [results, Try.results33, go_sem, oc]) rfl ?_
  have hB : Below w.heap.size w w1 := ((((Below.refl _ _).alloc (Nat.le_refl _) _).alloc (by simp) _).alloc (by simp <;> omega) _).trans (HB1.out.mono (by simp <;> omega))
  clear HB1 oc of HR
  refine ⟨w.heap.size + 1 + 1 + 1, rfl, by omega, by simpa using hz1, ?_, ?_⟩
  · exact (((((((HH1.out.set_other (by simp) _).set_other (by simp) _).set_other (by simp) _).set_other (by simp) _).set_other (by simp) _).set_other (by simp) _).set_other (by simp) _).set_other (by simp) _
  · exact (((((((hB.setCell (by simp <;> omega) _).setCell (by simp <;> omega) _).setCell (by simp <;> omega) _).setCell (by simp <;> omega) _).setCell (by simp <;> omega) _).setCell (by simp <;> omega) _).setCell (by simp <;> omega) _).setCell (by simp <;> omega) _

theorem eqIter_same (a1 a2 : Option Addr) (c1 c2 : Nat) (P : List KVE) (b c : ByteArray) (x : Int) (w : World) (h1 : elKV.Rd w w.heap.size a1 P) (h2 : elKV.Rd w w.heap.size a2 P) (hl : P.length ≤ 2097152) :
    Calls Try.prog 35 #[.agg #[.slice a1 P.length c1, .string b, .string c, .int .i64 x], .agg #[.slice a2 P.length c2, .string b, .string c, .int .i64 x]] w (TruePost w) := by
  have H1 := hide h1
  have H2 := hide h2
  have HL := hide hl
  clear h1 h2 hl
  go_enter Try.func35, Try.ntmps35
  go_wp2_with fail
  have hB := fun o1 o2 => ((Below.refl w.heap.size w).alloc (Nat.le_refl _) o1).alloc (by simp) o2
  refine (eqKVS_same a1 a2 c1 c2 P _ ((H1.out.below (hB _ _) (Nat.le_refl _)).mono (by simp <;> omega)) ((H2.out.below (hB _ _) (Nat.le_refl _)).mono (by simp <;> omega)) HL.out).mono ?_
  rintro e w1 ⟨rfl, hb1⟩
  have HB1 := hide ((hB _ _).trans (hb1.mono (by simp <;> omega)))
  obtain ⟨oc, _⟩ := oldI hb1
  simp only [Go.Deep.nblk_alloc] at oc
  clear hb1 hB
  go_wp2_with fail
  go_ret
  exact ⟨rfl, HB1.out⟩

end Go.Proofs.Ytphfakdbgohhgaa
