/-
  Contracts of spec.l1Pick and l7Key.
-/
import Derived.Test.YthpeoeiaiabfcaaDrawO
namespace Go.Proofs.Ythpeoeiaiabfcaa
open Go.ChangeShapes Go.WideShapes Go.ChangeAt Go.RowKit

section
variable {B g : Nat} {a : Option Addr} {cap : Nat} {bs : List Int} {w w' : World}
theorem pick_some (N n : Nat) (ss : List ByteArray) (h0 : 0 < n) (hn : n ≤ 1048576) (hs : ss.length = n) (hN : N < w.heap.size) (hg : N ≠ g)
    (hcell : ∀ j (hj : j < ss.length), w.cell? ⟨N, j, none⟩ = some (.string ss[j])) (h : CurS B g a cap bs w) :
    Calls Try.prog 48 #[.pointer (some ⟨g, 0, none⟩), .slice (some ⟨N, 0, none⟩) n n] w fun e w' => ∃ s, s ∈ ss ∧ e = .returned (.string s) ∧ CurS B g a cap bs w' ∧ Turned g w w' := by
  have HB := hide (below_some n h0 (by omega) h)
  have HC := hide hcell
  have HS := hide hs
  clear h hcell hs
  go_enter Try.func48, Try.ntmps48
  go_wp2_with fail
  refine HB.out.mono ?_
  rintro e w1 ⟨x, hx, rfl, hc1, ht1⟩
  have hxs : x < ss.length := by rw [HS.out]; exact hx
  obtain ⟨s, hs⟩ : ∃ s, s = ss[x] := ⟨_, rfl⟩
  have d0 := (ht1.cell (p := ⟨N, x, none⟩) hN hg).trans (HC.out x hxs)
  rw [← hs] at d0
  have HM := hide (show s ∈ ss by rw [hs]; exact List.getElem_mem _)
  have HC1 := hide hc1
  have HT1 := hide ht1
  clear hc1 ht1 hs hxs HB HC
  go_wp2_with fail
  go_ret
  exact ⟨s, HM.out, rfl, HC1.out, HT1.out⟩
/-- a row of strings just laid, as a pick reads it -/
theorem strs_new (w : World) (vs : Array Value) (ss : List ByteArray) (hv : vs = (ss.map Value.string).toArray) (j : Nat) (hj : j < ss.length) : (w.alloc (.cells vs 9)).cell? ⟨w.heap.size, j, none⟩ = some (.string ss[j]) := by
  subst hv
  rw [World.cell?_alloc_mark]
  simp [hj]
theorem pick_new (n : Nat) (vs : Array Value) (ss : List ByteArray) (hv : vs = (ss.map Value.string).toArray) (h0 : 0 < n) (hn : n ≤ 1048576) (hs : ss.length = n) (h : CurS B g a cap bs w) :
    Calls Try.prog 48 #[.pointer (some ⟨g, 0, none⟩), .slice (some ⟨w.heap.size, 0, none⟩) n n] (w.alloc (.cells vs 9)) fun e w' => ∃ s, s ∈ ss ∧ e = .returned (.string s) ∧ CurS B g a cap bs w' ∧ Turned g w w' := by
  have hlt := h.lt
  have hb := (Below.refl w.heap.size w).alloc (Nat.le_refl _) (.cells vs 9)
  refine (pick_some w.heap.size n ss h0 hn hs (by simp) (by omega) (fun j hj => strs_new w vs ss hv j hj) (h.keep (hb.mono hlt))).mono ?_
  rintro e w' ⟨s, h1, h2, h3, h4⟩
  exact ⟨s, h1, h2, h3, (Turned.of_below hb (Nat.le_refl _)).trans h4⟩
theorem l7Key_some (h : CurS B g a cap bs w) :
    Calls Try.prog 38 #[.pointer (some ⟨g, 0, none⟩)] w fun e w' => ∃ s : ByteArray, e = .returned (.string s) ∧ CurS B g a cap bs w' ∧ Turned g w w' := by
  have H := hide h
  clear h
  go_enter Try.func38, Try.ntmps38
  go_wp2_with fail
  refine (pick_new 8 _ [⟨#[97]⟩, ⟨#[98]⟩, ⟨#[97, 98]⟩, ⟨#[97, 98, 99]⟩, ⟨#[98, 48]⟩, ⟨#[99]⟩, ⟨#[0]⟩, ⟨#[122, 122]⟩] rfl (by omega) (by omega) rfl H.out).mono ?_
  rintro e w1 ⟨s, _, rfl, hc1, ht1⟩
  have HC1 := hide hc1
  have HT1 := hide ht1
  clear hc1 ht1
  go_wp2_with fail
  go_ret
  exact ⟨s, rfl, HC1.out, HT1.out⟩
end
end Go.Proofs.Ythpeoeiaiabfcaa
