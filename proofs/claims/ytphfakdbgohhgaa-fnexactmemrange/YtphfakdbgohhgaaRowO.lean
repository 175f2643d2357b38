/-
  A slice of structs that came in: it reads as a list. Nothing here names a type of the program.
-/
import Derived.Test.YtphfakdbgohhgaaRowG
import Derived.Deep.SlicePairs
import Derived.Lib.SmallJoins
import Derived.ChangeOld
import Derived.Below
namespace Go.Proofs.Ytphfakdbgohhgaa
open Go.ChangeShapes Go.WideShapes Go.ChangeAt Go.RowKit Go.Joins

theorem El.open {α : Type} (e : El α) {H : Type} {enc : TypeId × Value → H} {W : World} {ST et : TypeId} {fuel : Nat} {cs : List Value} {x : DataW H × List MemPlace} (ok : α → Prop)
    (ht : Try.prog.underlying ST = some (.slice et)) (hc : Try.prog.cellsOf et = e.c) (hc0 : 0 < e.c)
    (hstep : ∀ n cs' y, DataW.trod enc Try.prog W 0 (fun _ => true) true n et cs' = some y → ∃ z : α, cs' = e.enc z ∧ ok z)
    (h : DataW.trod enc Try.prog W 0 (fun _ => true) true fuel ST cs = some x) :
    ∃ (a : Option Addr) (cap : Nat) (L : List α), cs = [.slice a L.length cap] ∧ e.Rd W W.heap.size a L ∧ L.length ≤ maxLen ∧ (∀ z ∈ L, ok z) ∧ (a = none → L = [] ∧ cap = 0) := by
  rcases Go.Deep.open_slice ht h with ⟨rfl, _⟩ | ⟨a, len, cap, m, n, D, Pl, rfl, hb, hl, hm, hmm, _, hx⟩
  · exact ⟨none, 0, [], rfl, fun hp => by simp at hp, by simp [maxLen], fun z hz => by simp at hz, fun _ => ⟨rfl, rfl⟩⟩
  · have hlm : len ≤ m := by rw [hmm]; simp; exact hl
    have each : ∀ i, i < len → ∃ z : α, (∀ j, j < e.c → W.cell? (a.add (i * e.c + j)) = (e.enc z)[j]?) ∧ ok z := fun i hi => by
      obtain ⟨cs', h1, h2⟩ := hx i (by omega)
      obtain ⟨z, rfl, hz⟩ := hstep n cs' _ h2
      rw [hc] at h1
      obtain ⟨_, hlen, hcell⟩ := World.cells?_some h1
      refine ⟨z, fun j hj => ?_, hz⟩
      have := hcell j hj
      rw [Go.Deep.add_add] at this
      exact this
    refine ⟨some a, cap, List.ofFn fun i : Fin len => Classical.choose (each i.1 i.2), by rw [List.length_ofFn], fun hp => ?_, by rw [List.length_ofFn]; omega, fun z hz => ?_, fun ha => by cases ha⟩
    · rw [List.length_ofFn] at hp
      obtain ⟨b, off, spot⟩ := a
      obtain ⟨z0, hz0, _⟩ := each 0 hp
      have h0 := hz0 0 hc0
      have hl0 : 0 < (e.enc z0).length := by rw [e.len]; exact hc0
      rw [Nat.zero_mul, List.getElem?_eq_getElem hl0] at h0
      have hspot : spot = none := by simpa [Addr.add] using World.cell?_spot h0
      subst hspot
      refine ⟨b, off, rfl, ?_, fun j hj i hi => ?_⟩
      · have := World.block_lt_of_cell? W _ h0
        simpa [Addr.add] using this
      · rw [List.length_ofFn] at hj
        have := (Classical.choose_spec (each j hj)).1 i hi
        rw [addr_add] at this
        rw [List.getElem_ofFn, Nat.add_assoc]
        exact this
    · obtain ⟨i, hi, rfl⟩ := List.getElem_of_mem hz
      rw [List.length_ofFn] at hi
      rw [List.getElem_ofFn]
      exact (Classical.choose_spec (each i hi)).2
end Go.Proofs.Ytphfakdbgohhgaa
