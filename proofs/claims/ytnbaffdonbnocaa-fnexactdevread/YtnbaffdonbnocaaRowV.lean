/-
  A block device that came in: what the walks are told of it.
-/
import Derived.Test.YtnbaffdonbnocaaSmallI
import Derived.Test.YtnbaffdonbnocaaMathL
import Derived.Test.YtnbaffdonbnocaaMathT
import Derived.Deep.SlicePairs
import Derived.SliceStrings
import Derived.Lib.SmallJoins
import Derived.ChangeOld
import Derived.Below
namespace Go.Proofs.Ytnbaffdonbnocaa
open Go.ChangeShapes Go.WideShapes Go.ChangeAt Go.RowKit Go.Joins

/-- the slots of a slice that came in, element by element -/
def slotsOf (t : Nat → Int) (k : Nat → ByteArray) (n : Nat) : List Slot := (List.range n).map fun i => (t i, k i)
theorem length_slotsOf (t : Nat → Int) (k : Nat → ByteArray) (n : Nat) : (slotsOf t k n).length = n := by simp [slotsOf]
theorem tn_slotsOf (t : Nat → Int) (k : Nat → ByteArray) (n i : Nat) (h : i < n) : tn (slotsOf t k n) i = t i := by simp [tn, slotsOf, List.getD, h]
theorem ky_slotsOf (t : Nat → Int) (k : Nat → ByteArray) (n i : Nat) (h : i < n) : ky (slotsOf t k n) i = k i := by simp [ky, slotsOf, List.getD, h]
theorem ky_out (L : List Slot) (i : Nat) (h : ¬ i < L.length) : ky L i = ByteArray.empty := by simp [ky, List.getD, h]

section
variable {H : Type} {enc : TypeId × Value → H} {W : World}
theorem open_slots {fuel : Nat} {v : Value} {y : DataW H × List MemPlace} (h1 : DataW.trod enc Try.prog W 0 (fun _ => true) true fuel 41 [v] = some y) :
    ∃ (a : Option Addr) (cap : Nat) (L : List Slot), v = .slice a L.length cap ∧ SlotRd W W.heap.size a L ∧ L.length ≤ maxLen ∧ (∀ j, (ky L j).size ≤ maxLen) := by
  have hz : ByteArray.empty.size ≤ maxLen := by simp [maxLen]
  rcases Go.Deep.open_slice_pairs Try.underlying41 Try.underlying83 (by kernel_rfl) (by kernel_rfl) (by kernel_rfl) (by kernel_rfl) (by kernel_rfl) h1 with ⟨e1, _⟩ | ⟨a, len, cap, q, n', V0, V1, D0, D1, P0, P1, e1, _, hl, hc, hq, _, hi⟩
  · simp only [List.cons.injEq, and_true] at e1
    subst e1
    exact ⟨none, 0, [], rfl, fun hp => by simp at hp, by simp [maxLen], fun j => by rw [ky_out [] j (by simp)]; exact hz⟩
  · simp only [List.cons.injEq, and_true] at e1
    subst e1
    have hq' : len ≤ q := by rw [hq]; simp; exact hl
    have hi' : ∀ i, i < len → ∃ s : Int × ByteArray, W.cell? (a.add (i * 2)) = some (.int .i64 s.1) ∧ W.cell? (a.add (i * 2 + 1)) = some (.string s.2) ∧ s.2.size ≤ maxLen := fun i hil => by
      obtain ⟨c0, c1, r0, r1⟩ := hi i (by omega)
      obtain ⟨t, f0, _, _⟩ := DataW.trod_int Try.underlying3 r0
      obtain ⟨k, f1, _, hk⟩ := DataW.trod_string Try.underlying9 r1
      simp only [List.cons.injEq, and_true] at f0 f1
      exact ⟨(t, k), by rw [c0, f0], by rw [c1, f1], hk⟩
    have hch : ∃ s : Nat → Int × ByteArray, ∀ i, i < len → W.cell? (a.add (i * 2)) = some (.int .i64 (s i).1) ∧ W.cell? (a.add (i * 2 + 1)) = some (.string (s i).2) ∧ (s i).2.size ≤ maxLen := by
      classical
      refine ⟨fun i => if h : i < len then Classical.choose (hi' i h) else (0, ByteArray.empty), fun i h => ?_⟩
      simp only [dif_pos h]
      exact Classical.choose_spec (hi' i h)
    obtain ⟨s, hs⟩ := hch
    refine ⟨some a, cap, slotsOf (fun i => (s i).1) (fun i => (s i).2) len, by rw [length_slotsOf], fun hp => ?_, by rw [length_slotsOf]; omega, fun j => ?_⟩
    · rw [length_slotsOf] at hp
      obtain ⟨b, off, spot⟩ := a
      have hc0 := (hs 0 hp).1
      have hspot : spot = none := by simpa [Addr.add] using World.cell?_spot hc0
      subst hspot
      refine ⟨b, off, rfl, ?_, fun j hj => ?_⟩
      · have := World.block_lt_of_cell? W _ hc0
        simpa [Addr.add] using this
      · rw [length_slotsOf] at hj
        obtain ⟨c0, c1, _⟩ := hs j hj
        rw [addr_add] at c0 c1
        rw [tn_slotsOf _ _ _ _ hj, ky_slotsOf _ _ _ _ hj]
        exact ⟨c0, by rw [Nat.add_assoc]; exact c1⟩
    · by_cases hj : j < len
      · rw [ky_slotsOf _ _ _ _ hj]; exact (hs j hj).2.2
      · rw [ky_out _ j (by rw [length_slotsOf]; exact hj)]; exact hz

theorem open_strs {fuel : Nat} {v : Value} {y : DataW H × List MemPlace} (h1 : DataW.trod enc Try.prog W 0 (fun _ => true) true fuel 24 [v] = some y) :
    ∃ (a : Option Addr) (cap : Nat) (S : List ByteArray), v = .slice a S.length cap ∧ StrRd W W.heap.size a S ∧ S.length ≤ maxLen ∧ (∀ j, (st S j).size ≤ maxLen) := by
  have hz : ByteArray.empty.size ≤ maxLen := by simp [maxLen]
  rcases open_strings Try.underlying24 Try.underlying9 (by kernel_rfl) h1 with ⟨e1, _⟩ | ⟨a, len, cap, ss, e1, _, hl, hc, hq, _, hi, hk⟩
  · simp only [List.cons.injEq, and_true] at e1
    subst e1
    exact ⟨none, 0, [], rfl, fun hp => by simp at hp, by simp [maxLen], fun j => by rw [st_out [] j (by simp)]; exact hz⟩
  · simp only [List.cons.injEq, and_true] at e1
    subst e1
    have hq' : ss.length = cap := by rw [hq]; simp
    have hlen : (ss.take len).length = len := by rw [List.length_take]; omega
    have hst : ∀ j, j < len → st (ss.take len) j = ss.getD j ByteArray.empty := fun j hj => by
      rw [st, List.getD_eq_getElem?_getD, List.getElem?_take, if_pos hj, List.getD_eq_getElem?_getD]
    refine ⟨some a, cap, ss.take len, by rw [hlen], fun hp => ?_, by rw [hlen]; omega, fun j => ?_⟩
    · rw [hlen] at hp
      obtain ⟨b, off, spot⟩ := a
      have hc0 := hi 0 (by omega)
      have hspot : spot = none := by simpa [Addr.add] using World.cell?_spot hc0
      subst hspot
      refine ⟨b, off, rfl, ?_, fun j hj => ?_⟩
      · have := World.block_lt_of_cell? W _ hc0
        simpa [Addr.add] using this
      · rw [hlen] at hj
        have c0 := hi j (by omega)
        rw [addr_add] at c0
        rw [hst j hj]
        exact c0
    · by_cases hj : j < len
      · rw [hst j hj]
        have hjs : j < ss.length := by omega
        rw [List.getD_eq_getElem?_getD, List.getElem?_eq_getElem hjs, Option.getD_some]
        exact hk _ (List.getElem_mem hjs)
      · rw [st_out _ j (by rw [hlen]; exact hj)]; exact hz
end

theorem open_sdev {H : Type} {enc : TypeId × Value → H} {W : World} {base : Nat} {v : Value} {d : DataW H} {p : List MemPlace}
    (hv : Value.okWide Try.prog W .any base 43 v) (h : DataW.Trod enc Try.prog W 0 (fun _ => true) true 43 v d p) :
    ∃ (a a' : Option Addr) (cap cap' : Nat) (S : List ByteArray) (L : List Slot) (x : Int), v = .agg #[.slice a S.length cap, .slice a' L.length cap', .int .i64 x] ∧
      StrRd W W.heap.size a S ∧ S.length ≤ maxLen ∧ (∀ j, (st S j).size ≤ maxLen) ∧ SlotRd W W.heap.size a' L ∧ L.length ≤ maxLen ∧ (∀ j, (ky L j).size ≤ maxLen) ∧ (Lit.int .i64 x).wf = true := by
  obtain ⟨v0, v1, v2, y0, y1, y2, n, rfl, _, _, h0, h1, h2⟩ := open_agg3 Try.underlying43 (by kernel_rfl) (by kernel_rfl) hv h
  obtain ⟨x, e2, _, hx⟩ := DataW.trod_int Try.underlying3 h2
  simp only [List.cons.injEq, and_true] at e2
  subst e2
  obtain ⟨a, cap, S, rfl, hS1, hS2, hS3⟩ := open_strs h0
  obtain ⟨a', cap', L, rfl, hL1, hL2, hL3⟩ := open_slots h1
  exact ⟨a, a', cap, cap', S, L, x, rfl, hS1, hS2, hS3, hL1, hL2, hL3, hx⟩
end Go.Proofs.Ytnbaffdonbnocaa
