/-
  A device that came in: what the walks are told of it.
-/
import Derived.Test.YtpgbjbhoefjodaaSmallI
import Derived.Test.YtpgbjbhoefjodaaMathL
import Derived.Deep.SlicePairs
import Derived.Lib.SmallJoins
import Derived.ChangeOld
import Derived.Below
namespace Go.Proofs.Ytpgbjbhoefjodaa
open Go.ChangeShapes Go.WideShapes Go.ChangeAt Go.RowKit Go.Joins

/-- the slots of a slice that came in, element by element -/
def slotsOf (t : Nat → Int) (k : Nat → ByteArray) (n : Nat) : List Slot := (List.range n).map fun i => (t i, k i)
theorem length_slotsOf (t : Nat → Int) (k : Nat → ByteArray) (n : Nat) : (slotsOf t k n).length = n := by simp [slotsOf]
theorem tn_slotsOf (t : Nat → Int) (k : Nat → ByteArray) (n i : Nat) (h : i < n) : tn (slotsOf t k n) i = t i := by simp [tn, slotsOf, List.getD, h]
theorem ky_slotsOf (t : Nat → Int) (k : Nat → ByteArray) (n i : Nat) (h : i < n) : ky (slotsOf t k n) i = k i := by simp [ky, slotsOf, List.getD, h]
theorem ky_out (L : List Slot) (i : Nat) (h : ¬ i < L.length) : ky L i = ByteArray.empty := by simp [ky, List.getD, h]

theorem open_dev {H : Type} {enc : TypeId × Value → H} {W : World} {base : Nat} {v : Value} {d : DataW H} {p : List MemPlace}
    (hv : Value.okWide Try.prog W .any base 24 v) (h : DataW.Trod enc Try.prog W 0 (fun _ => true) true 24 v d p) :
    ∃ (m : ByteArray) (a : Option Addr) (cap : Nat) (L : List Slot) (x : Int), v = .agg #[.string m, .slice a L.length cap, .int .i64 x] ∧ m.size ≤ maxLen ∧ SlotRd W W.heap.size a L ∧ L.length ≤ maxLen ∧ (∀ j, (ky L j).size ≤ maxLen) ∧ (Lit.int .i64 x).wf = true := by
  obtain ⟨v0, v1, v2, y0, y1, y2, n, rfl, _, _, h0, h1, h2⟩ := open_agg3 Try.underlying24 (by kernel_rfl) (by kernel_rfl) hv h
  obtain ⟨m, e0, _, hm⟩ := DataW.trod_string Try.underlying9 h0
  obtain ⟨x, e2, _, hx⟩ := DataW.trod_int Try.underlying3 h2
  simp only [List.cons.injEq, and_true] at e0 e2
  subst e0 e2
  have hz : ByteArray.empty.size ≤ maxLen := by simp [maxLen]
  rcases Go.Deep.open_slice_pairs Try.underlying22 Try.underlying55 (by kernel_rfl) (by kernel_rfl) (by kernel_rfl) (by kernel_rfl) (by kernel_rfl) h1 with ⟨e1, _⟩ | ⟨a, len, cap, q, n', V0, V1, D0, D1, P0, P1, e1, _, hl, hc, hq, _, hi⟩
  · simp only [List.cons.injEq, and_true] at e1
    subst e1
    exact ⟨m, none, 0, [], x, rfl, hm, fun hp => by simp at hp, by simp [maxLen], fun j => by rw [ky_out [] j (by simp)]; exact hz, hx⟩
  · simp only [List.cons.injEq, and_true] at e1
    subst e1
    have hq' : len ≤ q := by rw [hq]; simp; exact hl
    have hi' : ∀ i, i < len → ∃ s : Int × ByteArray, W.cell? (a.add (i * 2)) = some (.int .i64 s.1) ∧ W.cell? (a.add (i * 2 + 1)) = some (.string s.2) ∧ s.2.size ≤ maxLen := fun i hil => by
      obtain ⟨c0, c1, r0, r1⟩ := hi i (by omega)
      obtain ⟨t, f0, _, _⟩ := DataW.trod_int Try.underlying3 r0
      obtain ⟨k, f1, _, hk⟩ := DataW.trod_string Try.underlying9 r1
      simp only [List.cons.injEq, and_true] at f0 f1
      exact ⟨(t, k), by rw [c0, f0], by rw [c1, f1], hk⟩
    have hch : ∃ s : Nat → Int × ByteArray, ∀ i, i < len → W.cell? (a.add (i * 2)) = some (.int .i64 (s i).1) ∧ W.cell? (a.add (i * 2 + 1)) = some (.string (s i).2) ∧ (s i).2.size ≤ maxLen := by
      classical
      refine ⟨fun i => if h : i < len then Classical.choose (hi' i h) else (0, ByteArray.empty), fun i h => ?_⟩
      simp only [dif_pos h]
      exact Classical.choose_spec (hi' i h)
    obtain ⟨s, hs⟩ := hch
    refine ⟨m, some a, cap, slotsOf (fun i => (s i).1) (fun i => (s i).2) len, x, by rw [length_slotsOf], hm, fun hp => ?_, by rw [length_slotsOf]; omega, fun j => ?_, hx⟩
    · rw [length_slotsOf] at hp
      obtain ⟨b, off, spot⟩ := a
      have hc0 := (hs 0 hp).1
      have hspot : spot = none := by simpa [Addr.add] using World.cell?_spot hc0
      subst hspot
      refine ⟨b, off, rfl, ?_, fun j hj => ?_⟩
      · have := World.block_lt_of_cell? W _ hc0
        simpa [Addr.add] using this
      · rw [length_slotsOf] at hj
        obtain ⟨c0, c1, _⟩ := hs j hj
        rw [addr_add] at c0 c1
        rw [tn_slotsOf _ _ _ _ hj, ky_slotsOf _ _ _ _ hj]
        exact ⟨c0, by rw [Nat.add_assoc]; exact c1⟩
    · by_cases hj : j < len
      · rw [ky_slotsOf _ _ _ _ hj]; exact (hs j hj).2.2
      · rw [ky_out _ j (by rw [length_slotsOf]; exact hj)]; exact hz
end Go.Proofs.Ytpgbjbhoefjodaa
