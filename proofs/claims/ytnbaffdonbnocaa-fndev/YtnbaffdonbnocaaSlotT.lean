/-
  Contracts of laws.toPut, toPutS: slots of the program's type, in new memory.
-/
import Derived.Test.YtnbaffdonbnocaaOwnS
namespace Go.Proofs.Ytnbaffdonbnocaa
open Go.ChangeShapes Go.WideShapes Go.ChangeAt Go.RowKit

theorem toPut_any (t : Int) (k : ByteArray) (w : World) :
    Calls Try.prog 59 #[.agg #[.int .i64 t, .string k]] w fun e w' => e = .returned (.agg #[.int .i64 t, .string k]) ∧ Below w.heap.size w w' := by
  go_enter Try.func59, Try.ntmps59
  go_wp2
  exact bodyPost_ret (v := .agg #[.int .i64 t, .string k]) (by simp [results, Try.results59, go_sem]) rfl ⟨rfl, (((Below.refl _ _).alloc (Nat.le_refl _) _).alloc (by simp) _).alloc (by simp; omega) _⟩

def fillS (L : List Slot) (j : Nat) : List Slot := L.take j ++ List.replicate (L.length - j) zeroS
theorem length_fillS (L : List Slot) (j : Nat) (h : j ≤ L.length) : (fillS L j).length = L.length := by simp [fillS]; omega
theorem fillS_zero (L : List Slot) : fillS L 0 = List.replicate L.length zeroS := by simp [fillS]
theorem fillS_all (L : List Slot) : fillS L L.length = L := by simp [fillS]
theorem fillS_set (L : List Slot) (j : Nat) (h : j < L.length) : (fillS L j).set j (tn L j, ky L j) = fillS L (j + 1) := by
  rw [← pair_at L j h]
  apply List.ext_getElem?
  intro i
  by_cases hi : i < L.length
  · rw [List.getElem?_set]
    by_cases hij : j = i
    · subst hij
      rw [if_pos rfl, if_pos (by rw [length_fillS L j (by omega)]; exact h)]
      simp [fillS, List.getElem?_append, show j < min (j + 1) L.length by omega]
    · rw [if_neg hij]
      simp only [fillS, List.getElem?_append, List.length_take]
      by_cases h2 : i < j
      · rw [if_pos (by omega), if_pos (by omega)]; simp [h2, show i < j + 1 by omega]
      · rw [if_neg (by omega), if_neg (by omega)]
        rw [List.getElem?_replicate, List.getElem?_replicate, if_pos (by omega), if_pos (by omega)]
  · rw [List.getElem?_eq_none (by rw [List.length_set, length_fillS L j (by omega)]; omega), List.getElem?_eq_none (by rw [length_fillS L (j + 1) (by omega)]; omega)]

theorem toPutS_any (a : Option Addr) (cap : Nat) (L : List Slot) (w : World) (hr : SlotRd w w.heap.size a L) (hl : L.length ≤ 1048576) :
    Calls Try.prog 42 #[.slice a L.length cap] w fun e w' => e = .returned (.slice (some ⟨w.heap.size, 0, none⟩) L.length L.length) ∧ HoldsS w' w.heap.size L ∧ Below w.heap.size w w' ∧ w.heap.size < w'.heap.size := by
  have HR := hide hr
  clear hr
  obtain ⟨n, hn⟩ : ∃ n, n = L.length := ⟨_, rfl⟩
  have HN := hide hn
  rw [← hn] at hl
  rw [← hn]
  clear hn
  have hmk := run_makeS n (by omega) w
  go_enter Try.func42, Try.ntmps42
  go_wp2_with fail
  clear hmk
  go_loopw [4] (fun i wr => ∃ j : Nat, i = .int .i64 j ∧ j ≤ n ∧ Hid (HoldsS wr w.heap.size (fillS L j)) ∧ Hid (Below w.heap.size w wr) ∧ w.heap.size < wr.heap.size) (fun i _ => n - (intOf i).toNat)
  case atStart =>
    refine ⟨0, rfl, by omega, ?_, (Below.refl _ _).alloc (Nat.le_refl _) _, by simp⟩
    show HoldsS _ _ _
    rw [fillS_zero, ← HN.out]
    exact HoldsS.new w _
  case round =>
    obtain ⟨j, rfl, hj, HH, HB, hsz⟩ := hrel
    by_cases hlt : j < n
    · have hjL : j < L.length := by rw [← HN.out]; exact hlt
      obtain ⟨b, off, rfl, hb, hcell⟩ := HR.out (by omega)
      obtain ⟨c0, c1⟩ := hcell j hjL
      have d0 := (HB.out.cell (p := ⟨b, off + j * 2, none⟩) hb).trans c0
      have d1 := (HB.out.cell (p := ⟨b, off + j * 2 + 1, none⟩) hb).trans c1
      have HJ := hide hjL
      clear hcell c0 c1 hjL
      go_wp2_with fail
      refine (toPut_any (tn L j) (ky L j) _).mono ?_
      rintro e w1 ⟨rfl, hb1⟩
      have HH1 := hide (HH.out.below hb1 hsz)
      have HB1 := hide (HB.out.trans (hb1.mono HB.out.size))
      have hsz1 : w.heap.size < w1.heap.size := by have := hb1.size; omega
      clear hb1 d0 d1 HB HH hsz
      have hlf : j < (fillS L j).length := by rw [length_fillS L j (by have := HJ.out; omega)]; exact HJ.out
      obtain ⟨f0, f1⟩ := HH1.out.cells j hlf
      have g0 := HH1.out.frozen (j * 2)
      have g1 := HH1.out.frozen (j * 2 + 1)
      go_wp2_with fail
      go_roundw
      case rel =>
        refine ⟨j + 1, by go_num, by omega, ?_, (HB1.out.setCell (Nat.le_refl _) _).setCell (Nat.le_refl _) _, by simpa using hsz1⟩
        show HoldsS _ _ _
        rw [← fillS_set L j HJ.out]
        exact HH1.out.set j (tn L j) (ky L j)
      case measure => simp [intOf]; omega
    · have HJ := hide (show fillS L j = L by rw [show j = L.length by rw [← HN.out]; omega, fillS_all])
      go_wp2_with fail
      go_ret
      exact ⟨rfl, by rw [← HJ.out]; exact HH.out, HB.out, hsz⟩

end Go.Proofs.Ytnbaffdonbnocaa
