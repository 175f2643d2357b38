/-
  Contracts of laws.eqStringS, eqDev: what is equal is told equal.
-/
import Derived.Test.YtnbaffdonbnocaaSlotE
import Derived.Test.YtnbaffdonbnocaaOwnT
import Derived.Deep.QuietTactic
import Derived.BigQuiet
namespace Go.Proofs.Ytnbaffdonbnocaa
open Go.ChangeShapes Go.WideShapes Go.ChangeAt Go.RowKit

theorem eqStringS_same (a1 a2 : Option Addr) (c1 c2 : Nat) (S : List ByteArray) (w : World) (h1 : StrRd w w.heap.size a1 S) (h2 : StrRd w w.heap.size a2 S) (hl : S.length ≤ 2097152) :
    Calls Try.prog 45 #[.slice a1 S.length c1, .slice a2 S.length c2] w (TruePost w) := by
  have H1 := hide h1
  have H2 := hide h2
  clear h1 h2
  obtain ⟨n, hn⟩ : ∃ n, n = S.length := ⟨_, rfl⟩
  have HN := hide hn
  rw [← hn] at hl
  rw [← hn]
  clear hn
  go_enter Try.func45, Try.ntmps45
  go_wp2_with fail
  go_loopw [5] (fun i wr => ∃ j : Nat, i = .int .i64 j ∧ j ≤ n ∧ Hid (Below w.heap.size w wr)) (fun i _ => n - (intOf i).toNat)
  case atStart => exact ⟨0, rfl, by omega, Below.refl _ _⟩
  case round =>
    obtain ⟨j, rfl, hj, HB⟩ := hrel
    by_cases hlt : j < n
    · have hjL : j < S.length := by rw [← HN.out]; exact hlt
      obtain ⟨b1, o1, rfl, hb1, hc1⟩ := H1.out (by omega)
      obtain ⟨b2, o2, rfl, hb2, hc2⟩ := H2.out (by omega)
      have d0 := (HB.out.cell (p := ⟨b1, o1 + j, none⟩) hb1).trans (hc1 j hjL)
      have e0 := (HB.out.cell (p := ⟨b2, o2 + j, none⟩) hb2).trans (hc2 j hjL)
      clear hc1 hc2 hjL
      go_wp2_with fail
      go_quiet (fail)
      go_wp2_with fail
      go_roundw
      case rel => exact ⟨j + 1, by go_num, by omega, ⟨HB.out.os, HB.out.tape, HB.out.output, HB.out.size, HB.out.block⟩⟩
      case measure => simp [intOf]; omega
    · go_wp2_with fail
      go_ret
      exact ⟨rfl, HB.out⟩

theorem eqDev_same (a1 a2 a1' a2' : Option Addr) (c1 c2 c1' c2' : Nat) (S : List ByteArray) (L : List Slot) (x : Int) (w : World) (h1 : StrRd w w.heap.size a1 S) (h2 : StrRd w w.heap.size a2 S) (hsl : S.length ≤ 2097152)
    (k1 : SlotRd w w.heap.size a1' L) (k2 : SlotRd w w.heap.size a2' L) (hl : L.length ≤ 2097152) :
    Calls Try.prog 21 #[.agg #[.slice a1 S.length c1, .slice a1' L.length c1', .int .i64 x], .agg #[.slice a2 S.length c2, .slice a2' L.length c2', .int .i64 x]] w (TruePost w) := by
  have H1 := hide h1
  have H2 := hide h2
  have HSL := hide hsl
  have K1 := hide k1
  have K2 := hide k2
  have HL := hide hl
  clear h1 h2 hl k1 k2 hsl
  go_enter Try.func21, Try.ntmps21
  go_wp2_with fail
  have hB := fun o1 o2 => ((Below.refl w.heap.size w).alloc (Nat.le_refl _) o1).alloc (by simp) o2
  refine (eqStringS_same a1 a2 c1 c2 S _ ((H1.out.below (hB _ _) (Nat.le_refl _)).mono (by simp <;> omega)) ((H2.out.below (hB _ _) (Nat.le_refl _)).mono (by simp <;> omega)) HSL.out).mono ?_
  rintro e w1 ⟨rfl, hb1⟩
  have HB1 := hide ((hB _ _).trans (hb1.mono (by simp <;> omega)))
  obtain ⟨oc, _⟩ := oldCells hb1
  simp only [Go.Deep.nblk_alloc] at oc
  have hs1 := hb1.size
  simp only [Go.Deep.nblk_alloc] at hs1
  clear hb1 hB
  go_wp2_with fail
  refine (eqPutS_same a1' a2' c1' c2' L _ ((K1.out.below HB1.out (Nat.le_refl _)).mono HB1.out.size) ((K2.out.below HB1.out (Nat.le_refl _)).mono HB1.out.size) HL.out).mono ?_
  rintro e w2 ⟨rfl, hb2⟩
  have HB2 := hide (HB1.out.trans (hb2.mono HB1.out.size))
  have oc2 : ∀ b o, b < w.heap.size + 1 + 1 → w2.cell? ⟨b, o, none⟩ = w1.cell? ⟨b, o, none⟩ := fun b o h => hb2.cell (p := ⟨b, o, none⟩) (Nat.lt_of_lt_of_le h hs1)
  clear hb2 HB1
  go_wp2_with fail
  go_ret
  exact ⟨rfl, HB2.out⟩
end Go.Proofs.Ytnbaffdonbnocaa
