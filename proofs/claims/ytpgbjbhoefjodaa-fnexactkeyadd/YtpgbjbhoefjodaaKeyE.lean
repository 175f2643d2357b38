/-
  Contracts of laws.eqKeySlot, eqKeySlotS, eqKeyDev: what is equal is told equal.
-/
import Derived.Test.YtpgbjbhoefjodaaOwnS
import Derived.StillTailTactics
namespace Go.Proofs.Ytpgbjbhoefjodaa
open Go.ChangeShapes Go.WideShapes Go.ChangeAt Go.RowKit

def TruePost (w : World) (e : Ending) (w' : World) : Prop := e = .returned (.bool true) ∧ Below w.heap.size w w'

theorem eqKeySlot_same (t : Int) (k : ByteArray) (w : World) :
    Calls Try.prog 38 #[.agg #[.int .i64 t, .string k], .agg #[.int .i64 t, .string k]] w (TruePost w) := by
  go_enter Try.func38, Try.ntmps38
  go_wp2
  go_ret
  exact ⟨rfl, ((Below.refl _ _).alloc (Nat.le_refl _) _).alloc (by simp) _⟩

theorem eqKeySlotS_same (a1 a2 : Option Addr) (c1 c2 : Nat) (L : List Slot) (w : World) (h1 : SlotRd w w.heap.size a1 L) (h2 : SlotRd w w.heap.size a2 L) (hl : L.length ≤ 2097152) :
    Calls Try.prog 24 #[.slice a1 L.length c1, .slice a2 L.length c2] w (TruePost w) := by
  have H1 := hide h1
  have H2 := hide h2
  clear h1 h2
  obtain ⟨n, hn⟩ : ∃ n, n = L.length := ⟨_, rfl⟩
  have HN := hide hn
  rw [← hn] at hl
  rw [← hn]
  clear hn
  go_enter Try.func24, Try.ntmps24
  go_wp2_with fail
  go_loopw [5] (fun i wr => ∃ j : Nat, i = .int .i64 j ∧ j ≤ n ∧ Hid (Below w.heap.size w wr)) (fun i _ => n - (intOf i).toNat)
  case atStart => exact ⟨0, rfl, by omega, Below.refl _ _⟩
  case round =>
    obtain ⟨j, rfl, hj, HB⟩ := hrel
    by_cases hlt : j < n
    · have hjL : j < L.length := by rw [← HN.out]; exact hlt
      obtain ⟨b1, o1, rfl, hb1, hc1⟩ := H1.out (by omega)
      obtain ⟨b2, o2, rfl, hb2, hc2⟩ := H2.out (by omega)
      obtain ⟨p0, p1⟩ := hc1 j hjL
      obtain ⟨q0, q1⟩ := hc2 j hjL
      have d0 := (HB.out.cell (p := ⟨b1, o1 + j * 2, none⟩) hb1).trans p0
      have d1 := (HB.out.cell (p := ⟨b1, o1 + j * 2 + 1, none⟩) hb1).trans p1
      have e0 := (HB.out.cell (p := ⟨b2, o2 + j * 2, none⟩) hb2).trans q0
      have e1 := (HB.out.cell (p := ⟨b2, o2 + j * 2 + 1, none⟩) hb2).trans q1
      clear hc1 hc2 p0 p1 q0 q1 hjL
      go_wp2_with fail
      go_still_tail 8, (by kernel_rfl)
      change wpList _ _ _ _ _ wr.drew
      go_wp2_with fail
      refine (eqKeySlot_same (tn L j) (ky L j) _).mono ?_
      rintro e w1 ⟨rfl, hb⟩
      have HB1 := hide (HB.out.drew.trans (hb.mono HB.out.size))
      clear hb HB d0 d1 e0 e1
      go_wp2_with fail
      go_roundw
      case rel => exact ⟨j + 1, by go_num, by omega, HB1⟩
      case measure => simp [intOf]; omega
    · go_wp2_with fail
      go_ret
      exact ⟨rfl, HB.out⟩

theorem eqKeyDev_same (m : ByteArray) (a1 a2 : Option Addr) (c1 c2 : Nat) (L : List Slot) (x : Int) (w : World) (h1 : SlotRd w w.heap.size a1 L) (h2 : SlotRd w w.heap.size a2 L) (hl : L.length ≤ 2097152) :
    Calls Try.prog 11 #[.agg #[.string m, .slice a1 L.length c1, .int .i64 x], .agg #[.string m, .slice a2 L.length c2, .int .i64 x]] w (TruePost w) := by
  have H1 := hide h1
  have H2 := hide h2
  have HL := hide hl
  clear h1 h2 hl
  go_enter Try.func11, Try.ntmps11
  go_wp2_with fail
  have hB := fun o1 o2 => ((Below.refl w.heap.size w).alloc (Nat.le_refl _) o1).alloc (by simp) o2
  refine (eqKeySlotS_same a1 a2 c1 c2 L _ ((H1.out.below (hB _ _) (Nat.le_refl _)).mono (by simp <;> omega)) ((H2.out.below (hB _ _) (Nat.le_refl _)).mono (by simp <;> omega)) HL.out).mono ?_
  rintro e w1 ⟨rfl, hb1⟩
  have HB1 := hide ((hB _ _).trans (hb1.mono (by simp <;> omega)))
  obtain ⟨oc, _⟩ := oldCells hb1
  simp only [Go.Deep.nblk_alloc] at oc
  clear hb1 hB
  go_wp2_with fail
  go_ret
  exact ⟨rfl, HB1.out⟩
end Go.Proofs.Ytpgbjbhoefjodaa
