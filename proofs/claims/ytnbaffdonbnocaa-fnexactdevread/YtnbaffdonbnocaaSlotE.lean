/-
  Contracts of laws.eqPut, eqPutS: what is equal is told equal.
-/
import Derived.Test.YtnbaffdonbnocaaOwnS
import Derived.StillTailTactics
namespace Go.Proofs.Ytnbaffdonbnocaa
open Go.ChangeShapes Go.WideShapes Go.ChangeAt Go.RowKit

def TruePost (w : World) (e : Ending) (w' : World) : Prop := e = .returned (.bool true) ∧ Below w.heap.size w w'

theorem eqPut_same (t : Int) (k : ByteArray) (w : World) :
    Calls Try.prog 60 #[.agg #[.int .i64 t, .string k], .agg #[.int .i64 t, .string k]] w (TruePost w) := by
  go_enter Try.func60, Try.ntmps60
  go_wp2
  go_ret
  exact ⟨rfl, ((Below.refl _ _).alloc (Nat.le_refl _) _).alloc (by simp) _⟩

theorem eqPutS_same (a1 a2 : Option Addr) (c1 c2 : Nat) (L : List Slot) (w : World) (h1 : SlotRd w w.heap.size a1 L) (h2 : SlotRd w w.heap.size a2 L) (hl : L.length ≤ 2097152) :
    Calls Try.prog 46 #[.slice a1 L.length c1, .slice a2 L.length c2] w (TruePost w) := by
  have H1 := hide h1
  have H2 := hide h2
  clear h1 h2
  obtain ⟨n, hn⟩ : ∃ n, n = L.length := ⟨_, rfl⟩
  have HN := hide hn
  rw [← hn] at hl
  rw [← hn]
  clear hn
  go_enter Try.func46, Try.ntmps46
  go_wp2_with fail
  go_loopw [5] (fun i wr => ∃ j : Nat, i = .int .i64 j ∧ j ≤ n ∧ Hid (Below w.heap.size w wr)) (fun i _ => n - (intOf i).toNat)
  case atStart => exact ⟨0, rfl, by omega, Below.refl _ _⟩
  case round =>
    obtain ⟨j, rfl, hj, HB⟩ := hrel
    by_cases hlt : j < n
    · have hjL : j < L.length := by rw [← HN.out]; exact hlt
      obtain ⟨b1, o1, rfl, hb1, hc1⟩ := H1.out (by omega)
      obtain ⟨b2, o2, rfl, hb2, hc2⟩ := H2.out (by omega)
      obtain ⟨p0, p1⟩ := hc1 j hjL
      obtain ⟨q0, q1⟩ := hc2 j hjL
      have d0 := (HB.out.cell (p := ⟨b1, o1 + j * 2, none⟩) hb1).trans p0
      have d1 := (HB.out.cell (p := ⟨b1, o1 + j * 2 + 1, none⟩) hb1).trans p1
      have e0 := (HB.out.cell (p := ⟨b2, o2 + j * 2, none⟩) hb2).trans q0
      have e1 := (HB.out.cell (p := ⟨b2, o2 + j * 2 + 1, none⟩) hb2).trans q1
      clear hc1 hc2 p0 p1 q0 q1 hjL
      go_wp2_with fail
      go_still_tail 8, (by kernel_rfl)
      change wpList _ _ _ _ _ wr.drew
      go_wp2_with fail
      refine (eqPut_same (tn L j) (ky L j) _).mono ?_
      rintro e w1 ⟨rfl, hb⟩
      have HB1 := hide (HB.out.drew.trans (hb.mono HB.out.size))
      clear hb HB d0 d1 e0 e1
      go_wp2_with fail
      go_roundw
      case rel => exact ⟨j + 1, by go_num, by omega, HB1⟩
      case measure => simp [intOf]; omega
    · go_wp2_with fail
      go_ret
      exact ⟨rfl, HB.out⟩

end Go.Proofs.Ytnbaffdonbnocaa
