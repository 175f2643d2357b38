/-
  Contracts of laws.eqKV and of its rows. (Written by mkrow.py.)
-/
import Derived.Test.YtphfakdbgohhgaaRowKV
namespace Go.Proofs.Ytphfakdbgohhgaa
open Go.ChangeShapes Go.WideShapes Go.ChangeAt Go.RowKit

theorem eqKV_same (f0 : ByteArray) (f1 : ByteArray) (w : World) :
    Calls Try.prog 44 #[.agg #[.string f0, .string f1], .agg #[.string f0, .string f1]] w (TruePost w) := by
  go_enter Try.func44, Try.ntmps44
  go_wp2
  go_ret
  exact ⟨rfl, ((Below.refl _ _).alloc (Nat.le_refl _) _).alloc (by simp) _⟩

set_option maxRecDepth 40000 in
theorem eqKVS_same (a1 a2 : Option Addr) (c1 c2 : Nat) (L : List KVE) (w : World) (h1 : elKV.Rd w w.heap.size a1 L) (h2 : elKV.Rd w w.heap.size a2 L) (hl : L.length ≤ 2097152) :
    Calls Try.prog 26 #[.slice a1 L.length c1, .slice a2 L.length c2] w (TruePost w) := by
  have H1 := hide h1
  have H2 := hide h2
  clear h1 h2
  obtain ⟨n, hn⟩ : ∃ n, n = L.length := ⟨_, rfl⟩
  have HN := hide hn
  rw [← hn] at hl
  rw [← hn]
  clear hn
  go_enter Try.func26, Try.ntmps26
  go_wp2_with fail
  go_loopw [5] (fun i wr => ∃ j : Nat, i = .int .i64 j ∧ j ≤ n ∧ Hid (Below w.heap.size w wr)) (fun i _ => n - (intOf i).toNat)
  case atStart => exact ⟨0, rfl, by omega, Below.refl _ _⟩
  case round =>
    obtain ⟨j, rfl, hj, HB⟩ := hrel
    by_cases hlt : j < n
    · have hjL : j < L.length := by rw [← HN.out]; exact hlt
      obtain ⟨b1, o1, rfl, hb1, hc1⟩ := H1.out (by omega)
      obtain ⟨b2, o2, rfl, hb2, hc2⟩ := H2.out (by omega)
      obtain ⟨f0, f1, hx⟩ := partsKV L[j]
      obtain ⟨p0, p1⟩ := cellsKV hx (hc1 j hjL)
      obtain ⟨q0, q1⟩ := cellsKV hx (hc2 j hjL)
      have d0 := (HB.out.cell (p := ⟨b1, o1 + j * 2, none⟩) hb1).trans p0
      have d1 := (HB.out.cell (p := ⟨b1, o1 + j * 2 + 1, none⟩) hb1).trans p1
      have e0 := (HB.out.cell (p := ⟨b2, o2 + j * 2, none⟩) hb2).trans q0
      have e1 := (HB.out.cell (p := ⟨b2, o2 + j * 2 + 1, none⟩) hb2).trans q1
      clear hc1 hc2 p0 q0 p1 q1 hjL hx
      go_wp2_with fail
      go_still_tail 8, (by kernel_rfl)
      change wpList _ _ _ _ _ wr.drew
      go_wp2_with fail
      refine (eqKV_same f0 f1 _).mono ?_
      rintro e w1 ⟨rfl, hb⟩
      have HB1 := hide (HB.out.drew.trans (hb.mono HB.out.size))
      clear hb HB d0 e0 d1 e1
      go_wp2_with fail
      go_roundw
      case rel => exact ⟨j + 1, by go_num, by omega, HB1⟩
      case measure => simp [intOf]; omega
    · go_wp2_with fail
      go_ret
      exact ⟨rfl, HB.out⟩
end Go.Proofs.Ytphfakdbgohhgaa
