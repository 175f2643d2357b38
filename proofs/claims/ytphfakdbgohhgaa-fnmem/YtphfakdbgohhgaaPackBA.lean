/-
  Texts of this proof, put together: SameE, SameK.
-/
import Derived.Test.YtphfakdbgohhgaaPackAK
import Derived.Test.YtphfakdbgohhgaaPackAB
import Derived.StillTailTactics
import Derived.Laws.StructEq
import Derived.Test.YtphfakdbgohhgaaPackAD

/-
  Contract of laws.sameEnts: what is equal is told equal.
-/
namespace Go.Proofs.Ytphfakdbgohhgaa
open Go.ChangeShapes Go.WideShapes Go.ChangeAt Go.RowKit

set_option maxHeartbeats 1000000 in
set_option maxRecDepth 40000 in
theorem sameEnts_same (a1 a2 : Option Addr) (c1 c2 : Nat) (L : List En) (w : World) (h1 : elEnt.Rd w w.heap.size a1 L) (h2 : elEnt.Rd w w.heap.size a2 L) (hl : L.length ≤ 2097152) :
    Calls Try.prog 15 #[.slice a1 L.length c1, .slice a2 L.length c2] w (BoolPost w true) := by
  have H1 := hide h1
  have H2 := hide h2
  clear h1 h2
  obtain ⟨n, hn⟩ : ∃ n, n = L.length := ⟨_, rfl⟩
  have HN := hide hn
  rw [← hn] at hl ⊢
  clear hn
  go_enter Try.func15, Try.ntmps15
  go_wp2_with fail
  go_loopw [5] (fun i wr => ∃ j : Nat, i = .int .i64 j ∧ j ≤ n ∧ Hid (Below w.heap.size w wr)) (fun i _ => n - (intOf i).toNat)
  case atStart => exact ⟨0, rfl, by omega, Below.refl _ _⟩
  case round =>
    obtain ⟨j, rfl, hj, HB⟩ := hrel
    by_cases hlt : j < n
    · have hjL : j < L.length := by rw [← HN.out]; exact hlt
      obtain ⟨b1, o1, rfl, hb1, hc1⟩ := H1.out (by omega)
      obtain ⟨b2, o2, rfl, hb2, hc2⟩ := H2.out (by omega)
      obtain ⟨f0, f1, f2, f3, hx⟩ := partsEnt L[j]
      obtain ⟨p0, p1, p2, p3⟩ := cellsEnt hx (hc1 j hjL)
      obtain ⟨q0, q1, q2, q3⟩ := cellsEnt hx (hc2 j hjL)
      have d0 := (HB.out.cell (p := ⟨b1, o1 + j * 4, none⟩) hb1).trans p0
      have d1 := (HB.out.cell (p := ⟨b1, o1 + j * 4 + 1, none⟩) hb1).trans p1
      have d2 := (HB.out.cell (p := ⟨b1, o1 + j * 4 + 2, none⟩) hb1).trans p2
      have d3 := (HB.out.cell (p := ⟨b1, o1 + j * 4 + 3, none⟩) hb1).trans p3
      have e0 := (HB.out.cell (p := ⟨b2, o2 + j * 4, none⟩) hb2).trans q0
      have e1 := (HB.out.cell (p := ⟨b2, o2 + j * 4 + 1, none⟩) hb2).trans q1
      have e2 := (HB.out.cell (p := ⟨b2, o2 + j * 4 + 2, none⟩) hb2).trans q2
      have e3 := (HB.out.cell (p := ⟨b2, o2 + j * 4 + 3, none⟩) hb2).trans q3
      clear hc1 hc2 p0 p1 p2 p3 q0 q1 q2 q3 hjL hx
      go_wp2_with fail
      go_still_tail 8, (by kernel_rfl)
      change wpList _ _ _ _ _ wr.drew
      go_wp2_with fail
      go_roundw
      case rel => exact ⟨j + 1, by go_num, by omega, hide HB.out.drew⟩
      case measure => simp [intOf]; omega
    · go_wp2_with fail
      go_ret
      exact ⟨rfl, HB.out⟩
end Go.Proofs.Ytphfakdbgohhgaa

/-
  Contract of laws.sameMap (what is equal is told equal).
-/
namespace Go.Proofs.Ytphfakdbgohhgaa
open Go.ChangeShapes Go.WideShapes Go.ChangeAt Go.RowKit

set_option maxHeartbeats 1000000 in
set_option maxRecDepth 40000 in
theorem sameMap_same (a1 a2 : Option Addr) (c1 c2 : Nat) (L : List KV) (w : World) (h1 : elKV.Rd w w.heap.size a1 L) (h2 : elKV.Rd w w.heap.size a2 L) (hl : L.length ≤ 2097152) :
    Calls Try.prog 20 #[.slice a1 L.length c1, .slice a2 L.length c2] w (BoolPost w true) := by
  have H1 := hide h1
  have H2 := hide h2
  clear h1 h2
  obtain ⟨n, hn⟩ : ∃ n, n = L.length := ⟨_, rfl⟩
  have HN := hide hn
  rw [← hn] at hl ⊢
  clear hn
  go_enter Try.func20, Try.ntmps20
  go_wp2_with fail
  go_loopw [5] (fun i wr => ∃ j : Nat, i = .int .i64 j ∧ j ≤ n ∧ Hid (Below w.heap.size w wr)) (fun i _ => n - (intOf i).toNat)
  case atStart => exact ⟨0, rfl, by omega, Below.refl _ _⟩
  case round =>
    obtain ⟨j, rfl, hj, HB⟩ := hrel
    by_cases hlt : j < n
    · have hjL : j < L.length := by rw [← HN.out]; exact hlt
      obtain ⟨b1, o1, rfl, hb1, hc1⟩ := H1.out (by omega)
      obtain ⟨b2, o2, rfl, hb2, hc2⟩ := H2.out (by omega)
      obtain ⟨f0, f1, hx⟩ := partsKV L[j]
      obtain ⟨p0, p1⟩ := cellsKV hx (hc1 j hjL)
      obtain ⟨q0, q1⟩ := cellsKV hx (hc2 j hjL)
      have d0 := (HB.out.cell (p := ⟨b1, o1 + j * 2, none⟩) hb1).trans p0
      have d1 := (HB.out.cell (p := ⟨b1, o1 + j * 2 + 1, none⟩) hb1).trans p1
      have e0 := (HB.out.cell (p := ⟨b2, o2 + j * 2, none⟩) hb2).trans q0
      have e1 := (HB.out.cell (p := ⟨b2, o2 + j * 2 + 1, none⟩) hb2).trans q1
      clear hc1 hc2 p0 p1 q0 q1 hjL hx
      go_wp2_with fail
      go_still_tail 8, (by kernel_rfl)
      change wpList _ _ _ _ _ wr.drew
      go_wp2_with fail
      go_roundw
      case rel => exact ⟨j + 1, by go_num, by omega, hide HB.out.drew⟩
      case measure => simp [intOf]; omega
    · go_wp2_with fail
      go_ret
      exact ⟨rfl, HB.out⟩

end Go.Proofs.Ytphfakdbgohhgaa
