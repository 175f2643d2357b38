/-
  Texts of this proof, put together: BlmT, MayT.
-/
import Derived.Test.YtdlkgpobjacgeaaGreatDoorPackBE
import Derived.Test.YtdlkgpobjacgeaaGreatDoorPackAK
import Derived.Test.YtdlkgpobjacgeaaGreatDoorPackAN
import Derived.Deep.QuietTactic
import Derived.BigQuiet

/-
  Contract of spec.BloomMay.
-/
namespace Go.Proofs.YtdlkgpobjacgeaaGreatDoor
open Go.ChangeShapes Go.WideShapes Go.ChangeAt Go.RowKit

theorem below_drewN {B nq : Nat} {w w' : World} (h : Below B w w') : Below B w (w'.drewN nq) := ⟨h.os, h.tape, h.output, h.size, h.block⟩
end Go.Proofs.YtdlkgpobjacgeaaGreatDoor

/-
  Split off BlmT: sMay_any.
-/
namespace Go.Proofs.YtdlkgpobjacgeaaGreatDoor
open Go.ChangeShapes Go.WideShapes Go.ChangeAt Go.RowKit

set_option maxHeartbeats 1000000 in
theorem sMay_any (b key : ByteArray) (w : World) (hb : b.size ≤ maxLen) (hk : key.size ≤ 1048576) :
    Calls Tryz.prog 52 #[.string b, .string key] w (BoolPost w (mayV (bl b) (bl key))) := by
  obtain ⟨V, hV⟩ : ∃ V, V = mayV (bl b) (bl key) := ⟨_, rfl⟩
  have HV := hide hV
  rw [← hV]
  clear hV
  by_cases hin : 1 ≤ b.size ∧ b.size ≤ 64
  · obtain ⟨h1, h2⟩ := hin
    obtain ⟨n, hn⟩ : ∃ n, 8 * b.size = n := ⟨_, rfl⟩
    have HB3 := hide (fun W => l10Bits_any key b.size n W hk h1 h2 hn)
    have HN := hide hn
    have hn' : Hid (8 * b.size = n) := hn
    clear hn
    go_enter Tryz.func52, Tryz.ntmps52
    go_wp2_with fail
    refine (in_yes _ _ _ _ (by omega) (by omega)).mono ?_
    rintro e w1 ⟨rfl, rfl⟩
    go_wp2_with fail
    refine (HB3.out _).mono ?_
    rintro e w1 ⟨g, rfl, hg0, hg1, hcell, hb1⟩
    have HC := hide hcell
    have HB1 := hide hb1
    clear hcell hb1
    go_wp2_with fail
    go_loopw [6] (fun i wr => ∃ j : Nat, i = .int .i64 j ∧ j ≤ 3 ∧ Hid (∀ i, i < j → bitOn (bl b) (kbit (bl key) n i) = true) ∧ Hid (Below w1.heap.size w1 wr)) (fun i _ => 3 - (intOf i).toNat)
    case atStart => exact ⟨0, rfl, by omega, fun i hi => by omega, Below.refl _ _⟩
    case round =>
      obtain ⟨j, rfl, hj, HA, HB⟩ := hrel
      by_cases hlt : j < 3
      · have c0 := (HB.out.cell (p := ⟨g, j, none⟩) hg1).trans (HC.out j hlt)
        obtain ⟨q, hq⟩ : ∃ q, q = kbit (bl key) n j := ⟨_, rfl⟩
        have hqn : q < n := by rw [hq]; exact kbit_lt _ _ _ (by rw [← HN.out]; omega)
        rw [← hq] at c0
        have HQ := hide hq
        clear hq
        have hn := HN.out
        obtain ⟨p, hp⟩ : ∃ p, p = q / 8 := ⟨_, rfl⟩
        obtain ⟨r, hr⟩ : ∃ r, r = q % 8 := ⟨_, rfl⟩
        have hpb : p < b.size := by omega
        have hr8 : r < 8 := by omega
        have e1 : IntKind.i64.wrap ((q : Int) / 8) = (p : Int) := by rw [IntKind.wrap_i64]; omega
        have e2 : (q : Int).tmod 8 = (r : Int) := by rw [Int.tmod_eq_emod_of_nonneg (by omega)]; omega
        have e3 : IntKind.u64.wrap (r : Int) = (r : Int) := by simp [IntKind.wrap, IntKind.bits, IntKind.signed]; omega
        have bs : (b[p]'hpb).toNat < 256 := (b[p]'hpb).toNat_lt
        have e4 : IntKind.i64.wrap ((b[p]'hpb).toNat : Int) = ((b[p]'hpb).toNat : Int) := by rw [IntKind.wrap_i64]; omega
        have e5 := bit_i64 (b[p]'hpb).toNat r bs
        have HBit := hide (show bitOn (bl b) q = (b[p]'hpb).toNat.testBit r by
          have hl : q / 8 < (bl b).length := by rw [bl_len]; omega
          rw [bitOn_at hl, ← hr]
          congr 2
          rw [bl_at b (q / 8) (by omega) hl]
          congr 1
          exact hp.symm)
        have Hp := hide hp
        have Hr := hide hr
        have i1 : (p : Int) < (b.size : Int) := by omega
        clear hp hr hn HN
        cases ht : (b[p]'hpb).toNat.testBit r with
        | false =>
          rw [ht] at e5 HBit
          have HVn := hide (show V = false by
            rw [HV.out]
            refine decide_eq_false fun h => ?_
            have := h.2.2 j hlt
            rw [bl_len, hn'.out, ← HQ.out, HBit.out] at this
            cases this)
          clear ht
          go_wp2_with fail
          go_quiet (fail)
          go_wp2_with fail
          go_ret
          exact ⟨by rw [HVn.out]; rfl, HB1.out.trans (below_drewN (HB.out.mono HB1.out.size))⟩
        | true =>
          rw [ht] at e5 HBit
          clear ht
          go_wp2_with fail
          go_quiet (fail)
          go_wp2_with fail
          go_roundw
          case rel => exact ⟨j + 1, by go_num, by omega, fun i hi => by
            rcases Nat.lt_or_ge i j with h | h
            · exact HA.out i h
            · rw [show i = j by omega, ← HQ.out]; exact HBit.out, below_drewN HB.out⟩
          case measure => simp [intOf]; omega
      · have HVy := hide (show V = true by
          rw [HV.out]
          refine decide_eq_true ⟨by rw [bl_len]; exact h1, by rw [bl_len]; exact h2, fun i hi => ?_⟩
          rw [bl_len, hn'.out]
          exact HA.out i (by omega))
        go_wp2_with fail
        go_ret
        exact ⟨by rw [HVy.out]; rfl, HB1.out.trans (HB.out.mono HB1.out.size)⟩
  · have HVn := hide (show V = false by
      rw [HV.out]
      refine decide_eq_false fun h => hin ?_
      rw [bl_len] at h
      exact ⟨h.1, h.2.1⟩)
    unfold maxLen at hb
    go_enter Tryz.func52, Tryz.ntmps52
    go_wp2_with fail
    refine (in_no _ _ _ _ (by omega)).mono ?_
    rintro e w1 ⟨rfl, rfl⟩
    go_wp2_with fail
    go_ret
    exact ⟨by rw [HVn.out]; rfl, Below.refl _ _⟩
end Go.Proofs.YtdlkgpobjacgeaaGreatDoor
