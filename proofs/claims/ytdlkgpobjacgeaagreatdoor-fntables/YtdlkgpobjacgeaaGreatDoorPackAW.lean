/-
  Texts of this proof, put together: BlkA.
-/
import Derived.Test.YtdlkgpobjacgeaaGreatDoorPackAK
import Derived.Test.YtdlkgpobjacgeaaGreatDoorPackAN
import Derived.Test.YtdlkgpobjacgeaaGreatDoorPackAG
import Derived.Deep.DeepCutAuto
import Derived.Deep.QuietTactic
import Derived.BigQuiet

/-
  Contracts of impl.commonPrefix and spec.l11Shared.
-/
namespace Go.Proofs.YtdlkgpobjacgeaaGreatDoor
open Go.ChangeShapes Go.WideShapes Go.ChangeAt Go.RowKit

theorem below_drw {B : Nat} {a b : World} (h : Below B a b) (n : Nat) : Below B a (b.drewN n) := ⟨h.os, h.tape, h.output, h.size, h.block⟩
theorem byte_at (s : ByteArray) (j : Nat) (hj : j < s.size) : (bl s)[j]? = some (s[j]'hj) := by
  have hl : j < (bl s).length := by rw [bl_len]; exact hj
  rw [List.getElem?_eq_getElem hl]
  rfl
theorem take_more {a b : ByteArray} {j : Nat} (h : (bl a).take j = (bl b).take j) (ha : j < a.size) (hb : j < b.size) (he : a[j] = b[j]) : (bl a).take (j + 1) = (bl b).take (j + 1) := by
  rw [List.take_add_one, List.take_add_one, h, byte_at a j ha, byte_at b j hb, he]
theorem byte_ne {x y : UInt8} (h : x ≠ y) : ((x.toNat : Int) == (y.toNat : Int)) = false := by
  rw [beq_eq_false_iff_ne]
  intro e
  exact h (UInt8.toNat_inj.1 (by omega))
theorem byte_eq {x y : UInt8} (h : x = y) : ((x.toNat : Int) == (y.toNat : Int)) = true := by
  rw [h, beq_self_eq_true]
set_option maxHeartbeats 1000000 in
theorem l11Shared_any (a b : ByteArray) (ha : a.size ≤ 1048576) (hb : b.size ≤ 1048576) (w : World) :
    Calls Tryz.prog 95 #[.string a, .string b] w (IntPost w ((comL (bl a) (bl b) : Nat) : Int)) := by
  obtain ⟨V, hV⟩ : ∃ V, V = comL (bl a) (bl b) := ⟨_, rfl⟩
  have HV := hide (fun n h1 h2 h3 h4 => hV.trans (comL_at (bl a) (bl b) n h1 h2 h3 h4))
  rw [← hV]
  clear hV
  go_enter Tryz.func95, Tryz.ntmps95
  go_wp2_with fail
  go_loopw [5] (fun n wr => ∃ j : Nat, n = .int .i64 j ∧ j ≤ a.size ∧ j ≤ b.size ∧ Hid ((bl a).take j = (bl b).take j) ∧ Hid (Below w.heap.size w wr)) (fun n _ => a.size - (intOf n).toNat)
  case atStart => exact ⟨0, rfl, by omega, by omega, by simp [Hid], hide (Below.refl _ _)⟩
  case round =>
    obtain ⟨j, rfl, hja, hjb, HT, HB⟩ := hrel
    by_cases h1 : j < a.size
    · by_cases h2 : j < b.size
      · by_cases h3 : a[j] = b[j]
        · have he := byte_eq h3
          have HT2 := hide (take_more HT.out h1 h2 h3)
          clear h3
          go_wp2_with fail
          go_quiet (fail)
          all_goals go_wp2_with fail
          all_goals go_roundw
          all_goals first
            | (simp [intOf]; omega)
            | exact ⟨j + 1, by go_num, by omega, by omega, HT2, hide (below_drw HB.out _)⟩
        · have he := byte_ne h3
          have HV2 := hide (HV.out j (by rw [bl_len]; omega) (by rw [bl_len]; omega) HT.out (.inr (.inr (by rw [byte_at a j h1, byte_at b j h2]; intro e; exact h3 (Option.some.inj e)))))
          clear h3
          go_wp2_with fail
          go_quiet (fail)
          all_goals go_wp2_with fail
          all_goals go_ret
          all_goals exact ⟨by rw [HV2.out]; rfl, (below_drw HB.out _)⟩
      · have HV2 := hide (HV.out j (by rw [bl_len]; omega) (by rw [bl_len]; omega) HT.out (.inr (.inl (by rw [bl_len]; omega))))
        go_wp2_with fail
        go_quiet (fail)
        all_goals go_wp2_with fail
        all_goals go_ret
        all_goals exact ⟨by rw [HV2.out]; rfl, (below_drw HB.out _)⟩
    · have HV2 := hide (HV.out j (by rw [bl_len]; omega) (by rw [bl_len]; omega) HT.out (.inl (by rw [bl_len]; omega)))
      go_wp2_with fail
      go_quiet (fail)
      all_goals go_wp2_with fail
      all_goals go_ret
      all_goals exact ⟨by rw [HV2.out]; rfl, (below_drw HB.out _)⟩
set_option maxHeartbeats 1000000 in
theorem commonPrefix_any (a b : ByteArray) (ha : a.size ≤ 1048576) (w : World) :
    Calls Tryz.prog 115 #[.string a, .string b] w (IntPost w ((comL (bl a) (bl b) : Nat) : Int)) := by
  obtain ⟨V, hV⟩ : ∃ V, V = comL (bl a) (bl b) := ⟨_, rfl⟩
  have HV := hide (fun n h1 h2 h3 h4 => hV.trans (comL_at (bl a) (bl b) n h1 h2 h3 h4))
  rw [← hV]
  clear hV
  obtain ⟨m, hm⟩ : ∃ m, m = min a.size b.size := ⟨_, rfl⟩
  have HM := hide hm
  have hmn : min (a.size : Int) (b.size : Int) = (m : Int) := by omega
  have hma : m ≤ a.size := by omega
  have hmb : m ≤ b.size := by omega
  clear hm
  go_enter Tryz.func115, Tryz.ntmps115
  go_wp2_with fail
  go_loopw [5] (fun n wr => ∃ j : Nat, n = .int .i64 j ∧ j ≤ m ∧ Hid ((bl a).take j = (bl b).take j) ∧ Hid (Below w.heap.size w wr)) (fun n _ => m - (intOf n).toNat)
  case atStart => exact ⟨0, rfl, by omega, by simp [Hid], hide (Below.refl _ _)⟩
  case round =>
    obtain ⟨j, rfl, hjm, HT, HB⟩ := hrel
    go_upto_region 2 with (fail)
    go_cut [21] from 6 to 23 (fun t wc => ∃ q : Bool, t = .bool q ∧ Hid (Below w.heap.size w wc) ∧ Hid (q = true → j < m ∧ (bl a).take (j + 1) = (bl b).take (j + 1)) ∧ Hid (q = false → V = j))
    case first =>
      by_cases hab : a.size ≤ b.size
      · have hmm : m = a.size := by have := HM.out; omega
        by_cases h1 : j < m
        · have i1 : j < a.size := by omega
          have i2 : j < b.size := by omega
          by_cases h3 : a[j] = b[j]
          · have he := byte_eq h3
            have HT2 := hide (take_more HT.out i1 i2 h3)
            clear h3
            go_region
            all_goals go_wp2_with fail
            all_goals go_meet
            all_goals exact ⟨true, by simp [*], hide (HB.out.drew), hide (fun _ => ⟨h1, HT2.out⟩), hide (fun h => by cases h)⟩
          · have he := byte_ne h3
            have HV2 := hide (HV.out j (by rw [bl_len]; omega) (by rw [bl_len]; omega) HT.out (.inr (.inr (by rw [byte_at a j i1, byte_at b j i2]; intro e; exact h3 (Option.some.inj e)))))
            clear h3
            go_region
            all_goals go_wp2_with fail
            all_goals go_meet
            all_goals exact ⟨false, by simp [*], hide (HB.out.drew), hide (fun h => by cases h), hide (fun _ => HV2.out)⟩
        · have HV2 := hide (HV.out j (by rw [bl_len]; omega) (by rw [bl_len]; omega) HT.out (.inl (by rw [bl_len]; omega)))
          have hbs : (b.size < a.size) = False := eq_false (by omega)
          have hd : decide (j < a.size) = false := decide_eq_false (by omega)
          clear h1
          go_region
          all_goals go_wp2_with fail
          all_goals go_meet
          all_goals exact ⟨false, by simp [*], hide (HB.out.drew), hide (fun h => by cases h), hide (fun _ => HV2.out)⟩
      · have hmm : m = b.size := by have := HM.out; omega
        by_cases h1 : j < m
        · have i1 : j < a.size := by omega
          have i2 : j < b.size := by omega
          by_cases h3 : a[j] = b[j]
          · have he := byte_eq h3
            have HT2 := hide (take_more HT.out i1 i2 h3)
            clear h3
            go_region
            all_goals go_wp2_with fail
            all_goals go_meet
            all_goals exact ⟨true, by simp [*], hide (HB.out.drew), hide (fun _ => ⟨h1, HT2.out⟩), hide (fun h => by cases h)⟩
          · have he := byte_ne h3
            have HV2 := hide (HV.out j (by rw [bl_len]; omega) (by rw [bl_len]; omega) HT.out (.inr (.inr (by rw [byte_at a j i1, byte_at b j i2]; intro e; exact h3 (Option.some.inj e)))))
            clear h3
            go_region
            all_goals go_wp2_with fail
            all_goals go_meet
            all_goals exact ⟨false, by simp [*], hide (HB.out.drew), hide (fun h => by cases h), hide (fun _ => HV2.out)⟩
        · have HV2 := hide (HV.out j (by rw [bl_len]; omega) (by rw [bl_len]; omega) HT.out (.inr (.inl (by rw [bl_len]; omega))))
          have hbs : (b.size < a.size) = True := eq_true (by omega)
          have hd : decide (j < b.size) = false := decide_eq_false (by omega)
          clear h1
          go_region
          all_goals go_wp2_with fail
          all_goals go_meet
          all_goals exact ⟨false, by simp [*], hide (HB.out.drew), hide (fun h => by cases h), hide (fun _ => HV2.out)⟩
    case rest =>
    obtain ⟨q, rfl, HB2, HY, HN⟩ := hcut
    cases q with
    | true =>
      obtain ⟨h1, h2⟩ := HY.out rfl
      have HT2 := hide h2
      clear h2
      go_wp2_with fail
      go_roundw
      case rel => exact ⟨j + 1, by go_num, by omega, HT2, HB2⟩
      case measure => simp [intOf]; omega
    | false =>
      have HV2 := hide (HN.out rfl)
      go_wp2_with fail
      go_ret
      exact ⟨by rw [HV2.out]; rfl, HB2.out⟩
end Go.Proofs.YtdlkgpobjacgeaaGreatDoor
