/-
  Texts of this proof, put together: BlkD.
-/
import Derived.Test.YtdlkgpobjacgeaaGreatDoorPackBJ
import Derived.Test.YtdlkgpobjacgeaaGreatDoorPackAC
import Derived.Test.YtdlkgpobjacgeaaGreatDoorPackAM
import Derived.Test.YtdlkgpobjacgeaaGreatDoorPackAH

/-
  Contracts of impl.entriesOf and claimedEnts.
-/
namespace Go.Proofs.YtdlkgpobjacgeaaGreatDoor
open Go.ChangeShapes Go.WideShapes Go.ChangeAt Go.RowKit

set_option maxHeartbeats 1000000 in
set_option maxRecDepth 20000 in
theorem entriesOf_any (s : ByteArray) (hm : s.size ≤ 1048576) (w : World) :
    Calls Tryz.prog 90 #[.string s] w (StrPost w ((bl s).take (endK (bl s)))) := by
  by_cases h2 : s.size < 2
  · have HV := hide (show (bl s).take (endK (bl s)) = [] by rw [endK, if_pos (by rw [bl_len]; exact h2), List.take_zero])
    obtain ⟨V, hV⟩ : ∃ V, V = (bl s).take (endK (bl s)) := ⟨_, rfl⟩
    rw [← hV] at HV ⊢
    clear hV
    have hex : s.extract 0 s.size = s := by rw [ext_take, List.take_of_length_le (by rw [bl_len]; exact Nat.le_refl _)]; exact str_of s
    have hx0 : s.extract 0 0 = ⟨#[]⟩ := ext_take s 0
    have HC := hide (fun W => iReadFixed_no s 2 W (fun h => by have := h.2.2; omega))
    have hmax : ¬ (0 : Int) < (s.size : Int) - 2 := by omega
    have hmn : ¬ (s.size : Int) < 0 := by omega
    go_enter Tryz.func90, Tryz.ntmps90
    go_wp2_with fail
    refine (HC.out _).mono ?_
    rintro e w1 ⟨rfl, rfl⟩
    go_wp2_with fail
    go_ret
    exact ⟨by rw [HV.out]; rfl, Below.refl _ _⟩
  · obtain ⟨m, hm2⟩ : ∃ m, s.size = m + 2 := ⟨s.size - 2, by omega⟩
    obtain ⟨s1, hs1⟩ : ∃ s1 : ByteArray, s1 = ⟨((bl s).drop m).toArray⟩ := ⟨_, rfl⟩
    have hex : s.extract m s.size = s1 := by rw [hs1]; exact ext_drop s m
    have l1 : s1.size = 2 := by rw [hs1, size_of, List.length_drop, bl_len]; omega
    have HC := hide (fun W => iReadFixed_yes s1 2 W (by omega) (by omega) (by omega) (by unfold maxLen; omega))
    have hbe : be (s1.data.toList.take 2) = be (((bl s).drop ((bl s).length - 2)).take 2) := by
      rw [hs1, bl_len, hm2, Nat.add_sub_cancel]
    rw [hbe] at HC
    have hbd := be_bd6 ((bl s).drop ((bl s).length - 2)) 2 (by omega)
    obtain ⟨q, hq⟩ : ∃ q : Nat, be (((bl s).drop ((bl s).length - 2)).take 2) = (q : Int) := ⟨(be (((bl s).drop ((bl s).length - 2)).take 2)).toNat, by omega⟩
    have hE : endK (bl s) = q := by
      rw [endK, if_neg (by rw [bl_len]; omega), hq, Int.toNat_natCast]
    rw [hq] at HC hbd
    rw [hE]
    obtain ⟨T, hT⟩ : ∃ T, T = (bl s).take q := ⟨_, rfl⟩
    obtain ⟨y, hy, hT2, hmin⟩ : ∃ y : Nat, y ≤ s.size ∧ s.extract 0 y = ⟨T.toArray⟩ ∧ (if s.size < q then (s.size : Int) else (q : Int)) = (y : Int) := by
      by_cases h : s.size < q
      · refine ⟨s.size, Nat.le_refl _, ?_, if_pos h⟩
        rw [ext_take, hT, List.take_of_length_le (by rw [bl_len]; exact Nat.le_refl _), List.take_of_length_le (by rw [bl_len]; omega)]
      · refine ⟨q, by omega, ?_, if_neg h⟩
        rw [ext_take, hT]
    rw [← hT]
    have i1 : (y : Int) ≤ (s.size : Int) := by omega
    have i2 : (m : Int) ≤ (s.size : Int) := by omega
    have hsub : (s.size : Int) - 2 = (m : Int) := by omega
    have hmax : (if 0 < m then (m : Int) else 0) = (m : Int) := by split <;> omega
    clear hT hE hq hbe hbd hs1 hm2 h2
    go_enter Tryz.func90, Tryz.ntmps90
    go_wp2_with fail
    refine (HC.out _).mono ?_
    rintro e w1 ⟨rfl, rfl⟩
    go_wp2_with fail
    go_ret
    exact ⟨rfl, Below.refl _ _⟩

def lenV : Value → Nat
  | .slice _ n _ => n
  | _ => 0
theorem cutE_len (last l : List UInt8) : (bl (cutE last l).1).length + (cutF l).length ≤ last.length + l.length := by
  have h0 : bl (cutE last l).1 = last.take (cutVn l) ++ cutT (cutVr l) := bl_of _
  have h1 := cutTR_le (cutVr l)
  have h2 := cutVr_le l
  have h3 := cutVr_le (cutR (cutVr l))
  have h4 := cutR_le ((cutVr (cutR (cutVr l))).drop 1)
  rw [List.length_drop] at h4
  rw [h0, List.length_append, List.length_take]
  unfold cutF
  omega
set_option maxHeartbeats 2000000 in
set_option maxRecDepth 20000 in
theorem claimedEnts_any (s : ByteArray) (hm : s.size ≤ 1048576) (w : World) :
    Calls Tryz.prog 89 #[.string s] w (EntsPost w (claimN 16 [] (bl s))) := by
  obtain ⟨X, hX⟩ : ∃ X, X = claimN 16 [] (bl s) := ⟨_, rfl⟩
  have HX := hide hX
  rw [← hX]
  clear hX
  go_enter Tryz.func89, Tryz.ntmps89
  go_wp2_with fail
  go_loopw [0, 3, 4] (fun z o t wr => ∃ (j : Nat) (t0 k : ByteArray) (a' : Option Addr) (c' : Nat) (pre : List En), z = .string t0 ∧ o = .slice a' j c' ∧ t = .string k ∧ j ≤ 16 ∧ k.size + t0.size ≤ 1048576 ∧ pre.length = j ∧ Hid (X = pre ++ claimN (16 - j) (bl k) (bl t0)) ∧ Hid (elEnt.Owns w.heap.size wr (.slice a' j c') pre) ∧ Hid (Below w.heap.size w wr)) (fun _ o _ _ => 16 - lenV o)
  case atStart => exact ⟨0, s, ⟨#[]⟩, none, 0, [], rfl, rfl, rfl, by omega, by rw [show (⟨#[]⟩ : ByteArray).size = 0 from rfl]; omega, rfl, HX, El.Owns.nil _ _, hide (Below.refl _ _)⟩
  case round =>
    obtain ⟨j, t, k, a', c', pre, rfl, rfl, rfl, hj, hkt, hpre, HXR, HO, HB⟩ := hrel
    have hs := HB.out.size
    by_cases h0 : bl t = []
    · have hse : t.toList.isEmpty = true := by rw [ByteArray.toList_eq, List.isEmpty_iff]; exact h0
      have HX2 := hide (show X = pre by rw [HXR.out, h0, claimN_nil, List.append_nil])
      clear h0 HXR
      go_wp2_with fail
      go_ret
      exact ⟨_, rfl, by rw [HX2.out]; exact HO.out, HB.out⟩
    have hse : t.toList.isEmpty = false := by rw [ByteArray.toList_eq, List.isEmpty_eq_false_iff]; exact h0
    by_cases hlt : j < 16
    · obtain ⟨r, hr⟩ : ∃ r, 16 - j = r + 1 := ⟨16 - j - 1, by omega⟩
      have HC := hide (fun W => cutEnt_any t k hkt W)
      unfold CutEPost at HC
      rw [hr] at HXR
      have hcl := cutE_len (bl k) (bl t)
      rw [bl_len k, bl_len t] at hcl
      have HX2 := hide (show X = (pre ++ [cutE (bl k) (bl t)]) ++ claimN (16 - (j + 1)) (bl (cutE (bl k) (bl t)).1) (cutF (bl t)) by
        rw [HXR.out, show 16 - (j + 1) = r by omega, claimN_more r _ h0]
        simp)
      obtain ⟨S1, hS1⟩ : ∃ S1, S1 = cutF (bl t) := ⟨_, rfl⟩
      obtain ⟨⟨f0, f1, f2, f3⟩, hO1⟩ : ∃ O1, O1 = cutE (bl k) (bl t) := ⟨_, rfl⟩
      rw [← hS1, ← hO1] at HC HX2
      rw [← hS1, ← hO1] at hcl
      simp only at hcl
      rw [bl_len f0] at hcl
      clear hS1 hO1 HXR h0
      go_wp2_with fail
      refine (HC.out _).mono ?_
      rintro e w2 ⟨rfl, hb2⟩
      have HBx := hide ((BoxV.new 30 wr #[.string ⟨#[]⟩, .int .i64 0, .bool false, .string ⟨#[]⟩]).below hb2 (by simp))
      have HB2 := hide ((HB.out.alloc hs _).trans (hb2.mono (by simp; omega)))
      have HO2 := hide ((HO.out.alloc (.cells #[.string ⟨#[]⟩, .int .i64 0, .bool false, .string ⟨#[]⟩] 30)).below hb2 (Nat.le_refl _))
      clear hb2
      obtain ⟨c0, c1, c2, c3⟩ := HBx.out.four'
      obtain ⟨z0, z1, z2, z3⟩ := HBx.out.froz4
      have hlt2 := HBx.out.lt
      have hne : ∀ i, (Value.slice a' j c').ownBlock = some i → i ≠ wr.heap.size := fun i hi => by have := (HO.out.lt i hi).2; omega
      have HO3 := hide ((((HO2.out.set_ne (p := ⟨wr.heap.size, 0, none⟩) hne (.string f0)).set_ne (p := ⟨wr.heap.size, 1, none⟩) hne (.int .i64 f1)).set_ne (p := ⟨wr.heap.size, 2, none⟩) hne (.bool f2)).set_ne (p := ⟨wr.heap.size, 3, none⟩) hne (.string f3))
      have HB3 := hide (below_four HB2.out hs (.string f0) (.int .i64 f1) (.bool f2) (.string f3))
      have HBy := hide (HBx.out.all4 (.string f0) (.int .i64 f1) (.bool f2) (.string f3))
      clear hne
      go_upto_region 6 with (fail)
      obtain ⟨W3, hW3⟩ : ∃ W3, W3 = (((w2.setCell ⟨wr.heap.size, 0, none⟩ (.string f0)).setCell ⟨wr.heap.size, 1, none⟩ (.int .i64 f1)).setCell ⟨wr.heap.size, 2, none⟩ (.bool f2)).setCell ⟨wr.heap.size, 3, none⟩ (.string f3) := ⟨_, rfl⟩
      rw [← hW3] at HO3 HB3 HBy ⊢
      clear hW3 HO2 HB2 HBx c0 c1 c2 c3 z0 z1 z2 z3 hlt2
      obtain ⟨d0, d1, d2, d3⟩ := HBy.out.four'
      have hl3 := HBy.out.lt
      have HOa := hide (HO3.out.alloc (.cells #[.string f0, .int .i64 f1, .bool f2, .string f3] 30))
      have HSa : Hid (elEnt.Rd (W3.alloc (.cells #[.string f0, .int .i64 f1, .bool f2, .string f3] 30)) (W3.alloc (.cells #[.string f0, .int .i64 f1, .bool f2, .string f3] 30)).heap.size (some ⟨W3.heap.size, 0, none⟩) [(f0, f1, f2, f3)]) := El.Holds.rd (El.Holds.new (e := elEnt) W3 [(f0, f1, f2, f3)])
      have HBa := hide (HB3.out.alloc HB3.out.size (.cells #[.string f0, .int .i64 f1, .bool f2, .string f3] 30))
      have hBa : w.heap.size ≤ (W3.alloc (.cells #[.string f0, .int .i64 f1, .bool f2, .string f3] 30)).heap.size := HBa.out.size
      have hjl : (pre ++ [((f0, f1, f2, f3) : En)]).length = j + 1 := by rw [List.length_append, hpre]; rfl
      have HKeep := hide (fun (w5 : World) (h : (W3.alloc (.cells #[.string f0, .int .i64 f1, .bool f2, .string f3] 30)).grownBy w5 (Value.slice a' j c').ownBlock) => show w5.cell? ⟨wr.heap.size, 0, none⟩ = some (.string f0) from by
        have h1 : BoxV 30 w5 wr.heap.size #[.string f0, .int .i64 f1, .bool f2, .string f3] := (h.block wr.heap.size (by rw [Go.Deep.nblk_alloc]; omega) (fun e => by have := (HO.out.lt _ e.symm).2; omega)).trans (HBy.out.alloc _)
        exact h1.cell 0 _ rfl)
      go_wp2_with (at_builtin; refine El.append rfl (.tmp 19) (.tmp 21) 33 rfl Tryz.underlying33 _ _ infoEnt rfl (by decide) (by decide) w.heap.size w _ _ (some ⟨W3.heap.size, 0, none⟩) 1 1 pre [(f0, f1, f2, f3)] rfl rfl rfl (fun h => by cases h) HOa HSa (fun p hp => ⟨_, _, (Option.some.inj hp).symm⟩) HBa hBa _ (j + 1) rfl hjl (by omega) ?_; intro a5 c5 w5 HO5 HB5 HG5 hz5; have e0 := HKeep.out w5 HG5.out)
      go_wp2_with fail
      go_roundw
      case rel => exact ⟨j + 1, ⟨S1.toArray⟩, f0, a5, c5, _, rfl, rfl, rfl, by omega, by rw [size_of S1]; omega, hjl, by rw [bl_of S1]; exact HX2, HO5, HB5⟩
      case measure => simp [lenV]; omega
    · obtain rfl : j = 16 := by omega
      rw [Nat.sub_self] at HXR
      have HX2 := hide (show X = pre by rw [HXR.out, claimN, List.append_nil])
      clear HXR h0
      go_wp2_with fail
      go_ret
      exact ⟨_, rfl, by rw [HX2.out]; exact HO.out, HB.out⟩
end Go.Proofs.YtdlkgpobjacgeaaGreatDoor
