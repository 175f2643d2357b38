/-
  Texts of this proof, put together: MemF, MemP, MemG, MemH.
-/
import Derived.Test.YtphfakdbgohhgaaPackAM
import Derived.Test.YtphfakdbgohhgaaPackAP
import Derived.Test.YtphfakdbgohhgaaPackAK

/-
  Contracts of spec.l9Put, MemPut, l9Get and MemGet.
-/
namespace Go.Proofs.Ytphfakdbgohhgaa
open Go.ChangeShapes Go.WideShapes Go.ChangeAt Go.RowKit

set_option maxHeartbeats 4000000 in
set_option maxRecDepth 20000 in
theorem l9Put_any (a : Option Addr) (cap : Nat) (L : List En) (x0 : ByteArray) (x1 : Int) (x2 : Bool) (x3 : ByteArray) (w : World) (hr : elEnt.Rd w w.heap.size a L) (hl : L.length ≤ 2097152) :
    Calls Try.prog 59 #[.slice a L.length cap, .agg #[.string x0, .int .i64 x1, .bool x2, .string x3]] w (EntsPost w (insE (x0, x1, x2, x3) L)) := by
  have HR := hide hr
  obtain ⟨P, hP⟩ : ∃ P, P = posE (x0, x1, x2, x3) L := ⟨_, rfl⟩
  have HPP := hide hP
  have HPL := hide (show P ≤ L.length by rw [hP]; exact posE_le _ _)
  have HSTEP := hide (fun (j : Nat) (x : En) (h : L[j]? = some x) (hne : j ≠ P) => outP_step h (by rw [← hP]; exact hne))
  have HPUT := hide (fun (j : Nat) (x : En) (h : L[j]? = some x) (he : j = P) => outP_put h (by rw [← hP]; exact he))
  have HEND := hide (fun (h : P < L.length) => outP_end (by rw [← hP]; exact h))
  have HLAST := hide (fun (h : L.length ≤ P) => outP_last (by rw [← hP]; exact h))
  have HAP := hide (fun (j : Nat) (x : En) (h : L[j]? = some x) (hj : j ≤ P) => ahead_pos h (by rw [← hP]; exact hj))
  have HZ := hide (outP_zero (x0, x1, x2, x3) L)
  have HLEN := hide (outP_len (x0, x1, x2, x3) L)
  obtain ⟨O, hO⟩ : ∃ O, O = outP (x0, x1, x2, x3) L := ⟨_, rfl⟩
  obtain ⟨M, hM⟩ : ∃ M, M = insE (x0, x1, x2, x3) L := ⟨_, rfl⟩
  rw [← hO] at HSTEP HPUT HEND HLAST HZ HLEN
  rw [← hM] at HEND HLAST
  rw [← hP] at HAP
  rw [← hM]
  obtain ⟨n, hn⟩ : ∃ n, n = L.length := ⟨_, rfl⟩
  have HN := hide hn
  rw [← hn] at hl HPL HEND HLAST ⊢
  have hPn := HPL.out
  have HX0 := hide (BoxV.new 26 w #[.string x0, .int .i64 x1, .bool x2, .string x3])
  have HOL := hide (show elEnt.Owns (w.heap.size + 1) ((w.alloc (.cells #[.string x0, .int .i64 x1, .bool x2, .string x3] 26)).alloc (.cells #[] 26)) (.slice (some ⟨w.heap.size + 1, 0, none⟩) 0 0) [] from by
    have h := El.Owns.lit (e := elEnt) (w.heap.size + 1) (w.alloc (.cells #[.string x0, .int .i64 x1, .bool x2, .string x3] 26)) [] #[] 0 rfl rfl (by simp) (by simp [maxLen])
    rwa [Go.Deep.nblk_alloc] at h)
  have HX1 := hide (HX0.out.alloc (.cells #[] 26))
  have HB0 := hide (((Below.refl w.heap.size w).alloc (Nat.le_refl _) (.cells #[.string x0, .int .i64 x1, .bool x2, .string x3] 26)).alloc (by simp) (.cells #[] 26))
  have HZ0 := hide (show ((w.alloc (.cells #[.string x0, .int .i64 x1, .bool x2, .string x3] 26)).alloc (.cells #[] 26)).heap.size = w.heap.size + 1 + 1 by simp)
  clear hr hP hO hM hn
  go_enter Try.func59, Try.ntmps59
  go_wp2_with fail
  obtain ⟨W, hW⟩ : ∃ W, W = (w.alloc (.cells #[.string x0, .int .i64 x1, .bool x2, .string x3] 26)).alloc (.cells #[] 26) := ⟨_, rfl⟩
  rw [← hW] at HOL HX1 HB0 HZ0 ⊢
  clear hW HX0
  go_loopw [5, 6, 7] (fun o u i wr => ∃ (j y : Nat) (a5 : Option Addr) (c5 : Nat), o = .slice a5 y c5 ∧ u = .bool (decide (P < j)) ∧ i = .int .i64 j ∧ j ≤ n ∧ y ≤ j + 1 ∧ Hid ((O j).length = y) ∧ Hid (elEnt.Owns (w.heap.size + 1) wr (.slice a5 y c5) (O j)) ∧ Hid (BoxV 26 wr w.heap.size #[.string x0, .int .i64 x1, .bool x2, .string x3]) ∧ Hid (Below w.heap.size w wr) ∧ w.heap.size + 1 ≤ wr.heap.size) (fun _ _ i _ => n - (intOf i).toNat)
  case atStart => exact ⟨0, 0, _, _, rfl, by simp, rfl, by omega, by omega, hide (by rw [HZ.out]; rfl), by rw [HZ.out]; exact HOL, HX1, HB0, by rw [HZ0.out]; omega⟩
  case round =>
    obtain ⟨j, y, a5, c5, rfl, rfl, rfl, hj, hyj, HY, HO, HX, HB, hw1⟩ := hrel
    by_cases hlt : j < n
    · have hjL : j < L.length := by rw [← HN.out]; exact hlt
      obtain ⟨b, off, rfl, hb, hcell⟩ := HR.out (by omega)
      obtain ⟨f0, f1, f2, f3, hx⟩ := partsEnt L[j]
      obtain ⟨c0, c1, c2, c3⟩ := cellsEnt hx (hcell j hjL)
      have d0 := (HB.out.cell (p := ⟨b, off + j * 4, none⟩) hb).trans c0
      have d1 := (HB.out.cell (p := ⟨b, off + j * 4 + 1, none⟩) hb).trans c1
      have d2 := (HB.out.cell (p := ⟨b, off + j * 4 + 2, none⟩) hb).trans c2
      have d3 := (HB.out.cell (p := ⟨b, off + j * 4 + 3, none⟩) hb).trans c3
      have HJ := hide (show L[j]? = some (f0, f1, f2, f3) by rw [List.getElem?_eq_getElem hjL, hx])
      have hs := HB.out.size
      clear hcell c0 c1 c2 c3 hx hjL
      rcases Nat.lt_or_ge P j with hp | hp
      · have HM := hide (HSTEP.out j _ HJ.out (by omega))
        have HM' := hide (show (O j ++ [(f0, f1, f2, f3)]).length = y + 1 by rw [List.length_append, HY.out]; rfl)
        have z1 : decide (P < j) = true := decide_eq_true hp
        have HOa' := hide (show ∀ q, elEnt.Owns (w.heap.size + 1) ((wr.drewN q).alloc (.cells #[.string f0, .int .i64 f1, .bool f2, .string f3] 26)) (.slice a5 y c5) (O j) from fun q => (show elEnt.Owns (w.heap.size + 1) (wr.drewN q) (.slice a5 y c5) (O j) from HO.out).alloc _)
        have HSa' := hide (fun q => src_ent (wr.drewN q) f0 f1 f2 f3)
        have HBa' := hide (show ∀ q, Below w.heap.size w ((wr.drewN q).alloc (.cells #[.string f0, .int .i64 f1, .bool f2, .string f3] 26)) from fun q => (show Below w.heap.size w (wr.drewN q) from ⟨HB.out.os, HB.out.tape, HB.out.output, HB.out.size, HB.out.block⟩).alloc hs _)
        have hba : ∀ q, w.heap.size + 1 ≤ ((wr.drewN q).alloc (.cells #[.string f0, .int .i64 f1, .bool f2, .string f3] 26)).heap.size := fun q => by
          rw [Go.Deep.nblk_alloc]
          show _ ≤ wr.heap.size + 1
          omega
        have HXa := hide (show ∀ q, BoxV 26 ((wr.drewN q).alloc (.cells #[.string f0, .int .i64 f1, .bool f2, .string f3] 26)) w.heap.size #[.string x0, .int .i64 x1, .bool x2, .string x3] from fun q => (show BoxV 26 (wr.drewN q) w.heap.size #[.string x0, .int .i64 x1, .bool x2, .string x3] from HX.out).alloc _)
        rw [z1]
        go_wp2_with fail
        go_quiet (fail)
        go_wp2_with (at_builtin; go_loud (refine El.appendSrc (e := elEnt) rfl (.tmp 29) (.tmp 34) 24 rfl Try.underlying24 _ _ infoEnt rfl (by decide) (by decide) (w.heap.size + 1) _ _ _ _ (O j) [(f0, f1, f2, f3)] rfl rfl (hide (HOa'.out _)) (hide (HSa'.out _)) (hide (Below.refl _ _)) (hba _) (O j ++ [(f0, f1, f2, f3)]) (y + 1) rfl HM'.out (by omega) ?_); intro a6 c6 w6 HO6 HB6 hz6 _)
        have HB7 := hide ((HBa'.out _).trans (HB6.out.mono (by omega)))
        have HX7 := hide ((HXa.out _).below HB6.out (by omega))
        have hba6 := Nat.le_trans (hba _) hz6
        go_roundw
        case rel => exact ⟨j + 1, y + 1, a6, c6, rfl, by rw [decide_eq_true (show P < j + 1 by omega)], by go_num, by omega, by omega, by rw [HM.out]; exact HM', by rw [HM.out]; exact HO6, HX7, HB7, hba6⟩
        case measure => simp [intOf]; omega
      · have z1 : decide (P < j) = false := decide_eq_false (by omega)
        have HDB := hide (show ∀ w' : World, Below w.heap.size w w' → w'.cell? ⟨b, off + j * 4, none⟩ = some (.string f0) ∧ w'.cell? ⟨b, off + j * 4 + 1, none⟩ = some (.int .i64 f1) ∧ w'.cell? ⟨b, off + j * 4 + 2, none⟩ = some (.bool f2) ∧ w'.cell? ⟨b, off + j * 4 + 3, none⟩ = some (.string f3) from fun w' h => by
          have k := HR.out (by have := (List.getElem?_eq_some_iff.1 HJ.out).1; omega)
          obtain ⟨b', off', q, hb', hc'⟩ := k
          simp only [Option.some.injEq, Addr.mk.injEq, and_true] at q
          obtain ⟨rfl, rfl⟩ := q
          obtain ⟨hjL, hx⟩ := List.getElem?_eq_some_iff.1 HJ.out
          obtain ⟨c0, c1, c2, c3⟩ := cellsEnt hx (hc' j hjL)
          exact ⟨(h.cell (p := ⟨b, off + j * 4, none⟩) hb).trans c0, (h.cell (p := ⟨b, off + j * 4 + 1, none⟩) hb).trans c1, (h.cell (p := ⟨b, off + j * 4 + 2, none⟩) hb).trans c2, (h.cell (p := ⟨b, off + j * 4 + 3, none⟩) hb).trans c3⟩)
        have HAPJ := hide (HAP.out j _ HJ.out hp)
        obtain ⟨U, hU⟩ : ∃ U, U = decide (ahead (x0, x1, x2, x3) (f0, f1, f2, f3)) := ⟨_, rfl⟩
        have HU := hide hU
        have HAH := hide (fun W => l9Ahead_any x0 x1 x2 x3 f0 f1 f2 f3 W)
        rw [← hU] at HAH
        clear hU
        rw [z1]
        obtain ⟨k0, k1, k2, k3⟩ := HX.out.four'
        go_wp2_with fail
        go_region_held3 (fun w' => (w'.cell? ⟨b, off + j * 4, none⟩ = some (.string f0) ∧ w'.cell? ⟨b, off + j * 4 + 1, none⟩ = some (.int .i64 f1) ∧ w'.cell? ⟨b, off + j * 4 + 2, none⟩ = some (.bool f2) ∧ w'.cell? ⟨b, off + j * 4 + 3, none⟩ = some (.string f3)) ∧ w'.cell? ⟨w.heap.size, 0, none⟩ = some (.string x0) ∧ w'.cell? ⟨w.heap.size, 1, none⟩ = some (.int .i64 x1) ∧ w'.cell? ⟨w.heap.size, 2, none⟩ = some (.bool x2) ∧ w'.cell? ⟨w.heap.size, 3, none⟩ = some (.string x3))
          (first
            | exact ⟨⟨d0, d1, d2, d3⟩, k0, k1, k2, k3⟩
            | with_reducible exact ⟨HDB.out _ HB2.out, HX2.out.four'⟩)
          (first
            | (go_at_call 89
               refine (HAH.out _).mono ?_
               rintro e w2 ⟨rfl, hb2⟩
               have hb2' := below_of_drew' hb2
               have HB2 := hide (HB.out.trans (hb2'.mono hs))
               have HX2 := hide (HX.out.below hb2' HX.out.lt)
               have HO2 := hide (HO.out.below hb2' (Nat.le_refl _))
               have hw2 : w.heap.size + 1 ≤ w2.heap.size := Nat.le_trans hw1 hb2'.size
               clear hb2 hb2'))
        all_goals clear k0 k1 k2 k3 d0 d1 d2 d3 HX HO HB
        all_goals obtain ⟨k0, k1, k2, k3⟩ := HX2.out.four'
        all_goals obtain ⟨d0, d1, d2, d3⟩ := HDB.out _ HB2.out
        all_goals cases U with
        | true =>
          have HJP := hide (HAPJ.out.1 (of_decide_eq_true HU.out.symm))
          have HM := hide (HPUT.out j _ HJ.out HJP.out)
          have HM1 := hide (show (O j ++ [(x0, x1, x2, x3)]).length = y + 1 by rw [List.length_append, HY.out]; rfl)
          have HM2 := hide (show (O j ++ [(x0, x1, x2, x3)] ++ [(f0, f1, f2, f3)]).length = y + 1 + 1 by rw [List.length_append, HM1.out]; rfl)
          have HOa := hide (HO2.out.alloc (.cells #[.string x0, .int .i64 x1, .bool x2, .string x3] 26))
          have HSa := hide (src_ent w2 x0 x1 x2 x3)
          have HBa := hide (HB2.out.alloc HB2.out.size (.cells #[.string x0, .int .i64 x1, .bool x2, .string x3] 26))
          have hba : w.heap.size + 1 ≤ (w2.alloc (.cells #[.string x0, .int .i64 x1, .bool x2, .string x3] 26)).heap.size := by simp; omega
          have HBb : Hid (Below (w.heap.size + 1) (w2.alloc (.cells #[.string x0, .int .i64 x1, .bool x2, .string x3] 26)) (w2.alloc (.cells #[.string x0, .int .i64 x1, .bool x2, .string x3] 26))) := Below.refl _ _
          have HXa := hide (HX2.out.alloc (.cells #[.string x0, .int .i64 x1, .bool x2, .string x3] 26))
          clear k0 k1 k2 k3 d0 d1 d2 d3
          obtain ⟨k0, k1, k2, k3⟩ := HX2.out.four'
          go_upto_region 9 with (at_builtin; go_loud (refine El.appendSrc (e := elEnt) rfl (.tmp 25) (.tmp 27) 24 rfl Try.underlying24 _ _ infoEnt rfl (by decide) (by decide) (w.heap.size + 1) _ _ _ _ (O j) [(x0, x1, x2, x3)] rfl rfl HOa HSa HBb hba (O j ++ [(x0, x1, x2, x3)]) (y + 1) rfl HM1.out (by omega) ?_); intro a6 c6 w6 HO6 HB6 hz6 _)
          have HB7 := hide (HBa.out.trans (HB6.out.mono (by omega)))
          have HX7 := hide (HXa.out.below HB6.out (by omega))
          have hw6 : w.heap.size + 1 ≤ w6.heap.size := Nat.le_trans hba HB6.out.size
          obtain ⟨d0, d1, d2, d3⟩ := HDB.out _ HB7.out
          have HOb := hide (HO6.out.alloc (.cells #[.string f0, .int .i64 f1, .bool f2, .string f3] 26))
          have HSb := hide (src_ent w6 f0 f1 f2 f3)
          have HBd := hide (HB7.out.alloc HB7.out.size (.cells #[.string f0, .int .i64 f1, .bool f2, .string f3] 26))
          have hbb : w.heap.size + 1 ≤ (w6.alloc (.cells #[.string f0, .int .i64 f1, .bool f2, .string f3] 26)).heap.size := by simp; omega
          have HBc : Hid (Below (w.heap.size + 1) (w6.alloc (.cells #[.string f0, .int .i64 f1, .bool f2, .string f3] 26)) (w6.alloc (.cells #[.string f0, .int .i64 f1, .bool f2, .string f3] 26))) := Below.refl _ _
          have HXb := hide (HX7.out.alloc (.cells #[.string f0, .int .i64 f1, .bool f2, .string f3] 26))
          clear HOa HSa HBa hba HBb HXa HB6 hz6 HO6 k0 k1 k2 k3
          go_wp2_with (at_builtin; go_loud (refine El.appendSrc (e := elEnt) rfl (.tmp 29) (.tmp 34) 24 rfl Try.underlying24 _ _ infoEnt rfl (by decide) (by decide) (w.heap.size + 1) _ _ _ _ (O j ++ [(x0, x1, x2, x3)]) [(f0, f1, f2, f3)] rfl rfl HOb HSb HBc hbb (O j ++ [(x0, x1, x2, x3)] ++ [(f0, f1, f2, f3)]) (y + 1 + 1) rfl HM2.out (by omega) ?_); intro a8 c8 w8 HO8 HB8 hz8 _)
          have HB9 := hide (HBd.out.trans (HB8.out.mono (by omega)))
          have HX9 := hide (HXb.out.below HB8.out (by omega))
          go_roundw
          case rel => exact ⟨j + 1, y + 1 + 1, a8, c8, rfl, by rw [decide_eq_true (show P < j + 1 by have := HJP.out; omega)], by go_num, by omega, by have := HLEN.out (j + 1); rw [HM.out, HM2.out] at this; omega, by rw [HM.out]; exact HM2, by rw [HM.out]; exact HO8, HX9, HB9, by have := hbb; omega⟩
          case measure => simp [intOf]; omega
        | false =>
          have hjP : j ≠ P := fun h => of_decide_eq_false HU.out.symm (HAPJ.out.2 h)
          have HM := hide (HSTEP.out j _ HJ.out hjP)
          have HM2 := hide (show (O j ++ [(f0, f1, f2, f3)]).length = y + 1 by rw [List.length_append, HY.out]; rfl)
          have HOb := hide (HO2.out.alloc (.cells #[.string f0, .int .i64 f1, .bool f2, .string f3] 26))
          have HSb := hide (src_ent w2 f0 f1 f2 f3)
          have HBd := hide (HB2.out.alloc HB2.out.size (.cells #[.string f0, .int .i64 f1, .bool f2, .string f3] 26))
          have hbb : w.heap.size + 1 ≤ (w2.alloc (.cells #[.string f0, .int .i64 f1, .bool f2, .string f3] 26)).heap.size := by simp; omega
          have HBc : Hid (Below (w.heap.size + 1) (w2.alloc (.cells #[.string f0, .int .i64 f1, .bool f2, .string f3] 26)) (w2.alloc (.cells #[.string f0, .int .i64 f1, .bool f2, .string f3] 26))) := Below.refl _ _
          have HXb := hide (HX2.out.alloc (.cells #[.string f0, .int .i64 f1, .bool f2, .string f3] 26))
          go_wp2_with (at_builtin; go_loud (refine El.appendSrc (e := elEnt) rfl (.tmp 29) (.tmp 34) 24 rfl Try.underlying24 _ _ infoEnt rfl (by decide) (by decide) (w.heap.size + 1) _ _ _ _ (O j) [(f0, f1, f2, f3)] rfl rfl HOb HSb HBc hbb (O j ++ [(f0, f1, f2, f3)]) (y + 1) rfl HM2.out (by omega) ?_); intro a8 c8 w8 HO8 HB8 hz8 _)
          have HB9 := hide (HBd.out.trans (HB8.out.mono (by omega)))
          have HX9 := hide (HXb.out.below HB8.out (by omega))
          go_roundw
          case rel => exact ⟨j + 1, y + 1, a8, c8, rfl, by rw [decide_eq_false (show ¬ P < j + 1 by omega)], by go_num, by omega, by omega, by rw [HM.out]; exact HM2, by rw [HM.out]; exact HO8, HX9, HB9, by have := hbb; omega⟩
          case measure => simp [intOf]; omega
    · have hjn : j = n := by omega
      subst hjn
      rcases Nat.lt_or_ge P j with hp | hp
      · have z1 : decide (P < j) = true := decide_eq_true hp
        have HM := hide (HEND.out hp)
        rw [z1]
        go_wp2_with fail
        go_ret
        exact ⟨_, rfl, by rw [← HM.out]; exact HO.out.mono (by omega), HB.out⟩
      · have z1 : decide (P < j) = false := decide_eq_false (by omega)
        have HM := hide (HLAST.out hp)
        have HM1 := hide (show (O j ++ [(x0, x1, x2, x3)]).length = y + 1 by rw [List.length_append, HY.out]; rfl)
        have HOa := hide (HO.out.alloc (.cells #[.string x0, .int .i64 x1, .bool x2, .string x3] 26))
        have HSa := hide (src_ent wr x0 x1 x2 x3)
        have HBa := hide (HB.out.alloc HB.out.size (.cells #[.string x0, .int .i64 x1, .bool x2, .string x3] 26))
        have hba : w.heap.size + 1 ≤ (wr.alloc (.cells #[.string x0, .int .i64 x1, .bool x2, .string x3] 26)).heap.size := by simp; omega
        have HBb : Hid (Below (w.heap.size + 1) (wr.alloc (.cells #[.string x0, .int .i64 x1, .bool x2, .string x3] 26)) (wr.alloc (.cells #[.string x0, .int .i64 x1, .bool x2, .string x3] 26))) := Below.refl _ _
        obtain ⟨k0, k1, k2, k3⟩ := HX.out.four'
        rw [z1]
        go_wp2_with (at_builtin; go_loud (refine El.appendSrc (e := elEnt) rfl (.tmp 38) (.tmp 40) 24 rfl Try.underlying24 _ _ infoEnt rfl (by decide) (by decide) (w.heap.size + 1) _ _ _ _ (O j) [(x0, x1, x2, x3)] rfl rfl HOa HSa HBb hba (O j ++ [(x0, x1, x2, x3)]) (y + 1) rfl HM1.out (by omega) ?_); intro a6 c6 w6 HO6 HB6 hz6 _)
        go_ret
        exact ⟨_, rfl, by rw [← HM.out]; exact HO6.out.mono (by omega), HBa.out.trans (HB6.out.mono (by omega))⟩
end Go.Proofs.Ytphfakdbgohhgaa

/-
  Contract of spec.MemPut.
-/
namespace Go.Proofs.Ytphfakdbgohhgaa
open Go.ChangeShapes Go.WideShapes Go.ChangeAt Go.RowKit

def PutPost' (w : World) (M : List En) (b : Bool) (e : Ending) (w' : World) : Prop := ∃ v, e = .returned (.tuple #[v, .bool b]) ∧ elEnt.Owns w.heap.size w' v M ∧ Below w.heap.size w w'

set_option maxHeartbeats 2000000 in
set_option maxRecDepth 20000 in
theorem sMemPut_any (B : Nat) (a : Option Addr) (cap : Nat) (L : List En) (x0 : ByteArray) (x1 : Int) (x2 : Bool) (x3 : ByteArray) (w : World) (hO : elEnt.Owns B w (.slice a L.length cap) L) (hl : L.length ≤ 2097151) :
    Calls Try.prog 13 #[.slice a L.length cap, .agg #[.string x0, .int .i64 x1, .bool x2, .string x3]] w (PutPost' w (putM L (x0, x1, x2, x3)) (putB L (x0, x1, x2, x3))) := by
  have HO := hide hO
  have HL := hide hl
  obtain ⟨P, hP⟩ : ∃ P, P = putM L (x0, x1, x2, x3) := ⟨_, rfl⟩
  obtain ⟨b, hb⟩ : ∃ b, b = putB L (x0, x1, x2, x3) := ⟨_, rfl⟩
  have HP := hide hP
  have HBB := hide hb
  rw [← hP, ← hb]
  have HRd := hide (show ∀ W, elEnt.Owns B W (.slice a L.length cap) L → elEnt.Rd W W.heap.size a L from fun W h => by
    obtain ⟨a', c', q, h, _⟩ := h.form
    simp only [Value.slice.injEq] at q
    rw [q.1]
    exact h)
  have HC := hide (fun W h => sMemOk_any a cap L W (HRd.out W h) (Nat.le_trans HL.out (by decide)))
  have HX0 := hide (BoxV.new 26 w #[.string x0, .int .i64 x1, .bool x2, .string x3])
  have hB := hide (fun o => (Below.refl w.heap.size w).alloc (Nat.le_refl _) o)
  clear hO hl hP hb
  by_cases hm : memOkL L
  · have HT := hide (fun W h => l9Put_any a cap L x0 x1 x2 x3 W (HRd.out W h) (Nat.le_trans HL.out (by decide)))
    have HIL := hide (insE_len (x0, x1, x2, x3) L)
    have HY := hide (fun h => putM_yes (e := (x0, x1, x2, x3)) hm h)
    have HNO := hide (fun h => putM_no (e := (x0, x1, x2, x3)) hm h)
    obtain ⟨M, hM⟩ : ∃ M, M = insE (x0, x1, x2, x3) L := ⟨_, rfl⟩
    rw [← hM] at HT HIL HY HNO
    have HD := hide (decide_eq_true hm)
    rw [HD.out] at HC
    obtain ⟨m, hm'⟩ : ∃ m, m = M.length := ⟨_, rfl⟩
    have HML := hide hm'
    obtain ⟨n, hn⟩ : ∃ n, n = L.length := ⟨_, rfl⟩
    have HN := hide hn
    rw [← hn] at HO HRd HC HT HIL HL ⊢
    clear hm hM hn hm'
    go_enter Try.func13, Try.ntmps13
    go_wp2_with fail
    refine (HC.out _ (HO.out.below (hB.out _) (Nat.le_refl _))).mono ?_
    rintro e w1 ⟨rfl, hb1⟩
    have HB1 := hide ((hB.out _).trans (hb1.mono (hB.out _).size))
    have HX1 := hide (HX0.out.below hb1 HX0.out.lt)
    have HO1 := hide (HO.out.below HB1.out (Nat.le_refl _))
    obtain ⟨c0, c1, c2, c3⟩ := HX1.out.four'
    clear hb1 HX0 HC
    go_wp2_with fail
    refine (HT.out _ HO1.out).mono ?_
    rintro e w3 ⟨v3, rfl, ho3, hb3⟩
    obtain ⟨a3, c3', rfl, hr3, _⟩ := ho3.form
    have HR3 := hide hr3
    have HB3 := hide (HB1.out.trans (hb3.mono HB1.out.size))
    have HO3 := hide (ho3.mono HB1.out.size)
    have HC3 := hide (fun W h => sMemOk_any a3 c3' M W h (by rw [HIL.out]; have := HL.out; omega))
    rw [← HML.out] at HO3 HC3 ⊢
    clear ho3 hr3 hb3
    go_wp2_with fail
    refine (HC3.out _ HR3.out).mono ?_
    rintro e w4 ⟨rfl, hb4⟩
    have HB4 := hide (HB3.out.trans (hb4.mono HB3.out.size))
    have HO4 := hide (HO3.out.below hb4 (Nat.le_refl _))
    clear hb4 HO3 HR3 HC3
    by_cases hk : memOkL M
    · have HD2 := hide (decide_eq_true hk)
      obtain ⟨q1, q2⟩ := HY.out hk
      have HQ1 := hide (HP.out.trans q1)
      have HQ2 := hide (HBB.out.trans q2)
      clear hk q1 q2
      rw [HD2.out]
      go_wp2_with fail
      go_ret2
      exact ⟨_, by rw [HQ2.out]; rfl, by rw [HQ1.out]; exact HO4.out, HB4.out⟩
    · have HD2 := hide (decide_eq_false hk)
      obtain ⟨q1, q2⟩ := HNO.out hk
      have HQ1 := hide (HP.out.trans q1)
      have HQ2 := hide (HBB.out.trans q2)
      have HO5 := hide (((HO.out.below HB4.out (Nat.le_refl _)).src (e := elEnt)).alloc (.cells #[] 26))
      have HOL := hide (show elEnt.Owns w4.heap.size (w4.alloc (.cells #[] 26)) (.slice (some ⟨w4.heap.size, 0, none⟩) 0 0) [] from El.Owns.lit (e := elEnt) w4.heap.size w4 [] #[] 0 rfl rfl (Nat.le_refl _) (by simp [maxLen]))
      have HBa := hide ((Below.refl w4.heap.size w4).alloc (Nat.le_refl _) (.cells #[] 26))
      have hba := HBa.out.size
      have hnl := HL.out
      have HNN := hide HN.out.symm
      clear hk q1 q2
      rw [HD2.out]
      go_wp2_with (at_builtin; go_loud (refine El.appendSrc (e := elEnt) rfl (.tmp 17) (.tmp 18) 24 rfl Try.underlying24 _ _ infoEnt rfl (by decide) (by decide) w4.heap.size w4 _ _ _ [] L rfl rfl HOL HO5 HBa hba L n rfl HNN.out (by omega) ?_); intro a6 c6 w6 HO6 HB6 hz6 _)
      go_ret2
      exact ⟨_, by rw [HQ2.out]; rfl, by rw [HQ1.out]; exact HO6.out.mono HB4.out.size, HB4.out.trans (HB6.out.mono HB4.out.size)⟩
  · obtain ⟨q1, q2⟩ := putM_bad (e := (x0, x1, x2, x3)) hm
    have HQ1 := hide (HP.out.trans q1)
    have HQ2 := hide (HBB.out.trans q2)
    have HD := hide (decide_eq_false hm)
    rw [HD.out] at HC
    obtain ⟨n, hn⟩ : ∃ n, n = L.length := ⟨_, rfl⟩
    rw [← hn] at HO HC ⊢
    clear hm hn q1 q2
    go_enter Try.func13, Try.ntmps13
    go_wp2_with fail
    refine (HC.out _ (HO.out.below (hB.out _) (Nat.le_refl _))).mono ?_
    rintro e w1 ⟨rfl, hb1⟩
    have HB1 := hide ((hB.out _).trans (hb1.mono (hB.out _).size))
    have hw1 := HB1.out.size
    clear hb1
    go_wp2_with fail
    go_ret2
    exact ⟨_, by rw [HQ2.out]; rfl, by rw [HQ1.out]; exact El.Owns.lit (e := elEnt) w.heap.size w1 [] #[] 0 rfl rfl hw1 (by simp [maxLen]), HB1.out.alloc hw1 _⟩
end Go.Proofs.Ytphfakdbgohhgaa

/-
  Contracts of spec.l9Get and MemGet.
-/
namespace Go.Proofs.Ytphfakdbgohhgaa
open Go.ChangeShapes Go.WideShapes Go.ChangeAt Go.RowKit

def EntBPost' (w : World) (f0 : ByteArray) (f1 : Int) (f2 : Bool) (f3 : ByteArray) (b : Bool) (e : Ending) (w' : World) : Prop :=
  e = .returned (.tuple #[.agg #[.string f0, .int .i64 f1, .bool f2, .string f3], .bool b]) ∧ Below w.heap.size w w'

theorem getE_first {k : ByteArray} {n : Int} {L : List En} {j : Nat} {x : En} (hj : L[j]? = some x) (hx : x.1 = k ∧ x.2.1 ≤ n) (hb : ∀ i y, i < j → L[i]? = some y → ¬ (y.1 = k ∧ y.2.1 ≤ n)) : getE k n L = some x := by
  obtain ⟨hl, rfl⟩ := List.getElem?_eq_some_iff.1 hj
  refine List.find?_eq_some_iff_getElem.mpr ⟨by simp [hx], j, hl, rfl, fun i hi => ?_⟩
  simp only [Bool.not_eq_true', decide_eq_false_iff_not]
  exact hb i _ hi (List.getElem?_eq_getElem (by omega))
theorem getE_never {k : ByteArray} {n : Int} {L : List En} (hb : ∀ i y, i < L.length → L[i]? = some y → ¬ (y.1 = k ∧ y.2.1 ≤ n)) : getE k n L = none :=
  getE_none.mpr fun x hx => by
    obtain ⟨i, hi, rfl⟩ := List.getElem_of_mem hx
    exact hb i _ hi (List.getElem?_eq_getElem hi)

set_option maxHeartbeats 2000000 in
set_option maxRecDepth 20000 in
theorem l9Get_any (a : Option Addr) (cap : Nat) (L : List En) (k : ByteArray) (q : Int) (w : World) (hr : elEnt.Rd w w.heap.size a L) (hl : L.length ≤ 2097152) (f0 : ByteArray) (f1 : Int) (f2 : Bool) (f3 : ByteArray) (hf : (getE k q L).getD zeroE = (f0, f1, f2, f3)) :
    Calls Try.prog 92 #[.slice a L.length cap, .string k, .int .i64 q] w (EntBPost' w f0 f1 f2 f3 (getE k q L).isSome) := by
  have HB := hide ((Below.refl w.heap.size w).alloc (Nat.le_refl _) (.cells #[.string ⟨#[]⟩, .int .i64 0, .bool false, .string ⟨#[]⟩] 26))
  have HR := hide ((hr.below HB.out (Nat.le_refl _)))
  have HX := hide (BoxV.new 26 w #[.string ⟨#[]⟩, .int .i64 0, .bool false, .string ⟨#[]⟩])
  obtain ⟨b, hb⟩ : ∃ b, b = (getE k q L).isSome := ⟨_, rfl⟩
  have HBB := hide hb
  have HF := hide hf
  rw [← hb]
  obtain ⟨n, hn⟩ : ∃ n, n = L.length := ⟨_, rfl⟩
  have HN := hide hn
  rw [← hn] at hl ⊢
  clear hr hb hf hn
  go_enter Try.func92, Try.ntmps92
  go_wp2_with fail
  obtain ⟨W, hW⟩ : ∃ W, W = w.alloc (.cells #[.string ⟨#[]⟩, .int .i64 0, .bool false, .string ⟨#[]⟩] 26) := ⟨_, rfl⟩
  rw [← hW] at HB HR HX ⊢
  clear hW
  go_loop [8] (fun i => ∃ j : Nat, i = .int .i64 j ∧ j ≤ n ∧ Hid (∀ i y, i < j → L[i]? = some y → ¬ (y.1 = k ∧ y.2.1 ≤ q))) (fun i => n - (intOf i).toNat)
  case atStart => exact ⟨0, rfl, by omega, fun i y hi => by omega⟩
  case round =>
    obtain ⟨j, rfl, hj, HA⟩ := hrel
    by_cases hlt : j < n
    · have hjL : j < L.length := by rw [← HN.out]; exact hlt
      obtain ⟨b', off, rfl, hb, hcell⟩ := HR.out (by omega)
      obtain ⟨g0, g1, g2, g3, hx⟩ := partsEnt L[j]
      obtain ⟨c0, c1, c2, c3⟩ := cellsEnt hx (hcell j hjL)
      have HJ := hide (show L[j]? = some (g0, g1, g2, g3) by rw [List.getElem?_eq_getElem hjL, hx])
      clear hcell hx hjL
      by_cases h1 : g0 = k
      · have z1 : (g0.toList == k.toList) = true := (keq_iff g0 k).2 h1
        by_cases h2 : g1 ≤ q
        · have hge := getE_first HJ.out ⟨h1, h2⟩ HA.out
          have HQ := hide (show (f0, f1, f2, f3) = ((g0, g1, g2, g3) : En) by rw [← HF.out, hge]; rfl)
          have HQB := hide (show b = true by rw [HBB.out, hge]; rfl)
          obtain ⟨y0, y1, y2, y3⟩ := HX.out.froz4
          obtain ⟨d0, d1, d2, d3⟩ := HX.out.four'
          clear h1 hge
          go_wp2_with fail
          refine bodyPost_ret (res_ent' rfl _ _ w.heap.size rfl (HX.out.all4 _ _ _ _)) rfl ?_
          rw [HQB.out]
          simp only [Prod.mk.injEq] at HQ
          obtain ⟨rfl, rfl, rfl, rfl⟩ := HQ.out
          exact ⟨rfl, below_four HB.out (Nat.le_refl _) _ _ _ _⟩
        · have HA1 := hide (show ∀ i y, i < j + 1 → L[i]? = some y → ¬ (y.1 = k ∧ y.2.1 ≤ q) from fun i y hi hy => by
            rcases Nat.lt_or_ge i j with h | h
            · exact HA.out i y h hy
            · rw [show i = j by omega, HJ.out] at hy
              rw [← Option.some.inj hy]
              exact fun h => h2 h.2)
          clear h1
          go_wp2_with fail
          go_round
          case rel => exact ⟨j + 1, by go_num, by omega, HA1⟩
          case measure => simp [intOf]; omega
      · have z1 : (g0.toList == k.toList) = false := keq_false h1
        have HA1 := hide (show ∀ i y, i < j + 1 → L[i]? = some y → ¬ (y.1 = k ∧ y.2.1 ≤ q) from fun i y hi hy => by
          rcases Nat.lt_or_ge i j with h | h
          · exact HA.out i y h hy
          · rw [show i = j by omega, HJ.out] at hy
            rw [← Option.some.inj hy]
            exact fun h => h1 h.1)
        clear h1
        go_wp2_with fail
        go_round
        case rel => exact ⟨j + 1, by go_num, by omega, HA1⟩
        case measure => simp [intOf]; omega
    · have hge := getE_never (k := k) (n := q) (L := L) (fun i y hi hy => HA.out i y (by have := HN.out; omega) hy)
      have HQ := hide (show (f0, f1, f2, f3) = zeroE by rw [← HF.out, hge]; rfl)
      have HQB := hide (show b = false by rw [HBB.out, hge]; rfl)
      obtain ⟨y0, y1, y2, y3⟩ := HX.out.froz4
      obtain ⟨d0, d1, d2, d3⟩ := HX.out.four'
      clear hge
      go_wp2_with fail
      refine bodyPost_ret (res_ent' rfl _ _ w.heap.size rfl (HX.out.all4 _ _ _ _)) rfl ?_
      rw [HQB.out]
      simp only [zeroE, Prod.mk.injEq] at HQ
      obtain ⟨rfl, rfl, rfl, rfl⟩ := HQ.out
      exact ⟨rfl, below_four HB.out (Nat.le_refl _) _ _ _ _⟩

end Go.Proofs.Ytphfakdbgohhgaa

/-
  Contract of spec.l9Map.
-/
namespace Go.Proofs.Ytphfakdbgohhgaa
open Go.ChangeShapes Go.WideShapes Go.ChangeAt Go.RowKit

theorem below_drewN {B : Nat} {w w' : World} (h : Below B w w') (r : Nat) : Below B w (w'.drewN r) := ⟨h.os, h.tape, h.output, h.size, h.block⟩
theorem El.Owns.drewN {α : Type} {e : El α} {B : Nat} {w : World} {v : Value} {L : List α} (h : e.Owns B w v L) (r : Nat) : e.Owns B (w.drewN r) v L := h
def KVPost' (w : World) (M : List KV) (e : Ending) (w' : World) : Prop := ∃ v, e = .returned v ∧ elKV.Owns w.heap.size w' v M ∧ Below w.heap.size w w'
/-- a row of one pair -/
theorem src_kv (wr : World) (k v : ByteArray) : elKV.Src (wr.alloc (.cells #[.string k, .string v] 41)) (.slice (some ⟨wr.heap.size, 0, none⟩) 1 1) [(k, v)] :=
  (El.Owns.lit (e := elKV) 0 wr [(k, v)] #[.string k, .string v] 1 rfl rfl (Nat.zero_le _) (by simp [maxLen])).src
theorem src_kv2 (wr : World) (o : Obj) (k v : ByteArray) : elKV.Src ((wr.alloc o).alloc (.cells #[.string k, .string v] 41)) (.slice (some ⟨wr.heap.size + 1, 0, none⟩) 1 1) [(k, v)] := by
  have h := src_kv (wr.alloc o) k v
  rwa [Go.Deep.nblk_alloc] at h
theorem nil_kv (w : World) {B : Nat} (hB : B ≤ w.heap.size) : elKV.Owns B (w.alloc (.cells #[] 41)) (.slice (some ⟨w.heap.size, 0, none⟩) 0 0) [] := El.Owns.lit (e := elKV) B w [] #[] 0 rfl rfl hB (by simp [maxLen])

set_option maxHeartbeats 4000000 in
set_option maxRecDepth 20000 in
theorem l9Map_any (a : Option Addr) (cap : Nat) (L : List En) (q : Int) (w : World) (hr : elEnt.Rd w w.heap.size a L) (hk : SrtE L) (hl : L.length ≤ 2097152) :
    Calls Try.prog 65 #[.slice a L.length cap, .int .i64 q] w (KVPost' w (mapE q L)) := by
  have HR := hide hr
  have HS := hide hk
  have HL := hide hl
  have HALL := hide (mapP_all q L)
  have HG := hide (fun W k f0 f1 f2 f3 h hf => l9Get_any a cap L k q W h hl f0 f1 f2 f3 hf)
  obtain ⟨n, hn⟩ : ∃ n, n = L.length := ⟨_, rfl⟩
  have HN := hide hn
  rw [← hn] at hl HALL HG ⊢
  have HB0 := hide ((Below.refl w.heap.size w).alloc (Nat.le_refl _) (.cells #[] 41))
  have HO0 := hide (nil_kv w (Nat.le_refl w.heap.size))
  clear hr hk hn
  go_enter Try.func65, Try.ntmps65
  go_wp2_with fail
  go_loopw [5, 6, 7, 8] (fun m i _ _ wr => ∃ (j y : Nat) (a5 : Option Addr) (c5 : Nat), m = .slice a5 y c5 ∧ i = .int .i64 j ∧ j ≤ n ∧ y ≤ j ∧ Hid ((mapP q L j).length = y) ∧ Hid (elKV.Owns w.heap.size wr (.slice a5 y c5) (mapP q L j)) ∧ Hid (Below w.heap.size w wr)) (fun _ i _ _ _ => n - (intOf i).toNat)
  case atStart => exact ⟨0, 0, _, _, rfl, rfl, by omega, by omega, hide (by rw [mapP_zero]; rfl), by rw [mapP_zero]; exact HO0, HB0⟩
  case round =>
    obtain ⟨j, y, a5, c5, rfl, rfl, hj, hyj, HY, HO, HB⟩ := hrel
    by_cases hlt : j < n
    · have hjL : j < L.length := by rw [← HN.out]; exact hlt
      obtain ⟨b, off, rfl, hb, hcell⟩ := HR.out (by omega)
      obtain ⟨g0, g1, g2, g3, hx⟩ := partsEnt L[j]
      obtain ⟨c0, c1, c2, c3⟩ := cellsEnt hx (hcell j hjL)
      have d0 := (HB.out.cell (p := ⟨b, off + j * 4, none⟩) hb).trans c0
      have HD1 := hide (show ∀ w' : World, Below w.heap.size w w' → w'.cell? ⟨b, off + j * 4 + 1, none⟩ = some (.int .i64 g1) from fun w' h => (h.cell (p := ⟨b, off + j * 4 + 1, none⟩) hb).trans c1)
      have HX := hide (show L[j]? = some (g0, g1, g2, g3) by rw [List.getElem?_eq_getElem hjL, hx])
      have HMEM := hide (show ((g0, g1, g2, g3) : En) ∈ L from hx ▸ List.getElem_mem hjL)
      have hs := HB.out.size
      clear hcell c0 c1 c2 c3 hx hjL
      obtain ⟨f0, f1, f2, f3, hf⟩ := partsEnt ((getE g0 q L).getD zeroE)
      have HC := hide (HG.out wr g0 f0 f1 f2 f3 ((HR.out.below HB.out (Nat.le_refl _)).mono hs) hf)
      cases hg : getE g0 q L with
      | none =>
        have HM := hide (mapP_no HX.out (vis_none (n := q) (L := L) (x := (g0, g1, g2, g3)) hg))
        rw [hg] at HC
        clear hf hg
        go_wp2_with fail
        refine HC.out.mono ?_
        rintro e w3 ⟨rfl, hb3⟩
        have HB3 := hide (HB.out.trans (hb3.mono hs))
        have HO3 := hide (HO.out.below hb3 (Nat.le_refl _))
        have hw3 := HB3.out.size
        clear hb3 HC d0
        go_wp2_with fail
        go_quiet (fail)
        go_wp2_with fail
        go_roundw
        case rel => exact ⟨j + 1, y, a5, c5, rfl, by go_num, by omega, by omega, by rw [HM.out]; exact HY, by rw [HM.out]; exact (HO3.out.alloc _).drewN _, below_drewN (HB3.out.alloc hw3 _) _⟩
        case measure => simp [intOf]; omega
      | some z =>
        have hz : z = (f0, f1, f2, f3) := by rw [hg] at hf; exact hf
        subst hz
        have HVG := hide (vis_get (n := q) HS.out HMEM.out hg)
        have HGE := hide hg
        rw [hg] at HC
        have HD2 := HD1
        clear hf hg HD1
        cases f2 with
        | true =>
          have HM := hide (mapP_no HX.out (fun h => by have := (HVG.out.1 h).1; cases this))
          go_wp2_with fail
          refine HC.out.mono ?_
          rintro e w3 ⟨rfl, hb3⟩
          have HB3 := hide (HB.out.trans (hb3.mono hs))
          have HO3 := hide (HO.out.below hb3 (Nat.le_refl _))
          have hw3 := HB3.out.size
          clear hb3 HC d0
          go_wp2_with fail
          go_quiet (fail)
          go_wp2_with fail
          go_roundw
          case rel => exact ⟨j + 1, y, a5, c5, rfl, by go_num, by omega, by omega, by rw [HM.out]; exact HY, by rw [HM.out]; exact (HO3.out.alloc _).drewN _, below_drewN (HB3.out.alloc hw3 _) _⟩
          case measure => simp [intOf]; omega
        | false =>
          by_cases h1 : f1 = g1
          · have hv := HVG.out.2 ⟨rfl, h1⟩
            have hq : ((f0, f1, false, f3) : En) = (g0, g1, g2, g3) := by
              have := hv.1
              rw [HGE.out] at this
              exact Option.some.inj this
            have HM := hide (mapP_yes HX.out hv)
            simp only [Prod.mk.injEq] at hq
            obtain ⟨rfl, q1, q2, rfl⟩ := hq
            clear q1 q2
            have he : (f1 == g1) = true := by rw [beq_iff_eq]; exact h1
            have HM' := hide (show (mapP q L j ++ [(f0, f3)]).length = y + 1 by rw [List.length_append, HY.out]; rfl)
            clear h1 hv
            go_wp2_with fail
            refine HC.out.mono ?_
            rintro e w3 ⟨rfl, hb3⟩
            have HB3 := hide (HB.out.trans (hb3.mono hs))
            have HO3 := hide (HO.out.below hb3 (Nat.le_refl _))
            have hw3 := HB3.out.size
            have d1 := HD2.out _ HB3.out
            have hbw : b < w3.heap.size := Nat.lt_of_lt_of_le hb hw3
            have HOa := hide (show ∀ r, elKV.Owns w.heap.size (((w3.alloc (.cells #[.string f0, .int .i64 f1, .bool false, .string f3] 26)).drewN r).alloc (.cells #[.string f0, .string f3] 41)) (.slice a5 y c5) (mapP q L j) from fun r => (show elKV.Owns w.heap.size ((w3.alloc (.cells #[.string f0, .int .i64 f1, .bool false, .string f3] 26)).drewN r) (.slice a5 y c5) (mapP q L j) from HO3.out.alloc _).alloc _)
            have HSa := hide (show ∀ r, elKV.Src (((w3.alloc (.cells #[.string f0, .int .i64 f1, .bool false, .string f3] 26)).drewN r).alloc (.cells #[.string f0, .string f3] 41)) (.slice (some ⟨w3.heap.size + 1, 0, none⟩) 1 1) [(f0, f3)] from fun r => by
              have h := src_kv ((w3.alloc (.cells #[.string f0, .int .i64 f1, .bool false, .string f3] 26)).drewN r) f0 f3
              rw [show ((w3.alloc (.cells #[.string f0, .int .i64 f1, .bool false, .string f3] 26)).drewN r).heap.size = w3.heap.size + 1 from Go.Deep.nblk_alloc _ _] at h
              exact h)
            have HBd := hide (show ∀ r, Below w.heap.size w ((w3.alloc (.cells #[.string f0, .int .i64 f1, .bool false, .string f3] 26)).drewN r) from fun r => below_drewN (HB3.out.alloc hw3 _) r)
            have HBa := hide (show ∀ r, Below w.heap.size w (((w3.alloc (.cells #[.string f0, .int .i64 f1, .bool false, .string f3] 26)).drewN r).alloc (.cells #[.string f0, .string f3] 41)) from fun r => (HBd.out r).alloc (HBd.out r).size _)
            clear hb3 HC d0
            go_wp2_with fail
            go_quiet (fail)
            go_wp2_with (at_builtin; go_loud (refine El.appendSrc (e := elKV) rfl (.tmp 43) (.tmp 49) 37 rfl Try.underlying37 _ _ infoKV rfl (by decide) (by decide) w.heap.size w _ _ _ (mapP q L j) [(f0, f3)] rfl rfl (hide (HOa.out _)) (hide (HSa.out _)) (hide (HBa.out _)) ((HBa.out _).size) (mapP q L j ++ [(f0, f3)]) (y + 1) rfl HM'.out (by omega) ?_); intro a6 c6 w6 HO6 HB6 hz6 _)
            go_roundw
            case rel => exact ⟨j + 1, y + 1, a6, c6, rfl, by go_num, by omega, by omega, by rw [HM.out]; exact HM', by rw [HM.out]; exact HO6, HB6⟩
            case measure => simp [intOf]; omega
          · have HM := hide (mapP_no HX.out (fun h => h1 (HVG.out.1 h).2))
            have he : (f1 == g1) = false := by rw [beq_eq_false_iff_ne]; exact h1
            clear h1
            go_wp2_with fail
            refine HC.out.mono ?_
            rintro e w3 ⟨rfl, hb3⟩
            have HB3 := hide (HB.out.trans (hb3.mono hs))
            have HO3 := hide (HO.out.below hb3 (Nat.le_refl _))
            have hw3 := HB3.out.size
            have d1 := HD2.out _ HB3.out
            have hbw : b < w3.heap.size := Nat.lt_of_lt_of_le hb hw3
            clear hb3 HC d0
            go_wp2_with fail
            go_quiet (fail)
            go_wp2_with fail
            go_roundw
            case rel => exact ⟨j + 1, y, a5, c5, rfl, by go_num, by omega, by omega, by rw [HM.out]; exact HY, by rw [HM.out]; exact (HO3.out.alloc _).drewN _, below_drewN (HB3.out.alloc hw3 _) _⟩
            case measure => simp [intOf]; omega
    · have hjn : j = n := by omega
      subst hjn
      go_wp2_with fail
      go_ret
      exact ⟨_, rfl, by rw [← HALL.out]; exact HO.out, HB.out⟩
end Go.Proofs.Ytphfakdbgohhgaa
