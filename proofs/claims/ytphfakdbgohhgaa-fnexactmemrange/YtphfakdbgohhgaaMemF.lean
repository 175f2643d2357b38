/-
  Contracts of spec.l9Put, MemPut, l9Get and MemGet.
-/
import Derived.Test.YtphfakdbgohhgaaEntP
import Derived.Test.YtphfakdbgohhgaaMemE
namespace Go.Proofs.Ytphfakdbgohhgaa
open Go.ChangeShapes Go.WideShapes Go.ChangeAt Go.RowKit

set_option maxHeartbeats 4000000 in
set_option maxRecDepth 20000 in
theorem l9Put_any (a : Option Addr) (cap : Nat) (L : List En) (x0 : ByteArray) (x1 : Int) (x2 : Bool) (x3 : ByteArray) (w : World) (hr : elEnt.Rd w w.heap.size a L) (hl : L.length ≤ 2097152) :
    Calls Try.prog 59 #[.slice a L.length cap, .agg #[.string x0, .int .i64 x1, .bool x2, .string x3]] w (EntsPost w (insE (x0, x1, x2, x3) L)) := by
  have HR := hide hr
  obtain ⟨P, hP⟩ : ∃ P, P = posE (x0, x1, x2, x3) L := ⟨_, rfl⟩
  have HPP := hide hP
  have HPL := hide (show P ≤ L.length by rw [hP]; exact posE_le _ _)
  have HSTEP := hide (fun (j : Nat) (x : En) (h : L[j]? = some x) (hne : j ≠ P) => outP_step h (by rw [← hP]; exact hne))
  have HPUT := hide (fun (j : Nat) (x : En) (h : L[j]? = some x) (he : j = P) => outP_put h (by rw [← hP]; exact he))
  have HEND := hide (fun (h : P < L.length) => outP_end (by rw [← hP]; exact h))
  have HLAST := hide (fun (h : L.length ≤ P) => outP_last (by rw [← hP]; exact h))
  have HAP := hide (fun (j : Nat) (x : En) (h : L[j]? = some x) (hj : j ≤ P) => ahead_pos h (by rw [← hP]; exact hj))
  have HZ := hide (outP_zero (x0, x1, x2, x3) L)
  have HLEN := hide (outP_len (x0, x1, x2, x3) L)
  obtain ⟨O, hO⟩ : ∃ O, O = outP (x0, x1, x2, x3) L := ⟨_, rfl⟩
  obtain ⟨M, hM⟩ : ∃ M, M = insE (x0, x1, x2, x3) L := ⟨_, rfl⟩
  rw [← hO] at HSTEP HPUT HEND HLAST HZ HLEN
  rw [← hM] at HEND HLAST
  rw [← hP] at HAP
  rw [← hM]
  obtain ⟨n, hn⟩ : ∃ n, n = L.length := ⟨_, rfl⟩
  have HN := hide hn
  rw [← hn] at hl HPL HEND HLAST ⊢
  have hPn := HPL.out
  have HX0 := hide (BoxV.new 26 w #[.string x0, .int .i64 x1, .bool x2, .string x3])
  have HOL := hide (show elEnt.Owns (w.heap.size + 1) ((w.alloc (.cells #[.string x0, .int .i64 x1, .bool x2, .string x3] 26)).alloc (.cells #[] 26)) (.slice (some ⟨w.heap.size + 1, 0, none⟩) 0 0) [] from by
    have h := El.Owns.lit (e := elEnt) (w.heap.size + 1) (w.alloc (.cells #[.string x0, .int .i64 x1, .bool x2, .string x3] 26)) [] #[] 0 rfl rfl (by simp) (by simp [maxLen])
    rwa [Go.Deep.nblk_alloc] at h)
  have HX1 := hide (HX0.out.alloc (.cells #[] 26))
  have HB0 := hide (((Below.refl w.heap.size w).alloc (Nat.le_refl _) (.cells #[.string x0, .int .i64 x1, .bool x2, .string x3] 26)).alloc (by simp) (.cells #[] 26))
  have HZ0 := hide (show ((w.alloc (.cells #[.string x0, .int .i64 x1, .bool x2, .string x3] 26)).alloc (.cells #[] 26)).heap.size = w.heap.size + 1 + 1 by simp)
  clear hr hP hO hM hn
  go_enter Try.func59, Try.ntmps59
  go_wp2_with fail
  obtain ⟨W, hW⟩ : ∃ W, W = (w.alloc (.cells #[.string x0, .int .i64 x1, .bool x2, .string x3] 26)).alloc (.cells #[] 26) := ⟨_, rfl⟩
  rw [← hW] at HOL HX1 HB0 HZ0 ⊢
  clear hW HX0
  go_loopw [5, 6, 7] (fun o u i wr => ∃ (j y : Nat) (a5 : Option Addr) (c5 : Nat), o = .slice a5 y c5 ∧ u = .bool (decide (P < j)) ∧ i = .int .i64 j ∧ j ≤ n ∧ y ≤ j + 1 ∧ Hid ((O j).length = y) ∧ Hid (elEnt.Owns (w.heap.size + 1) wr (.slice a5 y c5) (O j)) ∧ Hid (BoxV 26 wr w.heap.size #[.string x0, .int .i64 x1, .bool x2, .string x3]) ∧ Hid (Below w.heap.size w wr) ∧ w.heap.size + 1 ≤ wr.heap.size) (fun _ _ i _ => n - (intOf i).toNat)
  case atStart => exact ⟨0, 0, _, _, rfl, by simp, rfl, by omega, by omega, hide (by rw [HZ.out]; rfl), by rw [HZ.out]; exact HOL, HX1, HB0, by rw [HZ0.out]; omega⟩
  case round =>
    obtain ⟨j, y, a5, c5, rfl, rfl, rfl, hj, hyj, HY, HO, HX, HB, hw1⟩ := hrel
    by_cases hlt : j < n
    · have hjL : j < L.length := by rw [← HN.out]; exact hlt
      obtain ⟨b, off, rfl, hb, hcell⟩ := HR.out (by omega)
      obtain ⟨f0, f1, f2, f3, hx⟩ := partsEnt L[j]
      obtain ⟨c0, c1, c2, c3⟩ := cellsEnt hx (hcell j hjL)
      have d0 := (HB.out.cell (p := ⟨b, off + j * 4, none⟩) hb).trans c0
      have d1 := (HB.out.cell (p := ⟨b, off + j * 4 + 1, none⟩) hb).trans c1
      have d2 := (HB.out.cell (p := ⟨b, off + j * 4 + 2, none⟩) hb).trans c2
      have d3 := (HB.out.cell (p := ⟨b, off + j * 4 + 3, none⟩) hb).trans c3
      have HJ := hide (show L[j]? = some (f0, f1, f2, f3) by rw [List.getElem?_eq_getElem hjL, hx])
      have hs := HB.out.size
      clear hcell c0 c1 c2 c3 hx hjL
      rcases Nat.lt_or_ge P j with hp | hp
      · have HM := hide (HSTEP.out j _ HJ.out (by omega))
        have HM' := hide (show (O j ++ [(f0, f1, f2, f3)]).length = y + 1 by rw [List.length_append, HY.out]; rfl)
        have z1 : decide (P < j) = true := decide_eq_true hp
        have HOa' := hide (show ∀ q, elEnt.Owns (w.heap.size + 1) ((wr.drewN q).alloc (.cells #[.string f0, .int .i64 f1, .bool f2, .string f3] 26)) (.slice a5 y c5) (O j) from fun q => (show elEnt.Owns (w.heap.size + 1) (wr.drewN q) (.slice a5 y c5) (O j) from HO.out).alloc _)
        have HSa' := hide (fun q => src_ent (wr.drewN q) f0 f1 f2 f3)
        have HBa' := hide (show ∀ q, Below w.heap.size w ((wr.drewN q).alloc (.cells #[.string f0, .int .i64 f1, .bool f2, .string f3] 26)) from fun q => (show Below w.heap.size w (wr.drewN q) from ⟨HB.out.os, HB.out.tape, HB.out.output, HB.out.size, HB.out.block⟩).alloc hs _)
        have hba : ∀ q, w.heap.size + 1 ≤ ((wr.drewN q).alloc (.cells #[.string f0, .int .i64 f1, .bool f2, .string f3] 26)).heap.size := fun q => by
          rw [Go.Deep.nblk_alloc]
          show _ ≤ wr.heap.size + 1
          omega
        have HXa := hide (show ∀ q, BoxV 26 ((wr.drewN q).alloc (.cells #[.string f0, .int .i64 f1, .bool f2, .string f3] 26)) w.heap.size #[.string x0, .int .i64 x1, .bool x2, .string x3] from fun q => (show BoxV 26 (wr.drewN q) w.heap.size #[.string x0, .int .i64 x1, .bool x2, .string x3] from HX.out).alloc _)
        rw [z1]
        go_wp2_with fail
        go_quiet (fail)
        go_wp2_with (at_builtin; go_loud (refine El.appendSrc (e := elEnt) rfl (.tmp 29) (.tmp 34) 24 rfl Try.underlying24 _ _ infoEnt rfl (by decide) (by decide) (w.heap.size + 1) _ _ _ _ (O j) [(f0, f1, f2, f3)] rfl rfl (hide (HOa'.out _)) (hide (HSa'.out _)) (hide (Below.refl _ _)) (hba _) (O j ++ [(f0, f1, f2, f3)]) (y + 1) rfl HM'.out (by omega) ?_); intro a6 c6 w6 HO6 HB6 hz6 _)
        have HB7 := hide ((HBa'.out _).trans (HB6.out.mono (by omega)))
        have HX7 := hide ((HXa.out _).below HB6.out (by omega))
        have hba6 := Nat.le_trans (hba _) hz6
        go_roundw
        case rel => exact ⟨j + 1, y + 1, a6, c6, rfl, by rw [decide_eq_true (show P < j + 1 by omega)], by go_num, by omega, by omega, by rw [HM.out]; exact HM', by rw [HM.out]; exact HO6, HX7, HB7, hba6⟩
        case measure => simp [intOf]; omega
      · have z1 : decide (P < j) = false := decide_eq_false (by omega)
        have HDB := hide (show ∀ w' : World, Below w.heap.size w w' → w'.cell? ⟨b, off + j * 4, none⟩ = some (.string f0) ∧ w'.cell? ⟨b, off + j * 4 + 1, none⟩ = some (.int .i64 f1) ∧ w'.cell? ⟨b, off + j * 4 + 2, none⟩ = some (.bool f2) ∧ w'.cell? ⟨b, off + j * 4 + 3, none⟩ = some (.string f3) from fun w' h => by
          have k := HR.out (by have := (List.getElem?_eq_some_iff.1 HJ.out).1; omega)
          obtain ⟨b', off', q, hb', hc'⟩ := k
          simp only [Option.some.injEq, Addr.mk.injEq, and_true] at q
          obtain ⟨rfl, rfl⟩ := q
          obtain ⟨hjL, hx⟩ := List.getElem?_eq_some_iff.1 HJ.out
          obtain ⟨c0, c1, c2, c3⟩ := cellsEnt hx (hc' j hjL)
          exact ⟨(h.cell (p := ⟨b, off + j * 4, none⟩) hb).trans c0, (h.cell (p := ⟨b, off + j * 4 + 1, none⟩) hb).trans c1, (h.cell (p := ⟨b, off + j * 4 + 2, none⟩) hb).trans c2, (h.cell (p := ⟨b, off + j * 4 + 3, none⟩) hb).trans c3⟩)
        have HAPJ := hide (HAP.out j _ HJ.out hp)
        obtain ⟨U, hU⟩ : ∃ U, U = decide (ahead (x0, x1, x2, x3) (f0, f1, f2, f3)) := ⟨_, rfl⟩
        have HU := hide hU
        have HAH := hide (fun W => l9Ahead_any x0 x1 x2 x3 f0 f1 f2 f3 W)
        rw [← hU] at HAH
        clear hU
        rw [z1]
        obtain ⟨k0, k1, k2, k3⟩ := HX.out.four'
        go_wp2_with fail
        go_region_held3 (fun w' => (w'.cell? ⟨b, off + j * 4, none⟩ = some (.string f0) ∧ w'.cell? ⟨b, off + j * 4 + 1, none⟩ = some (.int .i64 f1) ∧ w'.cell? ⟨b, off + j * 4 + 2, none⟩ = some (.bool f2) ∧ w'.cell? ⟨b, off + j * 4 + 3, none⟩ = some (.string f3)) ∧ w'.cell? ⟨w.heap.size, 0, none⟩ = some (.string x0) ∧ w'.cell? ⟨w.heap.size, 1, none⟩ = some (.int .i64 x1) ∧ w'.cell? ⟨w.heap.size, 2, none⟩ = some (.bool x2) ∧ w'.cell? ⟨w.heap.size, 3, none⟩ = some (.string x3))
          (first
            | exact ⟨⟨d0, d1, d2, d3⟩, k0, k1, k2, k3⟩
            | with_reducible exact ⟨HDB.out _ HB2.out, HX2.out.four'⟩)
          (first
            | (go_at_call 89
               refine (HAH.out _).mono ?_
               rintro e w2 ⟨rfl, hb2⟩
               have hb2' := below_of_drew' hb2
               have HB2 := hide (HB.out.trans (hb2'.mono hs))
               have HX2 := hide (HX.out.below hb2' HX.out.lt)
               have HO2 := hide (HO.out.below hb2' (Nat.le_refl _))
               have hw2 : w.heap.size + 1 ≤ w2.heap.size := Nat.le_trans hw1 hb2'.size
               clear hb2 hb2'))
        all_goals clear k0 k1 k2 k3 d0 d1 d2 d3 HX HO HB
        all_goals obtain ⟨k0, k1, k2, k3⟩ := HX2.out.four'
        all_goals obtain ⟨d0, d1, d2, d3⟩ := HDB.out _ HB2.out
        all_goals cases U with
        | true =>
          have HJP := hide (HAPJ.out.1 (of_decide_eq_true HU.out.symm))
          have HM := hide (HPUT.out j _ HJ.out HJP.out)
          have HM1 := hide (show (O j ++ [(x0, x1, x2, x3)]).length = y + 1 by rw [List.length_append, HY.out]; rfl)
          have HM2 := hide (show (O j ++ [(x0, x1, x2, x3)] ++ [(f0, f1, f2, f3)]).length = y + 1 + 1 by rw [List.length_append, HM1.out]; rfl)
          have HOa := hide (HO2.out.alloc (.cells #[.string x0, .int .i64 x1, .bool x2, .string x3] 26))
          have HSa := hide (src_ent w2 x0 x1 x2 x3)
          have HBa := hide (HB2.out.alloc HB2.out.size (.cells #[.string x0, .int .i64 x1, .bool x2, .string x3] 26))
          have hba : w.heap.size + 1 ≤ (w2.alloc (.cells #[.string x0, .int .i64 x1, .bool x2, .string x3] 26)).heap.size := by simp; omega
          have HBb : Hid (Below (w.heap.size + 1) (w2.alloc (.cells #[.string x0, .int .i64 x1, .bool x2, .string x3] 26)) (w2.alloc (.cells #[.string x0, .int .i64 x1, .bool x2, .string x3] 26))) := Below.refl _ _
          have HXa := hide (HX2.out.alloc (.cells #[.string x0, .int .i64 x1, .bool x2, .string x3] 26))
          clear k0 k1 k2 k3 d0 d1 d2 d3
          obtain ⟨k0, k1, k2, k3⟩ := HX2.out.four'
          go_upto_region 9 with (at_builtin; go_loud (refine El.appendSrc (e := elEnt) rfl (.tmp 25) (.tmp 27) 24 rfl Try.underlying24 _ _ infoEnt rfl (by decide) (by decide) (w.heap.size + 1) _ _ _ _ (O j) [(x0, x1, x2, x3)] rfl rfl HOa HSa HBb hba (O j ++ [(x0, x1, x2, x3)]) (y + 1) rfl HM1.out (by omega) ?_); intro a6 c6 w6 HO6 HB6 hz6 _)
          have HB7 := hide (HBa.out.trans (HB6.out.mono (by omega)))
          have HX7 := hide (HXa.out.below HB6.out (by omega))
          have hw6 : w.heap.size + 1 ≤ w6.heap.size := Nat.le_trans hba HB6.out.size
          obtain ⟨d0, d1, d2, d3⟩ := HDB.out _ HB7.out
          have HOb := hide (HO6.out.alloc (.cells #[.string f0, .int .i64 f1, .bool f2, .string f3] 26))
          have HSb := hide (src_ent w6 f0 f1 f2 f3)
          have HBd := hide (HB7.out.alloc HB7.out.size (.cells #[.string f0, .int .i64 f1, .bool f2, .string f3] 26))
          have hbb : w.heap.size + 1 ≤ (w6.alloc (.cells #[.string f0, .int .i64 f1, .bool f2, .string f3] 26)).heap.size := by simp; omega
          have HBc : Hid (Below (w.heap.size + 1) (w6.alloc (.cells #[.string f0, .int .i64 f1, .bool f2, .string f3] 26)) (w6.alloc (.cells #[.string f0, .int .i64 f1, .bool f2, .string f3] 26))) := Below.refl _ _
          have HXb := hide (HX7.out.alloc (.cells #[.string f0, .int .i64 f1, .bool f2, .string f3] 26))
          clear HOa HSa HBa hba HBb HXa HB6 hz6 HO6 k0 k1 k2 k3
          go_wp2_with (at_builtin; go_loud (refine El.appendSrc (e := elEnt) rfl (.tmp 29) (.tmp 34) 24 rfl Try.underlying24 _ _ infoEnt rfl (by decide) (by decide) (w.heap.size + 1) _ _ _ _ (O j ++ [(x0, x1, x2, x3)]) [(f0, f1, f2, f3)] rfl rfl HOb HSb HBc hbb (O j ++ [(x0, x1, x2, x3)] ++ [(f0, f1, f2, f3)]) (y + 1 + 1) rfl HM2.out (by omega) ?_); intro a8 c8 w8 HO8 HB8 hz8 _)
          have HB9 := hide (HBd.out.trans (HB8.out.mono (by omega)))
          have HX9 := hide (HXb.out.below HB8.out (by omega))
          go_roundw
          case rel => exact ⟨j + 1, y + 1 + 1, a8, c8, rfl, by rw [decide_eq_true (show P < j + 1 by have := HJP.out; omega)], by go_num, by omega, by have := HLEN.out (j + 1); rw [HM.out, HM2.out] at this; omega, by rw [HM.out]; exact HM2, by rw [HM.out]; exact HO8, HX9, HB9, by have := hbb; omega⟩
          case measure => simp [intOf]; omega
        | false =>
          have hjP : j ≠ P := fun h => of_decide_eq_false HU.out.symm (HAPJ.out.2 h)
          have HM := hide (HSTEP.out j _ HJ.out hjP)
          have HM2 := hide (show (O j ++ [(f0, f1, f2, f3)]).length = y + 1 by rw [List.length_append, HY.out]; rfl)
          have HOb := hide (HO2.out.alloc (.cells #[.string f0, .int .i64 f1, .bool f2, .string f3] 26))
          have HSb := hide (src_ent w2 f0 f1 f2 f3)
          have HBd := hide (HB2.out.alloc HB2.out.size (.cells #[.string f0, .int .i64 f1, .bool f2, .string f3] 26))
          have hbb : w.heap.size + 1 ≤ (w2.alloc (.cells #[.string f0, .int .i64 f1, .bool f2, .string f3] 26)).heap.size := by simp; omega
          have HBc : Hid (Below (w.heap.size + 1) (w2.alloc (.cells #[.string f0, .int .i64 f1, .bool f2, .string f3] 26)) (w2.alloc (.cells #[.string f0, .int .i64 f1, .bool f2, .string f3] 26))) := Below.refl _ _
          have HXb := hide (HX2.out.alloc (.cells #[.string f0, .int .i64 f1, .bool f2, .string f3] 26))
          go_wp2_with (at_builtin; go_loud (refine El.appendSrc (e := elEnt) rfl (.tmp 29) (.tmp 34) 24 rfl Try.underlying24 _ _ infoEnt rfl (by decide) (by decide) (w.heap.size + 1) _ _ _ _ (O j) [(f0, f1, f2, f3)] rfl rfl HOb HSb HBc hbb (O j ++ [(f0, f1, f2, f3)]) (y + 1) rfl HM2.out (by omega) ?_); intro a8 c8 w8 HO8 HB8 hz8 _)
          have HB9 := hide (HBd.out.trans (HB8.out.mono (by omega)))
          have HX9 := hide (HXb.out.below HB8.out (by omega))
          go_roundw
          case rel => exact ⟨j + 1, y + 1, a8, c8, rfl, by rw [decide_eq_false (show ¬ P < j + 1 by omega)], by go_num, by omega, by omega, by rw [HM.out]; exact HM2, by rw [HM.out]; exact HO8, HX9, HB9, by have := hbb; omega⟩
          case measure => simp [intOf]; omega
    · have hjn : j = n := by omega
      subst hjn
      rcases Nat.lt_or_ge P j with hp | hp
      · have z1 : decide (P < j) = true := decide_eq_true hp
        have HM := hide (HEND.out hp)
        rw [z1]
        go_wp2_with fail
        go_ret
        exact ⟨_, rfl, by rw [← HM.out]; exact HO.out.mono (by omega), HB.out⟩
      · have z1 : decide (P < j) = false := decide_eq_false (by omega)
        have HM := hide (HLAST.out hp)
        have HM1 := hide (show (O j ++ [(x0, x1, x2, x3)]).length = y + 1 by rw [List.length_append, HY.out]; rfl)
        have HOa := hide (HO.out.alloc (.cells #[.string x0, .int .i64 x1, .bool x2, .string x3] 26))
        have HSa := hide (src_ent wr x0 x1 x2 x3)
        have HBa := hide (HB.out.alloc HB.out.size (.cells #[.string x0, .int .i64 x1, .bool x2, .string x3] 26))
        have hba : w.heap.size + 1 ≤ (wr.alloc (.cells #[.string x0, .int .i64 x1, .bool x2, .string x3] 26)).heap.size := by simp; omega
        have HBb : Hid (Below (w.heap.size + 1) (wr.alloc (.cells #[.string x0, .int .i64 x1, .bool x2, .string x3] 26)) (wr.alloc (.cells #[.string x0, .int .i64 x1, .bool x2, .string x3] 26))) := Below.refl _ _
        obtain ⟨k0, k1, k2, k3⟩ := HX.out.four'
        rw [z1]
        go_wp2_with (at_builtin; go_loud (refine El.appendSrc (e := elEnt) rfl (.tmp 38) (.tmp 40) 24 rfl Try.underlying24 _ _ infoEnt rfl (by decide) (by decide) (w.heap.size + 1) _ _ _ _ (O j) [(x0, x1, x2, x3)] rfl rfl HOa HSa HBb hba (O j ++ [(x0, x1, x2, x3)]) (y + 1) rfl HM1.out (by omega) ?_); intro a6 c6 w6 HO6 HB6 hz6 _)
        go_ret
        exact ⟨_, rfl, by rw [← HM.out]; exact HO6.out.mono (by omega), HBa.out.trans (HB6.out.mono (by omega))⟩
end Go.Proofs.Ytphfakdbgohhgaa
