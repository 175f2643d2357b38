/-
  Contract of spec.KeyWipe.
-/
import Derived.Test.YtpgbjbhoefjodaaDoorKeyW
namespace Go.Proofs.YtpgbjbhoefjodaaDoor
open Go.ChangeShapes Go.WideShapes Go.ChangeAt Go.RowKit

theorem box_ne {g g' : Nat} (h : g < g') : (⟨g', 0, none⟩ : Addr).block ≠ g := Nat.ne_of_gt h

set_option maxHeartbeats 4000000 in
theorem sKeyWipe_any (B : Nat) (m : ByteArray) (v : Value) (L : List Slot) (x t : Int) (w : World) (hO : OwnsS B w v L) (hl : L.length ≤ 2097152) :
    Calls Tryd.prog 13 #[.agg #[.string m, v, .int .i64 x], .int .i64 t] w (DevBPost w (wipeV m L x t)) := by
  obtain ⟨a, cap, rfl, hrd, _⟩ := hO.form
  have HO := hide hO
  have HL := hide hl
  have HR := hide hrd
  obtain ⟨R, hR⟩ : ∃ R, R = wipeV m L x t := ⟨_, rfl⟩
  have HRR := hide hR
  rw [← hR]
  have HC := hide (fun W hr => sKeyOk_any m a cap L x W hr HL.out)
  have HK := hide (fun W' (h : OwnsS B W' (.slice a L.length cap) L) => l4Copy_any B m (.slice a L.length cap) L x W' h HL.out)
  obtain ⟨n, hn⟩ : ∃ n, L.length = n := ⟨_, rfl⟩
  have HN := hide hn
  rw [hn] at HO HC HK hl ⊢
  clear hO hn hrd hR
  obtain ⟨W, hW, hWs, hWb, hX, hY⟩ := two_boxes w (.string m) (.slice a n cap) (.int .i64 x)
  go_enter Tryd.func13, Tryd.ntmps13
  go_wp2_with fail
  rw [← hW]
  have HX := hide hX
  have HY := hide hY
  have HWb := hide hWb
  have HO1 := hide (HO.out.below hWb (Nat.le_refl _))
  have HR1 := hide ((HR.out.below hWb (Nat.le_refl _)).mono hWb.size)
  clear hW hX hY hWb hWs HO
  refine (HC.out _ HR1.out).mono ?_
  rintro e w1 ⟨rfl, hb1⟩
  have HX1 := hide (HX.out.below hb1 HX.out.lt)
  have HY1 := hide (HY.out.below hb1 HY.out.lt)
  have HO2 := hide (HO1.out.below hb1 (Nat.le_refl _))
  have HB1 := hide (HWb.out.trans (hb1.mono HWb.out.size))
  clear hb1 HC HX HY HO1 HR1 HWb
  obtain ⟨c0, c1, c2⟩ := HX1.out.cells
  obtain ⟨y0, y1, y2⟩ := HY1.out.cells
  obtain ⟨z0, z1, z2⟩ := HY1.out.frozen
  cases hd : devOkB m L x with
  | false =>
    have HV := hide (HRR.out.trans (wipeV_bad hd))
    clear hd
    go_wp2_with fail
    refine bodyPost_ret (res_dev_tmp rfl _ _ (w.heap.size + 1) rfl (((HY1.out.set0 _).set1 _).set2 _)) rfl ?_
    rw [HV.out]
    exact ⟨_, rfl, OwnsS.nil _ _, ((HB1.out.setCell (by simp) _).setCell (by simp) _).setCell (by simp) _⟩
  | true =>
    have HD := hide hd
    clear hd
    go_wp2_with fail
    refine (HK.out _ HO2.out).mono ?_
    rintro e w2 ⟨vc, rfl, hoc, hb2⟩
    obtain ⟨ac, capc, rfl, _⟩ := hoc.form
    rw [HN.out] at hoc ⊢
    have HX2 := hide (HX1.out.below hb2 HX1.out.lt)
    have HY2 := hide (HY1.out.below hb2 HY1.out.lt)
    have HB2 := hide (HB1.out.trans (hb2.mono HB1.out.size))
    have HOc := hide hoc
    have hly1 := HY1.out.lt
    have hw1 := HB1.out.size
    clear hb2 hoc HX1 HY1 HB1 HO2 HK c0 c1 c2 y0 y1 y2 z0 z1 z2
    have hlx := HX2.out.lt
    have hly := HY2.out.lt
    obtain ⟨W3, hW3⟩ : ∃ W3, W3 = w2.alloc (.cells #[.string m, .slice ac n capc, .int .i64 x] 31) := ⟨_, rfl⟩
    have HX3 := hide (show BoxB 31 W3 w.heap.size _ _ _ from hW3 ▸ HX2.out.alloc _)
    have HY3 := hide (show BoxB 31 W3 (w.heap.size + 1) _ _ _ from hW3 ▸ HY2.out.alloc _)
    have H63 := hide (show BoxB 31 W3 w2.heap.size (.string m) (.slice ac n capc) (.int .i64 x) from hW3 ▸ BoxB.new _ w2 _ _ _)
    have HB3 := hide (show Below w.heap.size w W3 from hW3 ▸ HB2.out.alloc HB2.out.size _)
    have HOc3 := hide (show OwnsS w1.heap.size W3 (.slice ac n capc) L from hW3 ▸ HOc.out.alloc _)
    have HS3 := hide (show W3.heap.size = w2.heap.size + 1 by rw [hW3]; simp)
    go_wp2_with fail
    rw [← hW3]
    have hs3 : w2.heap.size + 1 ≤ W3.heap.size := by rw [HS3.out]; exact Nat.le_refl _
    have hP0 := OwnsS.lit0 (w2.heap.size + 1) W3 hs3
    rw [HS3.out] at hP0
    have HP0 := hide hP0
    have hs3' : W3.heap.size ≤ w2.heap.size + 1 := by rw [HS3.out]; exact Nat.le_refl _
    clear hP0 hW3 HX2 HY2 HB2 HOc
    go_loopw [7, 8] (fun o i wr => ∃ (j n' c' : Nat) (a' : Option Addr), i = .int .i64 j ∧ o = .slice a' n' c' ∧ j ≤ n ∧ n' ≤ j ∧ Hid ((filtL (L.take j) t).length = n') ∧ Hid (OwnsS (w2.heap.size + 1) wr (.slice a' n' c') (filtL (L.take j) t)) ∧ Hid (Below (w2.heap.size + 1) W3 wr) ∧ w2.heap.size + 1 ≤ wr.heap.size) (fun _ i _ => n - (intOf i).toNat)
    case atStart => exact ⟨0, 0, 0, _, rfl, rfl, Nat.zero_le _, Nat.le_refl _, rfl, HP0, (Below.refl _ _).alloc hs3 _, by simp; omega⟩
    case round =>
      obtain ⟨j, n', c', a', rfl, rfl, hj, hn', HF, HOF, HBF, hsF⟩ := hrel
      have HXF := hide (HX3.out.below HBF.out (by omega))
      obtain ⟨c0, c1, c2⟩ := HXF.out.cells
      by_cases hlt : j < n
      · have hjL : j < L.length := by rw [HN.out]; exact hlt
        obtain ⟨b, o, rfl, hb, hc⟩ := HR.out (by omega)
        obtain ⟨p0, p1⟩ := hc j hjL
        have d0 := (((HBF.out.mono (by omega : w.heap.size ≤ w2.heap.size + 1)).cell (p := ⟨b, o + j * 2, none⟩) hb).trans (HB3.out.cell (p := ⟨b, o + j * 2, none⟩) hb)).trans p0
        have d1 := (((HBF.out.mono (by omega : w.heap.size ≤ w2.heap.size + 1)).cell (p := ⟨b, o + j * 2 + 1, none⟩) hb).trans (HB3.out.cell (p := ⟨b, o + j * 2 + 1, none⟩) hb)).trans p1
        have HSn := hide (filtL_snoc L t j hjL)
        clear hc p0 p1 hjL
        by_cases ht : tn L j = t
        · have t0 : (tn L j != t) = false := by rw [bne_eq_false_iff_eq]; exact ht
          rw [if_pos ht, List.append_nil] at HSn
          clear ht
          go_wp2_with fail
          go_roundw
          case rel => exact ⟨j + 1, n', c', a', by go_num, rfl, by omega, by omega, by rw [HSn.out]; exact HF, by rw [HSn.out]; exact HOF, HBF, hsF⟩
          case measure => simp [intOf]; omega
        · have t0 : (tn L j != t) = true := by rw [bne_iff_ne]; exact ht
          rw [if_neg ht] at HSn
          clear ht
          have HS2 : Hid (OwnsS 0 (wr.alloc (.cells #[.int .i64 (tn L j), .string (ky L j)] 58)) (.slice (some ⟨wr.heap.size, 0, none⟩) 1 1) [(tn L j, ky L j)]) := OwnsS.lit1 0 wr _ _ (Nat.zero_le _)
          have HO2 : ∀ o, Hid (OwnsS (w2.heap.size + 1) (wr.alloc o) (.slice a' n' c') (filtL (L.take j) t)) := fun o => HOF.out.alloc o
          have HB2 : ∀ o, Hid (Below (w2.heap.size + 1) W3 (wr.alloc o)) := fun o => HBF.out.alloc hsF o
          have hs2 : ∀ o, w2.heap.size + 1 ≤ (wr.alloc o).heap.size := fun o => by simp; omega
          have HF2 := hide (show (filtL (L.take (j + 1)) t).length = n' + 1 by rw [HSn.out, List.length_append, HF.out]; rfl)
          go_wp2_with (at_builtin; go_loud (refine appendS rfl (.tmp 31) (.tmp 37) rfl (w2.heap.size + 1) 0 W3 _ _ _ (filtL (L.take j) t) [(tn L j, ky L j)] rfl rfl (HO2 _) HS2 (HB2 _) (hs2 _) (filtL (L.take (j + 1)) t) (n' + 1) HSn.out.symm HF2.out (by omega) ?_); intro a2 c2' w4 HO' HB' hsz')
          go_roundw
          case rel => exact ⟨j + 1, n' + 1, c2', a2, by go_num, rfl, by omega, by omega, HF2, HO', HB', by have := hs2 (.cells #[.int .i64 (tn L j), .string (ky L j)] 58); omega⟩
          case measure => simp [intOf]; omega
      · have hjn : j = n := by omega
        rw [hjn, ← HN.out, List.take_length] at HF HOF
        have HYF := hide (HY3.out.below HBF.out (by omega))
        have H6F := hide (H63.out.below HBF.out (by omega))
        have HOcF := hide (HOc3.out.below HBF.out hs3')
        have HBw := hide (HB3.out.trans (HBF.out.mono (by omega)))
        have hxb := (devOkB_iff.1 HD.out).2.2
        have hasc := (devOkB_iff.1 HD.out).2.1.2.1
        obtain ⟨y0, y1, y2⟩ := HYF.out.cells
        obtain ⟨z0, z1, z2⟩ := HYF.out.frozen
        obtain ⟨q0, q1, q2⟩ := H6F.out.cells
        obtain ⟨r0, r1, r2⟩ := H6F.out.frozen
        cases hi : slotIx L t with
        | none =>
          have HV := hide (HRR.out.trans (wipeV_none HD.out hi))
          have e0 : ((n' : Int) == (n : Int)) = true := by
            rw [beq_iff_eq]
            have := HF.out
            rw [filtL_none hi, HN.out] at this
            omega
          clear hi hjn hasc hxb
          go_wp2_with fail
          refine bodyPost_ret (res_dev_tmp rfl _ _ (w.heap.size + 1) rfl (((HYF.out.set0 _).set1 _).set2 _)) rfl ?_
          rw [HV.out]
          refine ⟨_, rfl, ?_, ((HBw.out.setCell (by simp) _).setCell (by simp) _).setCell (by simp) _⟩
          exact (((HOcF.out.set_other hly1 _).set_other hly1 _).set_other hly1 _).mono hw1
        | some i =>
          have hfe := filtL_some hasc hi
          rw [hfe] at HF HOF
          have e0 : ((n' : Int) == (n : Int)) = false := by
            rw [beq_eq_false_iff_ne]
            have h1 := HF.out
            have h2 := (slotIx_of_some hi).1
            rw [List.length_eraseIdx, if_pos h2, HN.out] at h1
            rw [HN.out] at h2
            omega
          by_cases hx : x = 1000000
          · have HV := hide (HRR.out.trans (wipeV_full HD.out hx))
            have x0 : (1000000 : Int) ≤ x := by omega
            clear hi hjn hasc hxb hx hfe
            go_wp2_with fail
            refine bodyPost_ret (res_dev_tmp rfl _ _ (w.heap.size + 1) rfl (((HYF.out.set0 _).set1 _).set2 _)) rfl ?_
            rw [HV.out]
            refine ⟨_, rfl, ?_, ((HBw.out.setCell (by simp) _).setCell (by simp) _).setCell (by simp) _⟩
            exact (((HOcF.out.set_other hly1 _).set_other hly1 _).set_other hly1 _).mono hw1
          · have HV := hide (HRR.out.trans (wipeV_some HD.out hx hi))
            have x0 : x < 1000000 := by omega
            have x1 : 0 ≤ x := hxb.1
            clear hi hjn hasc hxb hx hfe
            go_wp2_with fail
            have hne : w2.heap.size ≠ w.heap.size + 1 := by omega
            refine bodyPost_ret (res_dev_tmp rfl _ _ (w.heap.size + 1) rfl (((((HYF.out.set_other hne _).set_other hne _).set0 _).set1 _).set2 _)) rfl ?_
            rw [HV.out]
            refine ⟨_, rfl, ?_, ((((HBw.out.setCell (by simp; omega) _).setCell (by simp; omega) _).setCell (by simp) _).setCell (by simp) _).setCell (by simp) _⟩
            have hl6 : w2.heap.size < w2.heap.size + 1 := by omega
            have hlr : w.heap.size + 1 < w2.heap.size + 1 := by omega
            exact (((((HOF.out.set_other hl6 _).set_other hl6 _).set_other hlr _).set_other hlr _).set_other hlr _).mono (by omega)
end Go.Proofs.YtpgbjbhoefjodaaDoor
