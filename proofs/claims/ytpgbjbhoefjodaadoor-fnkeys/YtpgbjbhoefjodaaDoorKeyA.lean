/-
  Contract of impl.KeyAdd.
-/
import Derived.Test.YtpgbjbhoefjodaaDoorKeyW
import Derived.Test.YtpgbjbhoefjodaaDoorKeyI
namespace Go.Proofs.YtpgbjbhoefjodaaDoor
open Go.ChangeShapes Go.WideShapes Go.ChangeAt Go.RowKit

set_option maxHeartbeats 4000000 in
theorem iKeyAdd_any (B : Nat) (m : ByteArray) (v : Value) (L : List Slot) (x t : Int) (key : ByteArray) (w : World) (hO : OwnsS B w v L) (hl : L.length ≤ 2097151) :
    Calls Tryd.prog 15 #[.agg #[.string m, v, .int .i64 x], .int .i64 t, .string key] w (DevBPost w (addV m L x t key)) := by
  obtain ⟨a, cap, rfl, hrd, _⟩ := hO.form
  have HO := hide hO
  have HL := hide hl
  have HR := hide hrd
  obtain ⟨R, hR⟩ : ∃ R, R = addV m L x t key := ⟨_, rfl⟩
  have HRR := hide hR
  rw [← hR]
  have HC := hide (fun W hr => iKeyOk_any m a cap L x W hr (by have := HL.out; omega))
  obtain ⟨n, hn⟩ : ∃ n, L.length = n := ⟨_, rfl⟩
  have HN := hide hn
  rw [hn] at HO HC ⊢
  clear hl hO hn hrd hR
  obtain ⟨W, hW, hWs, hWb, hX, hY⟩ := two_boxes w (.string m) (.slice a n cap) (.int .i64 x)
  go_enter Tryd.func15, Tryd.ntmps15
  go_wp2_with fail
  rw [← hW]
  have HX := hide hX
  have HY := hide hY
  have HWb := hide hWb
  have HWs := hide hWs
  have HO1 := hide (HO.out.below hWb (Nat.le_refl _))
  have HR1 := hide ((HR.out.below hWb (Nat.le_refl _)).mono hWb.size)
  clear hW hX hY hWb hWs HO HR
  refine (HC.out _ HR1.out).mono ?_
  rintro e w1 ⟨rfl, hb1⟩
  have HX1 := hide (HX.out.below hb1 HX.out.lt)
  have HY1 := hide (HY.out.below hb1 HY.out.lt)
  have HO2 := hide (HO1.out.below hb1 (Nat.le_refl _))
  have HR2 := hide ((HR1.out.below hb1 (Nat.le_refl _)).mono hb1.size)
  have HB1 := hide hb1
  clear hb1 HC
  obtain ⟨c0, c1, c2⟩ := HX1.out.cells
  obtain ⟨y0, y1, y2⟩ := HY1.out.cells
  obtain ⟨z0, z1, z2⟩ := HY1.out.frozen
  cases hd : devOkB m L x with
  | false =>
    have HV := hide (HRR.out.trans (addV_bad hd))
    clear hd
    go_wp2_with fail
    refine bodyPost_ret (res_dev_tmp rfl _ _ (w.heap.size + 1) rfl (((HY1.out.set0 _).set1 _).set2 _)) rfl ?_
    rw [HV.out]
    exact ⟨_, rfl, OwnsS.nil _ _, HWb.out.trans ((((HB1.out.mono HWb.out.size).setCell (by simp) _).setCell (by simp) _).setCell (by simp) _)⟩
  | true =>
    have HD := hide hd
    clear hd
    have HIns := hide (fun W' (h : OwnsS B W' (.slice a L.length cap) L) => insert_any B a cap L t key W' h (devOkB_iff.1 HD.out).2.1.2.1 HL.out)
    obtain ⟨E, hE⟩ : ∃ E, E = insL L t key := ⟨_, rfl⟩
    have HEl := hide (show E.length = n + 1 by rw [hE, length_insL, HN.out])
    have HE := hide hE
    have HCl := hide (fun W' (h : OwnsS B W' (.slice a L.length cap) L) => devClone_any B m (.slice a L.length cap) L x W' h (by have := HL.out; omega))
    rw [HN.out] at HIns HCl
    rw [← hE] at HIns
    clear hE
    have hlt2 := HX1.out.lt
    have hly2 := HY1.out.lt
    have HO3 := HO2
    have HX2 := HX1
    have HY2 := HY1
    clear HO1 HO2 HR1 HR2 HX1 HY1
    go_upto_region 3 with (fail)
    go_cut [8] from 13 (fun s8 wF => Kept7 w w1 m E x s8 wF)
    case first =>
      go_region_held3 (fun w' => w'.cell? ⟨w.heap.size, 0, none⟩ = some (.string m) ∧ w'.cell? ⟨w.heap.size, 1, none⟩ = some (.slice a n cap) ∧ w'.cell? ⟨w.heap.size, 2, none⟩ = some (.int .i64 x))
        (first
          | with_reducible exact HX2.out.cells
          | with_reducible exact HX2.out.drew.cells
          | with_reducible exact (HX2.out.alloc _).drew.cells
          | with_reducible exact HX3.out.cells
          | with_reducible exact (HX3.out.alloc _).cells
          | with_reducible exact HX4.out.cells
          | with_reducible exact (HX4.out.alloc _).cells
          | with_reducible exact (((HX4.out.set_other (Nat.ne_of_gt hlt2) _).set_other (Nat.ne_of_gt hlt2) _).set_other (Nat.ne_of_gt hlt2) _).cells
          | with_reducible exact (((HX4.out.set_other (Nat.ne_of_gt hlt3) _).set_other (Nat.ne_of_gt hlt3) _).set_other (Nat.ne_of_gt hlt3) _).cells)
        (first
          | (go_at_call 41
             refine (HIns.out _ ?_).mono ?_
             · first
               | with_reducible exact HO3.out.drew
               | with_reducible exact (HO3.out.alloc _).drew
             rintro e w3 ⟨v3, rfl, ho3, hb3⟩
             obtain ⟨a3, cap3, rfl, _⟩ := ho3.form
             have hb3' := below_of_drew hb3
             have HB3 : Hid (Below w1.heap.size w1 w3) := by
               first
               | with_reducible exact hide hb3'
               | exact hide (((Below.refl _ _).alloc (Nat.le_refl _) _).trans (hb3'.mono (by simp)))
             (try have H7 : Hid (BoxB 31 w3 w1.heap.size (.string ⟨#[]⟩) (.slice none 0 0) (.int .i64 0)) := by with_reducible exact hide ((BoxB.new _ w1 _ _ _).below hb3' (BoxB.new _ w1 _ _ _).lt))
             have HO4 : Hid (OwnsS w1.heap.size w3 (.slice a3 E.length cap3) E) := ho3.mono (by simp)
             (try have HN7 : Hid (∀ k, (Value.slice a3 E.length cap3).ownBlock = some k → k ≠ w1.heap.size) := hide (fun k hk => Nat.ne_of_gt (show w1.heap.size + 1 ≤ k by have := (ho3.lt k hk).1; simpa using this)))
             have HN8 : Hid (∀ k, (Value.slice a3 E.length cap3).ownBlock = some k → k ≠ w3.heap.size) := hide (fun k hk => Nat.ne_of_lt (ho3.lt k hk).2)
             have HX3 := hide (HX2.out.below HB3.out hlt2)
             have HY3 := hide (HY2.out.below HB3.out hly2)
             have hlt3 := HX3.out.lt
             have hly3 := HY3.out.lt
             clear hb3 hb3' ho3)
          | (go_at_call 37
             refine (withSlots_any m _ x _ _ _ _).mono ?_
             rintro e w4 ⟨rfl, hb4⟩
             have HB4 : Hid (Below w3.heap.size w3 w4) := by
               first
               | with_reducible exact hide hb4
               | exact hide (((Below.refl _ _).alloc (Nat.le_refl _) _).trans (hb4.mono (by simp)))
             first
             | (have Y7 : Hid (BoxB 31 w4 w1.heap.size (.string ⟨#[]⟩) (.slice none 0 0) (.int .i64 0)) := H7.out.below HB4.out H7.out.lt
                obtain ⟨q0, q1, q2⟩ := Y7.out.cells
                obtain ⟨r0, r1, r2⟩ := Y7.out.frozen)
             | (have Y7 : Hid (BoxB 31 w4 w3.heap.size (.string ⟨#[]⟩) (.slice none 0 0) (.int .i64 0)) := by with_reducible exact hide ((BoxB.new _ w3 _ _ _).below hb4 (BoxB.new _ w3 _ _ _).lt)
                obtain ⟨q0, q1, q2⟩ := Y7.out.cells
                obtain ⟨r0, r1, r2⟩ := Y7.out.frozen)
             | skip
             have HX4 := hide (HX3.out.below HB4.out hlt3)
             have HY4 := hide (HY3.out.below HB4.out HY3.out.lt)
             have HO5 := hide (HO4.out.below HB4.out (Nat.le_refl _))
             clear hb4))
      all_goals go_wp2_with fail
      all_goals go_meet
      all_goals
        have HB5 := hide (HB3.out.trans (HB4.out.mono HB3.out.size))
        have hly4 := HY4.out.lt
        unfold Kept7
      all_goals first
        | with_reducible exact ⟨w4.heap.size, a3, cap3, _, rfl, hly4, hide (fun k hk => Nat.ne_of_lt (HO5.out.lt k hk).2), hide (BoxB.new _ w4 _ _ _), hide (HY4.out.alloc _), hide (HO5.out.alloc _), hide (HB5.out.alloc HB5.out.size _)⟩
        | with_reducible exact ⟨w3.heap.size, a3, cap3, _, rfl, hly3, HN8, hide (((Y7.out.set0 _).set1 _).set2 _), hide (((HY4.out.set_other (Nat.ne_of_gt hly3) _).set_other (Nat.ne_of_gt hly3) _).set_other (Nat.ne_of_gt hly3) _), hide (((HO5.out.set_ne HN8.out _).set_ne HN8.out _).set_ne HN8.out _), hide (((HB5.out.setCell HB3.out.size _).setCell HB3.out.size _).setCell HB3.out.size _)⟩
        | with_reducible exact ⟨w1.heap.size, a3, cap3, _, rfl, hly2, HN7, hide (((Y7.out.set0 _).set1 _).set2 _), hide (((HY4.out.set_other (Nat.ne_of_gt hly2) _).set_other (Nat.ne_of_gt hly2) _).set_other (Nat.ne_of_gt hly2) _), hide (((HO5.out.set_ne HN7.out _).set_ne HN7.out _).set_ne HN7.out _), hide (((HB5.out.setCell (Nat.le_refl _) _).setCell (Nat.le_refl _) _).setCell (Nat.le_refl _) _)⟩
    case rest =>
      obtain ⟨g8, a3, cap3, n3, rfl, hg8, HN7, HZ, HYF, HOF, HBF⟩ := hcut
      obtain ⟨a3', c3', hform, hrd3, _⟩ := HOF.out.form
      simp only [Value.slice.injEq] at hform
      obtain ⟨rfl, rfl, rfl⟩ := hform
      have HRF := hide hrd3
      have HXF := hide (HX2.out.below HBF.out hlt2)
      have HOo := hide (HO3.out.below HBF.out (Nat.le_refl _))
      clear hrd3 c0 c1 c2 y0 y1 y2 z0 z1 z2
      obtain ⟨q0, q1, q2⟩ := HZ.out.cells
      go_wp2_with fail
      refine (iKeyOk_any m a3 cap3 E x _ HRF.out (by rw [HEl.out]; have := HL.out; rw [HN.out] at this; omega)).mono ?_
      rintro e w5 ⟨rfl, hb5⟩
      have HX5 := hide (HXF.out.below hb5 HXF.out.lt)
      have HY5 := hide (HYF.out.below hb5 HYF.out.lt)
      have HZ5 := hide (HZ.out.below hb5 HZ.out.lt)
      have HO5 := hide (HOF.out.below hb5 (Nat.le_refl _))
      have HOo5 := hide (HOo.out.below hb5 (Nat.le_refl _))
      have HB5 := hide (HBF.out.trans (hb5.mono HBF.out.size))
      clear hb5 HXF HYF HZ HOF HOo HBF q0 q1 q2 HRF
      obtain ⟨c0, c1, c2⟩ := HX5.out.cells
      obtain ⟨y0, y1, y2⟩ := HY5.out.cells
      obtain ⟨z0, z1, z2⟩ := HY5.out.frozen
      obtain ⟨q0, q1, q2⟩ := HZ5.out.cells
      cases hd2 : devOkB m E x with
      | false =>
        have HV := hide (HRR.out.trans (addV_no HD.out (by rw [← HE.out]; exact hd2)))
        clear hd2
        go_wp2_with fail
        refine (HCl.out _ HOo5.out).mono ?_
        rintro e w6 ⟨v6, rfl, ho6, hb6⟩
        obtain ⟨a6, cap6, rfl, _⟩ := ho6.form
        have HY6 := hide (HY5.out.below hb6 HY5.out.lt)
        have HB6 := hide (HB5.out.trans (hb6.mono HB5.out.size))
        have HO6 := hide ho6
        have hlt := HY5.out.lt
        have hw5 := HB5.out.size
        clear ho6 hb6 HX5 HY5 c0 c1 c2 y0 y1 y2 z0 z1 z2 q0 q1 q2
        obtain ⟨y0, y1, y2⟩ := HY6.out.cells
        obtain ⟨z0, z1, z2⟩ := HY6.out.frozen
        go_wp2_with fail
        refine bodyPost_ret (res_dev_tmp rfl _ _ (w.heap.size + 1) rfl (((HY6.out.set0 _).set1 _).set2 _)) rfl ?_
        rw [HV.out]
        refine ⟨_, rfl, ?_, HWb.out.trans ((HB1.out.mono HWb.out.size).trans ((((HB6.out.mono (by have := HWb.out.size; have := HB1.out.size; omega)).setCell (by simp) _).setCell (by simp) _).setCell (by simp) _))⟩
        exact (((HO6.out.set_other hlt _).set_other hlt _).set_other hlt _).mono (by have := HWb.out.size; have := HB1.out.size; omega)
      | true =>
        have HV := hide (HRR.out.trans (addV_yes HD.out (by rw [← HE.out]; exact hd2)))
        clear hd2
        go_wp2_with fail
        refine bodyPost_ret (res_dev_tmp rfl _ _ (w.heap.size + 1) rfl (((HY5.out.set0 _).set1 _).set2 _)) rfl ?_
        rw [HV.out]
        refine ⟨_, rfl, ?_, HWb.out.trans ((HB1.out.mono HWb.out.size).trans ((((HB5.out.mono (by have := HWb.out.size; have := HB1.out.size; omega)).setCell (by simp) _).setCell (by simp) _).setCell (by simp) _))⟩
        rw [← HE.out]
        exact (((HO5.out.set_other hly2 _).set_other hly2 _).set_other hly2 _).mono (by have := HWb.out.size; have := HB1.out.size; omega)
end Go.Proofs.YtpgbjbhoefjodaaDoor
