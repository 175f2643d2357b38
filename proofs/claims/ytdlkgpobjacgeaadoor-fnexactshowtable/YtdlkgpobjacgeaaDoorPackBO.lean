/-
  Texts of this proof, put together: TabJ.
-/
import Derived.Test.YtdlkgpobjacgeaaDoorPackBK
import Derived.Test.YtdlkgpobjacgeaaDoorPackBG
import Derived.Test.YtdlkgpobjacgeaaDoorPackBN

/-
  Contract of impl.TableOf, where the table of the program holds its sixteen words.
-/
namespace Go.Proofs.YtdlkgpobjacgeaaDoor
open Go.ChangeShapes Go.WideShapes Go.ChangeAt Go.RowKit

set_option maxHeartbeats 2000000 in
set_option maxRecDepth 20000 in
theorem iTableOf_any (a : Option Addr) (cap : Nat) (L : List En) (w : World) (hr : elEnt.Rd w w.heap.size a L) (hl : L.length ≤ maxLen) (hcap : L.length ≤ cap) (hw0 : 0 < w.heap.size) (hT : Hid (CrcTabIn w)) :
    Calls Tryd.prog 10 #[.slice a L.length cap] w (TabPost w (tblV L) (decide (tblOk L))) := by
  have HR := hide hr
  have HC := hide (fun W h => iMemOk_all a cap L W h hl)
  have hB := hide (fun o => (Below.refl w.heap.size w).alloc (Nat.le_refl _) o)
  have HX0 := hide (BoxV.new 26 w #[.slice none 0 0, .string ⟨#[]⟩, .int .i64 0])
  obtain ⟨n, hn⟩ : ∃ n, n = L.length := ⟨_, rfl⟩
  have HN := hide hn
  rw [← hn] at HC hcap hl ⊢
  unfold maxLen at hl
  clear hr
  by_cases h0 : n = 0
  · have HV1 := hide (show tblV L = zeroT ∧ decide (tblOk L) = false from by
      have h : ¬ tblOk L := fun h => h.1 (List.eq_nil_of_length_eq_zero (by omega))
      exact ⟨tblV_no h, decide_eq_false h⟩)
    have hq : ((n : Int) == 0) = true := by rw [beq_iff_eq]; omega
    clear hn h0
    obtain ⟨y0, y1, y2⟩ := HX0.out.froz3
    obtain ⟨d0, d1, d2⟩ := HX0.out.three
    go_enter Tryd.func10, Tryd.ntmps10
    go_wp2_with fail
    refine bodyPost_ret (res_tab rfl _ _ w.heap.size rfl HX0.out) rfl ?_
    exact ⟨_, by rw [HV1.out.1, HV1.out.2]; rfl, by rw [HV1.out.1]; exact El.Owns.nil _ _, hB.out _⟩
  have hq : ((n : Int) == 0) = false := by rw [beq_eq_false_iff_ne]; omega
  by_cases hm : memOkL L
  · have hok : tblOk L := ⟨fun h => h0 (by rw [hn, h]; rfl), hm⟩
    have HV1 := hide (show tblV L = (partsL L, ⟨(bloomV (keysL L) 16).toArray⟩, maxL L) ∧ decide (tblOk L) = true from ⟨by rw [tblV_yes hok, tblOf], decide_eq_true hok⟩)
    have hn60 : n ≤ 60 := by rw [hn]; exact hm.1
    obtain ⟨b, off, rfl, hb, _⟩ := HR.out (by omega)
    rw [decide_eq_true hm] at HC
    have HPO := hide (fun W h => partsOf_any b off cap L W h (by omega) (by omega) (by omega))
    have HKO := hide (fun W h => keysOf_any (some ⟨b, off, none⟩) cap L W h (by omega))
    have HMO := hide (fun W h => maxSeq_any (some ⟨b, off, none⟩) cap L W h (by omega))
    have HBL := hide (fun W b' c' h hz ht => iBloom_any b' c' (keyS L) 16 W h (by rw [keyS_len]; unfold maxLen; omega) (keyS_size hm.2.1) hz ht)
    rw [keyS_bl] at HBL
    rw [← hn] at HPO HKO HMO
    have HKL := hide (show (keyS L).length = n by rw [keyS_len, hn])
    obtain ⟨F, hF⟩ : ∃ F, F = bloomV (keysL L) 16 := ⟨_, rfl⟩
    obtain ⟨M, hM⟩ : ∃ M, M = maxL L := ⟨_, rfl⟩
    rw [← hF] at HBL HV1
    rw [← hM] at HMO HV1
    rw [HKL.out] at HBL
    unfold PartsPost at HPO
    unfold StrsPost at HKO
    unfold IntPost at HMO
    clear hn hm hok hl hF hM
    go_enter Tryd.func10, Tryd.ntmps10
    go_wp2_with fail
    refine (HC.out _ ((HR.out.below (hB.out _) (Nat.le_refl _)).mono (by simp))).mono ?_
    rintro e w1 ⟨rfl, hb1⟩
    have HB1 := hide ((hB.out _).trans (hb1.mono (hB.out _).size))
    have HX1 := hide (HX0.out.below hb1 HX0.out.lt)
    clear hb1 HX0 HC
    go_wp2_with fail
    refine (HPO.out _ ((HR.out.below HB1.out (Nat.le_refl _)).mono HB1.out.size)).mono ?_
    rintro e w2 ⟨v2, rfl, ho2, hb2⟩
    obtain ⟨a2, c2, rfl, _⟩ := ho2.form
    have HB2 := hide (HB1.out.trans (hb2.mono HB1.out.size))
    have HX2 := hide (HX1.out.below hb2 HX1.out.lt)
    have HO2 := hide ho2
    have h12 := HX1.out.lt
    clear hb2 ho2 HB1 HX1
    go_wp2_with fail
    refine (HKO.out _ ((HR.out.below HB2.out (Nat.le_refl _)).mono HB2.out.size)).mono ?_
    rintro e w3 ⟨v3, rfl, ho3, hb3⟩
    obtain ⟨a3, c3, e3, hrd3, _⟩ := ho3.form
    rw [HKL.out] at e3
    subst e3
    have HB3 := hide (HB2.out.trans (hb3.mono HB2.out.size))
    have HX3 := hide (HX2.out.below hb3 HX2.out.lt)
    have HO3 := hide (HO2.out.below hb3 (Nat.le_refl _))
    have HRK := hide hrd3
    clear hb3 ho3 hrd3 HB2 HX2 HO2
    have hz3 : 0 < w3.heap.size := Nat.lt_of_lt_of_le hw0 HB3.out.size
    go_wp2_with fail
    refine (HBL.out _ _ _ HRK.out hz3 (hide (hT.out.below HB3.out hw0))).mono ?_
    rintro e w4 ⟨rfl, hb4⟩
    have HB4 := hide (HB3.out.trans (hb4.mono HB3.out.size))
    have HX4 := hide (HX3.out.below hb4 HX3.out.lt)
    have HO4 := hide (HO3.out.below hb4 (Nat.le_refl _))
    clear hb4 HB3 HX3 HO3 HRK
    go_wp2_with fail
    refine (HMO.out _ ((HR.out.below HB4.out (Nat.le_refl _)).mono HB4.out.size)).mono ?_
    rintro e w5 ⟨rfl, hb5⟩
    have HB5 := hide (HB4.out.trans (hb5.mono HB4.out.size))
    have HX5 := hide (HX4.out.below hb5 HX4.out.lt)
    have HO5 := hide (HO4.out.below hb5 (Nat.le_refl _))
    clear hb5 HB4 HX4 HO4
    obtain ⟨d0, d1, d2⟩ := HX5.out.three
    obtain ⟨y0, y1, y2⟩ := HX5.out.froz3
    have hl5 := HX5.out.lt
    go_wp2_with fail
    refine bodyPost_ret (res_tab rfl _ _ w.heap.size rfl (HX5.out.all3 _ _ _)) rfl ?_
    refine ⟨.slice a2 (partsL L).length c2, by rw [HV1.out.1, HV1.out.2]; rfl, ?_, below_three HB5.out (Nat.le_refl _) _ _ _⟩
    rw [HV1.out.1]
    exact (((HO5.out.set_other (p := ⟨w.heap.size, 0, none⟩) (by show w.heap.size < _; omega) _).set_other (p := ⟨w.heap.size, 1, none⟩) (by show w.heap.size < _; omega) _).set_other (p := ⟨w.heap.size, 2, none⟩) (by show w.heap.size < _; omega) _).mono (by omega)
  · have HV1 := hide (show tblV L = zeroT ∧ decide (tblOk L) = false from by
      have h : ¬ tblOk L := fun h => hm h.2
      exact ⟨tblV_no h, decide_eq_false h⟩)
    rw [decide_eq_false hm] at HC
    clear hn hm hl
    go_enter Tryd.func10, Tryd.ntmps10
    go_wp2_with fail
    refine (HC.out _ ((HR.out.below (hB.out _) (Nat.le_refl _)).mono (by simp))).mono ?_
    rintro e w1 ⟨rfl, hb1⟩
    have HB1 := hide ((hB.out _).trans (hb1.mono (hB.out _).size))
    have HX1 := hide (HX0.out.below hb1 HX0.out.lt)
    clear hb1 HX0 HC
    obtain ⟨d0, d1, d2⟩ := HX1.out.three
    obtain ⟨y0, y1, y2⟩ := HX1.out.froz3
    have hl1 := HX1.out.lt
    go_wp2_with fail
    refine bodyPost_ret (res_tab rfl _ _ w.heap.size rfl (HX1.out.all3 _ _ _)) rfl ?_
    exact ⟨_, by rw [HV1.out.1, HV1.out.2]; rfl, by rw [HV1.out.1]; exact El.Owns.nil _ _, below_three HB1.out (Nat.le_refl _) _ _ _⟩
end Go.Proofs.YtdlkgpobjacgeaaDoor
