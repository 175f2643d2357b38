/-
  Contracts of spec.l5Land, spec.DevFlush and spec.DevFall.
-/
import Derived.Test.YtnbaffdonbnocaaDevG
namespace Go.Proofs.Ytnbaffdonbnocaa
open Go.ChangeShapes Go.WideShapes Go.ChangeAt Go.RowKit

set_option maxHeartbeats 4000000 in
theorem l5Land_any (B B' : Nat) (v v' : Value) (S : List ByteArray) (L : List Slot) (x t : Int) (all : Bool) (p : Nat → Bool) (w : World) (hT : OwnsT B w v S) (hO : OwnsS B' w v' L) (hd : DevGood S L x) (hp : ∀ i, p i = (all || maskB t i)) (ht : t < 9223372036854775808) :
    Calls Try.prog 51 #[.agg #[v, v', .int .i64 x], .int .i64 t, .bool all] w (DevPost w (landL S L p L.length) [] x) := by
  obtain ⟨a, cap, rfl, _⟩ := hT.form
  obtain ⟨a', cap', rfl, _⟩ := hO.form
  have HT := hide hT
  have HO := hide hO
  have HG := hide hd
  have HP := hide hp
  obtain ⟨n, hn⟩ : ∃ n, S.length = n := ⟨_, rfl⟩
  obtain ⟨m, hm⟩ : ∃ m, L.length = m := ⟨_, rfl⟩
  have HN := hide hn
  have HM := hide hm
  have hnb : n ≤ 16 := by rw [← hn]; exact hd.1.2.1
  have hmb : m ≤ 20 := by rw [← hm]; exact hd.2.1.1
  have HSL := hide (show S.length ≤ 2097152 by omega)
  have HL := hide (show L.length ≤ 2097152 by omega)
  rw [hn] at HT ⊢
  rw [hm] at HO ⊢
  clear hT hO hn hm hd hp
  obtain ⟨W, hW, hWs, hWb, hX, hY⟩ := two_boxes w (.slice a n cap) (.slice a' m cap') (.int .i64 x)
  go_enter Try.func51, Try.ntmps51
  go_wp2_with fail
  rw [← hW]
  have HX := hide hX
  have HY := hide hY
  have HWb := hide hWb
  have HT1 := hide (HT.out.below hWb (Nat.le_refl _))
  have HO1 := hide (HO.out.below hWb (Nat.le_refl _))
  clear hW hX hY hWb HT HO
  refine (l5Copy_any B B' _ _ S L x _ HT1.out HSL.out HO1.out HL.out).mono ?_
  rintro e w1 ⟨v1, u1, rfl, ht1, ho1, hb1⟩
  obtain ⟨a1, c1, rfl, _⟩ := ht1.form
  obtain ⟨a2, c2, rfl, _⟩ := ho1.form
  rw [HN.out] at ht1 ⊢
  rw [HM.out] at ho1 ⊢
  have HT2 := hide ht1
  have HO2 := hide ho1
  have HB1 := hide hb1
  have hW1 := hb1.size
  have hxb := HX.out.lt
  have hyb := HY.out.lt
  clear ht1 ho1 hb1 HT1 HO1
  go_wp2_with fail
  have HZ0 := hide (BoxB.new 27 w1 (.slice a1 n c1) (.slice a2 m c2) (.int .i64 x))
  go_loopw [8] (fun i wr => ∃ j : Nat, i = .int .i64 j ∧ j ≤ m ∧ Hid (OwnsT W.heap.size wr (.slice a1 n c1) (landL S L p j)) ∧ Hid (OwnsS W.heap.size wr (.slice a2 m c2) L) ∧ Hid (BoxB 27 wr w1.heap.size (.slice a1 n c1) (.slice a2 m c2) (.int .i64 x)) ∧ Hid (Below W.heap.size W wr)) (fun i _ => m - (intOf i).toNat)
  case atStart => exact ⟨0, rfl, Nat.zero_le _, HT2.out.alloc _, HO2.out.alloc _, HZ0, HB1.out.alloc HB1.out.size _⟩
  case round =>
    clear HT2 HO2 HB1 HZ0
    obtain ⟨j, rfl, hj, HTj, HOj, HZj, HBj⟩ := hrel
    obtain ⟨q0, q1, q2⟩ := HZj.out.cells
    by_cases hlt : j < m
    · have hjL : j < L.length := by rw [HM.out]; exact hlt
      obtain ⟨ht0, ht1, _⟩ := HG.out.2.1.2 j hjL
      rw [HN.out] at ht1
      obtain ⟨q, hq⟩ : ∃ q : Nat, tn L j = q := ⟨(tn L j).toNat, by omega⟩
      have hqn : q < n := by omega
      have HQi := hide hq
      have HQ := hide (show (tn L j).toNat = q by omega)
      have hj64 : j < 64 := by omega
      clear hjL hq ht0 ht1
      cases all with
      | true =>
        have HPJ := hide (show p j = true by rw [HP.out]; rfl)
        have HLn := hide (show (landL S L p j).length = n by rw [length_landL, HN.out])
        obtain ⟨g, rfl, hg, hgz⟩ := HTj.out.pos (by rw [HLn.out]; omega)
        obtain ⟨g', rfl, hg', hgz'⟩ := HOj.out.pos (by rw [HM.out]; omega)
        obtain ⟨p0, p1⟩ := HOj.out.cellAt HM.out j (by rw [HM.out]; exact hlt)
        rw [HQi.out] at p0
        have z0 := HTj.out.cellAt HLn.out q (by rw [HLn.out]; exact hqn)
        have z1 := HTj.out.frozenAt HLn.out q
        have HT3 := hide (HTj.out.set HLn.out q (ky L j))
        have HL3 := hide (show (landL S L p j).set q (ky L j) = landL S L p (j + 1) by rw [landL_yes HPJ.out, HQ.out])
        rw [HL3.out] at HT3
        have HO3 := hide (HOj.out.set_ne (p := ⟨g, q, none⟩) (fun k e e' => apart HTj.out HOj.out g rfl (by rw [e, e'])) (.string (ky L j)))
        have HZ3 := hide (HZj.out.set_other (p := ⟨g, q, none⟩) (fun e => HTj.out.offBox HZj.out g rfl e) (.string (ky L j)))
        have HB3 := hide (HBj.out.setCell (p := ⟨g, q, none⟩) hg (.string (ky L j)))
        have hi1 : (j : Int) < (m : Int) := by omega
        have hi2 : (q : Int) < (n : Int) := by omega
        clear HL3
        go_wp2_with fail
        go_still_tail 15, (by kernel_rfl)
        change wpList _ _ _ _ _ wr.drew
        go_wp2_with fail
        go_roundw
        case rel => exact ⟨j + 1, by go_num, by omega, HT3.out.drew, HO3.out.drew, HZ3.out.drew, HB3.out.drew⟩
        case measure => simp [intOf]; omega
      | false =>
        by_cases h0 : 0 ≤ t
        · have hmb2 := maskB_bits t j h0 ht
          cases hpj : maskB t j with
          | true =>
            rw [hpj] at hmb2
            have HPJ := hide (show p j = true by rw [HP.out, hpj]; rfl)
            clear hpj
            have HLn := hide (show (landL S L p j).length = n by rw [length_landL, HN.out])
            obtain ⟨g, rfl, hg, hgz⟩ := HTj.out.pos (by rw [HLn.out]; omega)
            obtain ⟨g', rfl, hg', hgz'⟩ := HOj.out.pos (by rw [HM.out]; omega)
            obtain ⟨p0, p1⟩ := HOj.out.cellAt HM.out j (by rw [HM.out]; exact hlt)
            rw [HQi.out] at p0
            have z0 := HTj.out.cellAt HLn.out q (by rw [HLn.out]; exact hqn)
            have z1 := HTj.out.frozenAt HLn.out q
            have HT3 := hide (HTj.out.set HLn.out q (ky L j))
            have HL3 := hide (show (landL S L p j).set q (ky L j) = landL S L p (j + 1) by rw [landL_yes HPJ.out, HQ.out])
            rw [HL3.out] at HT3
            have HO3 := hide (HOj.out.set_ne (p := ⟨g, q, none⟩) (fun k e e' => apart HTj.out HOj.out g rfl (by rw [e, e'])) (.string (ky L j)))
            have HZ3 := hide (HZj.out.set_other (p := ⟨g, q, none⟩) (fun e => HTj.out.offBox HZj.out g rfl e) (.string (ky L j)))
            have HB3 := hide (HBj.out.setCell (p := ⟨g, q, none⟩) hg (.string (ky L j)))
            have hi1 : (j : Int) < (m : Int) := by omega
            have hi2 : (q : Int) < (n : Int) := by omega
            clear HL3
            go_wp2_with fail
            go_still_tail 15, (by kernel_rfl)
            change wpList _ _ _ _ _ wr.drew
            go_wp2_with fail
            go_roundw
            case rel => exact ⟨j + 1, by go_num, by omega, HT3.out.drew, HO3.out.drew, HZ3.out.drew, HB3.out.drew⟩
            case measure => simp [intOf]; omega
          | false =>
            rw [hpj] at hmb2
            have HPJ := hide (show p j = false by rw [HP.out, hpj]; rfl)
            clear hpj
            have HT3 := hide (show OwnsT W.heap.size wr _ (landL S L p (j + 1)) from (landL_no HPJ.out).symm ▸ HTj.out)
            go_wp2_with fail
            go_roundw
            case rel => exact ⟨j + 1, by go_num, by omega, HT3, HOj, HZj, HBj⟩
            case measure => simp [intOf]; omega
        · have HPJ := hide (show p j = false by rw [HP.out]; simp [maskB, h0])
          have HT3 := hide (show OwnsT W.heap.size wr _ (landL S L p (j + 1)) from (landL_no HPJ.out).symm ▸ HTj.out)
          go_wp2_with fail
          go_roundw
          case rel => exact ⟨j + 1, by go_num, by omega, HT3, HOj, HZj, HBj⟩
          case measure => simp [intOf]; omega
    · have hjm : j = m := by omega
      subst hjm
      have hz1 := HZj.out.lt
      have HYj := hide (HY.out.below HBj.out hyb)
      obtain ⟨r0, r1, r2⟩ := HZj.out.frozen
      have hsz := HBj.out.size
      have hly : w.heap.size + 1 < W.heap.size := hyb
      obtain ⟨y0, y1, y2⟩ := HYj.out.cells
      obtain ⟨z0, z1, z2⟩ := HYj.out.frozen
      have hlr := HYj.out.lt
      have hnw : w.heap.size + 1 ≠ w1.heap.size := by omega
      go_wp2_with fail
      refine bodyPost_ret (res_dev rfl _ _ (w.heap.size + 1) rfl (((((HYj.out.set_other (by simp; omega) _).set0 _).set1 _).set2 _).alloc _)) rfl ?_
      refine ⟨_, _, rfl, ?_, ?_, HWb.out.trans ((((((HBj.out.mono HWb.out.size).setCell (by simp; omega) _).setCell (by simp) _).setCell (by simp) _).setCell (by simp) _).alloc (by simp; omega) _)⟩
      · exact (((((HTj.out.set_ne (HTj.out.offBox HZj.out) _).set_other hly _).set_other hly _).set_other hly _).alloc _).mono HWb.out.size
      · have := OwnsS.lit0 w.heap.size ((((wr.setCell ⟨w1.heap.size, 1, none⟩ (.slice (some ⟨wr.heap.size, 0, none⟩) 0 0)).setCell ⟨w.heap.size + 1, 0, none⟩ (.slice a1 n c1)).setCell ⟨w.heap.size + 1, 1, none⟩ (.slice (some ⟨wr.heap.size, 0, none⟩) 0 0)).setCell ⟨w.heap.size + 1, 2, none⟩ (.int .i64 x)) (by simp; omega)
        simpa using this

set_option maxHeartbeats 4000000 in
theorem sDevFlush_any (B B' : Nat) (v v' : Value) (S : List ByteArray) (L : List Slot) (x : Int) (w : World) (hT : OwnsT B w v S) (hsl : S.length ≤ 2097151) (hO : OwnsS B' w v' L) (hl : L.length ≤ 2097151) :
    Calls Try.prog 25 #[.agg #[v, v', .int .i64 x]] w (DevBPost w (fallV S L x (fun _ => true))) := by
  obtain ⟨a, cap, rfl, hrdT, _⟩ := hT.form
  obtain ⟨a', cap', rfl, hrdS, _⟩ := hO.form
  have HT := hide hT
  have HO := hide hO
  have HSL := hide hsl
  have HL := hide hl
  have HRT := hide hrdT
  have HRS := hide hrdS
  obtain ⟨R, hR⟩ : ∃ R, R = fallV S L x (fun _ => true) := ⟨_, rfl⟩
  have HRR := hide hR
  rw [← hR]
  have HC := hide (fun W h1 h2 => sDevOk_any a a' cap cap' S L x W h1 (by have := HSL.out; omega) h2 (by have := HL.out; omega))
  have HK := hide (fun W (h1 : OwnsT B W (.slice a S.length cap) S) (h2 : OwnsS B' W (.slice a' L.length cap') L) hd => l5Land_any B B' _ _ S L x 0 true (fun _ => true) W h1 h2 hd (fun i => by rfl) (by omega))
  obtain ⟨n, hn⟩ : ∃ n, S.length = n := ⟨_, rfl⟩
  obtain ⟨m, hm⟩ : ∃ m, L.length = m := ⟨_, rfl⟩
  have HM := hide hm
  rw [hn] at HT HC HK hsl ⊢
  rw [hm] at HO HC HK hl ⊢
  clear hT hO hrdT hrdS hR hn hm
  obtain ⟨W, hW, hWs, hWb, hX, hY⟩ := two_boxes w (.slice a n cap) (.slice a' m cap') (.int .i64 x)
  go_enter Try.func25, Try.ntmps25
  go_wp2_with fail
  rw [← hW]
  have HX := hide hX
  have HY := hide hY
  have HWb := hide hWb
  have HT1 := hide (HT.out.below hWb (Nat.le_refl _))
  have HO1 := hide (HO.out.below hWb (Nat.le_refl _))
  have HRT1 := hide ((HRT.out.below hWb (Nat.le_refl _)).mono hWb.size)
  have HRS1 := hide ((HRS.out.below hWb (Nat.le_refl _)).mono hWb.size)
  clear hW hX hY hWb hWs HT HO HRT HRS
  refine (HC.out _ HRT1.out HRS1.out).mono ?_
  rintro e w1 ⟨rfl, hb1⟩
  have HX1 := hide (HX.out.below hb1 HX.out.lt)
  have HY1 := hide (HY.out.below hb1 HY.out.lt)
  have HT2 := hide (HT1.out.below hb1 (Nat.le_refl _))
  have HO2 := hide (HO1.out.below hb1 (Nat.le_refl _))
  have HB1 := hide (HWb.out.trans (hb1.mono HWb.out.size))
  clear hb1 HC HX HY HT1 HO1 HRT1 HRS1 HWb
  obtain ⟨c0, c1, c2⟩ := HX1.out.cells
  obtain ⟨y0, y1, y2⟩ := HY1.out.cells
  obtain ⟨z0, z1, z2⟩ := HY1.out.frozen
  cases hd : devOkB S L x with
  | false =>
    have HV := hide (HRR.out.trans (fallV_bad hd))
    clear hd
    go_wp2_with fail
    refine bodyPost_ret (res_dev_tmp rfl _ _ (w.heap.size + 1) rfl (((HY1.out.set0 _).set1 _).set2 _)) rfl ?_
    rw [HV.out]
    exact ⟨_, _, rfl, OwnsT.nil _ _, OwnsS.nil _ _, ((HB1.out.setCell (by simp) _).setCell (by simp) _).setCell (by simp) _⟩
  | true =>
    have HV := hide (HRR.out.trans (fallV_ok hd))
    have HG := hide (yes_iff.1 hd)
    clear hd
    go_wp2_with fail
    refine (HK.out _ HT2.out HO2.out HG.out).mono ?_
    rintro e w2 ⟨v2, v3, rfl, ht2, ho2, hb2⟩
    obtain ⟨a2, cp2, rfl, _⟩ := ht2.form
    obtain ⟨a3, cp3, rfl, _⟩ := ho2.form
    have HY2 := hide (HY1.out.below hb2 HY1.out.lt)
    have HTc := hide ht2
    have HOc := hide ho2
    have HB2 := hide (HB1.out.trans (hb2.mono HB1.out.size))
    have hly1 := HY1.out.lt
    have hw1 := HB1.out.size
    clear hb2 ht2 ho2 c0 c1 c2 y0 y1 y2 z0 z1 z2
    obtain ⟨y0, y1, y2⟩ := HY2.out.cells
    obtain ⟨z0, z1, z2⟩ := HY2.out.frozen
    go_wp2_with fail
    refine bodyPost_ret (res_dev_tmp rfl _ _ (w.heap.size + 1) rfl (((HY2.out.set0 _).set1 _).set2 _)) rfl ?_
    rw [HV.out, HM.out]
    refine ⟨_, _, rfl, ?_, ?_, ((HB2.out.setCell (by simp) _).setCell (by simp) _).setCell (by simp) _⟩
    · exact (((HTc.out.set_other hly1 _).set_other hly1 _).set_other hly1 _).mono hw1
    · exact (((HOc.out.set_other hly1 _).set_other hly1 _).set_other hly1 _).mono hw1

set_option maxHeartbeats 4000000 in
theorem sDevFall_any (B B' : Nat) (v v' : Value) (S : List ByteArray) (L : List Slot) (x t : Int) (w : World) (hT : OwnsT B w v S) (hsl : S.length ≤ 2097151) (hO : OwnsS B' w v' L) (hl : L.length ≤ 2097151) (ht : t < 9223372036854775808) :
    Calls Try.prog 26 #[.agg #[v, v', .int .i64 x], .int .i64 t] w (DevBPost w (fallV S L x (maskB t))) := by
  obtain ⟨a, cap, rfl, hrdT, _⟩ := hT.form
  obtain ⟨a', cap', rfl, hrdS, _⟩ := hO.form
  have HT := hide hT
  have HO := hide hO
  have HSL := hide hsl
  have HL := hide hl
  have HRT := hide hrdT
  have HRS := hide hrdS
  obtain ⟨R, hR⟩ : ∃ R, R = fallV S L x (maskB t) := ⟨_, rfl⟩
  have HRR := hide hR
  rw [← hR]
  have HC := hide (fun W h1 h2 => sDevOk_any a a' cap cap' S L x W h1 (by have := HSL.out; omega) h2 (by have := HL.out; omega))
  have HK := hide (fun W (h1 : OwnsT B W (.slice a S.length cap) S) (h2 : OwnsS B' W (.slice a' L.length cap') L) hd => l5Land_any B B' _ _ S L x t false (maskB t) W h1 h2 hd (fun i => by rw [Bool.false_or]) ht)
  obtain ⟨n, hn⟩ : ∃ n, S.length = n := ⟨_, rfl⟩
  obtain ⟨m, hm⟩ : ∃ m, L.length = m := ⟨_, rfl⟩
  have HM := hide hm
  rw [hn] at HT HC HK hsl ⊢
  rw [hm] at HO HC HK hl ⊢
  clear hT hO hrdT hrdS hR hn hm
  obtain ⟨W, hW, hWs, hWb, hX, hY⟩ := two_boxes w (.slice a n cap) (.slice a' m cap') (.int .i64 x)
  go_enter Try.func26, Try.ntmps26
  go_wp2_with fail
  rw [← hW]
  have HX := hide hX
  have HY := hide hY
  have HWb := hide hWb
  have HT1 := hide (HT.out.below hWb (Nat.le_refl _))
  have HO1 := hide (HO.out.below hWb (Nat.le_refl _))
  have HRT1 := hide ((HRT.out.below hWb (Nat.le_refl _)).mono hWb.size)
  have HRS1 := hide ((HRS.out.below hWb (Nat.le_refl _)).mono hWb.size)
  clear hW hX hY hWb hWs HT HO HRT HRS
  refine (HC.out _ HRT1.out HRS1.out).mono ?_
  rintro e w1 ⟨rfl, hb1⟩
  have HX1 := hide (HX.out.below hb1 HX.out.lt)
  have HY1 := hide (HY.out.below hb1 HY.out.lt)
  have HT2 := hide (HT1.out.below hb1 (Nat.le_refl _))
  have HO2 := hide (HO1.out.below hb1 (Nat.le_refl _))
  have HB1 := hide (HWb.out.trans (hb1.mono HWb.out.size))
  clear hb1 HC HX HY HT1 HO1 HRT1 HRS1 HWb
  obtain ⟨c0, c1, c2⟩ := HX1.out.cells
  obtain ⟨y0, y1, y2⟩ := HY1.out.cells
  obtain ⟨z0, z1, z2⟩ := HY1.out.frozen
  cases hd : devOkB S L x with
  | false =>
    have HV := hide (HRR.out.trans (fallV_bad hd))
    clear hd
    go_wp2_with fail
    refine bodyPost_ret (res_dev_tmp rfl _ _ (w.heap.size + 1) rfl (((HY1.out.set0 _).set1 _).set2 _)) rfl ?_
    rw [HV.out]
    exact ⟨_, _, rfl, OwnsT.nil _ _, OwnsS.nil _ _, ((HB1.out.setCell (by simp) _).setCell (by simp) _).setCell (by simp) _⟩
  | true =>
    have HV := hide (HRR.out.trans (fallV_ok hd))
    have HG := hide (yes_iff.1 hd)
    clear hd
    go_wp2_with fail
    refine (HK.out _ HT2.out HO2.out HG.out).mono ?_
    rintro e w2 ⟨v2, v3, rfl, ht2, ho2, hb2⟩
    obtain ⟨a2, cp2, rfl, _⟩ := ht2.form
    obtain ⟨a3, cp3, rfl, _⟩ := ho2.form
    have HY2 := hide (HY1.out.below hb2 HY1.out.lt)
    have HTc := hide ht2
    have HOc := hide ho2
    have HB2 := hide (HB1.out.trans (hb2.mono HB1.out.size))
    have hly1 := HY1.out.lt
    have hw1 := HB1.out.size
    clear hb2 ht2 ho2 c0 c1 c2 y0 y1 y2 z0 z1 z2
    obtain ⟨y0, y1, y2⟩ := HY2.out.cells
    obtain ⟨z0, z1, z2⟩ := HY2.out.frozen
    go_wp2_with fail
    refine bodyPost_ret (res_dev_tmp rfl _ _ (w.heap.size + 1) rfl (((HY2.out.set0 _).set1 _).set2 _)) rfl ?_
    rw [HV.out, HM.out]
    refine ⟨_, _, rfl, ?_, ?_, ((HB2.out.setCell (by simp) _).setCell (by simp) _).setCell (by simp) _⟩
    · exact (((HTc.out.set_other hly1 _).set_other hly1 _).set_other hly1 _).mono hw1
    · exact (((HOc.out.set_other hly1 _).set_other hly1 _).set_other hly1 _).mono hw1
end Go.Proofs.Ytnbaffdonbnocaa
