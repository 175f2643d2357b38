/-
  Contracts of the closures of impl.DevFlush and impl.DevFall, and of (impl.Dev).settle under them.
-/
import Derived.Test.YtnbaffdonbnocaaDevL
namespace Go.Proofs.Ytnbaffdonbnocaa
open Go.ChangeShapes Go.WideShapes Go.ChangeAt Go.RowKit

theorem dev_and_nat (a b : Nat) (ha : a < 9223372036854775808) (hb : b < 9223372036854775808) : bits .and .i64 (a : Int) (b : Int) = ((a &&& b : Nat) : Int) := by
  have hx : a &&& b ≤ a := Nat.and_le_left
  show IntKind.i64.wrap ((BitVec.ofInt 64 (a : Int) &&& BitVec.ofInt 64 (b : Int)).toNat : Int) = _
  rw [BitVec.toNat_and, ofInt_u64 a (by omega), ofInt_u64 b (by omega), IntKind.wrap_i64]
  omega
theorem mask1 (y : Int) (h0 : 0 ≤ y) (h1 : y < 9223372036854775808) : bits .and .i64 y 1 = y % 2 := by
  obtain ⟨n, rfl⟩ : ∃ n : Nat, y = n := ⟨y.toNat, by omega⟩
  have := dev_and_nat n 1 (by omega) (by omega)
  rw [Nat.and_one_is_mod] at this
  exact this

theorem maskB_bits (t : Int) (i : Nat) (h0 : 0 ≤ t) (h1 : t < 9223372036854775808) : (bits .and .i64 (t / 2 ^ i) 1 == 1) = maskB t i := by
  have hp : (0 : Int) < 2 ^ i := by exact_mod_cast Nat.two_pow_pos i
  have hn : 0 ≤ t / 2 ^ i := Int.ediv_nonneg h0 (Int.le_of_lt hp)
  have hle : t / 2 ^ i ≤ t := Int.ediv_le_self _ h0
  rw [mask1 _ hn (by omega), maskB, decide_eq_true h0, Bool.true_and]
  rfl
theorem allSurvive_any (i : Int) (w : World) :
    Calls Try.prog 35 #[.int .i64 i] w fun e w' => e = .returned (.bool true) ∧ w = w' := by
  go_enter Try.func35, Try.ntmps35
  go_wp2
  go_ret
  exact ⟨rfl, rfl⟩

theorem maskSurvive_any (t : Int) (g i : Nat) (w : World) (hc : w.cell? ⟨g, 0, none⟩ = some (.int .i64 t)) (hi : i < 64) (ht1 : t < 9223372036854775808) :
    Calls Try.prog 31 #[.int .i64 i, .pointer (some ⟨g, 0, none⟩)] w fun e w' => e = .returned (.bool (maskB t i)) ∧ w = w' := by
  by_cases ht : 0 ≤ t
  · go_enter Try.func31, Try.ntmps31
    go_wp2
    go_ret
    refine ⟨?_, rfl⟩
    show Ending.returned (.bool (bits .and .i64 (t / 2 ^ i) 1 == 1)) = _
    rw [maskB_bits t i ht ht1]
  · go_enter Try.func31, Try.ntmps31
    go_wp2
    go_ret
    exact ⟨by simp [maskB]; omega, rfl⟩

set_option maxHeartbeats 4000000 in
theorem settleAll_any (B B' : Nat) (v v' : Value) (S : List ByteArray) (L : List Slot) (x : Int) (w : World) (hT : OwnsT B w v S) (hO : OwnsS B' w v' L) (hd : DevGood S L x) :
    Calls Try.prog 30 #[.agg #[v, v', .int .i64 x], .func (.func 35) #[] #[]] w (DevPost w (landL S L (fun _ => true) L.length) [] x) := by
  obtain ⟨a, cap, rfl, _⟩ := hT.form
  obtain ⟨a', cap', rfl, hrdS, _⟩ := hO.form
  have HT := hide hT
  have HRS := hide hrdS
  have HG := hide hd
  obtain ⟨p, hp⟩ : ∃ p : Nat → Bool, p = (fun _ => true) := ⟨_, rfl⟩
  rw [← hp]
  have HP := hide hp
  obtain ⟨n, hn⟩ : ∃ n, S.length = n := ⟨_, rfl⟩
  obtain ⟨m, hm⟩ : ∃ m, L.length = m := ⟨_, rfl⟩
  have HN := hide hn
  have HM := hide hm
  have hnb : n ≤ 16 := by rw [← hn]; exact hd.1.2.1
  have hmb : m ≤ 20 := by rw [← hm]; exact hd.2.1.1
  have HSL := hide (show S.length ≤ 2097152 by omega)
  rw [hn] at HT ⊢
  rw [hm] at ⊢
  clear hT hO hrdS hn hm hd hp
  obtain ⟨W, hW, hWs, hWb, hX, hY⟩ := two_boxes w (.slice a n cap) (.slice a' m cap') (.int .i64 x)
  go_enter Try.func30, Try.ntmps30
  go_wp2_with fail
  rw [← hW]
  have HX := hide hX
  have HY := hide hY
  have HWb := hide hWb
  have HT1 := hide (HT.out.below hWb (Nat.le_refl _))
  have HRS1 := hide ((HRS.out.below hWb (Nat.le_refl _)).mono hWb.size)
  clear hW hX hY hWb HT HRS
  refine (copySectors_any B _ _ S x _ HT1.out HSL.out).mono ?_
  rintro e w1 ⟨v1, rfl, ht1, hb1⟩
  obtain ⟨a1, c1, rfl, _⟩ := ht1.form
  rw [HN.out] at ht1 ⊢
  have HT2 := hide ht1
  have HB1 := hide hb1
  have hW1 := hb1.size
  have hxb := HX.out.lt
  have hyb := HY.out.lt
  obtain ⟨c0, d1, e2⟩ := (HX.out.below hb1 hxb).cells
  clear ht1 hb1 HT1
  go_wp2_with fail
  clear c0 d1 e2
  go_loopw [6, 7, 13] (fun _ _ i wr => ∃ j : Nat, i = .int .i64 j ∧ j ≤ m ∧ Hid (OwnsT W.heap.size wr (.slice a1 n c1) (landL S L p j)) ∧ Hid (Below W.heap.size W wr)) (fun _ _ i _ => m - (intOf i).toNat)
  case atStart => exact ⟨0, rfl, Nat.zero_le _, HT2, HB1⟩
  case round =>
    clear HT2 HB1 hW1
    obtain ⟨j, rfl, hj, HTj, HBj⟩ := hrel
    have hs := HBj.out.size
    by_cases hlt : j < m
    · have hjL : j < L.length := by rw [HM.out]; exact hlt
      obtain ⟨b, o, rfl, hb, hc⟩ := HRS1.out (by omega)
      obtain ⟨p0, p1⟩ := hc j hjL
      obtain ⟨ht0, ht1, _⟩ := HG.out.2.1.2 j hjL
      rw [HN.out] at ht1
      obtain ⟨q, hq⟩ : ∃ q : Nat, tn L j = q := ⟨(tn L j).toNat, by omega⟩
      rw [hq] at p0 ht1
      have hqn : q < n := by omega
      have HQ := hide (show (tn L j).toNat = q by omega)
      obtain ⟨u, hu⟩ : ∃ u, ky L j = u := ⟨_, rfl⟩
      rw [hu] at p1
      have HU := hide hu
      have d0 := (HBj.out.cell (p := ⟨b, o + j * 2, none⟩) hb).trans p0
      have d1 := (HBj.out.cell (p := ⟨b, o + j * 2 + 1, none⟩) hb).trans p1
      clear hc p0 p1 hjL hq hu ht0 ht1
      have HX' := hide ((HX.out.below HBj.out hxb).alloc (.cells #[.int .i64 q, .string u] 36))
      have HPx := hide (BoxP.new 36 wr (.int .i64 q) (.string u))
      have HBx := hide (HBj.out.alloc hs (.cells #[.int .i64 q, .string u] 36))
      have HTx := hide (HTj.out.alloc (.cells #[.int .i64 q, .string u] 36))
      go_wp2_with fail
      refine ((allSurvive_any j _).mono (fun e w' h => show e = .returned (.bool (p j)) ∧ _ = w' from ⟨by rw [h.1, HP.out], h.2⟩)).mono ?_
      rintro e w2 ⟨rfl, rfl⟩
      cases hpj : p j with
      | false =>
        have HT3 := hide (show OwnsT W.heap.size _ _ (landL S L p (j + 1)) from (landL_no hpj).symm ▸ HTx.out)
        clear hpj
        go_wp2_with fail
        go_roundw
        case rel => exact ⟨j + 1, by go_num, by omega, HT3, HBx⟩
        case measure => simp [intOf]; omega
      | true =>
        have HLn := hide (show (landL S L p j).length = n by rw [length_landL, HN.out])
        obtain ⟨g, rfl, hg, hgz⟩ := HTx.out.pos (by rw [HLn.out]; omega)
        have z0 := HTx.out.cellAt HLn.out q (by rw [HLn.out]; exact hqn)
        have z1 := HTx.out.frozenAt HLn.out q
        have HT3 := hide (HTx.out.set HLn.out q u)
        have HL3 := hide (show (landL S L p j).set q u = landL S L p (j + 1) by rw [landL_yes hpj, HQ.out, HU.out])
        rw [HL3.out] at HT3
        have HB3 := hide (HBx.out.setCell (p := ⟨g, q, none⟩) hg (.string u))
        clear hpj
        go_wp2_with fail
        go_roundw
        case rel => exact ⟨j + 1, by go_num, by omega, HT3, HB3⟩
        case measure => simp [intOf]; omega
    · have hjm : j = m := by omega
      subst hjm
      have HYj := hide (HY.out.below HBj.out hyb)
      obtain ⟨c0, d1, e2⟩ := (HX.out.below HBj.out hxb).cells
      obtain ⟨y0, y1, y2⟩ := HYj.out.cells
      obtain ⟨z0, z1, z2⟩ := HYj.out.frozen
      go_wp2_with fail
      refine bodyPost_ret (res_dev rfl _ _ (w.heap.size + 1) rfl (((HYj.out.set0 _).set1 _).set2 _)) rfl ?_
      refine ⟨_, _, rfl, ?_, OwnsS.nil _ _, HWb.out.trans ((((HBj.out.mono HWb.out.size).setCell (by simp) _).setCell (by simp) _).setCell (by simp) _)⟩
      exact (((HTj.out.set_other hyb _).set_other hyb _).set_other hyb _).mono HWb.out.size

set_option maxHeartbeats 4000000 in
theorem settleMask_any (B B' : Nat) (v v' : Value) (S : List ByteArray) (L : List Slot) (x : Int) (t : Int) (gm : Nat) (w : World) (hT : OwnsT B w v S) (hO : OwnsS B' w v' L) (hd : DevGood S L x) (hc : w.cell? ⟨gm, 0, none⟩ = some (.int .i64 t)) (hgm : gm < w.heap.size) (ht : t < 9223372036854775808) :
    Calls Try.prog 30 #[.agg #[v, v', .int .i64 x], .func (.func 31) #[] #[.pointer (some ⟨gm, 0, none⟩)]] w (DevPost w (landL S L (maskB t) L.length) [] x) := by
  obtain ⟨a, cap, rfl, _⟩ := hT.form
  obtain ⟨a', cap', rfl, hrdS, _⟩ := hO.form
  have HT := hide hT
  have HRS := hide hrdS
  have HG := hide hd
  obtain ⟨p, hp⟩ : ∃ p : Nat → Bool, p = (maskB t) := ⟨_, rfl⟩
  rw [← hp]
  have HP := hide hp
  obtain ⟨n, hn⟩ : ∃ n, S.length = n := ⟨_, rfl⟩
  obtain ⟨m, hm⟩ : ∃ m, L.length = m := ⟨_, rfl⟩
  have HN := hide hn
  have HM := hide hm
  have hnb : n ≤ 16 := by rw [← hn]; exact hd.1.2.1
  have hmb : m ≤ 20 := by rw [← hm]; exact hd.2.1.1
  have HSL := hide (show S.length ≤ 2097152 by omega)
  rw [hn] at HT ⊢
  rw [hm] at ⊢
  clear hT hO hrdS hn hm hd hp
  obtain ⟨W, hW, hWs, hWb, hX, hY⟩ := two_boxes w (.slice a n cap) (.slice a' m cap') (.int .i64 x)
  go_enter Try.func30, Try.ntmps30
  go_wp2_with fail
  rw [← hW]
  have HX := hide hX
  have HY := hide hY
  have HWb := hide hWb
  have HT1 := hide (HT.out.below hWb (Nat.le_refl _))
  have HRS1 := hide ((HRS.out.below hWb (Nat.le_refl _)).mono hWb.size)
  have HC := hide ((hWb.cell (p := ⟨gm, 0, none⟩) hgm).trans hc)
  clear hW hX hY hWb HT HRS
  refine (copySectors_any B _ _ S x _ HT1.out HSL.out).mono ?_
  rintro e w1 ⟨v1, rfl, ht1, hb1⟩
  obtain ⟨a1, c1, rfl, _⟩ := ht1.form
  rw [HN.out] at ht1 ⊢
  have HT2 := hide ht1
  have HB1 := hide hb1
  have hW1 := hb1.size
  have hxb := HX.out.lt
  have hyb := HY.out.lt
  obtain ⟨c0, d1, e2⟩ := (HX.out.below hb1 hxb).cells
  clear ht1 hb1 HT1
  go_wp2_with fail
  clear c0 d1 e2
  go_loopw [6, 7, 13] (fun _ _ i wr => ∃ j : Nat, i = .int .i64 j ∧ j ≤ m ∧ Hid (OwnsT W.heap.size wr (.slice a1 n c1) (landL S L p j)) ∧ Hid (Below W.heap.size W wr)) (fun _ _ i _ => m - (intOf i).toNat)
  case atStart => exact ⟨0, rfl, Nat.zero_le _, HT2, HB1⟩
  case round =>
    clear HT2 HB1 hW1
    obtain ⟨j, rfl, hj, HTj, HBj⟩ := hrel
    have hs := HBj.out.size
    by_cases hlt : j < m
    · have hjL : j < L.length := by rw [HM.out]; exact hlt
      obtain ⟨b, o, rfl, hb, hc⟩ := HRS1.out (by omega)
      obtain ⟨p0, p1⟩ := hc j hjL
      obtain ⟨ht0, ht1, _⟩ := HG.out.2.1.2 j hjL
      rw [HN.out] at ht1
      obtain ⟨q, hq⟩ : ∃ q : Nat, tn L j = q := ⟨(tn L j).toNat, by omega⟩
      rw [hq] at p0 ht1
      have hqn : q < n := by omega
      have HQ := hide (show (tn L j).toNat = q by omega)
      obtain ⟨u, hu⟩ : ∃ u, ky L j = u := ⟨_, rfl⟩
      rw [hu] at p1
      have HU := hide hu
      have d0 := (HBj.out.cell (p := ⟨b, o + j * 2, none⟩) hb).trans p0
      have d1 := (HBj.out.cell (p := ⟨b, o + j * 2 + 1, none⟩) hb).trans p1
      clear hc p0 p1 hjL hq hu ht0 ht1
      have HX' := hide ((HX.out.below HBj.out hxb).alloc (.cells #[.int .i64 q, .string u] 36))
      have HPx := hide (BoxP.new 36 wr (.int .i64 q) (.string u))
      have HBx := hide (HBj.out.alloc hs (.cells #[.int .i64 q, .string u] 36))
      have HTx := hide (HTj.out.alloc (.cells #[.int .i64 q, .string u] 36))
      go_wp2_with fail
      refine ((maskSurvive_any t gm j _ ((HBx.out.cell (p := ⟨gm, 0, none⟩) (Nat.lt_of_lt_of_le hgm HWb.out.size)).trans HC.out) (by omega) ht).mono (fun e w' h => show e = .returned (.bool (p j)) ∧ _ = w' from ⟨by rw [h.1, HP.out], h.2⟩)).mono ?_
      rintro e w2 ⟨rfl, rfl⟩
      cases hpj : p j with
      | false =>
        have HT3 := hide (show OwnsT W.heap.size _ _ (landL S L p (j + 1)) from (landL_no hpj).symm ▸ HTx.out)
        clear hpj
        go_wp2_with fail
        go_roundw
        case rel => exact ⟨j + 1, by go_num, by omega, HT3, HBx⟩
        case measure => simp [intOf]; omega
      | true =>
        have HLn := hide (show (landL S L p j).length = n by rw [length_landL, HN.out])
        obtain ⟨g, rfl, hg, hgz⟩ := HTx.out.pos (by rw [HLn.out]; omega)
        have z0 := HTx.out.cellAt HLn.out q (by rw [HLn.out]; exact hqn)
        have z1 := HTx.out.frozenAt HLn.out q
        have HT3 := hide (HTx.out.set HLn.out q u)
        have HL3 := hide (show (landL S L p j).set q u = landL S L p (j + 1) by rw [landL_yes hpj, HQ.out, HU.out])
        rw [HL3.out] at HT3
        have HB3 := hide (HBx.out.setCell (p := ⟨g, q, none⟩) hg (.string u))
        clear hpj
        go_wp2_with fail
        go_roundw
        case rel => exact ⟨j + 1, by go_num, by omega, HT3, HB3⟩
        case measure => simp [intOf]; omega
    · have hjm : j = m := by omega
      subst hjm
      have HYj := hide (HY.out.below HBj.out hyb)
      obtain ⟨c0, d1, e2⟩ := (HX.out.below HBj.out hxb).cells
      obtain ⟨y0, y1, y2⟩ := HYj.out.cells
      obtain ⟨z0, z1, z2⟩ := HYj.out.frozen
      go_wp2_with fail
      refine bodyPost_ret (res_dev rfl _ _ (w.heap.size + 1) rfl (((HYj.out.set0 _).set1 _).set2 _)) rfl ?_
      refine ⟨_, _, rfl, ?_, OwnsS.nil _ _, HWb.out.trans ((((HBj.out.mono HWb.out.size).setCell (by simp) _).setCell (by simp) _).setCell (by simp) _)⟩
      exact (((HTj.out.set_other hyb _).set_other hyb _).set_other hyb _).mono HWb.out.size
end Go.Proofs.Ytnbaffdonbnocaa
