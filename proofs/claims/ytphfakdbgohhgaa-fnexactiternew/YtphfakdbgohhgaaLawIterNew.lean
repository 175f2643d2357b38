/-
  The walk of laws.FnExactIterNew.
-/
import Derived.Test.YtphfakdbgohhgaaIterV
import Derived.Test.YtphfakdbgohhgaaIterI
import Derived.Test.YtphfakdbgohhgaaIterH
import Derived.Test.YtphfakdbgohhgaaEqKV
import Derived.Test.YtphfakdbgohhgaaMarkKV
import Derived.Deep.RegionHeld3
namespace Go.Proofs.Ytphfakdbgohhgaa
open Go.ChangeShapes Go.WideShapes Go.ChangeAt Go.RowKit

set_option maxHeartbeats 4000000 in
set_option maxRecDepth 20000 in
theorem law_IterNew (a : Option Addr) (cap : Nat) (L : List KVE) (f t : ByteArray) (w : World) (hr : elKV.Rd w w.heap.size a L) (hl : L.length ≤ maxLen) (hc : ∀ z ∈ L, cameKV z) (_ : f.size ≤ maxLen) (_ : t.size ≤ maxLen) :
    Calls Try.prog 6 #[.slice a L.length cap, .string f, .string t] w (TruePost w) := by
  by_cases hbig : 1048576 < f.size
  · have hd : decide ((1048576 : Int) < f.size) = true := decide_eq_true (by omega)
    go_enter Try.func6, Try.ntmps6
    go_wp2_with fail
    go_ret
    exact ⟨rfl, Below.refl _ _⟩
  have hdb1 : decide ((1048576 : Int) < f.size) = false := decide_eq_false (by omega)
  clear hbig
  by_cases hbig : 1048576 < t.size
  · have hd : decide ((1048576 : Int) < t.size) = true := decide_eq_true (by omega)
    go_enter Try.func6, Try.ntmps6
    go_wp2_with fail
    go_ret
    exact ⟨rfl, Below.refl _ _⟩
  have hdb2 : decide ((1048576 : Int) < t.size) = false := decide_eq_false (by omega)
  clear hbig
  have HR := hide hr
  have HC := hide hc
  have HL := hide hl
  clear hr hc hl
  have HSZ := hide (szKVS_any a cap L 1048576 w HR.out HL.out (cameKV_sz HC.out) (by omega) (by omega))
  go_enter Try.func6, Try.ntmps6
  go_wp2_with fail
  refine HSZ.out.mono ?_
  rintro e w1 ⟨y, rfl, hy0, hy1, hP, hb1⟩
  have HP := hide hP
  have HV1 := hide ((InvX.start w).keep hb1)
  clear hP hb1 HSZ
  by_cases hy : y < 0
  · go_wp2_with fail
    go_ret
    exact ⟨rfl, HV1.out.below⟩
  have HK := hide (show L.length ≤ 1048576 from (HP.out (by omega)).1)
  have HTO := hide (fun W (h1 : Below w.heap.size w W) => toKVS_any a cap L W ((HR.out.below h1 (Nat.le_refl _)).mono h1.size) HK.out)
  have HSP := hide (fun W a c (h : elKV.Owns 0 W (.slice a L.length c) L) => sIterNew_any 0 a c L f t W h (by have := HK.out; omega))
  have HIM := hide (fun W a c (h : elKV.Owns 0 W (.slice a L.length c) L) => iIterNew_any 0 a c L f t W h (by have := HK.out; omega))
  have HEL := hide (fun W b1 b2 c1 c2 (h1 : elKV.Rd W W.heap.size b1 L) (h2 : elKV.Rd W W.heap.size b2 L) => eqKVS_same b1 b2 c1 c2 L W h1 h2 (by have := HK.out; omega))
  have HMX := hide (fun W a c (h : elKV.Owns 0 W (.slice a L.length c) L) => markKVS_any 0 a c 1 L W h (by omega) (by have := HK.out; omega))
  have HOW := hide (fun W g (h : elKV.Holds W g L) => h.owns (Nat.zero_le g) (show L.length ≤ maxLen by have := HK.out; unfold maxLen; omega))
  have HOG := hide (fun W B g (h : elKV.Holds W g L) (hg : B ≤ g) => h.owns hg (show L.length ≤ maxLen by have := HK.out; unfold maxLen; omega))
  have HRL := hide (newV_len L f t)
  obtain ⟨R, hR⟩ : ∃ R, R = newV L f t := ⟨_, rfl⟩
  rw [← hR] at HSP HIM HRL
  obtain ⟨⟨M, r1, r2, r3⟩, rb⟩ := R
  unfold NewPost at HSP HIM
  dsimp only at HSP HIM HRL
  have HML := hide (show M.length ≤ 1048576 from Nat.le_trans HRL.out HK.out)
  have HEQ := hide (fun W a1 a2 c1 c2 (h1 : elKV.Rd W W.heap.size a1 M) (h2 : elKV.Rd W W.heap.size a2 M) => eqIter_same a1 a2 c1 c2 M r1 r2 r3 W h1 h2 (by have := HML.out; omega))
  have HMK := hide (fun W a c (h : elKV.Owns 0 W (.slice a M.length c) M) => markIter_any 0 a c 1 M r1 r2 r3 W h (by omega) (by have := HML.out; omega))
  have HHE := hide (fun W a c (h : elKV.Rd W W.heap.size a (marksG markKV 2 1 M.length)) => heldIter_any a c 1 M.length r1 r2 r3 W h (by omega) (by have := HML.out; omega))
  have hqq : (rb != rb) = false := by cases rb <;> rfl
  clear hR HP HR HL HC HRL hy0 hy1
  go_wp2_with fail
  refine (HTO.out _ HV1.out.below).mono ?_
  rintro e w2 ⟨rfl, hh2, hb2, hz2⟩
  have HH2 := hide hh2
  have HV2 := hide (HV1.out.keep hb2)
  clear hh2 hb2 HV1
  go_wp2_with fail
  refine (HSP.out _ _ _ (HOW.out _ _ HH2.out)).mono ?_
  rintro e w3 ⟨v3, rfl, ho3, hb3⟩
  obtain ⟨a3, c3, rfl, _⟩ := ho3.form
  have HV3 := hide (HV2.out.callK hb3 ho3)
  obtain ⟨W4, hW4⟩ : ∃ W4, W4 = w3.alloc (.cells #[.slice a3 M.length c3, .string r1, .string r2, .int .i64 r3] 56) := ⟨_, rfl⟩
  have HV4 := hide (show InvX w [bI 56 w3.heap.size (.slice a3 M.length c3) (M, r1, r2, r3)] [rK (.slice a3 M.length c3) M] W4 from hW4 ▸ HV3.out.addBox _ _)
  clear hb3 ho3 HV2 HV3 HH2 HSP
  go_wp2_with fail
  rw [← hW4]
  clear hW4
  refine (HTO.out _ HV4.out.below).mono ?_
  rintro e w5 ⟨rfl, hh5, hb5, hz5⟩
  have HV5 := hide (HV4.out.callK hb5 (HOG.out _ _ _ hh5 (Nat.le_refl _)))
  clear hh5 hb5 HV4
  go_wp2_with fail
  refine (HIM.out _ _ _ HV5.out.k0).mono ?_
  rintro e w6 ⟨v6, rfl, ho6, hb6⟩
  obtain ⟨a6, c6, rfl, _⟩ := ho6.form
  have HV6 := hide (HV5.out.callK hb6 ho6)
  obtain ⟨W7, hW7⟩ : ∃ W7, W7 = w6.alloc (.cells #[.slice a6 M.length c6, .string r1, .string r2, .int .i64 r3] 56) := ⟨_, rfl⟩
  have HV7 := hide (show InvX w [bI 56 w6.heap.size (.slice a6 M.length c6) (M, r1, r2, r3), bI 56 w3.heap.size (.slice a3 M.length c3) (M, r1, r2, r3)] _ W7 from hW7 ▸ HV6.out.addBox _ _)
  obtain ⟨p0, p1, p2, p3⟩ := HV6.out.b0.four'
  have hl6 := HV6.out.b0.lt
  clear hb6 ho6 HV5 HV6
  go_wp2_with fail
  rw [← hW7]
  clear hW7 p0 p1 p2 p3 hl6
  refine (HEQ.out _ _ _ _ _ (owns_rd HV7.out.k0) (owns_rd HV7.out.k2)).mono ?_
  rintro e w8 ⟨rfl, hb8⟩
  have HV8 := hide (HV7.out.keep hb8)
  clear hb8 HV7
  go_wp2_with fail
  refine (HTO.out _ HV8.out.below).mono ?_
  rintro e w9 ⟨rfl, hh9, hb9, hz9⟩
  have HV9 := hide (HV8.out.keep hb9)
  have HH9 := hide hh9
  clear hh9 hb9 HV8
  go_wp2_with fail
  refine (HEL.out _ _ _ _ _ (owns_rd HV9.out.k1) HH9.out.rd).mono ?_
  rintro e w10 ⟨rfl, hb10⟩
  have HV10 := hide (HV9.out.keep hb10)
  clear hb10 HV9 HH9
  go_wp2_with fail
  -- the argument is marked
  refine (HMX.out _ _ _ HV10.out.k1).mono ?_
  rintro e w11 ⟨rfl, ho11, hk11⟩
  have HV11 := hide (HV10.out.markK1 hk11 ho11 (length_marksG _ _ _ _))
  obtain ⟨p0, p1, p2, p3⟩ := HV11.out.b0.four'
  obtain ⟨q0, q1, q2, q3⟩ := HV11.out.b1.four'
  clear ho11 hk11 HV10
  go_wp2_with fail
  refine (HEQ.out _ _ _ _ _ (owns_rd HV11.out.k0) (owns_rd HV11.out.k2)).mono ?_
  rintro e w12 ⟨rfl, hb12⟩
  have HV12 := hide (HV11.out.keep hb12)
  clear hb12 HV11 p0 p1 p2 p3 q0 q1 q2 q3
  obtain ⟨p0, p1, p2, p3⟩ := HV12.out.b0.four'
  go_wp2_with fail
  -- the answer is marked
  refine (HMK.out _ _ _ HV12.out.k0).mono ?_
  rintro e w13 ⟨rfl, ho13, hk13⟩
  have HV13 := hide (HV12.out.markK0 hk13 ho13 (length_marksG _ _ _ _))
  clear ho13 hk13 HV12 p0 p1 p2 p3
  obtain ⟨p0, p1, p2, p3⟩ := HV13.out.b0.four'
  go_wp2_with fail
  refine (HHE.out _ _ _ (owns_rd HV13.out.k0)).mono ?_
  rintro e w14 ⟨rfl, hb14⟩
  have HV14 := hide (HV13.out.keep hb14)
  clear hb14 HV13 p0 p1 p2 p3
  go_wp2_with fail
  -- the call once more
  refine (HTO.out _ HV14.out.below).mono ?_
  rintro e w15 ⟨rfl, hh15, hb15, hz15⟩
  have HV15 := hide (HV14.out.keep hb15)
  have HH15 := hide hh15
  clear hh15 hb15 HV14
  go_wp2_with fail
  refine (HIM.out _ _ _ (HOW.out _ _ HH15.out)).mono ?_
  rintro e w16 ⟨v16, rfl, ho16, hb16⟩
  obtain ⟨ah, ch, rfl, _⟩ := ho16.form
  have HV16 := hide (HV15.out.keep hb16)
  obtain ⟨W17, hW17⟩ : ∃ W17, W17 = w16.alloc (.cells #[.slice ah M.length ch, .string r1, .string r2, .int .i64 r3] 56) := ⟨_, rfl⟩
  have HV17 := hide (show InvX w _ _ W17 from hW17 ▸ HV16.out.keep ((Below.refl w16.heap.size w16).alloc (Nat.le_refl _) _))
  have HO17 := hide (show elKV.Owns w15.heap.size W17 _ _ from hW17 ▸ ho16.alloc _)
  obtain ⟨p0, p1, p2, p3⟩ := HV16.out.b1.four'
  have hl16 := HV16.out.b1.lt
  clear hb16 ho16 HV15 HIM HTO HH15
  go_wp2_with fail
  rw [← hW17]
  clear hW17 HV16 p0 p1 p2 p3 hl16
  refine (HEQ.out _ _ _ _ _ (owns_rd HO17.out) (owns_rd HV17.out.k2)).mono ?_
  rintro e w18 ⟨rfl, hb18⟩
  have HV18 := hide (HV17.out.keep hb18)
  clear hb18 HV17 HO17
  obtain ⟨p0, p1, p2, p3⟩ := HV18.out.b0.four'
  go_wp2_with fail
  refine (HHE.out _ _ _ (owns_rd HV18.out.k0)).mono ?_
  rintro e w19 ⟨rfl, hb19⟩
  have HV19 := hide (HV18.out.keep hb19)
  clear hb19 HV18 p0 p1 p2 p3
  go_wp2_with fail
  go_ret
  exact ⟨rfl, HV19.out.below⟩
end Go.Proofs.Ytphfakdbgohhgaa
