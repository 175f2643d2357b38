/-
  The walk of laws.FnExactMemRange. (Written by mklaw9.py.)
-/
import Derived.Test.YtphfakdbgohhgaaSzEnt
import Derived.Test.YtphfakdbgohhgaaEqEnt
import Derived.Test.YtphfakdbgohhgaaEqKV
import Derived.Test.YtphfakdbgohhgaaMrkEnt
import Derived.Test.YtphfakdbgohhgaaMarkKV
import Derived.Test.YtphfakdbgohhgaaMemI
import Derived.Test.YtphfakdbgohhgaaMemD
import Derived.Test.YtphfakdbgohhgaaRowH
import Derived.Test.YtphfakdbgohhgaaOpenEnt
import Derived.Deep.RegionHeld3
namespace Go.Proofs.Ytphfakdbgohhgaa
open Go.ChangeShapes Go.WideShapes Go.ChangeAt Go.RowKit

set_option maxHeartbeats 8000000 in
set_option maxRecDepth 40000 in
theorem law_MemRange (a0 : Option Addr) (cap0 : Nat) (L : List EntE) (b1 : ByteArray) (b2 : ByteArray) (b3 : Int) (w : World) (hr : elEnt.Rd w w.heap.size a0 L) (hl : L.length ≤ maxLen) (hc : ∀ z ∈ L, cameEnt z) (_ : b1.size ≤ maxLen) (_ : b2.size ≤ maxLen) (_ : (Lit.int .i64 b3).wf = true) :
    Calls Try.prog 4 #[.slice a0 L.length cap0, .string b1, .string b2, .int .i64 b3] w (TruePost w) := by
  by_cases hbig : 1048576 < b1.size
  · have hd : decide ((1048576 : Int) < b1.size) = true := decide_eq_true (by omega)
    go_enter Try.func4, Try.ntmps4
    go_wp2_with fail
    go_ret
    exact ⟨rfl, Below.refl _ _⟩
  have hdb1 : decide ((1048576 : Int) < b1.size) = false := decide_eq_false (by omega)
  clear hbig
  by_cases hbig : 1048576 < b2.size
  · have hd : decide ((1048576 : Int) < b2.size) = true := decide_eq_true (by omega)
    go_enter Try.func4, Try.ntmps4
    go_wp2_with fail
    go_ret
    exact ⟨rfl, Below.refl _ _⟩
  have hdb2 : decide ((1048576 : Int) < b2.size) = false := decide_eq_false (by omega)
  clear hbig
  have HR := hide hr
  have HC := hide hc
  have HL := hide hl
  clear hr hc
  have HSZ := hide (fun W (h1 : Below w.heap.size w W) => szEntS_any a0 cap0 L 1048576 W ((HR.out.below h1 (Nat.le_refl _)).mono h1.size) HL.out (cameEnt_sz HC.out) (by omega) (by omega))
  obtain ⟨n, hn⟩ : ∃ n, n = L.length := ⟨_, rfl⟩
  have HN := hide hn
  rw [← hn] at HSZ ⊢
  clear hn hl
  go_enter Try.func4, Try.ntmps4
  go_wp2_with fail
  refine (HSZ.out _ (Below.refl _ _)).mono ?_
  rintro e w1 ⟨y, rfl, hy0, hy1, hP, hb1⟩
  have HB1 := hide (hb1)
  have HP := hide hP
  clear hP hb1 HSZ
  by_cases hy : y < 0
  · go_wp2_with fail
    go_ret
    exact ⟨rfl, HB1.out⟩
  have HK := hide (show L.length ≤ 1048576 by have := (HP.out (by omega)).1; rw [HN.out] at this; exact this)
  have HTO := hide (fun W (h1 : Below w.heap.size w W) => toEntS_any a0 cap0 L W ((HR.out.below h1 (Nat.le_refl _)).mono h1.size) HK.out)
  have HSP := hide (fun W a c (h : elEnt.Owns w.heap.size W (.slice a L.length c) L) => sMemRange_any a c L b1 b2 b3 W (owns_rd h) (by have := HK.out; omega))
  have HIM := hide (fun W a c (h : elEnt.Owns w.heap.size W (.slice a L.length c) L) => iMemRange_any a c L b1 b2 b3 W (owns_rd h) (by have := HK.out; omega))
  have HEQ := hide (fun W b1 b2 c1 c2 (h1 : elEnt.Rd W W.heap.size b1 L) (h2 : elEnt.Rd W W.heap.size b2 L) => eqEntS_same b1 b2 c1 c2 L W h1 h2 (by have := HK.out; omega))
  have HMX := hide (fun W B a c (h : elEnt.Owns B W (.slice a L.length c) L) => markEntS_any B a c 1 L W h (by omega) (by have := HK.out; omega))
  have HOW := hide (fun W g (h : elEnt.Holds W g L) (hg : w.heap.size ≤ g) => h.owns hg (show L.length ≤ maxLen by have := HK.out; unfold maxLen; omega))
  have HXL := hide (show (rangeE b1 b2 (mapM L b3)).length ≤ 1048577 from by have := rangeE_len b1 b2 (mapM L b3); have := mapM_len L b3; have := HK.out; omega)
  obtain ⟨X, hX⟩ : ∃ X, X = rangeE b1 b2 (mapM L b3) := ⟨_, rfl⟩
  have HRA := hide (fun W b1 b2 c1 c2 (h1 : elKV.Rd W W.heap.size b1 X) (h2 : elKV.Rd W W.heap.size b2 X) => eqKVS_same b1 b2 c1 c2 X W h1 h2 (by have := HXL.out; rw [← hX] at this; omega))
  have HMK := hide (fun W B a c (h : elKV.Owns B W (.slice a X.length c) X) => markKVS_any B a c 1 X W h (by omega) (by have := HXL.out; rw [← hX] at this; omega))
  have HHE := hide (fun W a c (h : elKV.Rd W W.heap.size a (marksG markKV 2 1 X.length)) => heldKVS_any a c 1 X.length W h (by omega) (by have := HXL.out; rw [← hX] at this; omega))
  have HXN := hide (show X.length ≤ 1048577 by have := HXL.out; rw [← hX] at this; exact this)
  rw [← hX] at HSP HIM
  unfold KVPost' at HSP
  unfold KVPost at HIM
  obtain ⟨m, hm⟩ : ∃ m, m = X.length := ⟨_, rfl⟩
  have HM := hide hm
  have hm1 : m ≤ 1048577 := by rw [hm]; exact HXN.out
  rw [← hm] at HRA HMK HHE
  rw [← HN.out] at HTO HSP HIM HEQ HMX HOW
  clear hX hm HR HC HL HP HK
  go_wp2_with fail
  refine (HTO.out _ HB1.out).mono ?_
  rintro e w2 ⟨rfl, hh2, hb2, hz2⟩
  have HT2 := hide hh2
  have HB2 := hide (HB1.out.trans (hb2.mono HB1.out.size))
  clear hh2
  go_wp2_with fail
  refine (HSP.out _ _ _ (HOW.out _ _ HT2.out HB1.out.size)).mono ?_
  rintro e w3 ⟨v, rfl, ho3, hb3⟩
  obtain ⟨aS, cS, rfl, hrd3, _⟩ := ho3.form
  rw [← HM.out]
  have HS3 := hide hrd3
  have hgs3 : w3.heap.size ≤ w3.heap.size := Nat.le_refl _
  have HB3 := hide (HB2.out.trans (hb3.mono HB2.out.size))
  clear ho3 hrd3 hb3 hb2 HT2 HSP
  go_wp2_with fail
  refine (HTO.out _ HB3.out).mono ?_
  rintro e w4 ⟨rfl, hh4, hb4, hz4⟩
  have HT4 := hide hh4
  have HB4 := hide (HB3.out.trans (hb4.mono HB3.out.size))
  have HS4 := hide (HS3.out.below hb4 hgs3)
  have hgs4 := Nat.le_trans hgs3 hb4.size
  have HH4 := HT4
  have hgx4 := hz4
  have hwx4 := HB3.out.size
  have hsx4 := hgs3
  clear hh4 hb4 HT4
  go_wp2_with fail
  refine (HIM.out _ _ _ (HOW.out _ _ HH4.out hwx4)).mono ?_
  rintro e w5 ⟨v5, rfl, ho5, hb5⟩
  obtain ⟨ag, cg, rfl, hrd5, _⟩ := ho5.form
  rw [← HM.out] at ho5 ⊢
  have HG5 := hide ho5
  have hwg := HB4.out.size
  have hbg := hgx4
  have HB5 := hide (HB4.out.trans (hb5.mono HB4.out.size))
  have HS5 := hide (HS4.out.below hb5 hgs4)
  have hgs5 := Nat.le_trans hgs4 hb5.size
  have HH5 := hide (HH4.out.below hb5 hgx4)
  have hgx5 := Nat.lt_of_lt_of_le hgx4 hb5.size
  have HQ5 := hide hrd5
  have hbs5 := hb5.size
  clear ho5 hb5 hrd5
  go_wp2_with fail
  refine (HRA.out _ _ _ _ _ HQ5.out ((HS5.out).mono hgs5)).mono ?_
  rintro e w6 ⟨rfl, hb6⟩
  have HB6 := hide (HB5.out.trans (hb6.mono HB5.out.size))
  have HS6 := hide (HS5.out.below hb6 hgs5)
  have hgs6 := Nat.le_trans hgs5 hb6.size
  have HH6 := hide (HH5.out.below hb6 hgx5)
  have hgx6 := Nat.lt_of_lt_of_le hgx5 hb6.size
  have HG6 := hide (HG5.out.below hb6 (Nat.le_refl _))
  have hbs6 := Nat.le_trans hbs5 hb6.size
  clear hb6 HQ5
  go_wp2_with fail
  refine (HTO.out _ HB6.out).mono ?_
  rintro e w7 ⟨rfl, hh7, hb7, hz7⟩
  have HT7 := hide hh7
  have HB7 := hide (HB6.out.trans (hb7.mono HB6.out.size))
  have HS7 := hide (HS6.out.below hb7 hgs6)
  have hgs7 := Nat.le_trans hgs6 hb7.size
  have HH7 := hide (HH6.out.below hb7 hgx6)
  have hgx7 := Nat.lt_of_lt_of_le hgx6 hb7.size
  have HG7 := hide (HG6.out.below hb7 (Nat.le_refl _))
  have hbs7 := Nat.le_trans hbs6 hb7.size
  clear hh7 hb7
  go_wp2_with fail
  refine (HEQ.out _ _ _ _ _ HH7.out.rd HT7.out.rd).mono ?_
  rintro e w8 ⟨rfl, hb8⟩
  have HB8 := hide (HB7.out.trans (hb8.mono HB7.out.size))
  have HS8 := hide (HS7.out.below hb8 hgs7)
  have hgs8 := Nat.le_trans hgs7 hb8.size
  have HH8 := hide (HH7.out.below hb8 hgx7)
  have hgx8 := Nat.lt_of_lt_of_le hgx7 hb8.size
  have HG8 := hide (HG7.out.below hb8 (Nat.le_refl _))
  have hbs8 := Nat.le_trans hbs7 hb8.size
  clear hb8 HT7
  go_wp2_with fail
  refine (HMX.out _ w.heap.size _ _ (HOW.out _ _ HH8.out hwx4)).mono ?_
  rintro e w9 ⟨rfl, _, hk9⟩
  have hbx9 : Below w3.heap.size w8 w9 := Only.below hk9 (fun g e => by have e' : some w3.heap.size = some g := e; injection e' with e'; omega) (Nat.le_of_lt hgx8)
  have HB9 := hide (HB8.out.trans (hbx9.mono hwx4))
  have HS9 := hide (HS8.out.below hbx9 hsx4)
  have hgs9 := Nat.le_trans hgs8 hbx9.size
  have hbs9 := Nat.le_trans hbs8 hbx9.size
  have HG9 := hide (HG8.out.keep (fun g' q1 q2 => Go.World.grownBy.block hk9 g' q2 (fun e => by have e' : some g' = some w3.heap.size := e; injection e' with e'; omega)))
  clear hk9 hbx9 HH8
  obtain ⟨ag2, cg2, eg2, hrd9, _⟩ := HG9.out.form
  rw [← HM.out] at eg2
  injection eg2 with eg3 eg4 eg5
  subst eg3 eg5
  clear eg4
  have HQ9 := hide hrd9
  clear hrd9
  go_wp2_with fail
  refine (HRA.out _ _ _ _ _ HQ9.out ((HS9.out).mono hgs9)).mono ?_
  rintro e w10 ⟨rfl, hb10⟩
  have HB10 := hide (HB9.out.trans (hb10.mono HB9.out.size))
  have HS10 := hide (HS9.out.below hb10 hgs9)
  have hgs10 := Nat.le_trans hgs9 hb10.size
  have HG10 := hide (HG9.out.below hb10 (Nat.le_refl _))
  have hbs10 := Nat.le_trans hbs9 hb10.size
  clear hb10 HQ9
  go_wp2_with fail
  refine (HMK.out _ _ _ _ HG10.out).mono ?_
  rintro e w11 ⟨rfl, ho11, hk11⟩
  have hbx11 : Below w4.heap.size w10 w11 := Only.below hk11 (fun g e => (HG10.out.lt g e).1) hbs10
  have HB11 := hide (HB10.out.trans (hbx11.mono hwg))
  have HS11 := hide (HS10.out.below hbx11 (Nat.le_trans hsx4 (Nat.le_of_lt hbg)))
  have hgs11 := Nat.le_trans hgs10 hbx11.size
  have hbs11 := Nat.le_trans hbs10 hbx11.size
  have HG11 := hide ho11
  obtain ⟨ag3, cg3, eg6, hrd11, _⟩ := ho11.form
  rw [length_marksG] at eg6
  injection eg6 with eg7 eg8 eg9
  subst eg7 eg9
  clear eg8 hk11 hbx11 ho11
  have HQ11 := hide hrd11
  clear hrd11
  go_wp2_with fail
  refine (HHE.out _ _ _ HQ11.out).mono ?_
  rintro e w12 ⟨rfl, hb12⟩
  have HB12 := hide (HB11.out.trans (hb12.mono HB11.out.size))
  have HS12 := hide (HS11.out.below hb12 hgs11)
  have hgs12 := Nat.le_trans hgs11 hb12.size
  have HG12 := hide (HG11.out.below hb12 (Nat.le_refl _))
  have hbs12 := Nat.le_trans hbs11 hb12.size
  have HQ12 := hide ((HQ11.out.below hb12 (Nat.le_refl _)).mono hb12.size)
  clear hb12 HQ11
  go_wp2_with fail
  refine (HTO.out _ HB12.out).mono ?_
  rintro e w13 ⟨rfl, hh13, hb13, hz13⟩
  have HT13 := hide hh13
  have HB13 := hide (HB12.out.trans (hb13.mono HB12.out.size))
  have HS13 := hide (HS12.out.below hb13 hgs12)
  have hgs13 := Nat.le_trans hgs12 hb13.size
  have HQ13 := hide ((HQ12.out.below hb13 (Nat.le_refl _)).mono hb13.size)
  clear hh13 hb13
  go_wp2_with fail
  refine (HIM.out _ _ _ (HOW.out _ _ HT13.out HB12.out.size)).mono ?_
  rintro e w14 ⟨v14, rfl, ho14, hb14⟩
  obtain ⟨ah, ch, rfl, hrd14, _⟩ := ho14.form
  rw [← HM.out]
  have HW14 := hide hrd14
  have HQ14 := hide ((HQ13.out.below hb14 (Nat.le_refl _)).mono hb14.size)
  have HB14 := hide (HB13.out.trans (hb14.mono HB13.out.size))
  have HS14 := hide (HS13.out.below hb14 hgs13)
  have hgs14 := Nat.le_trans hgs13 hb14.size
  clear hb14 ho14 hrd14 HT13
  go_wp2_with fail
  refine (HRA.out _ _ _ _ _ HW14.out ((HS14.out).mono hgs14)).mono ?_
  rintro e w15 ⟨rfl, hb15⟩
  have HB15 := hide (HB14.out.trans (hb15.mono HB14.out.size))
  have HQ15 := hide ((HQ14.out.below hb15 (Nat.le_refl _)).mono hb15.size)
  clear hb15
  go_wp2_with fail
  refine (HHE.out _ _ _ HQ15.out).mono ?_
  rintro e w16 ⟨rfl, hb16⟩
  have HB16 := hide (HB15.out.trans (hb16.mono HB15.out.size))
  clear hb16
  go_wp2_with fail
  go_ret
  exact ⟨rfl, HB16.out⟩
end Go.Proofs.Ytphfakdbgohhgaa
