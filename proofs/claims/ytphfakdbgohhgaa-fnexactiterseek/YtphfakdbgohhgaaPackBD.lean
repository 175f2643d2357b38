/-
  Texts of this proof, put together: LawIterSeek.
-/
import Derived.Test.YtphfakdbgohhgaaPackAT
import Derived.Test.YtphfakdbgohhgaaPackBC
import Derived.Test.YtphfakdbgohhgaaPackAY
import Derived.Test.YtphfakdbgohhgaaPackAJ
import Derived.Test.YtphfakdbgohhgaaPackAR
import Derived.Deep.RegionHeld3

/-
  The walk of laws.FnExactIterSeek. (Written by mklaw14.py.)
-/
namespace Go.Proofs.Ytphfakdbgohhgaa
open Go.ChangeShapes Go.WideShapes Go.ChangeAt Go.RowKit

set_option maxHeartbeats 8000000 in
set_option maxRecDepth 20000 in
theorem law_IterSeek (a : Option Addr) (cap : Nat) (P : List KVE) (b c : ByteArray) (x : Int) (g : ByteArray) (w : World) (hr : elKV.Rd w w.heap.size a P) (hl : P.length ≤ maxLen) (hk : ∀ z ∈ P, cameKV z) (hb : b.size ≤ maxLen) (hcc : c.size ≤ maxLen) (_ : (Lit.int .i64 x).wf = true) (_ : g.size ≤ maxLen) :
    Calls Try.prog 9 #[.agg #[.slice a P.length cap, .string b, .string c, .int .i64 x], .string g] w (TruePost w) := by
  by_cases hbig : 1048576 < g.size
  · have hd : decide ((1048576 : Int) < g.size) = true := decide_eq_true (by omega)
    go_enter Try.func9, Try.ntmps9
    go_wp2_with fail
    go_ret
    exact ⟨rfl, (Below.refl _ w).alloc (Nat.le_refl _) _⟩
  have hdb1 : decide ((1048576 : Int) < g.size) = false := decide_eq_false (by omega)
  clear hbig
  have HR := hide hr
  have HV0 := hide (show InvX w [bI 52 w.heap.size (.slice a P.length cap) (P, b, c, x)] [] (w.alloc (.cells #[.slice a P.length cap, .string b, .string c, .int .i64 x] 52)) from (InvX.start w).addBox _ _)
  have HSZ := hide (fun W (h : Below w.heap.size w W) => szIter_any a cap P b c x 1048576 W ((HR.out.below h (Nat.le_refl _)).mono h.size) hl hk hb hcc (by omega) (by omega))
  clear hr hk hb hcc hl
  go_enter Try.func9, Try.ntmps9
  go_wp2_with fail
  refine (HSZ.out _ HV0.out.below).mono ?_
  rintro e w1 ⟨y, rfl, hy0, hy1, hP, hb1⟩
  have HP := hide hP
  have HV1 := hide (HV0.out.keep hb1)
  clear hP hb1 HSZ HV0
  by_cases hy : y < 0
  · go_wp2_with fail
    go_ret
    exact ⟨rfl, HV1.out.below⟩
  have HK := hide (show P.length ≤ 1048576 from (HP.out (by omega)).1.1)
  have HTO := hide (fun W (h1 : Below w.heap.size w W) => toIter_any a cap P b c x W ((HR.out.below h1 (Nat.le_refl _)).mono h1.size) HK.out)
  have HSP := hide (fun W a c' (h : elKV.Owns 0 W (.slice a P.length c') P) => sIterSeek_any 0 a c' (P, b, c, x) g W h (by have := HK.out; show P.length ≤ _; omega))
  have HIM := hide (fun W a c' (h : elKV.Owns 0 W (.slice a P.length c') P) => iIterSeek_any 0 a c' (P, b, c, x) g W h (by have := HK.out; show P.length ≤ _; omega))
  have HEX := hide (fun W a1 a2 c1 c2 (h1 : elKV.Rd W W.heap.size a1 P) (h2 : elKV.Rd W W.heap.size a2 P) => eqIter_same a1 a2 c1 c2 P b c x W h1 h2 (by have := HK.out; omega))
  have HMX := hide (fun W a c' (h : elKV.Owns 0 W (.slice a P.length c') P) => markIter_any 0 a c' 1 P b c x W h (by omega) (by have := HK.out; omega))
  have HOG := hide (fun W B g (h : elKV.Holds W g P) (hg : B ≤ g) => h.owns hg (show P.length ≤ maxLen by have := HK.out; unfold maxLen; omega))
  have HRL := hide (seekV_len (P, b, c, x) g)
  obtain ⟨R, hR⟩ : ∃ R, R = seekV (P, b, c, x) g := ⟨_, rfl⟩
  rw [← hR] at HSP HIM HRL
  obtain ⟨⟨M, r1, r2, r3⟩, ⟨y0, y1⟩, rb⟩ := R
  unfold MovPost at HSP HIM
  dsimp only at HSP HIM HRL
  have HML := hide (show M.length ≤ 1048576 from Nat.le_trans HRL.out HK.out)
  have HEQ := hide (fun W a1 a2 c1 c2 (h1 : elKV.Rd W W.heap.size a1 M) (h2 : elKV.Rd W W.heap.size a2 M) => eqIter_same a1 a2 c1 c2 M r1 r2 r3 W h1 h2 (by have := HML.out; omega))
  have HMK := hide (fun W a c (h : elKV.Owns 0 W (.slice a M.length c) M) => markIter_any 0 a c 1 M r1 r2 r3 W h (by omega) (by have := HML.out; omega))
  have HHE := hide (fun W a c (h : elKV.Rd W W.heap.size a (marksG markKV 2 1 M.length)) => heldIter_any a c 1 M.length r1 r2 r3 W h (by omega) (by have := HML.out; omega))
  have hqq : (rb != rb) = false := by cases rb <;> rfl
  obtain ⟨p0, p1, p2, p3⟩ := HV1.out.b0.four'
  clear hR HP HR HRL hy0 hy1
  go_wp2_with fail
  refine (HTO.out _ HV1.out.below).mono ?_
  rintro e w2 ⟨g2, rfl, hg2, hz2, hh2, hb2⟩
  have HH2 := hide (HOG.out _ 0 _ hh2 (Nat.zero_le _))
  have HV2 := hide (HV1.out.keep hb2)
  clear hh2 hb2 HV1 p0 p1 p2 p3
  go_wp2_with fail
  refine (HSP.out _ _ _ HH2.out).mono ?_
  rintro e w3 ⟨v3, rfl, ho3, hb3⟩
  obtain ⟨a3, c3, rfl, _⟩ := ho3.form
  have HV3 := hide (HV2.out.callK hb3 ho3)
  obtain ⟨W4, hW4⟩ : ∃ W4, W4 = (w3.alloc (.cells #[.slice a3 M.length c3, .string r1, .string r2, .int .i64 r3] 56)).alloc (.cells #[.string y0, .string y1] 41) := ⟨_, rfl⟩
  have HV4 := hide (show InvX w [bP (w3.heap.size + 1) (y0, y1), bI 56 w3.heap.size (.slice a3 M.length c3) (M, r1, r2, r3), bI 52 w.heap.size (.slice a P.length cap) (P, b, c, x)] [rK (.slice a3 M.length c3) M] W4 from by
    have h := (HV3.out.addBox 56 #[.slice a3 M.length c3, .string r1, .string r2, .int .i64 r3]).addBox 41 #[.string y0, .string y1]
    rw [← hW4, Go.Deep.nblk_alloc] at h
    exact h)
  obtain ⟨p0, p1, p2, p3⟩ := HV3.out.b0.four'
  have hl3 := HV3.out.b0.lt
  clear hb3 ho3 HV2 HV3 HH2 HSP
  go_wp2_with fail
  rw [← hW4]
  clear hW4 p0 p1 p2 p3 hl3
  refine (HTO.out _ HV4.out.below).mono ?_
  rintro e w5 ⟨g5, rfl, hg5, hz5, hh5, hb5⟩
  have HV5 := hide (HV4.out.callK hb5 (HOG.out _ _ _ hh5 hg5))
  obtain ⟨W6, hW6⟩ : ∃ W6, W6 = w5.alloc (.cells #[.slice (some ⟨g5, 0, none⟩) P.length P.length, .string b, .string c, .int .i64 x] 56) := ⟨_, rfl⟩
  have HV6 := hide (show InvX w (bI 56 w5.heap.size (.slice (some ⟨g5, 0, none⟩) P.length P.length) (P, b, c, x) :: _) _ W6 from hW6 ▸ HV5.out.addBox _ _)
  clear hh5 hb5 HV4 HV5
  go_wp2_with fail
  rw [← hW6]
  clear hW6
  refine (HIM.out _ _ _ HV6.out.k0).mono ?_
  rintro e w7 ⟨v7, rfl, ho7, hb7⟩
  obtain ⟨a7, c7, rfl, _⟩ := ho7.form
  have HV7 := hide (HV6.out.callK hb7 ho7)
  obtain ⟨W8, hW8⟩ : ∃ W8, W8 = (w7.alloc (.cells #[.slice a7 M.length c7, .string r1, .string r2, .int .i64 r3] 56)).alloc (.cells #[.string y0, .string y1] 41) := ⟨_, rfl⟩
  have HV8 := hide (show InvX w (bP (w7.heap.size + 1) (y0, y1) :: bI 56 w7.heap.size (.slice a7 M.length c7) (M, r1, r2, r3) :: _) _ W8 from by
    have h := (HV7.out.addBox 56 #[.slice a7 M.length c7, .string r1, .string r2, .int .i64 r3]).addBox 41 #[.string y0, .string y1]
    rw [← hW8, Go.Deep.nblk_alloc] at h
    exact h)
  obtain ⟨p0, p1, p2, p3⟩ := HV7.out.b2.four'
  have hl7 := HV7.out.b2.lt
  clear hb7 ho7 HV6 HV7
  go_wp2_with fail
  rw [← hW8]
  clear hW8 p0 p1 p2 p3 hl7
  refine (HEQ.out _ _ _ _ _ (owns_rd HV8.out.k0) (owns_rd HV8.out.k2)).mono ?_
  rintro e w9 ⟨rfl, hb9⟩
  have HV9 := hide (HV8.out.keep hb9)
  obtain ⟨p0, p1⟩ := HV9.out.b0.two'
  obtain ⟨q0, q1⟩ := HV9.out.b3.two'
  clear hb9 HV8
  go_wp2_with fail
  refine (eqKV_same y0 y1 _).mono ?_
  rintro e w10 ⟨rfl, hb10⟩
  have HV10 := hide (HV9.out.keep hb10)
  obtain ⟨k0, k1, k2, k3⟩ := HV10.out.b2.four'
  obtain ⟨l0, l1, l2, l3⟩ := HV10.out.b5.four'
  clear hb10 HV9 p0 p1 q0 q1
  go_wp2_with fail
  -- the argument reads as it did
  go_region_held3 (fun w' => (w'.cell? ⟨w5.heap.size, 0, none⟩ = some (.slice (some ⟨g5, 0, none⟩) P.length P.length) ∧ w'.cell? ⟨w5.heap.size, 1, none⟩ = some (.string b) ∧ w'.cell? ⟨w5.heap.size, 2, none⟩ = some (.string c) ∧ w'.cell? ⟨w5.heap.size, 3, none⟩ = some (.int .i64 x)) ∧
      (w'.cell? ⟨w.heap.size, 0, none⟩ = some (.slice a P.length cap) ∧ w'.cell? ⟨w.heap.size, 1, none⟩ = some (.string b) ∧ w'.cell? ⟨w.heap.size, 2, none⟩ = some (.string c) ∧ w'.cell? ⟨w.heap.size, 3, none⟩ = some (.int .i64 x)))
    (first
      | with_reducible exact ⟨HV10.out.drew.b2.four', HV10.out.drew.b5.four'⟩
      | with_reducible exact ⟨HV11.out.b2.four', HV11.out.b5.four'⟩
      | with_reducible exact ⟨HV12.out.b2.four', HV12.out.b5.four'⟩)
    (first
      | (go_at_call 33
         refine (HTO.out _ HV10.out.drew.below).mono ?_
         rintro e w11 ⟨g11, rfl, hg11, hz11, hh11, hb11⟩
         have HV11 := hide (HV10.out.drew.keep hb11)
         have HH11 := hide hh11
         clear hb11 hh11)
      | (go_at_call 35
         refine (HEX.out _ _ _ _ _ (owns_rd HV11.out.k1) HH11.out.rd).mono ?_
         rintro e w12 ⟨rfl, hb12⟩
         have HV12 := hide (HV11.out.keep hb12)
         clear hb12))
  obtain ⟨p0, p1, p2, p3⟩ := HV12.out.b2.four'
  clear HV10 HV11 HH11 HEX k0 k1 k2 k3 l0 l1 l2 l3
  go_wp2_with fail
  -- the argument is marked
  refine (HMX.out _ _ _ HV12.out.k1).mono ?_
  rintro e w13 ⟨rfl, ho13, hk13⟩
  have HV13 := hide (HV12.out.markK1 hk13 ho13 (length_marksG _ _ _ _))
  clear ho13 hk13 HV12 p0 p1 p2 p3 HMX
  obtain ⟨p0, p1, p2, p3⟩ := HV13.out.b1.four'
  obtain ⟨q0, q1, q2, q3⟩ := HV13.out.b4.four'
  go_wp2_with fail
  refine (HEQ.out _ _ _ _ _ (owns_rd HV13.out.k0) (owns_rd HV13.out.k2)).mono ?_
  rintro e w14 ⟨rfl, hb14⟩
  have HV14 := hide (HV13.out.keep hb14)
  clear hb14 HV13 p0 p1 p2 p3 q0 q1 q2 q3
  obtain ⟨p0, p1⟩ := HV14.out.b0.two'
  obtain ⟨q0, q1⟩ := HV14.out.b3.two'
  go_wp2_with fail
  refine (eqKV_same y0 y1 _).mono ?_
  rintro e w15 ⟨rfl, hb15⟩
  have HV15 := hide (HV14.out.keep hb15)
  clear hb15 HV14 p0 p1 q0 q1
  obtain ⟨p0, p1, p2, p3⟩ := HV15.out.b1.four'
  go_wp2_with fail
  -- the answer is marked
  refine (HMK.out _ _ _ HV15.out.k0).mono ?_
  rintro e w16 ⟨rfl, ho16, hk16⟩
  have HV16 := hide (HV15.out.markK0 hk16 ho16 (length_marksG _ _ _ _))
  clear ho16 hk16 HV15 p0 p1 p2 p3
  obtain ⟨p0, p1, p2, p3⟩ := HV16.out.b1.four'
  go_wp2_with fail
  refine (HHE.out _ _ _ (owns_rd HV16.out.k0)).mono ?_
  rintro e w17 ⟨rfl, hb17⟩
  have HV17 := hide (HV16.out.keep hb17)
  clear hb17 HV16 p0 p1 p2 p3
  obtain ⟨p0, p1, p2, p3⟩ := HV17.out.b5.four'
  go_wp2_with fail
  -- the call once more
  refine (HTO.out _ HV17.out.below).mono ?_
  rintro e w18 ⟨g18, rfl, hg18, hz18, hh18, hb18⟩
  have HV18 := hide (HV17.out.keep hb18)
  have HH18 := hide (HOG.out _ 0 _ hh18 (Nat.zero_le _))
  clear hh18 hb18 HV17 p0 p1 p2 p3
  go_wp2_with fail
  refine (HIM.out _ _ _ HH18.out).mono ?_
  rintro e w19 ⟨v19, rfl, ho19, hb19⟩
  obtain ⟨ah, ch, rfl, _⟩ := ho19.form
  have HV19 := hide (HV18.out.keep hb19)
  obtain ⟨W20, hW20⟩ : ∃ W20, W20 = (w19.alloc (.cells #[.slice ah M.length ch, .string r1, .string r2, .int .i64 r3] 56)).alloc (.cells #[.string y0, .string y1] 41) := ⟨_, rfl⟩
  have HV20 := hide (show InvX w _ _ W20 from hW20 ▸ HV19.out.keep (((Below.refl w19.heap.size w19).alloc (Nat.le_refl _) _).alloc (by simp) _))
  have HO20 := hide (show elKV.Owns w18.heap.size W20 _ _ from hW20 ▸ (ho19.alloc _).alloc _)
  have HQ20 := hide (show BoxV 41 W20 (w19.heap.size + 1) #[.string y0, .string y1] from by
    have h := BoxV.new 41 (w19.alloc (.cells #[.slice ah M.length ch, .string r1, .string r2, .int .i64 r3] 56)) #[.string y0, .string y1]
    rw [← hW20, Go.Deep.nblk_alloc] at h
    exact h)
  obtain ⟨p0, p1, p2, p3⟩ := HV19.out.b4.four'
  have hl19 := HV19.out.b4.lt
  clear hb19 ho19 HV18 HIM HTO HH18
  go_wp2_with fail
  rw [← hW20]
  clear hW20 HV19 p0 p1 p2 p3 hl19
  refine (HEQ.out _ _ _ _ _ (owns_rd HO20.out) (owns_rd HV20.out.k2)).mono ?_
  rintro e w21 ⟨rfl, hb21⟩
  have HV21 := hide (HV20.out.keep hb21)
  have HQ21 := hide (HQ20.out.below hb21 HQ20.out.lt)
  clear hb21 HV20 HO20 HQ20
  obtain ⟨p0, p1⟩ := HQ21.out.two'
  obtain ⟨q0, q1⟩ := HV21.out.b3.two'
  go_wp2_with fail
  refine (eqKV_same y0 y1 _).mono ?_
  rintro e w22 ⟨rfl, hb22⟩
  have HV22 := hide (HV21.out.keep hb22)
  clear hb22 HV21 HQ21 p0 p1 q0 q1
  obtain ⟨p0, p1, p2, p3⟩ := HV22.out.b1.four'
  go_wp2_with fail
  refine (HHE.out _ _ _ (owns_rd HV22.out.k0)).mono ?_
  rintro e w23 ⟨rfl, hb23⟩
  have HV23 := hide (HV22.out.keep hb23)
  clear hb23 HV22 p0 p1 p2 p3
  go_wp2_with fail
  go_ret
  exact ⟨rfl, HV23.out.below⟩
end Go.Proofs.Ytphfakdbgohhgaa
