/-
  Texts of this proof, put together: TabL, LawTableEnts.
-/
import Derived.Test.YtdlkgpobjacgeaaDoorPackBR
import Derived.Test.YtdlkgpobjacgeaaDoorPackBQ
import Derived.Test.YtdlkgpobjacgeaaDoorPackAF
import Derived.Test.YtdlkgpobjacgeaaDoorPackBM
import Derived.Deep.RegionHeld3

/-
  Contract of impl.TableEnts, where the table of the program holds its sixteen words.
-/
namespace Go.Proofs.YtdlkgpobjacgeaaDoor
open Go.ChangeShapes Go.WideShapes Go.ChangeAt Go.RowKit

set_option maxHeartbeats 2000000 in
set_option maxRecDepth 40000 in
theorem iTableEnts_any (a : Option Addr) (cap : Nat) (P : List PartE) (b : ByteArray) (m : Int) (w : World) (hr : elPart.Rd w w.heap.size a P) (hl : P.length ≤ maxLen) (hcap : P.length ≤ cap) (hk : ∀ x ∈ P, x.2.size ≤ 1048576) (hw0 : 0 < w.heap.size) (hT : Hid (CrcTabIn w)) :
    Calls Tryd.prog 19 #[.agg #[.slice a P.length cap, .string b, .int .i64 m]] w (TEPost w (P, b, m)) := by
  have HR := hide hr
  have HTC := hide (tab_claim (P, b, m))
  have HCL := hide (fun W h => tabClaimed_any a cap P b m W h hl hcap hk)
  unfold EntsP1 at HCL
  have HEL := hide (show (entsP (P.take 10)).length ≤ 160 by
    have h := entsP_len (P.take 10)
    rw [List.length_take] at h
    omega)
  obtain ⟨X, hX⟩ : ∃ X, X = entsP (P.take 10) := ⟨_, rfl⟩
  simp only [← hX] at HTC HCL HEL
  obtain ⟨n, hn⟩ : ∃ n, n = P.length := ⟨_, rfl⟩
  have HN := hide hn
  have HLL := hide hl
  rw [← hn] at hl hcap HCL ⊢
  clear hn hr hk hX
  have HX0 := hide (BoxV.new 26 w #[.slice a n cap, .string b, .int .i64 m])
  have HB0 := hide ((Below.refl w.heap.size w).alloc (Nat.le_refl _) (.cells #[.slice a n cap, .string b, .int .i64 m] 26))
  go_enter Tryd.func19, Tryd.ntmps19
  go_wp2_with fail
  refine (HCL.out _ ((HR.out.below HB0.out (Nat.le_refl _)).mono HB0.out.size)).mono ?_
  rintro e w1 ⟨v, rfl, ho, hb1⟩
  obtain ⟨a1, c1, rfl, hrd, hc1, _⟩ := ho.form
  have HB1 := hide (HB0.out.trans (hb1.mono HB0.out.size))
  have HX1 := hide (HX0.out.below hb1 HX0.out.lt)
  have HO1 := hide (ho.mono HB0.out.size)
  have hs1 := HB1.out.size
  have HTO := hide (iTableOf_any a1 c1 X w1 hrd (by have := HEL.out; unfold maxLen; omega) hc1 (Nat.lt_of_lt_of_le hw0 hs1) (hide (hT.out.below HB1.out hw0)))
  unfold TabPost at HTO
  obtain ⟨⟨Q, q1, q2⟩, hQ⟩ : ∃ t, t = tblV X := ⟨_, rfl⟩
  have HQL := hide (show Q.length ≤ 10 by have h := tblV_len X; rw [← hQ] at h; exact h)
  have HQ := hide hQ
  rw [← hQ] at HTO
  dsimp only at HTO
  obtain ⟨k, hkX⟩ : ∃ k, k = X.length := ⟨_, rfl⟩
  have HKX := hide hkX
  rw [← hkX] at HTO HO1 ⊢
  clear hb1 ho hrd hc1 HX0 HB0 HCL hQ hkX
  by_cases hok : tblOk X
  · rw [decide_eq_true hok] at HTO
    go_wp2_with fail
    refine HTO.out.mono ?_
    rintro e w2 ⟨v, rfl, ho, hb2⟩
    obtain ⟨a2, c2, rfl, hrd, _⟩ := ho.form
    have HB2 := hide (HB1.out.trans (hb2.mono hs1))
    have HO2 := hide (HO1.out.below hb2 (Nat.le_refl _))
    have HX2 := hide (HX1.out.below hb2 HX1.out.lt)
    have hs2 := HB2.out.size
    have HX3 := hide (HX2.out.alloc (.cells #[.slice a2 Q.length c2, .string q1, .int .i64 q2] 26))
    have HY3 := hide (BoxV.new 26 w2 #[.slice a2 Q.length c2, .string q1, .int .i64 q2])
    have HB3 := hide (HB2.out.alloc hs2 (.cells #[.slice a2 Q.length c2, .string q1, .int .i64 q2] 26))
    have HO3 := hide (HO2.out.alloc (.cells #[.slice a2 Q.length c2, .string q1, .int .i64 q2] 26))
    have hs3 := HB3.out.size
    have HSM := hide (equal_any a2 a c2 cap Q P q1 b q2 m (w2.alloc (.cells #[.slice a2 Q.length c2, .string q1, .int .i64 q2] 26)) ((hrd.below ((Below.refl w2.heap.size w2).alloc (Nat.le_refl _) _) (Nat.le_refl _)).mono (by simp)) ((HR.out.below HB3.out (Nat.le_refl _)).mono hs3) (by have := HQL.out; unfold maxLen; omega))
    rw [← HN.out] at HSM
    obtain ⟨z0, z1, z2⟩ := HX3.out.three
    obtain ⟨y0, y1, y2⟩ := HY3.out.three
    clear hb2 ho hrd HO1 HX1 HB1 HX2 HB2 HO2 HTO
    by_cases heq : (Q, q1, q2) = (P, b, m)
    · have HYS := hide (HTC.out.1 ⟨hok, by rw [← tblV_yes hok, ← HQ.out, heq]⟩)
      rw [decide_eq_true heq] at HSM
      clear hok heq
      go_wp2_with fail
      refine HSM.out.mono ?_
      rintro e w4 ⟨rfl, hb4⟩
      have HB4 := hide (HB3.out.trans (hb4.mono hs3))
      have HO4 := hide (HO3.out.below hb4 (Nat.le_refl _))
      clear hb4
      go_wp2_with fail
      go_ret2
      exact ⟨_, by rw [HYS.out.2]; rfl, by rw [HYS.out.1]; exact HO4.out.mono (Nat.le_refl _), HB4.out⟩
    · have HNS := hide (HTC.out.2 fun h => heq (by rw [HQ.out, tblV_yes hok]; exact h.2))
      rw [decide_eq_false heq] at HSM
      clear hok heq
      go_wp2_with fail
      refine HSM.out.mono ?_
      rintro e w4 ⟨rfl, hb4⟩
      have HB4 := hide (HB3.out.trans (hb4.mono hs3))
      clear hb4
      go_wp2_with fail
      go_ret2
      exact TEPost.no HNS.out _ (El.Owns.nil _ _) HB4.out
  · have HNS := hide (HTC.out.2 fun h => hok h.1)
    rw [decide_eq_false hok] at HTO
    clear hok
    go_wp2_with fail
    refine HTO.out.mono ?_
    rintro e w2 ⟨v, rfl, ho, hb2⟩
    obtain ⟨a2, c2, rfl, hrd, _⟩ := ho.form
    have HB2 := hide (HB1.out.trans (hb2.mono hs1))
    have hs2 := HB2.out.size
    have HB3 := hide (HB2.out.alloc hs2 (.cells #[.slice a2 Q.length c2, .string q1, .int .i64 q2] 26))
    clear hb2 ho hrd HO1 HX1 HB1 HB2 HTO
    go_wp2_with fail
    go_ret2
    exact TEPost.no HNS.out _ (El.Owns.nil _ _) HB3.out
end Go.Proofs.YtdlkgpobjacgeaaDoor

/-
  The walk of laws.FnExactTableEnts.
-/
namespace Go.Proofs.YtdlkgpobjacgeaaDoor
open Go.ChangeShapes Go.WideShapes Go.ChangeAt Go.RowKit

set_option maxHeartbeats 4000000 in
set_option maxRecDepth 20000 in
theorem law_TableEnts (a : Option Addr) (cap : Nat) (P : List PartE) (b : ByteArray) (x : Int) (w : World) (hr : elPart.Rd w w.heap.size a P) (hl : P.length ≤ maxLen) (hk : ∀ z ∈ P, camePart z) (hb : b.size ≤ maxLen) (_ : (Lit.int .i64 x).wf = true) (h0 : 0 < w.heap.size) (hT : Hid (CrcTabIn w)) :
    Calls Tryd.prog 4 #[.agg #[.slice a P.length cap, .string b, .int .i64 x]] w (TruePost w) := by
  have HR := hide hr
  have HL := hide hl
  have HB0 := hide ((Below.refl _ w).alloc (Nat.le_refl _) (.cells #[.slice a P.length cap, .string b, .int .i64 x] 38))
  have HX0 := hide (BoxV.new 38 w #[.slice a P.length cap, .string b, .int .i64 x])
  have HSZ := hide (fun W (h : Below w.heap.size w W) => szTable_any a cap P b x 1048576 W ((HR.out.below h (Nat.le_refl _)).mono h.size) hl (fun z hz => camePart_sz hk z hz) hb (by omega) (by omega))
  have HTO := hide (fun W (h : Below w.heap.size w W) (h2 : P.length ≤ 1048576) => toTable_any a cap P b x W ((HR.out.below h (Nat.le_refl _)).mono h.size) h2)
  have HSP := hide (fun W g (hf : tabFit P b) (h : elPart.Holds W g P) => sTableEnts_any (some ⟨g, 0, none⟩) P.length P b x W h.rd hf.1.1 (fun z hz => (hf.1.2 z hz).2))
  have HIM := hide (fun W g (hf : tabFit P b) (h : elPart.Holds W g P) (h3 : Below w.heap.size w W) => iTableEnts_any (some ⟨g, 0, none⟩) P.length P b x W h.rd hl (Nat.le_refl _) (fun z hz => (hf.1.2 z hz).2) (Nat.lt_of_lt_of_le h0 h3.size) (hide (hT.out.below h3 h0)))
  have HEQ := hide (fun W a1 a2 c1 c2 (h1 : elPart.Rd W W.heap.size a1 P) (h2 : elPart.Rd W W.heap.size a2 P) (hf : tabFit P b) => eqTable_same a1 a2 c1 c2 P b x W h1 h2 (by have := hf.1.1; omega))
  obtain ⟨X, hX⟩ : ∃ X, X = tabE (P, b, x) := ⟨_, rfl⟩
  obtain ⟨q, hq⟩ : ∃ q, q = tabQ (P, b, x) := ⟨_, rfl⟩
  have hlen : X.length ≤ 60 := by rw [hX]; exact tabE_len _
  have hqq : (q != q) = false := by cases q <;> rfl
  unfold TEPost at HSP HIM
  rw [← hX, ← hq] at HSP HIM
  clear hX hq hr hl hk hb hT h0
  go_enter Tryd.func4, Tryd.ntmps4
  go_wp2_with fail
  refine (HSZ.out _ HB0.out).mono ?_
  rintro e w1 ⟨y, rfl, hy0, hy1, hP, hb1⟩
  have HP := hide hP
  have HB1 := hide (HB0.out.trans (hb1.mono HB0.out.size))
  have HX1 := hide (HX0.out.below hb1 HX0.out.lt)
  clear hP hb1 HSZ HB0 HX0
  by_cases hy : y < 0
  · go_wp2_with fail
    go_ret
    exact ⟨rfl, HB1.out⟩
  have HZ := hide (HP.out (by omega))
  have HPL := hide (HP.out (by omega)).1.1
  obtain ⟨c0, c1, c2⟩ := HX1.out.three
  clear HP
  go_wp2_with fail
  refine (HTO.out _ HB1.out HZ.out.1.1).mono ?_
  rintro e w2 ⟨g2, rfl, hg2, hz2, hh2, hb2⟩
  have HB2 := hide (HB1.out.trans (hb2.mono HB1.out.size))
  have HX2 := hide (HX1.out.below hb2 HX1.out.lt)
  have HH2 := hide hh2
  have s1 := HX1.out.lt
  have s2 := hb2.size
  clear c0 c1 c2 hb2 hh2 HB1 HX1
  go_wp2_with fail
  refine (HSP.out _ _ HZ.out HH2.out).mono ?_
  rintro e w3 ⟨v6, rfl, ho6, hb3⟩
  obtain ⟨a6, c6, rfl, _⟩ := ho6.form
  have HB3 := hide (HB2.out.trans (hb3.mono HB2.out.size))
  have HX3 := hide (HX2.out.below hb3 HX2.out.lt)
  have HO3 := hide (ho6.mono (Nat.zero_le _))
  have HK6 := hide (show ∀ k, (Value.slice a6 X.length c6).ownBlock = some k → w.heap.size < k ∧ k < w3.heap.size from fun k e => by have := ho6.lt k e; omega)
  have s3 := hb3.size
  obtain ⟨c0, c1, c2⟩ := HX3.out.three
  clear hb3 ho6 HB2 HX2 HH2 HSP
  go_wp2_with fail
  -- the argument
  refine (HTO.out _ HB3.out HZ.out.1.1).mono ?_
  rintro e w4 ⟨gx, rfl, hgx, hzx, hh4, hb4⟩
  have HB4 := hide (HB3.out.trans (hb4.mono HB3.out.size))
  have HX4 := hide (HX3.out.below hb4 HX3.out.lt)
  have HO4 := hide (HO3.out.below hb4 (Nat.le_refl _))
  have HH4 := hide hh4
  clear c0 c1 c2 hb4 hh4 HB3 HX3 HO3
  obtain ⟨W5, hW5⟩ : ∃ W5, W5 = w4.alloc (.cells (tabBox (P, b, x) (some ⟨gx, 0, none⟩) P.length) 26) := ⟨_, rfl⟩
  have HX5 := hide (show BoxV 38 W5 w.heap.size _ from hW5 ▸ HX4.out.alloc _)
  have HB5 := hide (show Below w.heap.size w W5 from hW5 ▸ HB4.out.alloc HB4.out.size _)
  have HY5 := hide (show BoxV 26 W5 w4.heap.size (tabBox (P, b, x) (some ⟨gx, 0, none⟩) P.length) from hW5 ▸ BoxV.new 26 w4 _)
  have HO5 := hide (show elEnt.Owns 0 W5 _ _ from hW5 ▸ HO4.out.alloc _)
  have HH5 := hide (show elPart.Holds W5 gx P from hW5 ▸ HH4.out.below ((Below.refl w4.heap.size w4).alloc (Nat.le_refl _) _) hzx)
  have hz5 : w4.heap.size < W5.heap.size := HY5.out.lt
  clear HB4 HX4 HH4 HO4
  go_wp2_with fail
  rw [← hW5]
  clear hW5
  -- the answer
  refine (HIM.out _ _ HZ.out HH5.out HB5.out).mono ?_
  rintro e w6 ⟨v9, rfl, ho9, hb6⟩
  obtain ⟨a9, c9, rfl, _⟩ := ho9.form
  have s6 := hb6.size
  have HH6 := hide (HH5.out.below hb6 (by omega))
  have HV6 := hide (show InvE w a cap (P, b, x) X a6 c6 gx w4.heap.size W5.heap.size a9 c9 X w6 from
    ⟨HB5.out.trans (hb6.mono HB5.out.size), HX5.out.below hb6 HX5.out.lt, HO5.out.below hb6 (Nat.le_refl _), HY5.out.below hb6 HY5.out.lt, ho9.mono (Nat.zero_le _), by omega, hzx, hz5, fun k e => by have := HK6.out k e; omega, fun k e => (ho9.lt k e).1⟩)
  clear ho9 hb6 HX5 HB5 HY5 HO5 HH5 HK6
  go_wp2_with fail
  refine (eqEntS_same a9 a6 c9 c6 X _ (owns_rd HV6.out.o9) (owns_rd HV6.out.o6) (by omega)).mono ?_
  rintro e w7 ⟨rfl, hb7⟩
  have HV7 := hide (HV6.out.keep hb7)
  have HH7 := hide (HH6.out.below hb7 (by omega))
  have s7 := hb7.size
  obtain ⟨c0, c1, c2⟩ := HV7.out.b0.three
  obtain ⟨d0, d1, d2⟩ := HV7.out.b8.three
  clear hb7 HV6 HH6
  go_wp2_with fail
  go_region_held3 (fun w' => (w'.cell? ⟨w.heap.size, 0, none⟩ = some (.slice a P.length cap) ∧ w'.cell? ⟨w.heap.size, 1, none⟩ = some (.string b) ∧ w'.cell? ⟨w.heap.size, 2, none⟩ = some (.int .i64 x)) ∧
      (w'.cell? ⟨w4.heap.size, 0, none⟩ = some (.slice (some ⟨gx, 0, none⟩) P.length P.length) ∧ w'.cell? ⟨w4.heap.size, 1, none⟩ = some (.string b) ∧ w'.cell? ⟨w4.heap.size, 2, none⟩ = some (.int .i64 x)))
    (first
      | with_reducible exact ⟨HV7.out.b0.three, HV7.out.b8.three⟩
      | with_reducible exact ⟨HV7.out.b0.drew.three, HV7.out.b8.drew.three⟩
      | with_reducible exact ⟨HV8.out.b0.three, HV8.out.b8.three⟩
      | with_reducible exact ⟨HV9.out.b0.three, HV9.out.b8.three⟩)
    (first
      | (go_at_call 18
         refine (HTO.out _ HV7.out.below.drew HZ.out.1.1).mono ?_
         rintro e w8 ⟨g8, rfl, hg8, hz8, hh8, hb8⟩
         have hb8' := below_drew' hb8
         have HV8 := hide (HV7.out.keep hb8')
         have HH8 := hide (HH7.out.below hb8' (by omega))
         have HG8 := hide hh8
         have s8 := hb8'.size
         clear hb8 hb8' hh8)
      | (go_at_call 11
         refine (HEQ.out _ _ _ _ _ HH8.out.rd HG8.out.rd HZ.out).mono ?_
         rintro e w9 ⟨rfl, hb9⟩
         have HV9 := hide (HV8.out.keep hb9)
         have HH9 := hide (HH8.out.below hb9 (by omega))
         have s9 := hb9.size
         clear hb9))
  clear c0 c1 c2 d0 d1 d2 HV7 HH7 HV8 HH8 HG8
  obtain ⟨d0, d1, d2⟩ := HV9.out.b8.three
  go_wp2_with fail
  -- the argument is marked
  refine (markTable_any 0 _ _ 1 P b x _ (HH9.out.owns (Nat.zero_le _) HL.out) (by omega) (by have := HPL.out; omega)).mono ?_
  rintro e w10 ⟨rfl, _, ht10⟩
  have HV10 := hide (HV9.out.mark8 ht10)
  clear ht10 HV9 HH9 d0 d1 d2
  go_wp2_with fail
  refine (eqEntS_same a9 a6 c9 c6 X _ (owns_rd HV10.out.o9) (owns_rd HV10.out.o6) (by omega)).mono ?_
  rintro e w11 ⟨rfl, hb11⟩
  have HV11 := hide (HV10.out.keep hb11)
  clear hb11 HV10
  go_wp2_with fail
  -- the answer is marked
  refine (markEntS_any 0 a9 c9 1 X _ HV11.out.o9 (by omega) (by omega)).mono ?_
  rintro e w12 ⟨rfl, ho12, ht12⟩
  have HV12 := hide (HV11.out.mark9 ht12 ho12)
  clear ht12 ho12 HV11
  go_wp2_with fail
  refine (heldEntS_any a9 c9 1 X.length _ (owns_rd HV12.out.o9) (by omega) (by omega)).mono ?_
  rintro e w13 ⟨rfl, hb13⟩
  have HV13 := hide (HV12.out.keep hb13)
  clear hb13 HV12
  obtain ⟨c0, c1, c2⟩ := HV13.out.b0.three
  go_wp2_with fail
  -- the call once more
  refine (HTO.out _ HV13.out.below HZ.out.1.1).mono ?_
  rintro e w14 ⟨g14, rfl, hg14, hz14, hh14, hb14⟩
  have HV14 := hide (HV13.out.keep hb14)
  have HH14 := hide hh14
  clear hb14 hh14 HV13 c0 c1 c2
  go_wp2_with fail
  refine (HIM.out _ _ HZ.out HH14.out HV14.out.below).mono ?_
  rintro e w15 ⟨vh, rfl, hoh, hb15⟩
  obtain ⟨ah, ch, rfl, _⟩ := hoh.form
  have HV15 := hide (HV14.out.keep hb15)
  have HOH := hide hoh
  clear hb15 hoh HV14 HH14 HIM
  go_wp2_with fail
  refine (eqEntS_same ah a6 ch c6 X _ (owns_rd HOH.out) (owns_rd HV15.out.o6) (by omega)).mono ?_
  rintro e w16 ⟨rfl, hb16⟩
  have HV16 := hide (HV15.out.keep hb16)
  clear hb16 HV15 HOH
  go_wp2_with fail
  refine (heldEntS_any a9 c9 1 X.length _ (owns_rd HV16.out.o9) (by omega) (by omega)).mono ?_
  rintro e w17 ⟨rfl, hb17⟩
  have HV17 := hide (HV16.out.keep hb17)
  clear hb17 HV16
  go_wp2_with fail
  go_ret
  exact ⟨rfl, HV17.out.below⟩
end Go.Proofs.YtdlkgpobjacgeaaDoor
