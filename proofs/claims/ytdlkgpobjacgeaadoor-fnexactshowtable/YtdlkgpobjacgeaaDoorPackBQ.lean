/-
  Texts of this proof, put together: TabL, TabS, LawShowTable.
-/
import Derived.Test.YtdlkgpobjacgeaaDoorPackBO
import Derived.Test.YtdlkgpobjacgeaaDoorPackBH
import Derived.Test.YtdlkgpobjacgeaaDoorPackAN
import Derived.Deep.RegionHeld3
import Derived.Test.YtdlkgpobjacgeaaDoorPackBP

/-
  Contract of impl.TableEnts, where the table of the program holds its sixteen words.
-/
namespace Go.Proofs.YtdlkgpobjacgeaaDoor
open Go.ChangeShapes Go.WideShapes Go.ChangeAt Go.RowKit

set_option maxHeartbeats 2000000 in
set_option maxRecDepth 40000 in
theorem iTableEnts_any (a : Option Addr) (cap : Nat) (P : List PartE) (b : ByteArray) (m : Int) (w : World) (hr : elPart.Rd w w.heap.size a P) (hl : P.length ≤ maxLen) (hcap : P.length ≤ cap) (hk : ∀ x ∈ P, x.2.size ≤ 1048576) (hw0 : 0 < w.heap.size) (hT : Hid (CrcTabIn w)) :
    Calls Tryd.prog 19 #[.agg #[.slice a P.length cap, .string b, .int .i64 m]] w (TEPost w (P, b, m)) := by
  have HR := hide hr
  have HTC := hide (tab_claim (P, b, m))
  have HCL := hide (fun W h => tabClaimed_any a cap P b m W h hl hcap hk)
  unfold EntsP1 at HCL
  have HEL := hide (show (entsP (P.take 10)).length ≤ 160 by
    have h := entsP_len (P.take 10)
    rw [List.length_take] at h
    omega)
  obtain ⟨X, hX⟩ : ∃ X, X = entsP (P.take 10) := ⟨_, rfl⟩
  simp only [← hX] at HTC HCL HEL
  obtain ⟨n, hn⟩ : ∃ n, n = P.length := ⟨_, rfl⟩
  have HN := hide hn
  have HLL := hide hl
  rw [← hn] at hl hcap HCL ⊢
  clear hn hr hk hX
  have HX0 := hide (BoxV.new 26 w #[.slice a n cap, .string b, .int .i64 m])
  have HB0 := hide ((Below.refl w.heap.size w).alloc (Nat.le_refl _) (.cells #[.slice a n cap, .string b, .int .i64 m] 26))
  go_enter Tryd.func19, Tryd.ntmps19
  go_wp2_with fail
  refine (HCL.out _ ((HR.out.below HB0.out (Nat.le_refl _)).mono HB0.out.size)).mono ?_
  rintro e w1 ⟨v, rfl, ho, hb1⟩
  obtain ⟨a1, c1, rfl, hrd, hc1, _⟩ := ho.form
  have HB1 := hide (HB0.out.trans (hb1.mono HB0.out.size))
  have HX1 := hide (HX0.out.below hb1 HX0.out.lt)
  have HO1 := hide (ho.mono HB0.out.size)
  have hs1 := HB1.out.size
  have HTO := hide (iTableOf_any a1 c1 X w1 hrd (by have := HEL.out; unfold maxLen; omega) hc1 (Nat.lt_of_lt_of_le hw0 hs1) (hide (hT.out.below HB1.out hw0)))
  unfold TabPost at HTO
  obtain ⟨⟨Q, q1, q2⟩, hQ⟩ : ∃ t, t = tblV X := ⟨_, rfl⟩
  have HQL := hide (show Q.length ≤ 10 by have h := tblV_len X; rw [← hQ] at h; exact h)
  have HQ := hide hQ
  rw [← hQ] at HTO
  dsimp only at HTO
  obtain ⟨k, hkX⟩ : ∃ k, k = X.length := ⟨_, rfl⟩
  have HKX := hide hkX
  rw [← hkX] at HTO HO1 ⊢
  clear hb1 ho hrd hc1 HX0 HB0 HCL hQ hkX
  by_cases hok : tblOk X
  · rw [decide_eq_true hok] at HTO
    go_wp2_with fail
    refine HTO.out.mono ?_
    rintro e w2 ⟨v, rfl, ho, hb2⟩
    obtain ⟨a2, c2, rfl, hrd, _⟩ := ho.form
    have HB2 := hide (HB1.out.trans (hb2.mono hs1))
    have HO2 := hide (HO1.out.below hb2 (Nat.le_refl _))
    have HX2 := hide (HX1.out.below hb2 HX1.out.lt)
    have hs2 := HB2.out.size
    have HX3 := hide (HX2.out.alloc (.cells #[.slice a2 Q.length c2, .string q1, .int .i64 q2] 26))
    have HY3 := hide (BoxV.new 26 w2 #[.slice a2 Q.length c2, .string q1, .int .i64 q2])
    have HB3 := hide (HB2.out.alloc hs2 (.cells #[.slice a2 Q.length c2, .string q1, .int .i64 q2] 26))
    have HO3 := hide (HO2.out.alloc (.cells #[.slice a2 Q.length c2, .string q1, .int .i64 q2] 26))
    have hs3 := HB3.out.size
    have HSM := hide (equal_any a2 a c2 cap Q P q1 b q2 m (w2.alloc (.cells #[.slice a2 Q.length c2, .string q1, .int .i64 q2] 26)) ((hrd.below ((Below.refl w2.heap.size w2).alloc (Nat.le_refl _) _) (Nat.le_refl _)).mono (by simp)) ((HR.out.below HB3.out (Nat.le_refl _)).mono hs3) (by have := HQL.out; unfold maxLen; omega))
    rw [← HN.out] at HSM
    obtain ⟨z0, z1, z2⟩ := HX3.out.three
    obtain ⟨y0, y1, y2⟩ := HY3.out.three
    clear hb2 ho hrd HO1 HX1 HB1 HX2 HB2 HO2 HTO
    by_cases heq : (Q, q1, q2) = (P, b, m)
    · have HYS := hide (HTC.out.1 ⟨hok, by rw [← tblV_yes hok, ← HQ.out, heq]⟩)
      rw [decide_eq_true heq] at HSM
      clear hok heq
      go_wp2_with fail
      refine HSM.out.mono ?_
      rintro e w4 ⟨rfl, hb4⟩
      have HB4 := hide (HB3.out.trans (hb4.mono hs3))
      have HO4 := hide (HO3.out.below hb4 (Nat.le_refl _))
      clear hb4
      go_wp2_with fail
      go_ret2
      exact ⟨_, by rw [HYS.out.2]; rfl, by rw [HYS.out.1]; exact HO4.out.mono (Nat.le_refl _), HB4.out⟩
    · have HNS := hide (HTC.out.2 fun h => heq (by rw [HQ.out, tblV_yes hok]; exact h.2))
      rw [decide_eq_false heq] at HSM
      clear hok heq
      go_wp2_with fail
      refine HSM.out.mono ?_
      rintro e w4 ⟨rfl, hb4⟩
      have HB4 := hide (HB3.out.trans (hb4.mono hs3))
      clear hb4
      go_wp2_with fail
      go_ret2
      exact TEPost.no HNS.out _ (El.Owns.nil _ _) HB4.out
  · have HNS := hide (HTC.out.2 fun h => hok h.1)
    rw [decide_eq_false hok] at HTO
    clear hok
    go_wp2_with fail
    refine HTO.out.mono ?_
    rintro e w2 ⟨v, rfl, ho, hb2⟩
    obtain ⟨a2, c2, rfl, hrd, _⟩ := ho.form
    have HB2 := hide (HB1.out.trans (hb2.mono hs1))
    have hs2 := HB2.out.size
    have HB3 := hide (HB2.out.alloc hs2 (.cells #[.slice a2 Q.length c2, .string q1, .int .i64 q2] 26))
    clear hb2 ho hrd HO1 HX1 HB1 HB2 HTO
    go_wp2_with fail
    go_ret2
    exact TEPost.no HNS.out _ (El.Owns.nil _ _) HB3.out
end Go.Proofs.YtdlkgpobjacgeaaDoor

/-
  Contract of impl.ShowTable, where the table of the program holds its sixteen words.
-/
namespace Go.Proofs.YtdlkgpobjacgeaaDoor
open Go.ChangeShapes Go.WideShapes Go.ChangeAt Go.RowKit

/-- a writer behind some calls, beside what else lay there -/
structure At2 (g : Nat) (W : World) (X : List UInt8) (v : Value) (w' : World) : Prop where
  wri : TxtAt w' g X v
  bent : Bent g W w'
theorem At2.step {g B : Nat} {W w' w2 : World} {X : List UInt8} {v : Value} (h : At2 g W X v w') (hb : Below B w' w2) (hB : w'.heap.size ≤ B) : At2 g W X v w2 :=
  ⟨h.wri.kept hb hB, h.bent.trans (Bent.of_below hb hB (Nat.le_trans (Nat.le_of_lt h.wri.lt) hB))⟩
theorem At2.drew {g : Nat} {W w' : World} {X : List UInt8} {v : Value} (h : At2 g W X v w') : At2 g W X v w'.drew :=
  ⟨h.wri.drew, ⟨h.bent.below.drew, h.bent.keep⟩⟩
theorem At2.alloc {g : Nat} {W w' : World} {X : List UInt8} {v : Value} (h : At2 g W X v w') (o : Obj) : At2 g W X v (w'.alloc o) :=
  h.step ((Below.refl w'.heap.size w').alloc (Nat.le_refl _) o) (Nat.le_refl _)
theorem strs2 (w : World) (a b : ByteArray) : elStr.Holds (w.alloc (.cells #[.string a, .string b] 9)) w.heap.size [a, b] := El.Holds.new (e := elStr) w [a, b]
theorem strs1' (w : World) (a : ByteArray) : elStr.Holds (w.alloc (.cells #[.string a] 9)) w.heap.size [a] := El.Holds.new (e := elStr) w [a]

set_option maxHeartbeats 4000000 in
set_option maxRecDepth 40000 in
theorem iShowTable_any (a : Option Addr) (cap : Nat) (P : List PartE) (b : ByteArray) (m : Int) (w : World) (hr : elPart.Rd w w.heap.size a P) (hl : P.length ≤ maxLen) (hcap : P.length ≤ cap) (hk : ∀ x ∈ P, x.2.size ≤ 1048576) (hw0 : 0 < w.heap.size) (hTb : Hid (CrcTabIn w)) :
    Calls Tryd.prog 22 #[.agg #[.slice a P.length cap, .string b, .int .i64 m]] w (StrPost w (showT (P, b, m))) := by
  have HR := hide hr
  have HTE := hide (fun W h hz ht => iTableEnts_any a cap P b m W h hl hcap hk hz ht)
  unfold TEPost at HTE
  obtain ⟨V, hV⟩ : ∃ V, V = showT (P, b, m) := ⟨_, rfl⟩
  have HV := hide hV
  rw [← hV]
  obtain ⟨n, hn⟩ : ∃ n, n = P.length := ⟨_, rfl⟩
  have HN := hide hn
  rw [← hn] at hl HTE ⊢
  obtain ⟨tq, htq⟩ : ∃ tq, tq = tabQ (P, b, m) := ⟨_, rfl⟩
  have HTQ := hide htq.symm
  rw [← htq] at HTE
  clear hn hr hk hV htq hl hcap
  have HX0 := hide (BoxV.new 26 w #[.slice a n cap, .string b, .int .i64 m])
  have HB0 := hide ((Below.refl w.heap.size w).alloc (Nat.le_refl _) (.cells #[.slice a n cap, .string b, .int .i64 m] 26))
  have HEQ := hide (HTE.out _ ((HR.out.below HB0.out (Nat.le_refl _)).mono HB0.out.size) (Nat.lt_of_lt_of_le hw0 HB0.out.size) (hide (hTb.out.below HB0.out hw0)))
  clear HTE
  go_enter Tryd.func22, Tryd.ntmps22
  go_wp2_with fail
  refine HEQ.out.mono ?_
  rintro e w1 ⟨v, rfl, ho, hb1⟩
  obtain ⟨a1, c1, rfl, _⟩ := ho.form
  have HX1 := hide (HX0.out.below hb1 HX0.out.lt)
  have HB1 := hide (HB0.out.trans (hb1.mono HB0.out.size))
  clear ho hb1 HX0 HB0 HEQ
  obtain ⟨x0, x1, x2⟩ := HX1.out.three
  cases tq with
  | false =>
    have HVn := hide (HV.out.trans (showT_no (tabQ_not HTQ.out)))
    go_wp2_with fail
    go_ret
    exact ⟨by rw [HVn.out]; rfl, HB1.out⟩
  | true =>
  have hT := tabQ_is HTQ.out
  obtain ⟨hbl, hm0, hm1⟩ := tbl_bds hT
  have hpl := parts_len hT
  have HTL := hide (text_len hT)
  dsimp only at hbl hm0 hm1 hpl HTL
  rw [← HN.out] at hpl
  have hn1 : n ≤ 10 := hpl.2
  have HT1 := hide (fun W => iVar_any (n : Int) W)
  have HT2 := hide (fun W => iVar_any m W)
  have v1 := varV_len' (n : Int)
  have v2 := varV_len' m
  have HVy := hide (show V = varV (n : Int) ++ prtsL P ++ (bl b ++ varV m) by
    rw [HV.out, showT_yes hT]
    dsimp only
    rw [← HN.out, varV, if_pos (by omega), varV, if_pos (by omega), Int.toNat_natCast]
    simp only [List.append_assoc])
  obtain ⟨L1, hL1⟩ : ∃ L1, L1 = varV (n : Int) := ⟨_, rfl⟩
  obtain ⟨L2, hL2⟩ : ∃ L2, L2 = varV m := ⟨_, rfl⟩
  rw [← hL1] at HT1 HVy v1
  rw [← hL2] at HT2 HVy v2
  have hbs : b.size = 16 := by rw [← bl_len]; exact hbl
  clear hL1 hL2 hT hpl hbl hm0 hm1 HV
  have hx1 := HX1.out.lt
  -- the writer
  have HW1 := hide (TxtAt.new w1)
  have HX2 := hide (HX1.out.alloc (.cells #[.slice none 0 0] 73))
  have HB2 := hide (HB1.out.alloc HB1.out.size (.cells #[.slice none 0 0] 73))
  obtain ⟨W2, hW2⟩ : ∃ W2, W2 = w1.alloc (.cells #[.slice none 0 0] 73) := ⟨_, rfl⟩
  rw [← hW2] at HW1 HX2 HB2
  obtain ⟨g, hg⟩ : ∃ g, g = w1.heap.size := ⟨_, rfl⟩
  rw [← hg] at HW1
  have hgx : w.heap.size < g := by omega
  have hg2 : g < W2.heap.size := HW1.out.lt
  go_upto_region 5 with (fail)
  rw [← hW2, ← hg]
  clear hW2 hg x0 x1 x2 hx1 HX1 HB1
  obtain ⟨x0, x1, x2⟩ := HX2.out.three
  go_wp2_with fail
  refine (HT1.out _).mono ?_
  rintro e w3 ⟨rfl, hb3⟩
  have HA3 := hide ((show At2 g W2 [] _ W2 from ⟨HW1.out, Bent.refl _ _⟩).step hb3 (Nat.le_refl _))
  have HLS : Hid (∀ s ∈ [(⟨L1.toArray⟩ : ByteArray)], s.size ≤ 1000) := by
    intro s hs
    rw [List.mem_singleton.1 hs, size_of]
    omega
  have HWR := hide (twrite_any g w3.heap.size [] [(⟨L1.toArray⟩ : ByteArray)] 1 (w3.alloc (.cells #[.string ⟨L1.toArray⟩] 9)) (HA3.out.alloc _).wri (strs1' _ _) rfl (by decide) HLS.out (by simp))
  clear hb3 x0 x1 x2
  go_wp2_with fail
  refine HWR.out.mono ?_
  rintro e w4 ⟨rfl, hv4, hb4⟩
  have HV4 := hide hv4
  have HBG4 := hide (show Below g W2 w4 from ((HA3.out.alloc _).bent.trans hb4).below)
  have HC4 := hide (show catL [(⟨L1.toArray⟩ : ByteArray)] = L1 by simp [catL, bl_of])
  rw [List.nil_append, HC4.out] at HV4
  have HX4 := hide (HX2.out.below HBG4.out hgx)
  clear hv4 hb4 HA3 HWR HW1 HC4
  obtain ⟨x0, x1, x2⟩ := HX4.out.three
  go_wp2_with fail
  go_loopw [24] (fun i wr => ∃ (j : Nat) (Y : List UInt8), i = .int .i64 j ∧ j ≤ n ∧ Y.length ≤ 7 + 1000 * j ∧ Hid (Y = L1 ++ prtsL (P.take j)) ∧ Hid (∃ v, TxtAt wr g Y v) ∧ Hid (Below g W2 wr)) (fun i _ => n - (intOf i).toNat)
  case atStart => exact ⟨0, L1, rfl, by omega, by omega, by simp [Hid, prtsL], HV4, HBG4⟩
  case round =>
    obtain ⟨j, Y, rfl, hj, hyl, HY, HW, HB⟩ := hrel
    obtain ⟨vY, hvY⟩ := HW.out
    have hglr := hvY.lt
    have HBw := hide (show Below w.heap.size w wr from HB2.out.trans (HB.out.mono (Nat.le_of_lt hgx)))
    by_cases hlt : j < n
    · have hjP : j < P.length := by rw [← HN.out]; exact hlt
      obtain ⟨gp, off, rfl, hgp, hcell⟩ := HR.out (by omega)
      obtain ⟨f0, f1, hx⟩ := partsPart P[j]
      obtain ⟨c0, c1⟩ := cellsPart hx (hcell j hjP)
      have d0 := (HBw.out.cell (p := ⟨gp, off + j * 2, none⟩) hgp).trans c0
      have d1 := (HBw.out.cell (p := ⟨gp, off + j * 2 + 1, none⟩) hgp).trans c1
      have HJ := hide (show P[j]? = some (f0, f1) by rw [List.getElem?_eq_getElem hjP, hx])
      obtain ⟨t1, t2⟩ := HTL.out _ (List.mem_of_getElem? HJ.out)
      rw [bl_len] at t1 t2
      dsimp only at t1 t2
      have HPK := hide (fun W => sizedText_any f0 (by omega) W)
      have HPV := hide (fun W => sizedText_any f1 (by omega) W)
      have l1 := piece_len (s := f0) (by omega)
      have l2 := piece_len (s := f1) (by omega)
      have HST := hide (prtsL_step HJ.out)
      obtain ⟨PK, hPK⟩ : ∃ PK, PK = pieceL (bl f0) := ⟨_, rfl⟩
      obtain ⟨PV, hPV⟩ : ∃ PV, PV = pieceL (bl f1) := ⟨_, rfl⟩
      simp only [← hPK, ← hPV] at HPK HPV HST l1 l2
      have HSZ : Hid (∀ s ∈ [(⟨PK.toArray⟩ : ByteArray), ⟨PV.toArray⟩], s.size ≤ 1000) := by
        intro s hs
        simp only [List.mem_cons, List.not_mem_nil, or_false] at hs
        rcases hs with rfl | rfl <;> rw [size_of] <;> omega
      have HXN := hide (show Y ++ catL [(⟨PK.toArray⟩ : ByteArray), ⟨PV.toArray⟩] = L1 ++ prtsL (P.take (j + 1)) by
        rw [HST.out, HY.out]
        simp only [catL, List.flatMap_cons, List.flatMap_nil, bl_of, List.append_nil, List.append_assoc])
      have HYL := hide (show (Y ++ catL [(⟨PK.toArray⟩ : ByteArray), ⟨PV.toArray⟩]).length ≤ 7 + 1000 * (j + 1) by
        simp only [catL, List.flatMap_cons, List.flatMap_nil, bl_of, List.append_nil, List.length_append]
        omega)
      have HYM := hide (show Y.length ≤ 1000000 by omega)
      obtain ⟨W, hW⟩ : ∃ W, W = wr.alloc (.cells #[.string f0, .string f1] 55) := ⟨_, rfl⟩
      have hbx : BoxV 55 W wr.heap.size #[.string f0, .string f1] := by rw [hW]; exact BoxV.new _ wr _
      have HBW := hide (show Below g W2 W by rw [hW]; exact HB.out.alloc (Nat.le_of_lt hglr) _)
      have HA1 := hide (show At2 g W Y vY W from ⟨by rw [hW]; exact hvY.alloc _, Bent.refl _ _⟩)
      have hne : wr.heap.size ≠ g := by omega
      have HD := hide (fun (w' : World) (h : Bent g W w') => BoxV.two' (show BoxV 55 w' wr.heap.size #[.string f0, .string f1] from h.keep _ _ _ _ hne (by decide) hbx))
      clear hcell c0 c1 hx hjP hPK hPV t1 t2 hvY hbx l1 l2 HW
      go_upto_region 9 with (fail)
      rw [← hW]
      clear hW d0 d1 x0 x1 x2
      go_region_held3 (fun w' => w'.cell? ⟨wr.heap.size, 0, none⟩ = some (.string f0) ∧ w'.cell? ⟨wr.heap.size, 1, none⟩ = some (.string f1))
        (first
          | with_reducible exact HD.out _ HA1.out.bent
          | with_reducible exact HD.out _ HA1.out.drew.bent
          | with_reducible exact HD.out _ HA3.out.bent
          | with_reducible exact HD.out _ HA4.out.bent
          | with_reducible exact HD.out _ (HA4.out.alloc _).bent
          | with_reducible exact HD.out _ HA5.out)
        (first
          | (have hq4 := HA4.out
             clear hq4
             go_at_call 48
             refine (twrite_any g _ Y [⟨PK.toArray⟩, ⟨PV.toArray⟩] 2 _ (HA4.out.alloc _).wri (strs2 _ _ _) rfl (by decide) HSZ.out HYM.out).mono ?_
             rintro e w5 ⟨rfl, hv5, hb5⟩
             have HV5 := hide hv5
             have HA5 := hide ((HA4.out.alloc _).bent.trans hb5)
             clear hv5 hb5)
          | (have hq3 := HA3.out
             clear hq3
             go_at_call 50
             refine (HPV.out _).mono ?_
             rintro e w4 ⟨rfl, hb4⟩
             have HA4 := hide (HA3.out.step hb4 (Nat.le_refl _))
             clear hb4)
          | (go_at_call 50
             refine (HPK.out _).mono ?_
             rintro e w3 ⟨rfl, hb3⟩
             have HA3 := hide (HA1.out.step (below_of_drew' hb3) (Nat.le_refl _))
             clear hb3))
      all_goals go_wp2_with fail
      all_goals go_roundw
      all_goals first
        | (simp [intOf]; omega)
        | exact ⟨j + 1, _, by go_num, by omega, HYL.out, HXN, HV5, hide (HBW.out.trans HA5.out.below)⟩
    · obtain rfl : j = n := by omega
      have HXE2 := hide (show Y = L1 ++ prtsL P by rw [HY.out, List.take_of_length_le (by rw [← HN.out]; exact Nat.le_refl _)])
      have HXr := hide (HX2.out.below HB.out hgx)
      have HLS2 : Hid (∀ s ∈ [b, (⟨L2.toArray⟩ : ByteArray)], s.size ≤ 1000) := by
        intro s hs
        simp only [List.mem_cons, List.not_mem_nil, or_false] at hs
        rcases hs with rfl | rfl
        · omega
        · rw [size_of]; omega
      have HYM := hide (show Y.length ≤ 1000000 by omega)
      have HVe := hide (show V = Y ++ catL [b, (⟨L2.toArray⟩ : ByteArray)] by
        rw [HVy.out, HXE2.out]
        simp only [catL, List.flatMap_cons, List.flatMap_nil, bl_of, List.append_nil, List.append_assoc])
      have HA1 := hide (show At2 g wr Y vY wr from ⟨hvY, Bent.refl _ _⟩)
      have HD := hide (fun (w' : World) (h : Bent g wr w') => show w'.cell? ⟨w.heap.size, 1, none⟩ = some (.string b) ∧ w'.cell? ⟨w.heap.size, 2, none⟩ = some (.int .i64 m) from by
        have h3 := (HXr.out.below h.below hgx).three
        exact ⟨h3.2.1, h3.2.2⟩)
      clear hvY x0 x1 x2 HW
      go_wp2_with fail
      go_region_held3 (fun w' => w'.cell? ⟨w.heap.size, 1, none⟩ = some (.string b) ∧ w'.cell? ⟨w.heap.size, 2, none⟩ = some (.int .i64 m))
        (first
          | with_reducible exact HD.out _ HA1.out.bent
          | with_reducible exact HD.out _ HA1.out.drew.bent
          | with_reducible exact HD.out _ HA3.out.bent
          | with_reducible exact HD.out _ (HA3.out.alloc _).bent
          | with_reducible exact HD.out _ HA5.out)
        (first
          | (have hq3 := HA3.out
             clear hq3
             go_at_call 48
             refine (twrite_any g _ Y [b, ⟨L2.toArray⟩] 2 _ (HA3.out.alloc _).wri (strs2 _ _ _) rfl (by decide) HLS2.out HYM.out).mono ?_
             rintro e w5 ⟨rfl, hv5, hb5⟩
             have HV5 := hide hv5
             have HA5 := hide ((HA3.out.alloc _).bent.trans hb5)
             clear hv5 hb5)
          | (go_at_call 49
             refine (HT2.out _).mono ?_
             rintro e w3 ⟨rfl, hb3⟩
             have HA3 := hide (HA1.out.step (below_of_drew' hb3) (Nat.le_refl _))
             clear hb3))
      all_goals
        obtain ⟨v5, hv5⟩ := HV5.out
        have HTX := hide (ttext_any hv5)
        have HB5 := hide (HBw.out.trans (HA5.out.below.mono (Nat.le_of_lt hgx)))
        rw [← HVe.out] at HTX
        clear hv5
        go_wp2_with fail
        refine HTX.out.mono ?_
        rintro e w6 ⟨rfl, rfl⟩
        go_wp2_with fail
        go_ret
        exact ⟨rfl, HB5.out⟩
end Go.Proofs.YtdlkgpobjacgeaaDoor

/-
  The walk of laws.FnExactShowTable.
-/
namespace Go.Proofs.YtdlkgpobjacgeaaDoor
open Go.ChangeShapes Go.WideShapes Go.ChangeAt Go.RowKit

set_option maxHeartbeats 1000000 in
set_option maxRecDepth 20000 in
theorem law_ShowTable (a : Option Addr) (cap : Nat) (P : List PartE) (b : ByteArray) (x : Int) (w : World) (hr : elPart.Rd w w.heap.size a P) (hl : P.length ≤ maxLen) (hk : ∀ z ∈ P, camePart z) (hb : b.size ≤ maxLen) (_ : (Lit.int .i64 x).wf = true) (h0 : 0 < w.heap.size) (hT : Hid (CrcTabIn w)) :
    Calls Tryd.prog 5 #[.agg #[.slice a P.length cap, .string b, .int .i64 x]] w (TruePost w) := by
  have HR := hide hr
  have HB0 := hide ((Below.refl _ w).alloc (Nat.le_refl _) (.cells #[.slice a P.length cap, .string b, .int .i64 x] 38))
  have HX0 := hide (BoxV.new 38 w #[.slice a P.length cap, .string b, .int .i64 x])
  have HSZ := hide (fun W (h : Below w.heap.size w W) => szTable_any a cap P b x 1048576 W ((HR.out.below h (Nat.le_refl _)).mono h.size) hl (fun z hz => camePart_sz hk z hz) hb (by omega) (by omega))
  have HTO := hide (fun W (h : Below w.heap.size w W) (h2 : P.length ≤ 1048576) => toTable_any a cap P b x W ((HR.out.below h (Nat.le_refl _)).mono h.size) h2)
  have HSP := hide (fun W g (hf : tabFit P b) (h : elPart.Holds W g P) => sShowTable_any (some ⟨g, 0, none⟩) P.length P b x W h.rd hf.1.1 (fun z hz => (hf.1.2 z hz).2))
  have HIM := hide (fun W g (hf : tabFit P b) (h : elPart.Holds W g P) (h3 : Below w.heap.size w W) => iShowTable_any (some ⟨g, 0, none⟩) P.length P b x W h.rd hl (Nat.le_refl _) (fun z hz => (hf.1.2 z hz).2) (Nat.lt_of_lt_of_le h0 h3.size) (hide (hT.out.below h3 h0)))
  have HEQ := hide (fun W a1 a2 c1 c2 (h1 : elPart.Rd W W.heap.size a1 P) (h2 : elPart.Rd W W.heap.size a2 P) (hf : tabFit P b) => eqTable_same a1 a2 c1 c2 P b x W h1 h2 (by have := hf.1.1; omega))
  obtain ⟨V, hV⟩ : ∃ V, V = showT (P, b, x) := ⟨_, rfl⟩
  rw [← hV] at HSP HIM
  clear hV hr hk hb hT h0
  go_enter Tryd.func5, Tryd.ntmps5
  go_wp2_with fail
  refine (HSZ.out _ HB0.out).mono ?_
  rintro e w1 ⟨y, rfl, hy0, hy1, hP, hb1⟩
  have HP := hide hP
  have HB1 := hide (HB0.out.trans (hb1.mono HB0.out.size))
  have HX1 := hide (HX0.out.below hb1 HX0.out.lt)
  clear hP hb1 HSZ HB0 HX0
  by_cases hy : y < 0
  · go_wp2_with fail
    go_ret
    exact ⟨rfl, HB1.out⟩
  have HZ := hide (HP.out (by omega))
  obtain ⟨c0, c1, c2⟩ := HX1.out.three
  clear HP
  go_wp2_with fail
  refine (HTO.out _ HB1.out HZ.out.1.1).mono ?_
  rintro e w2 ⟨g2, rfl, hg2, hz2, hh2, hb2⟩
  have HB2 := hide (HB1.out.trans (hb2.mono HB1.out.size))
  have HX2 := hide (HX1.out.below hb2 HX1.out.lt)
  have HH2 := hide hh2
  clear c0 c1 c2 hb2 hh2 HB1 HX1
  go_wp2_with fail
  refine (HSP.out _ _ HZ.out HH2.out).mono ?_
  rintro e w3 ⟨rfl, hb3⟩
  have HB3 := hide (HB2.out.trans (hb3.mono HB2.out.size))
  have HX3 := hide (HX2.out.below hb3 HX2.out.lt)
  obtain ⟨c0, c1, c2⟩ := HX3.out.three
  clear hb3 HB2 HX2 HH2 HSP
  go_wp2_with fail
  refine (HTO.out _ HB3.out HZ.out.1.1).mono ?_
  rintro e w4 ⟨g4, rfl, hg4, hz4, hh4, hb4⟩
  have HB4 := hide (HB3.out.trans (hb4.mono HB3.out.size))
  have HX4 := hide (HX3.out.below hb4 HX3.out.lt)
  have HH4 := hide hh4
  clear c0 c1 c2 hb4 hh4 HB3 HX3
  obtain ⟨W, hW⟩ : ∃ W, W = w4.alloc (.cells #[.slice (some ⟨g4, 0, none⟩) P.length P.length, .string b, .int .i64 x] 26) := ⟨_, rfl⟩
  have HXW := hide (show BoxV 38 W w.heap.size _ from hW ▸ HX4.out.alloc _)
  have HBW := hide (show Below w.heap.size w W from hW ▸ HB4.out.alloc HB4.out.size _)
  have HYW := hide (show BoxV 26 W w4.heap.size _ from hW ▸ BoxV.new 26 w4 #[.slice (some ⟨g4, 0, none⟩) P.length P.length, .string b, .int .i64 x])
  have HHW := hide (show elPart.Holds W g4 P from hW ▸ HH4.out.below ((Below.refl w4.heap.size w4).alloc (Nat.le_refl _) _) hz4)
  have hzW : w4.heap.size < W.heap.size := HYW.out.lt
  clear HB4 HX4 HH4
  go_wp2_with fail
  rw [← hW]
  clear hW
  refine (HIM.out _ _ HZ.out HHW.out HBW.out).mono ?_
  rintro e w5 ⟨rfl, hb5⟩
  have HB5 := hide (HBW.out.trans (hb5.mono HBW.out.size))
  have HX5 := hide (HXW.out.below hb5 HXW.out.lt)
  have HY5 := hide (HYW.out.below hb5 HYW.out.lt)
  have HH5 := hide (HHW.out.below hb5 (by omega))
  have hz5 := hb5.size
  obtain ⟨c0, c1, c2⟩ := HX5.out.three
  obtain ⟨d0, d1, d2⟩ := HY5.out.three
  clear hb5 HBW HXW HYW HHW HIM
  go_wp2_with fail
  go_region_held3 (fun w' => (w'.cell? ⟨w.heap.size, 0, none⟩ = some (.slice a P.length cap) ∧ w'.cell? ⟨w.heap.size, 1, none⟩ = some (.string b) ∧ w'.cell? ⟨w.heap.size, 2, none⟩ = some (.int .i64 x)) ∧
      (w'.cell? ⟨w4.heap.size, 0, none⟩ = some (.slice (some ⟨g4, 0, none⟩) P.length P.length) ∧ w'.cell? ⟨w4.heap.size, 1, none⟩ = some (.string b) ∧ w'.cell? ⟨w4.heap.size, 2, none⟩ = some (.int .i64 x)))
    (first
      | with_reducible exact ⟨HX5.out.three, HY5.out.three⟩
      | with_reducible exact ⟨HX5.out.drew.three, HY5.out.drew.three⟩
      | with_reducible exact ⟨HX6.out.three, HY6.out.three⟩
      | with_reducible exact ⟨HX7.out.three, HY7.out.three⟩)
    (first
      | (go_at_call 18
         refine (HTO.out _ HB5.out.drew HZ.out.1.1).mono ?_
         rintro e w6 ⟨g6, rfl, hg6, hz6, hh6, hb6⟩
         have hb6' := below_drew' hb6
         have HB6 := hide (HB5.out.trans (hb6'.mono HB5.out.size))
         have HX6 := hide (HX5.out.below hb6' HX5.out.lt)
         have HY6 := hide (HY5.out.below hb6' HY5.out.lt)
         have HH6 := hide (HH5.out.below hb6' (by omega))
         have HG6 := hide hh6
         clear hb6 hb6' hh6)
      | (go_at_call 11
         refine (HEQ.out _ _ _ _ _ HH6.out.rd HG6.out.rd HZ.out).mono ?_
         rintro e w7 ⟨rfl, hb7⟩
         have HB7 := hide (HB6.out.trans (hb7.mono HB6.out.size))
         have HX7 := hide (HX6.out.below hb7 HX6.out.lt)
         have HY7 := hide (HY6.out.below hb7 HY6.out.lt)
         clear hb7))
  go_wp2_with fail
  go_ret
  exact ⟨rfl, HB7.out⟩
end Go.Proofs.YtdlkgpobjacgeaaDoor
