/-
  Texts of this proof, put together: TabL, TabS, TabT, LawReadTable.
-/
import Derived.Test.YtdlkgpobjacgeaaDoorPackBR
import Derived.Test.YtdlkgpobjacgeaaDoorPackBQ
import Derived.Test.YtdlkgpobjacgeaaDoorPackAN
import Derived.Deep.RegionHeld3
import Derived.Test.YtdlkgpobjacgeaaDoorPackBC
import Derived.Test.YtdlkgpobjacgeaaDoorPackBP

/-
  Contract of impl.TableEnts, where the table of the program holds its sixteen words.
-/
namespace Go.Proofs.YtdlkgpobjacgeaaDoor
open Go.ChangeShapes Go.WideShapes Go.ChangeAt Go.RowKit

set_option maxHeartbeats 2000000 in
set_option maxRecDepth 40000 in
theorem iTableEnts_any (a : Option Addr) (cap : Nat) (P : List PartE) (b : ByteArray) (m : Int) (w : World) (hr : elPart.Rd w w.heap.size a P) (hl : P.length ≤ maxLen) (hcap : P.length ≤ cap) (hk : ∀ x ∈ P, x.2.size ≤ 1048576) (hw0 : 0 < w.heap.size) (hT : Hid (CrcTabIn w)) :
    Calls Tryd.prog 19 #[.agg #[.slice a P.length cap, .string b, .int .i64 m]] w (TEPost w (P, b, m)) := by
  have HR := hide hr
  have HTC := hide (tab_claim (P, b, m))
  have HCL := hide (fun W h => tabClaimed_any a cap P b m W h hl hcap hk)
  unfold EntsP1 at HCL
  have HEL := hide (show (entsP (P.take 10)).length ≤ 160 by
    have h := entsP_len (P.take 10)
    rw [List.length_take] at h
    omega)
  obtain ⟨X, hX⟩ : ∃ X, X = entsP (P.take 10) := ⟨_, rfl⟩
  simp only [← hX] at HTC HCL HEL
  obtain ⟨n, hn⟩ : ∃ n, n = P.length := ⟨_, rfl⟩
  have HN := hide hn
  have HLL := hide hl
  rw [← hn] at hl hcap HCL ⊢
  clear hn hr hk hX
  have HX0 := hide (BoxV.new 26 w #[.slice a n cap, .string b, .int .i64 m])
  have HB0 := hide ((Below.refl w.heap.size w).alloc (Nat.le_refl _) (.cells #[.slice a n cap, .string b, .int .i64 m] 26))
  go_enter Tryd.func19, Tryd.ntmps19
  go_wp2_with fail
  refine (HCL.out _ ((HR.out.below HB0.out (Nat.le_refl _)).mono HB0.out.size)).mono ?_
  rintro e w1 ⟨v, rfl, ho, hb1⟩
  obtain ⟨a1, c1, rfl, hrd, hc1, _⟩ := ho.form
  have HB1 := hide (HB0.out.trans (hb1.mono HB0.out.size))
  have HX1 := hide (HX0.out.below hb1 HX0.out.lt)
  have HO1 := hide (ho.mono HB0.out.size)
  have hs1 := HB1.out.size
  have HTO := hide (iTableOf_any a1 c1 X w1 hrd (by have := HEL.out; unfold maxLen; omega) hc1 (Nat.lt_of_lt_of_le hw0 hs1) (hide (hT.out.below HB1.out hw0)))
  unfold TabPost at HTO
  obtain ⟨⟨Q, q1, q2⟩, hQ⟩ : ∃ t, t = tblV X := ⟨_, rfl⟩
  have HQL := hide (show Q.length ≤ 10 by have h := tblV_len X; rw [← hQ] at h; exact h)
  have HQ := hide hQ
  rw [← hQ] at HTO
  dsimp only at HTO
  obtain ⟨k, hkX⟩ : ∃ k, k = X.length := ⟨_, rfl⟩
  have HKX := hide hkX
  rw [← hkX] at HTO HO1 ⊢
  clear hb1 ho hrd hc1 HX0 HB0 HCL hQ hkX
  by_cases hok : tblOk X
  · rw [decide_eq_true hok] at HTO
    go_wp2_with fail
    refine HTO.out.mono ?_
    rintro e w2 ⟨v, rfl, ho, hb2⟩
    obtain ⟨a2, c2, rfl, hrd, _⟩ := ho.form
    have HB2 := hide (HB1.out.trans (hb2.mono hs1))
    have HO2 := hide (HO1.out.below hb2 (Nat.le_refl _))
    have HX2 := hide (HX1.out.below hb2 HX1.out.lt)
    have hs2 := HB2.out.size
    have HX3 := hide (HX2.out.alloc (.cells #[.slice a2 Q.length c2, .string q1, .int .i64 q2] 26))
    have HY3 := hide (BoxV.new 26 w2 #[.slice a2 Q.length c2, .string q1, .int .i64 q2])
    have HB3 := hide (HB2.out.alloc hs2 (.cells #[.slice a2 Q.length c2, .string q1, .int .i64 q2] 26))
    have HO3 := hide (HO2.out.alloc (.cells #[.slice a2 Q.length c2, .string q1, .int .i64 q2] 26))
    have hs3 := HB3.out.size
    have HSM := hide (equal_any a2 a c2 cap Q P q1 b q2 m (w2.alloc (.cells #[.slice a2 Q.length c2, .string q1, .int .i64 q2] 26)) ((hrd.below ((Below.refl w2.heap.size w2).alloc (Nat.le_refl _) _) (Nat.le_refl _)).mono (by simp)) ((HR.out.below HB3.out (Nat.le_refl _)).mono hs3) (by have := HQL.out; unfold maxLen; omega))
    rw [← HN.out] at HSM
    obtain ⟨z0, z1, z2⟩ := HX3.out.three
    obtain ⟨y0, y1, y2⟩ := HY3.out.three
    clear hb2 ho hrd HO1 HX1 HB1 HX2 HB2 HO2 HTO
    by_cases heq : (Q, q1, q2) = (P, b, m)
    · have HYS := hide (HTC.out.1 ⟨hok, by rw [← tblV_yes hok, ← HQ.out, heq]⟩)
      rw [decide_eq_true heq] at HSM
      clear hok heq
      go_wp2_with fail
      refine HSM.out.mono ?_
      rintro e w4 ⟨rfl, hb4⟩
      have HB4 := hide (HB3.out.trans (hb4.mono hs3))
      have HO4 := hide (HO3.out.below hb4 (Nat.le_refl _))
      clear hb4
      go_wp2_with fail
      go_ret2
      exact ⟨_, by rw [HYS.out.2]; rfl, by rw [HYS.out.1]; exact HO4.out.mono (Nat.le_refl _), HB4.out⟩
    · have HNS := hide (HTC.out.2 fun h => heq (by rw [HQ.out, tblV_yes hok]; exact h.2))
      rw [decide_eq_false heq] at HSM
      clear hok heq
      go_wp2_with fail
      refine HSM.out.mono ?_
      rintro e w4 ⟨rfl, hb4⟩
      have HB4 := hide (HB3.out.trans (hb4.mono hs3))
      clear hb4
      go_wp2_with fail
      go_ret2
      exact TEPost.no HNS.out _ (El.Owns.nil _ _) HB4.out
  · have HNS := hide (HTC.out.2 fun h => hok h.1)
    rw [decide_eq_false hok] at HTO
    clear hok
    go_wp2_with fail
    refine HTO.out.mono ?_
    rintro e w2 ⟨v, rfl, ho, hb2⟩
    obtain ⟨a2, c2, rfl, hrd, _⟩ := ho.form
    have HB2 := hide (HB1.out.trans (hb2.mono hs1))
    have hs2 := HB2.out.size
    have HB3 := hide (HB2.out.alloc hs2 (.cells #[.slice a2 Q.length c2, .string q1, .int .i64 q2] 26))
    clear hb2 ho hrd HO1 HX1 HB1 HB2 HTO
    go_wp2_with fail
    go_ret2
    exact TEPost.no HNS.out _ (El.Owns.nil _ _) HB3.out
end Go.Proofs.YtdlkgpobjacgeaaDoor

/-
  Contract of impl.ShowTable, where the table of the program holds its sixteen words.
-/
namespace Go.Proofs.YtdlkgpobjacgeaaDoor
open Go.ChangeShapes Go.WideShapes Go.ChangeAt Go.RowKit

/-- a writer behind some calls, beside what else lay there -/
structure At2 (g : Nat) (W : World) (X : List UInt8) (v : Value) (w' : World) : Prop where
  wri : TxtAt w' g X v
  bent : Bent g W w'
theorem At2.step {g B : Nat} {W w' w2 : World} {X : List UInt8} {v : Value} (h : At2 g W X v w') (hb : Below B w' w2) (hB : w'.heap.size ≤ B) : At2 g W X v w2 :=
  ⟨h.wri.kept hb hB, h.bent.trans (Bent.of_below hb hB (Nat.le_trans (Nat.le_of_lt h.wri.lt) hB))⟩
theorem At2.drew {g : Nat} {W w' : World} {X : List UInt8} {v : Value} (h : At2 g W X v w') : At2 g W X v w'.drew :=
  ⟨h.wri.drew, ⟨h.bent.below.drew, h.bent.keep⟩⟩
theorem At2.alloc {g : Nat} {W w' : World} {X : List UInt8} {v : Value} (h : At2 g W X v w') (o : Obj) : At2 g W X v (w'.alloc o) :=
  h.step ((Below.refl w'.heap.size w').alloc (Nat.le_refl _) o) (Nat.le_refl _)
theorem strs2 (w : World) (a b : ByteArray) : elStr.Holds (w.alloc (.cells #[.string a, .string b] 9)) w.heap.size [a, b] := El.Holds.new (e := elStr) w [a, b]
theorem strs1' (w : World) (a : ByteArray) : elStr.Holds (w.alloc (.cells #[.string a] 9)) w.heap.size [a] := El.Holds.new (e := elStr) w [a]

set_option maxHeartbeats 4000000 in
set_option maxRecDepth 40000 in
theorem iShowTable_any (a : Option Addr) (cap : Nat) (P : List PartE) (b : ByteArray) (m : Int) (w : World) (hr : elPart.Rd w w.heap.size a P) (hl : P.length ≤ maxLen) (hcap : P.length ≤ cap) (hk : ∀ x ∈ P, x.2.size ≤ 1048576) (hw0 : 0 < w.heap.size) (hTb : Hid (CrcTabIn w)) :
    Calls Tryd.prog 22 #[.agg #[.slice a P.length cap, .string b, .int .i64 m]] w (StrPost w (showT (P, b, m))) := by
  have HR := hide hr
  have HTE := hide (fun W h hz ht => iTableEnts_any a cap P b m W h hl hcap hk hz ht)
  unfold TEPost at HTE
  obtain ⟨V, hV⟩ : ∃ V, V = showT (P, b, m) := ⟨_, rfl⟩
  have HV := hide hV
  rw [← hV]
  obtain ⟨n, hn⟩ : ∃ n, n = P.length := ⟨_, rfl⟩
  have HN := hide hn
  rw [← hn] at hl HTE ⊢
  obtain ⟨tq, htq⟩ : ∃ tq, tq = tabQ (P, b, m) := ⟨_, rfl⟩
  have HTQ := hide htq.symm
  rw [← htq] at HTE
  clear hn hr hk hV htq hl hcap
  have HX0 := hide (BoxV.new 26 w #[.slice a n cap, .string b, .int .i64 m])
  have HB0 := hide ((Below.refl w.heap.size w).alloc (Nat.le_refl _) (.cells #[.slice a n cap, .string b, .int .i64 m] 26))
  have HEQ := hide (HTE.out _ ((HR.out.below HB0.out (Nat.le_refl _)).mono HB0.out.size) (Nat.lt_of_lt_of_le hw0 HB0.out.size) (hide (hTb.out.below HB0.out hw0)))
  clear HTE
  go_enter Tryd.func22, Tryd.ntmps22
  go_wp2_with fail
  refine HEQ.out.mono ?_
  rintro e w1 ⟨v, rfl, ho, hb1⟩
  obtain ⟨a1, c1, rfl, _⟩ := ho.form
  have HX1 := hide (HX0.out.below hb1 HX0.out.lt)
  have HB1 := hide (HB0.out.trans (hb1.mono HB0.out.size))
  clear ho hb1 HX0 HB0 HEQ
  obtain ⟨x0, x1, x2⟩ := HX1.out.three
  cases tq with
  | false =>
    have HVn := hide (HV.out.trans (showT_no (tabQ_not HTQ.out)))
    go_wp2_with fail
    go_ret
    exact ⟨by rw [HVn.out]; rfl, HB1.out⟩
  | true =>
  have hT := tabQ_is HTQ.out
  obtain ⟨hbl, hm0, hm1⟩ := tbl_bds hT
  have hpl := parts_len hT
  have HTL := hide (text_len hT)
  dsimp only at hbl hm0 hm1 hpl HTL
  rw [← HN.out] at hpl
  have hn1 : n ≤ 10 := hpl.2
  have HT1 := hide (fun W => iVar_any (n : Int) W)
  have HT2 := hide (fun W => iVar_any m W)
  have v1 := varV_len' (n : Int)
  have v2 := varV_len' m
  have HVy := hide (show V = varV (n : Int) ++ prtsL P ++ (bl b ++ varV m) by
    rw [HV.out, showT_yes hT]
    dsimp only
    rw [← HN.out, varV, if_pos (by omega), varV, if_pos (by omega), Int.toNat_natCast]
    simp only [List.append_assoc])
  obtain ⟨L1, hL1⟩ : ∃ L1, L1 = varV (n : Int) := ⟨_, rfl⟩
  obtain ⟨L2, hL2⟩ : ∃ L2, L2 = varV m := ⟨_, rfl⟩
  rw [← hL1] at HT1 HVy v1
  rw [← hL2] at HT2 HVy v2
  have hbs : b.size = 16 := by rw [← bl_len]; exact hbl
  clear hL1 hL2 hT hpl hbl hm0 hm1 HV
  have hx1 := HX1.out.lt
  -- the writer
  have HW1 := hide (TxtAt.new w1)
  have HX2 := hide (HX1.out.alloc (.cells #[.slice none 0 0] 73))
  have HB2 := hide (HB1.out.alloc HB1.out.size (.cells #[.slice none 0 0] 73))
  obtain ⟨W2, hW2⟩ : ∃ W2, W2 = w1.alloc (.cells #[.slice none 0 0] 73) := ⟨_, rfl⟩
  rw [← hW2] at HW1 HX2 HB2
  obtain ⟨g, hg⟩ : ∃ g, g = w1.heap.size := ⟨_, rfl⟩
  rw [← hg] at HW1
  have hgx : w.heap.size < g := by omega
  have hg2 : g < W2.heap.size := HW1.out.lt
  go_upto_region 5 with (fail)
  rw [← hW2, ← hg]
  clear hW2 hg x0 x1 x2 hx1 HX1 HB1
  obtain ⟨x0, x1, x2⟩ := HX2.out.three
  go_wp2_with fail
  refine (HT1.out _).mono ?_
  rintro e w3 ⟨rfl, hb3⟩
  have HA3 := hide ((show At2 g W2 [] _ W2 from ⟨HW1.out, Bent.refl _ _⟩).step hb3 (Nat.le_refl _))
  have HLS : Hid (∀ s ∈ [(⟨L1.toArray⟩ : ByteArray)], s.size ≤ 1000) := by
    intro s hs
    rw [List.mem_singleton.1 hs, size_of]
    omega
  have HWR := hide (twrite_any g w3.heap.size [] [(⟨L1.toArray⟩ : ByteArray)] 1 (w3.alloc (.cells #[.string ⟨L1.toArray⟩] 9)) (HA3.out.alloc _).wri (strs1' _ _) rfl (by decide) HLS.out (by simp))
  clear hb3 x0 x1 x2
  go_wp2_with fail
  refine HWR.out.mono ?_
  rintro e w4 ⟨rfl, hv4, hb4⟩
  have HV4 := hide hv4
  have HBG4 := hide (show Below g W2 w4 from ((HA3.out.alloc _).bent.trans hb4).below)
  have HC4 := hide (show catL [(⟨L1.toArray⟩ : ByteArray)] = L1 by simp [catL, bl_of])
  rw [List.nil_append, HC4.out] at HV4
  have HX4 := hide (HX2.out.below HBG4.out hgx)
  clear hv4 hb4 HA3 HWR HW1 HC4
  obtain ⟨x0, x1, x2⟩ := HX4.out.three
  go_wp2_with fail
  go_loopw [24] (fun i wr => ∃ (j : Nat) (Y : List UInt8), i = .int .i64 j ∧ j ≤ n ∧ Y.length ≤ 7 + 1000 * j ∧ Hid (Y = L1 ++ prtsL (P.take j)) ∧ Hid (∃ v, TxtAt wr g Y v) ∧ Hid (Below g W2 wr)) (fun i _ => n - (intOf i).toNat)
  case atStart => exact ⟨0, L1, rfl, by omega, by omega, by simp [Hid, prtsL], HV4, HBG4⟩
  case round =>
    obtain ⟨j, Y, rfl, hj, hyl, HY, HW, HB⟩ := hrel
    obtain ⟨vY, hvY⟩ := HW.out
    have hglr := hvY.lt
    have HBw := hide (show Below w.heap.size w wr from HB2.out.trans (HB.out.mono (Nat.le_of_lt hgx)))
    by_cases hlt : j < n
    · have hjP : j < P.length := by rw [← HN.out]; exact hlt
      obtain ⟨gp, off, rfl, hgp, hcell⟩ := HR.out (by omega)
      obtain ⟨f0, f1, hx⟩ := partsPart P[j]
      obtain ⟨c0, c1⟩ := cellsPart hx (hcell j hjP)
      have d0 := (HBw.out.cell (p := ⟨gp, off + j * 2, none⟩) hgp).trans c0
      have d1 := (HBw.out.cell (p := ⟨gp, off + j * 2 + 1, none⟩) hgp).trans c1
      have HJ := hide (show P[j]? = some (f0, f1) by rw [List.getElem?_eq_getElem hjP, hx])
      obtain ⟨t1, t2⟩ := HTL.out _ (List.mem_of_getElem? HJ.out)
      rw [bl_len] at t1 t2
      dsimp only at t1 t2
      have HPK := hide (fun W => sizedText_any f0 (by omega) W)
      have HPV := hide (fun W => sizedText_any f1 (by omega) W)
      have l1 := piece_len (s := f0) (by omega)
      have l2 := piece_len (s := f1) (by omega)
      have HST := hide (prtsL_step HJ.out)
      obtain ⟨PK, hPK⟩ : ∃ PK, PK = pieceL (bl f0) := ⟨_, rfl⟩
      obtain ⟨PV, hPV⟩ : ∃ PV, PV = pieceL (bl f1) := ⟨_, rfl⟩
      simp only [← hPK, ← hPV] at HPK HPV HST l1 l2
      have HSZ : Hid (∀ s ∈ [(⟨PK.toArray⟩ : ByteArray), ⟨PV.toArray⟩], s.size ≤ 1000) := by
        intro s hs
        simp only [List.mem_cons, List.not_mem_nil, or_false] at hs
        rcases hs with rfl | rfl <;> rw [size_of] <;> omega
      have HXN := hide (show Y ++ catL [(⟨PK.toArray⟩ : ByteArray), ⟨PV.toArray⟩] = L1 ++ prtsL (P.take (j + 1)) by
        rw [HST.out, HY.out]
        simp only [catL, List.flatMap_cons, List.flatMap_nil, bl_of, List.append_nil, List.append_assoc])
      have HYL := hide (show (Y ++ catL [(⟨PK.toArray⟩ : ByteArray), ⟨PV.toArray⟩]).length ≤ 7 + 1000 * (j + 1) by
        simp only [catL, List.flatMap_cons, List.flatMap_nil, bl_of, List.append_nil, List.length_append]
        omega)
      have HYM := hide (show Y.length ≤ 1000000 by omega)
      obtain ⟨W, hW⟩ : ∃ W, W = wr.alloc (.cells #[.string f0, .string f1] 55) := ⟨_, rfl⟩
      have hbx : BoxV 55 W wr.heap.size #[.string f0, .string f1] := by rw [hW]; exact BoxV.new _ wr _
      have HBW := hide (show Below g W2 W by rw [hW]; exact HB.out.alloc (Nat.le_of_lt hglr) _)
      have HA1 := hide (show At2 g W Y vY W from ⟨by rw [hW]; exact hvY.alloc _, Bent.refl _ _⟩)
      have hne : wr.heap.size ≠ g := by omega
      have HD := hide (fun (w' : World) (h : Bent g W w') => BoxV.two' (show BoxV 55 w' wr.heap.size #[.string f0, .string f1] from h.keep _ _ _ _ hne (by decide) hbx))
      clear hcell c0 c1 hx hjP hPK hPV t1 t2 hvY hbx l1 l2 HW
      go_upto_region 9 with (fail)
      rw [← hW]
      clear hW d0 d1 x0 x1 x2
      go_region_held3 (fun w' => w'.cell? ⟨wr.heap.size, 0, none⟩ = some (.string f0) ∧ w'.cell? ⟨wr.heap.size, 1, none⟩ = some (.string f1))
        (first
          | with_reducible exact HD.out _ HA1.out.bent
          | with_reducible exact HD.out _ HA1.out.drew.bent
          | with_reducible exact HD.out _ HA3.out.bent
          | with_reducible exact HD.out _ HA4.out.bent
          | with_reducible exact HD.out _ (HA4.out.alloc _).bent
          | with_reducible exact HD.out _ HA5.out)
        (first
          | (have hq4 := HA4.out
             clear hq4
             go_at_call 48
             refine (twrite_any g _ Y [⟨PK.toArray⟩, ⟨PV.toArray⟩] 2 _ (HA4.out.alloc _).wri (strs2 _ _ _) rfl (by decide) HSZ.out HYM.out).mono ?_
             rintro e w5 ⟨rfl, hv5, hb5⟩
             have HV5 := hide hv5
             have HA5 := hide ((HA4.out.alloc _).bent.trans hb5)
             clear hv5 hb5)
          | (have hq3 := HA3.out
             clear hq3
             go_at_call 50
             refine (HPV.out _).mono ?_
             rintro e w4 ⟨rfl, hb4⟩
             have HA4 := hide (HA3.out.step hb4 (Nat.le_refl _))
             clear hb4)
          | (go_at_call 50
             refine (HPK.out _).mono ?_
             rintro e w3 ⟨rfl, hb3⟩
             have HA3 := hide (HA1.out.step (below_of_drew' hb3) (Nat.le_refl _))
             clear hb3))
      all_goals go_wp2_with fail
      all_goals go_roundw
      all_goals first
        | (simp [intOf]; omega)
        | exact ⟨j + 1, _, by go_num, by omega, HYL.out, HXN, HV5, hide (HBW.out.trans HA5.out.below)⟩
    · obtain rfl : j = n := by omega
      have HXE2 := hide (show Y = L1 ++ prtsL P by rw [HY.out, List.take_of_length_le (by rw [← HN.out]; exact Nat.le_refl _)])
      have HXr := hide (HX2.out.below HB.out hgx)
      have HLS2 : Hid (∀ s ∈ [b, (⟨L2.toArray⟩ : ByteArray)], s.size ≤ 1000) := by
        intro s hs
        simp only [List.mem_cons, List.not_mem_nil, or_false] at hs
        rcases hs with rfl | rfl
        · omega
        · rw [size_of]; omega
      have HYM := hide (show Y.length ≤ 1000000 by omega)
      have HVe := hide (show V = Y ++ catL [b, (⟨L2.toArray⟩ : ByteArray)] by
        rw [HVy.out, HXE2.out]
        simp only [catL, List.flatMap_cons, List.flatMap_nil, bl_of, List.append_nil, List.append_assoc])
      have HA1 := hide (show At2 g wr Y vY wr from ⟨hvY, Bent.refl _ _⟩)
      have HD := hide (fun (w' : World) (h : Bent g wr w') => show w'.cell? ⟨w.heap.size, 1, none⟩ = some (.string b) ∧ w'.cell? ⟨w.heap.size, 2, none⟩ = some (.int .i64 m) from by
        have h3 := (HXr.out.below h.below hgx).three
        exact ⟨h3.2.1, h3.2.2⟩)
      clear hvY x0 x1 x2 HW
      go_wp2_with fail
      go_region_held3 (fun w' => w'.cell? ⟨w.heap.size, 1, none⟩ = some (.string b) ∧ w'.cell? ⟨w.heap.size, 2, none⟩ = some (.int .i64 m))
        (first
          | with_reducible exact HD.out _ HA1.out.bent
          | with_reducible exact HD.out _ HA1.out.drew.bent
          | with_reducible exact HD.out _ HA3.out.bent
          | with_reducible exact HD.out _ (HA3.out.alloc _).bent
          | with_reducible exact HD.out _ HA5.out)
        (first
          | (have hq3 := HA3.out
             clear hq3
             go_at_call 48
             refine (twrite_any g _ Y [b, ⟨L2.toArray⟩] 2 _ (HA3.out.alloc _).wri (strs2 _ _ _) rfl (by decide) HLS2.out HYM.out).mono ?_
             rintro e w5 ⟨rfl, hv5, hb5⟩
             have HV5 := hide hv5
             have HA5 := hide ((HA3.out.alloc _).bent.trans hb5)
             clear hv5 hb5)
          | (go_at_call 49
             refine (HT2.out _).mono ?_
             rintro e w3 ⟨rfl, hb3⟩
             have HA3 := hide (HA1.out.step (below_of_drew' hb3) (Nat.le_refl _))
             clear hb3))
      all_goals
        obtain ⟨v5, hv5⟩ := HV5.out
        have HTX := hide (ttext_any hv5)
        have HB5 := hide (HBw.out.trans (HA5.out.below.mono (Nat.le_of_lt hgx)))
        rw [← HVe.out] at HTX
        clear hv5
        go_wp2_with fail
        refine HTX.out.mono ?_
        rintro e w6 ⟨rfl, rfl⟩
        go_wp2_with fail
        go_ret
        exact ⟨rfl, HB5.out⟩
end Go.Proofs.YtdlkgpobjacgeaaDoor

/-
  Contracts of impl.claimedTable and, where the table of the program holds its sixteen words, of impl.ReadTable.
-/
namespace Go.Proofs.YtdlkgpobjacgeaaDoor
open Go.ChangeShapes Go.WideShapes Go.ChangeAt Go.RowKit

/-- a result that is a table in a block of its own -/
theorem res_tab1 {fn : Func} {p : Tmp} (h : fn.results = #[.cell p 26]) (tmps : Array Value) (w : World) (g : Nat) (ht : tmps.getD p undef = .pointer (some ⟨g, 0, none⟩)) {v0 v1 v2 : Value} (hx : BoxV 26 w g #[v0, v1, v2]) :
    (results fn tmps).run Tryd.prog w = .ok (.agg #[v0, v1, v2]) w := by
  obtain ⟨c0, c1, c2⟩ := hx.three
  rw [Array.getD_eq_getD_getElem?] at ht
  simp only [results, h]
  simp [ht, go_sem, c0, c1, c2]
def ClaimPost1 (w : World) (t : Tbl) (e : Ending) (w' : World) : Prop :=
  ∃ v, e = .returned (.agg #[v, .string t.2.1, .int .i64 t.2.2]) ∧ elPart.Owns w.heap.size w' v t.1 ∧ Below w.heap.size w w'

set_option maxHeartbeats 4000000 in
set_option maxRecDepth 40000 in
theorem claimedTable_any (s : ByteArray) (hm : s.size ≤ 1048576) (w : World) :
    Calls Tryd.prog 54 #[.string s] w (ClaimPost1 w (claimQ (bl s))) := by
  have HCV := hide (fun W => cutVar_any s hm W)
  unfold CutVPost at HCV
  have HCQ := hide (show claimQ (bl s) = (cutP (min (cutVn (bl s)) 10) (cutVr (bl s)), ⟨((cutPr (min (cutVn (bl s)) 10) (cutVr (bl s))).take 16).toArray⟩, ((cutVn ((cutPr (min (cutVn (bl s)) 10) (cutVr (bl s))).drop 16) : Nat) : Int)) from rfl)
  obtain ⟨T, hT⟩ : ∃ T, T = claimQ (bl s) := ⟨_, rfl⟩
  have hRl : (cutVr (bl s)).length ≤ 1048576 := by
    have h1 := cutVr_le (bl s)
    rw [bl_len] at h1
    omega
  obtain ⟨n, hn⟩ : ∃ n, n = cutVn (bl s) := ⟨_, rfl⟩
  obtain ⟨R, hR⟩ : ∃ R, R = cutVr (bl s) := ⟨_, rfl⟩
  obtain ⟨q, hq⟩ : ∃ q, q = min n 10 := ⟨_, rfl⟩
  rw [← hn, ← hR] at HCV
  rw [← hn, ← hR, ← hT, ← hq] at HCQ
  rw [← hR] at hRl
  rw [← hT]
  have hmin : (if (10 : Int) < (n : Int) then (10 : Int) else (n : Int)) = (q : Int) := by split <;> omega
  have hq10 : q ≤ 10 := by omega
  clear hT hn hR hq
  have HX0 := hide (BoxV.new 26 w #[.slice none 0 0, .string ⟨#[]⟩, .int .i64 0])
  have HR0 := hide (HX0.out.alloc (.cells #[.slice none 0 0, .string ⟨#[]⟩, .int .i64 0] 26))
  have HT0 := hide (show BoxV 26 ((w.alloc (.cells #[.slice none 0 0, .string ⟨#[]⟩, .int .i64 0] 26)).alloc (.cells #[.slice none 0 0, .string ⟨#[]⟩, .int .i64 0] 26)) (w.heap.size + 1) #[.slice none 0 0, .string ⟨#[]⟩, .int .i64 0] from by
    have h := BoxV.new 26 (w.alloc (.cells #[.slice none 0 0, .string ⟨#[]⟩, .int .i64 0] 26)) #[.slice none 0 0, .string ⟨#[]⟩, .int .i64 0]
    rw [Go.Deep.nblk_alloc] at h
    exact h)
  have HB0 := hide (((Below.refl w.heap.size w).alloc (Nat.le_refl _) (.cells #[.slice none 0 0, .string ⟨#[]⟩, .int .i64 0] 26)).alloc (by simp) (.cells #[.slice none 0 0, .string ⟨#[]⟩, .int .i64 0] 26))
  go_enter Tryd.func54, Tryd.ntmps54
  go_wp2_with fail
  refine (HCV.out _).mono ?_
  rintro e w2 ⟨rfl, hb2⟩
  have HB2 := hide (HB0.out.trans (hb2.mono HB0.out.size))
  have HR2 := hide (HR0.out.below hb2 HR0.out.lt)
  have HT2 := hide (HT0.out.below hb2 HT0.out.lt)
  have HW2 := hide (show w.heap.size + 1 < w2.heap.size from HT2.out.lt)
  clear hb2 HB0 HR0 HT0 HX0
  go_wp2_with fail
  go_loopw [0, 14] (fun t i wr => ∃ (j : Nat) (S : List UInt8) (aP : Option Addr) (cP : Nat), t = .string ⟨S.toArray⟩ ∧ i = .int .i64 j ∧ j ≤ q ∧ S.length ≤ 1048576 ∧ w2.heap.size ≤ wr.heap.size ∧ Hid (S = cutPr j R) ∧ Hid (elPart.Owns (w.heap.size + 2) wr (.slice aP j cP) (cutP j R)) ∧
    Hid (BoxV 26 wr (w.heap.size + 1) #[.slice aP j cP, .string ⟨#[]⟩, .int .i64 0]) ∧ Hid (BoxV 26 wr w.heap.size #[.slice none 0 0, .string ⟨#[]⟩, .int .i64 0]) ∧ Hid (Below w.heap.size w wr)) (fun _ i _ => q - (intOf i).toNat)
  case atStart => exact ⟨0, R, none, 0, rfl, rfl, by omega, hRl, Nat.le_refl _, rfl, El.Owns.nil _ _, HT2, HR2, HB2⟩
  case round =>
    obtain ⟨j, S, aP, cP, rfl, rfl, hj, hSl, hwz, HS, HP, HT, HRb, HB⟩ := hrel
    have hs := HB.out.size
    have hlt1 := HT.out.lt
    by_cases hlt : j < q
    · obtain ⟨sb, hsb⟩ : ∃ sb : ByteArray, sb = ⟨S.toArray⟩ := ⟨_, rfl⟩
      have hsz : sb.size = S.length := by rw [hsb, size_of]
      have hbl : bl sb = S := by rw [hsb, bl_of]
      have HC1 := hide (fun W => cutText_any sb (by omega) W)
      rw [hbl] at HC1
      have hle1 := cutTR_le S
      obtain ⟨sc, hsc⟩ : ∃ sc : ByteArray, sc = ⟨(cutR S).toArray⟩ := ⟨_, rfl⟩
      have hsz2 : sc.size = (cutR S).length := by rw [hsc, size_of]
      have hbl2 : bl sc = cutR S := by rw [hsc, bl_of]
      have HC2 := hide (fun W => cutText_any sc (by omega) W)
      rw [hbl2] at HC2
      have hle2 := cutTR_le (cutR S)
      unfold CutPost at HC1 HC2
      rw [← hsc] at HC1
      obtain ⟨h1, h2⟩ := cutP_step j R
      rw [← HS.out] at h1 h2
      have HP1 := hide h1
      have HP2 := hide h2
      have hpl : (cutP (j + 1) R).length = j + 1 := cutP_len _ _
      obtain ⟨A, hA⟩ : ∃ A : ByteArray, A = ⟨(cutT S).toArray⟩ := ⟨_, rfl⟩
      obtain ⟨B, hB⟩ : ∃ B : ByteArray, B = ⟨(cutT (cutR S)).toArray⟩ := ⟨_, rfl⟩
      obtain ⟨S2, hS2⟩ : ∃ S2, S2 = cutR (cutR S) := ⟨_, rfl⟩
      rw [← hA] at HC1 HP1
      rw [← hB] at HC2 HP1
      rw [← hS2] at HC2 HP2 hle2
      have hS2l : S2.length ≤ 1048576 := by omega
      rw [← hsb]
      clear hsz hbl hle1 hsz2 hbl2 hle2 h1 h2 hA hB hS2 hsc hsb hSl
      -- the part
      have HQ1 := hide (BoxV.new 55 wr #[.string ⟨#[]⟩, .string ⟨#[]⟩])
      have HT1 := hide (HT.out.alloc (.cells #[.string ⟨#[]⟩, .string ⟨#[]⟩] 55))
      have HR1 := hide (HRb.out.alloc (.cells #[.string ⟨#[]⟩, .string ⟨#[]⟩] 55))
      have HO1 := hide (HP.out.alloc (.cells #[.string ⟨#[]⟩, .string ⟨#[]⟩] 55))
      have HB1 := hide (HB.out.alloc hs (.cells #[.string ⟨#[]⟩, .string ⟨#[]⟩] 55))
      have hown : ∀ i, (Value.slice aP j cP).ownBlock = some i → i < wr.heap.size := fun i hi => (HP.out.lt i hi).2
      have hgg : w.heap.size + 2 ≤ wr.heap.size := by
        have h := HW2.out
        omega
      obtain ⟨g, hg⟩ : ∃ g, g = wr.heap.size := ⟨_, rfl⟩
      obtain ⟨W1, hW1⟩ : ∃ W1, W1 = wr.alloc (.cells #[.string ⟨#[]⟩, .string ⟨#[]⟩] 55) := ⟨_, rfl⟩
      rw [← hg] at HQ1 hown hgg
      rw [← hW1] at HQ1 HT1 HR1 HO1 HB1
      clear HT HRb HP HB
      go_upto_region 6 with (fail)
      rw [← hW1, ← hg]
      have HGE := hide hg
      clear hW1 hg
      go_wp2_with fail
      refine (HC1.out _).mono ?_
      rintro e w3 ⟨rfl, hb3⟩
      have hq3 := HQ1.out.below hb3 HQ1.out.lt
      have z0 := hq3.frozen 0
      have y0 := hq3.two'.1
      have hl3 := hq3.lt
      obtain ⟨W3, hW3⟩ : ∃ W3, W3 = w3.setCell ⟨g, 0, none⟩ (.string A) := ⟨_, rfl⟩
      have HQ3 := hide (show BoxV 55 W3 g #[.string A, .string ⟨#[]⟩] from hW3 ▸ hq3.two0 _)
      have HT3 := hide (show BoxV 26 W3 (w.heap.size + 1) #[.slice aP j cP, .string ⟨#[]⟩, .int .i64 0] from hW3 ▸ (HT1.out.below hb3 HT1.out.lt).set_other (by show g ≠ _; omega) _)
      have HR3 := hide (show BoxV 26 W3 w.heap.size #[.slice none 0 0, .string ⟨#[]⟩, .int .i64 0] from hW3 ▸ (HR1.out.below hb3 HR1.out.lt).set_other (by show g ≠ _; omega) _)
      have HO3 := hide (show elPart.Owns (w.heap.size + 2) W3 (.slice aP j cP) (cutP j R) from hW3 ▸ (HO1.out.below hb3 (Nat.le_refl _)).set_ne (fun i hi => by have := hown i hi; show i ≠ g; omega) _)
      have HB3 := hide (show Below w.heap.size w W3 from hW3 ▸ (HB1.out.trans (hb3.mono HB1.out.size)).setCell (p := ⟨g, 0, none⟩) (by show w.heap.size ≤ g; omega) _)
      clear hb3 hq3 HQ1 HT1 HR1 HO1 HB1
      go_upto_region 7 with (fail)
      rw [← hW3]
      clear hW3 z0 y0 hl3
      go_wp2_with fail
      refine (HC2.out _).mono ?_
      rintro e w5 ⟨rfl, hb5⟩
      have hq5 := HQ3.out.below hb5 HQ3.out.lt
      have z1 := hq5.frozen 1
      have y1 := hq5.two'.2
      have hl5 := hq5.lt
      obtain ⟨W5, hW5⟩ : ∃ W5, W5 = w5.setCell ⟨g, 1, none⟩ (.string B) := ⟨_, rfl⟩
      have HQ5 := hide (show BoxV 55 W5 g #[.string A, .string B] from hW5 ▸ hq5.two1 _)
      have HT5 := hide (show BoxV 26 W5 (w.heap.size + 1) #[.slice aP j cP, .string ⟨#[]⟩, .int .i64 0] from hW5 ▸ (HT3.out.below hb5 HT3.out.lt).set_other (by show g ≠ _; omega) _)
      have HR5 := hide (show BoxV 26 W5 w.heap.size #[.slice none 0 0, .string ⟨#[]⟩, .int .i64 0] from hW5 ▸ (HR3.out.below hb5 HR3.out.lt).set_other (by show g ≠ _; omega) _)
      have HO5 := hide (show elPart.Owns (w.heap.size + 2) W5 (.slice aP j cP) (cutP j R) from hW5 ▸ (HO3.out.below hb5 (Nat.le_refl _)).set_ne (fun i hi => by have := hown i hi; show i ≠ g; omega) _)
      have HB5 := hide (show Below w.heap.size w W5 from hW5 ▸ (HB3.out.trans (hb5.mono HB3.out.size)).setCell (p := ⟨g, 1, none⟩) (by show w.heap.size ≤ g; omega) _)
      clear hb5 hq5 HQ3 HT3 HR3 HO3 HB3
      go_upto_region 8 with (fail)
      rw [← hW5]
      clear hW5 z1 y1 hl5
      obtain ⟨t0, t1, t2⟩ := HT5.out.three
      obtain ⟨y0, y1⟩ := HQ5.out.two'
      have hl5 := HQ5.out.lt
      have HPa := hide (HO5.out.alloc (.cells #[.string A, .string B] 55))
      have HSa := hide ((El.Owns.lit (e := elPart) 0 W5 [((A, B) : Prt)] #[.string A, .string B] 1 rfl rfl (Nat.zero_le _) (by simp [maxLen])).src)
      have hbb := hide (Below.refl (w.heap.size + 2) (W5.alloc (.cells #[.string A, .string B] 55)))
      have hka : w.heap.size + 2 ≤ (W5.alloc (.cells #[.string A, .string B] 55)).heap.size := by rw [Go.Deep.nblk_alloc]; omega
      have HAll := hide (fun (w7 : World) (hB7 : Below (w.heap.size + 2) (W5.alloc (.cells #[.string A, .string B] 55)) w7) =>
        show (BoxV 26 w7 (w.heap.size + 1) #[.slice aP j cP, .string ⟨#[]⟩, .int .i64 0] ∧ BoxV 26 w7 w.heap.size #[.slice none 0 0, .string ⟨#[]⟩, .int .i64 0]) ∧ Below w.heap.size w w7 from
        ⟨⟨(HT5.out.alloc _).below hB7 (by omega), (HR5.out.alloc _).below hB7 (by omega)⟩, (HB5.out.alloc HB5.out.size _).trans (hB7.mono (by omega))⟩)
      go_wp2_with (at_builtin; refine El.appendSrc (e := elPart) rfl (.tmp 29) (.tmp 31) 24 rfl Tryd.underlying24 _ _ infoPart rfl (by decide) (by decide) (w.heap.size + 2) (W5.alloc (.cells #[.string A, .string B] 55)) _ _ _ _ [((A, B) : Prt)] rfl rfl HPa HSa hbb hka _ (j + 1) HP1.out.symm hpl (by omega) ?_; intro a7 c7 w7 HO7 HB7 hz7 HN7; obtain ⟨⟨k1, k2⟩, k3⟩ := HAll.out w7 HB7.out; have HT7 := hide k1; have HR7 := hide k2; have HW7 := hide k3; obtain ⟨u0, u1, u2⟩ := HT7.out.three; have zz := HT7.out.frozen 0; have hl7 := HT7.out.lt; clear k1 k2 k3)
      have hfin : w2.heap.size ≤ (w7.setCell ⟨w.heap.size + 1, 0, none⟩ (.slice a7 (j + 1) c7)).heap.size := by
        have h := hz7
        have h2 := HGE.out
        rw [Go.Deep.nblk_alloc] at h
        simp
        omega
      go_roundw
      case rel => exact ⟨j + 1, S2, a7, c7, rfl, by go_num, by omega, hS2l, hfin, HP2.out.symm, HO7.out.set_other (p := ⟨w.heap.size + 1, 0, none⟩) (by show w.heap.size + 1 < _; omega) _, HT7.out.set30 _, HR7.out.set_other (p := ⟨w.heap.size + 1, 0, none⟩) (by show w.heap.size + 1 ≠ w.heap.size; omega) _, HW7.out.setCell (p := ⟨w.heap.size + 1, 0, none⟩) (by show w.heap.size ≤ w.heap.size + 1; omega) _⟩
      case measure => simp [intOf]; omega
    · obtain rfl : j = q := by omega
      obtain ⟨sb, hsb⟩ : ∃ sb : ByteArray, sb = ⟨S.toArray⟩ := ⟨_, rfl⟩
      have hsz : sb.size = S.length := by rw [hsb, size_of]
      have hbl : bl sb = S := by rw [hsb, bl_of]
      obtain ⟨z, hz⟩ : ∃ z, z = min sb.size 16 := ⟨_, rfl⟩
      have hzs : z ≤ sb.size := by omega
      have hmin2 : (if (16 : Int) < (sb.size : Int) then (16 : Int) else (sb.size : Int)) = (z : Int) := by split <;> omega
      have htk : S.take z = S.take 16 := by
        by_cases h16 : 16 ≤ S.length
        · rw [show z = 16 by omega]
        · rw [List.take_of_length_le (by omega), List.take_of_length_le (by omega)]
      have hdr : S.drop z = S.drop 16 := by
        by_cases h16 : 16 ≤ S.length
        · rw [show z = 16 by omega]
        · rw [List.drop_of_length_le (by omega), List.drop_of_length_le (by omega)]
      obtain ⟨F, hF⟩ : ∃ F : ByteArray, F = ⟨(S.take 16).toArray⟩ := ⟨_, rfl⟩
      obtain ⟨sd, hsd⟩ : ∃ sd : ByteArray, sd = ⟨(S.drop 16).toArray⟩ := ⟨_, rfl⟩
      have he1 : sb.extract 0 z = F := by rw [ext_take, hbl, htk, hF]
      have he2 : sb.extract z sb.size = sd := by rw [ext_drop, hbl, hdr, hsd]
      have hdl : sd.size ≤ 1048576 := by rw [hsd, size_of, List.length_drop]; omega
      have HCW := hide (fun W => cutVar_any sd hdl W)
      unfold CutVPost at HCW
      have hbd : bl sd = S.drop 16 := by rw [hsd, bl_of]
      rw [hbd] at HCW
      obtain ⟨mx, hmx⟩ : ∃ mx, mx = cutVn (S.drop 16) := ⟨_, rfl⟩
      rw [← hmx] at HCW
      have HTT := hide (show T = (cutP j R, F, (mx : Int)) by rw [HCQ.out, hF, hmx, HS.out])
      rw [← hsb]
      clear hsz hbl hz htk hdr hF hsd hdl hbd hmx hsb hSl
      have HZ2 := hide hmin2
      clear hmin2
      have hz1 := HT.out.frozen 1
      have zd1 : wr.drew.frozen? ⟨w.heap.size + 1, 1, none⟩ = false := hz1
      obtain ⟨t0, t1, t2⟩ := HT.out.three
      have td1 : wr.drew.cell? ⟨w.heap.size + 1, 1, none⟩ = some (.string ⟨#[]⟩) := t1
      have i1 : (z : Int) ≤ (sb.size : Int) := by omega
      go_upto_region 11 with (fail)
      rw [HZ2.out]
      go_region
      obtain ⟨W5, hW5⟩ : ∃ W5, W5 = (wr.setCell ⟨w.heap.size + 1, 1, none⟩ (.string F)).drew := ⟨_, rfl⟩
      have HT5 := hide (show BoxV 26 W5 (w.heap.size + 1) #[.slice aP j cP, .string F, .int .i64 0] from hW5 ▸ (HT.out.set31 _).drew)
      have HR5 := hide (show BoxV 26 W5 w.heap.size #[.slice none 0 0, .string ⟨#[]⟩, .int .i64 0] from hW5 ▸ (HRb.out.set_other (by show w.heap.size + 1 ≠ w.heap.size; omega) _).drew)
      have HP5 := hide (show elPart.Owns (w.heap.size + 2) W5 (.slice aP j cP) (cutP j R) from hW5 ▸ (HP.out.set_other (by show w.heap.size + 1 < _; omega) _).drew)
      have HB5 := hide (show Below w.heap.size w W5 from hW5 ▸ (HB.out.setCell (p := ⟨w.heap.size + 1, 1, none⟩) (by show w.heap.size ≤ w.heap.size + 1; omega) _).drew)
      rw [← hW5]
      clear hW5 HT HRb HP HB t0 t1 t2 td1 zd1 hz1
      go_wp2_with fail
      refine (HCW.out _).mono ?_
      rintro e w6 ⟨rfl, hb6⟩
      have ht6 := HT5.out.below hb6 HT5.out.lt
      have z2 := ht6.frozen 2
      have y2 := ht6.three.2.2
      have hl6 := ht6.lt
      obtain ⟨W7, hW7⟩ : ∃ W7, W7 = w6.setCell ⟨w.heap.size + 1, 2, none⟩ (.int .i64 (mx : Int)) := ⟨_, rfl⟩
      have HT7 := hide (show BoxV 26 W7 (w.heap.size + 1) #[.slice aP j cP, .string F, .int .i64 (mx : Int)] from hW7 ▸ ht6.set32 _)
      have HR7 := hide (show BoxV 26 W7 w.heap.size #[.slice none 0 0, .string ⟨#[]⟩, .int .i64 0] from hW7 ▸ (HR5.out.below hb6 HR5.out.lt).set_other (by show w.heap.size + 1 ≠ w.heap.size; omega) _)
      have HP7 := hide (show elPart.Owns (w.heap.size + 2) W7 (.slice aP j cP) (cutP j R) from hW7 ▸ (HP5.out.below hb6 (Nat.le_refl _)).set_other (by show w.heap.size + 1 < _; omega) _)
      have HB7 := hide (show Below w.heap.size w W7 from hW7 ▸ (HB5.out.trans (hb6.mono HB5.out.size)).setCell (p := ⟨w.heap.size + 1, 2, none⟩) (by show w.heap.size ≤ w.heap.size + 1; omega) _)
      clear hb6 ht6
      go_upto_region 13 with (fail)
      rw [← hW7]
      clear hW7 z2 y2 hl6
      obtain ⟨t0, t1, t2⟩ := HT7.out.three
      obtain ⟨d0, d1, d2⟩ := HR7.out.three
      obtain ⟨y0, y1, y2⟩ := HR7.out.froz3
      have hl7 := HR7.out.lt
      go_wp2_with fail
      refine bodyPost_ret (res_tab1 rfl _ _ w.heap.size rfl (HR7.out.all3 _ _ _)) rfl ?_
      rw [HTT.out]
      exact ⟨.slice aP j cP, rfl, (((HP7.out.set_other (p := ⟨w.heap.size, 0, none⟩) (by show w.heap.size < _; omega) _).set_other (p := ⟨w.heap.size, 1, none⟩) (by show w.heap.size < _; omega) _).set_other (p := ⟨w.heap.size, 2, none⟩) (by show w.heap.size < _; omega) _).mono (by omega), below_three HB7.out (Nat.le_refl _) _ _ _⟩

theorem cutP_size : ∀ (n : Nat) (l : List UInt8), ∀ x ∈ cutP n l, x.2.size ≤ l.length
  | 0, _, x, hx => by simp [cutP] at hx
  | n + 1, l, x, hx => by
    have h1 := cutTR_le l
    have h2 := cutTR_le (cutR l)
    rw [cutP] at hx
    rcases List.mem_cons.1 hx with rfl | hx
    · show (⟨(cutT (cutR l)).toArray⟩ : ByteArray).size ≤ _
      rw [size_of]
      omega
    · have := cutP_size n _ x hx
      omega
set_option maxHeartbeats 2000000 in
set_option maxRecDepth 40000 in
theorem iReadTable_any (s : ByteArray) (hm : s.size ≤ 1048576) (w : World) (hw0 : 0 < w.heap.size) (hTb : Hid (CrcTabIn w)) :
    Calls Tryd.prog 24 #[.string s] w (TabPost w (readT (bl s)) (readTQ (bl s))) := by
  have HC := hide (fun W => claimedTable_any s hm W)
  unfold ClaimPost1 at HC
  have HY := hide (fun h1 h2 => claimQ_yes (s := bl s) h1 h2)
  have HN := hide (fun h => claimQ_no (s := bl s) h)
  have hPL : (claimQ (bl s)).1.length ≤ 10 := by
    show (cutP _ _).length ≤ 10
    rw [cutP_len]
    omega
  have hPS : ∀ x ∈ (claimQ (bl s)).1, x.2.size ≤ 1048576 := fun x hx => by
    have h1 := cutP_size _ _ x hx
    have h2 := cutVr_le (bl s)
    rw [bl_len] at h2
    omega
  obtain ⟨⟨P, F, mx⟩, hC⟩ : ∃ t, t = claimQ (bl s) := ⟨_, rfl⟩
  rw [← hC] at HC HY HN hPL hPS
  dsimp only at HC hPL hPS
  have HSH := hide (fun W a' c' h hc hz ht => iShowTable_any a' c' P F mx W h (by unfold maxLen; omega) hc hPS hz ht)
  obtain ⟨VS, hVS⟩ : ∃ VS, VS = showT (P, F, mx) := ⟨_, rfl⟩
  rw [← hVS] at HSH HY HN
  obtain ⟨n, hn⟩ : ∃ n, n = P.length := ⟨_, rfl⟩
  have HPN := hide hn
  rw [← hn] at HSH
  clear hC hVS hPS hn
  have HX0 := hide (BoxV.new 26 w #[.slice none 0 0, .string ⟨#[]⟩, .int .i64 0])
  have HB0 := hide ((Below.refl w.heap.size w).alloc (Nat.le_refl _) (.cells #[.slice none 0 0, .string ⟨#[]⟩, .int .i64 0] 26))
  go_enter Tryd.func24, Tryd.ntmps24
  go_wp2_with fail
  refine (HC.out _).mono ?_
  rintro e w1 ⟨v, rfl, ho, hb1⟩
  obtain ⟨a1, c1, rfl, hrd, hc1, _⟩ := ho.form
  have HB1 := hide (HB0.out.trans (hb1.mono HB0.out.size))
  have HX1 := hide (HX0.out.below hb1 HX0.out.lt)
  have HO1 := hide ho
  rw [← HPN.out] at HO1 hc1 ⊢
  have hx1 := HX1.out.lt
  obtain ⟨W2, hW2⟩ : ∃ W2, W2 = w1.alloc (.cells #[.slice a1 n c1, .string F, .int .i64 mx] 26) := ⟨_, rfl⟩
  have HT2 := hide (show BoxV 26 W2 w1.heap.size #[.slice a1 n c1, .string F, .int .i64 mx] from hW2 ▸ BoxV.new _ w1 _)
  have HX2 := hide (show BoxV 26 W2 w.heap.size _ from hW2 ▸ HX1.out.alloc _)
  have HO2 := hide (show elPart.Owns _ W2 _ _ from hW2 ▸ HO1.out.alloc _)
  have HB2 := hide (show Below w.heap.size w W2 from hW2 ▸ HB1.out.alloc HB1.out.size _)
  have hox : w.heap.size + 1 ≤ (w.alloc (.cells #[.slice none 0 0, .string ⟨#[]⟩, .int .i64 0] 26)).heap.size := by simp
  clear hb1 ho hrd HO1 HX1 HB1 HX0 HB0
  go_upto_region 2 with (fail)
  rw [← hW2]
  clear hW2
  by_cases h0 : bl s = []
  · have HN1 := hide (HN.out (.inl h0))
    have hse : s.toList.isEmpty = true := by rw [ByteArray.toList_eq, List.isEmpty_iff]; exact h0
    clear h0 HN HY HSH
    obtain ⟨d0, d1, d2⟩ := HX2.out.three
    obtain ⟨y0, y1, y2⟩ := HX2.out.froz3
    have hl2 := HX2.out.lt
    go_wp2_with fail
    refine bodyPost_ret (res_tab rfl _ _ w.heap.size rfl (HX2.out.all3 _ _ _)) rfl ?_
    exact TabPost.no HN1.out (below_three HB2.out (Nat.le_refl _) _ _ _)
  · have hse : s.toList.isEmpty = false := by rw [ByteArray.toList_eq, List.isEmpty_eq_false_iff]; exact h0
    have HSC := hide (HSH.out W2 a1 c1 (owns_rd HO2.out) hc1 (Nat.lt_of_lt_of_le hw0 HB2.out.size) (hide (hTb.out.below HB2.out hw0)))
    have H0 := hide h0
    clear h0 HSH
    obtain ⟨t0, t1, t2⟩ := HT2.out.three
    by_cases hsh : VS = bl s
    · have HN2 := hide (HY.out H0.out hsh)
      have hbe : (!(VS == s.toList)) = false := by rw [Bool.not_eq_false', beq_iff_eq, ByteArray.toList_eq]; exact hsh
      clear hsh HN HY
      go_wp2_with fail
      refine HSC.out.mono ?_
      rintro e w3 ⟨rfl, hb3⟩
      have HB3 := hide (HB2.out.trans (hb3.mono HB2.out.size))
      have HX3 := hide (HX2.out.below hb3 HX2.out.lt)
      have HT3 := hide (HT2.out.below hb3 HT2.out.lt)
      have HO3 := hide (HO2.out.below hb3 (Nat.le_refl _))
      clear hb3 t0 t1 t2
      obtain ⟨t0, t1, t2⟩ := HT3.out.three
      obtain ⟨d0, d1, d2⟩ := HX3.out.three
      obtain ⟨y0, y1, y2⟩ := HX3.out.froz3
      have hl3 := HX3.out.lt
      go_wp2_with fail
      refine bodyPost_ret (res_tab rfl _ _ w.heap.size rfl (HX3.out.all3 _ _ _)) rfl ?_
      refine ⟨.slice a1 n c1, by rw [HN2.out.1, HN2.out.2]; rfl, ?_, below_three HB3.out (Nat.le_refl _) _ _ _⟩
      rw [HN2.out.1]
      exact (((HO3.out.set_other (p := ⟨w.heap.size, 0, none⟩) (by show w.heap.size < _; omega) _).set_other (p := ⟨w.heap.size, 1, none⟩) (by show w.heap.size < _; omega) _).set_other (p := ⟨w.heap.size, 2, none⟩) (by show w.heap.size < _; omega) _).mono (by omega)
    · have HN1 := hide (HN.out (.inr hsh))
      have hbe : (!(VS == s.toList)) = true := by rw [ne_str hsh]; rfl
      clear hsh HN HY
      go_wp2_with fail
      refine HSC.out.mono ?_
      rintro e w3 ⟨rfl, hb3⟩
      have HB3 := hide (HB2.out.trans (hb3.mono HB2.out.size))
      have HX3 := hide (HX2.out.below hb3 HX2.out.lt)
      clear hb3 t0 t1 t2
      obtain ⟨d0, d1, d2⟩ := HX3.out.three
      obtain ⟨y0, y1, y2⟩ := HX3.out.froz3
      have hl3 := HX3.out.lt
      go_wp2_with fail
      refine bodyPost_ret (res_tab rfl _ _ w.heap.size rfl (HX3.out.all3 _ _ _)) rfl ?_
      exact TabPost.no HN1.out (below_three HB3.out (Nat.le_refl _) _ _ _)
end Go.Proofs.YtdlkgpobjacgeaaDoor

/-
  The walk of laws.FnExactReadTable.
-/
namespace Go.Proofs.YtdlkgpobjacgeaaDoor
open Go.ChangeShapes Go.WideShapes Go.ChangeAt Go.RowKit

set_option maxHeartbeats 2000000 in
set_option maxRecDepth 20000 in
theorem law_ReadTable (s : ByteArray) (w : World) (_hs : s.size ≤ maxLen) (h0 : 0 < w.heap.size) (hT : Hid (CrcTabIn w)) :
    Calls Tryd.prog 6 #[.string s] w (TruePost w) := by
  by_cases hbig : 1048576 < s.size
  · have hd : decide ((1048576 : Int) < s.size) = true := decide_eq_true (by omega)
    go_enter Tryd.func6, Tryd.ntmps6
    go_wp2_with fail
    go_ret
    exact ⟨rfl, Below.refl _ _⟩
  have hd : decide ((1048576 : Int) < s.size) = false := decide_eq_false (by omega)
  have HSP := hide (fun W => sReadTable_any s (by omega) W)
  have HIM := hide (fun W (h : Below w.heap.size w W) => iReadTable_any s (by omega) W (Nat.lt_of_lt_of_le h0 h.size) (hide (hT.out.below h h0)))
  obtain ⟨t, ht⟩ : ∃ t, t = readT (bl s) := ⟨_, rfl⟩
  obtain ⟨q, hq⟩ : ∃ q, q = readTQ (bl s) := ⟨_, rfl⟩
  have hlen : t.1.length ≤ 10 := by rw [ht]; exact readT_len _
  rw [← ht, ← hq] at HSP HIM
  have hqq : (q != q) = false := by cases q <;> rfl
  clear ht hq hT h0 hbig
  go_enter Tryd.func6, Tryd.ntmps6
  go_wp2_with fail
  refine (HSP.out _).mono ?_
  rintro e w1 ⟨v6, rfl, ho6, hb1⟩
  obtain ⟨a6, c6, rfl, _⟩ := ho6.form
  obtain ⟨W2, hW2⟩ : ∃ W2, W2 = w1.alloc (.cells (tabBox t a6 c6) 26) := ⟨_, rfl⟩
  have HX2 := hide (show BoxV 26 W2 w1.heap.size (tabBox t a6 c6) from hW2 ▸ BoxV.new _ w1 _)
  have HO2 := hide (show elPart.Owns w.heap.size W2 _ _ from hW2 ▸ ho6.alloc _)
  have HK6 := hide ho6.lt
  have h1 := hb1.size
  have HB2 := hide (show Below w.heap.size w W2 from hW2 ▸ hb1.alloc hb1.size _)
  clear ho6 hb1
  go_wp2_with fail
  rw [← hW2]
  clear hW2
  refine (HIM.out _ HB2.out).mono ?_
  rintro e w3 ⟨v9, rfl, ho9, hb3⟩
  obtain ⟨a9, c9, rfl, _⟩ := ho9.form
  obtain ⟨W4, hW4⟩ : ∃ W4, W4 = w3.alloc (.cells (tabBox t a9 c9) 26) := ⟨_, rfl⟩
  have h2 := HX2.out.lt
  have HX3 := hide (HX2.out.below hb3 h2)
  have HV4 := hide (show InvT w t w1.heap.size a6 c6 W2.heap.size w3.heap.size a9 c9 t.1 W4 from
    ⟨hW4 ▸ (HB2.out.trans (hb3.mono HB2.out.size)).alloc (Nat.le_trans HB2.out.size hb3.size) _, hW4 ▸ HX3.out.alloc _, hW4 ▸ ((HO2.out.below hb3 (Nat.le_refl _)).mono (Nat.zero_le _)).alloc _, hW4 ▸ BoxV.new _ w3 _, hW4 ▸ (ho9.mono (Nat.zero_le _)).alloc _, h1, h2, hb3.size, HK6.out, ho9.lt⟩)
  obtain ⟨p0, p1, p2⟩ := HX3.out.three
  have h3 := HX3.out.lt
  clear ho9 hb3 HB2 HO2 HX2 HK6
  go_wp2_with fail
  rw [← hW4]
  clear hW4 p0 p1 p2 HX3
  refine (eqTable_same a9 a6 c9 c6 t.1 t.2.1 t.2.2 _ (owns_rd HV4.out.o9) (owns_rd HV4.out.o6) (by omega)).mono ?_
  rintro e w5 ⟨rfl, hb5⟩
  have HV5 := hide (HV4.out.keep hb5)
  clear hb5 HV4
  obtain ⟨y0, y1, y2⟩ := HV5.out.b9.three
  go_wp2_with fail
  refine (markTable_any 0 a9 c9 1 t.1 t.2.1 t.2.2 _ HV5.out.o9 (by omega) (by omega)).mono ?_
  rintro e w6 ⟨rfl, ho6, ht6⟩
  have HV6 := hide (HV5.out.mark9 ht6 ho6)
  clear ht6 ho6 HV5 y0 y1 y2
  obtain ⟨y0, y1, y2⟩ := HV6.out.b9.three
  go_wp2_with fail
  refine (heldTable_any a9 c9 1 t.1.length t.2.1 t.2.2 _ (owns_rd HV6.out.o9) (by omega) (by omega)).mono ?_
  rintro e w7 ⟨rfl, hb7⟩
  have HV7 := hide (HV6.out.keep hb7)
  clear hb7 HV6 y0 y1 y2
  go_wp2_with fail
  refine (HIM.out _ HV7.out.below).mono ?_
  rintro e w8 ⟨vh, rfl, hoh, hb8⟩
  obtain ⟨ah, ch, rfl, _⟩ := hoh.form
  have HV8 := hide (HV7.out.keep hb8)
  obtain ⟨W9, hW9⟩ : ∃ W9, W9 = w8.alloc (.cells (tabBox t ah ch) 26) := ⟨_, rfl⟩
  have HV9 := hide (show InvT w t w1.heap.size a6 c6 W2.heap.size w3.heap.size a9 c9 _ W9 from hW9 ▸ HV8.out.keep ((Below.refl w8.heap.size w8).alloc (Nat.le_refl _) _))
  have HOH := hide (show elPart.Owns _ W9 _ _ from hW9 ▸ hoh.alloc _)
  obtain ⟨p0, p1, p2⟩ := HV8.out.b6.three
  have hl6 := HV8.out.b6.lt
  clear hb8 hoh HV7 HIM HSP
  go_wp2_with fail
  rw [← hW9]
  clear hW9 HV8 p0 p1 p2 hl6
  refine (eqTable_same ah a6 ch c6 t.1 t.2.1 t.2.2 _ (owns_rd HOH.out) (owns_rd HV9.out.o6) (by omega)).mono ?_
  rintro e w10 ⟨rfl, hb10⟩
  have HV10 := hide (HV9.out.keep hb10)
  clear hb10 HV9 HOH
  obtain ⟨y0, y1, y2⟩ := HV10.out.b9.three
  go_wp2_with fail
  refine (heldTable_any a9 c9 1 t.1.length t.2.1 t.2.2 _ (owns_rd HV10.out.o9) (by omega) (by omega)).mono ?_
  rintro e w11 ⟨rfl, hb11⟩
  have HV11 := hide (HV10.out.keep hb11)
  clear hb11 HV10 y0 y1 y2
  go_wp2_with fail
  go_ret
  exact ⟨rfl, HV11.out.below⟩
end Go.Proofs.YtdlkgpobjacgeaaDoor
