/-
  Texts of this proof, put together: TabL, TabS, TabT, DrawTs, DrawTbl, DrawTg, TabV, TabW, LawTables.
-/
import Derived.Test.YtdlkgpobjacgeaaGreatDoorPackBW
import Derived.Test.YtdlkgpobjacgeaaGreatDoorPackBT
import Derived.Test.YtdlkgpobjacgeaaGreatDoorPackAY
import Derived.Deep.RegionHeld3
import Derived.Test.YtdlkgpobjacgeaaGreatDoorPackBJ
import Derived.Test.YtdlkgpobjacgeaaGreatDoorPackAI
import Derived.Test.YtdlkgpobjacgeaaGreatDoorPackBR
import Derived.Test.YtdlkgpobjacgeaaGreatDoorPackAZ
import Derived.Test.YtdlkgpobjacgeaaGreatDoorPackAR
import Derived.Test.YtdlkgpobjacgeaaGreatDoorPackAS
import Derived.Test.YtdlkgpobjacgeaaGreatDoorPackBS
import Derived.Deep.DeepCutAuto
import Derived.Test.YtdlkgpobjacgeaaGreatDoorPackAD
import Derived.Test.YtdlkgpobjacgeaaGreatDoorPackBO
import Derived.OrdersHeld
import Derived.Deep.RegionHeld
import Derived.Test.YtdlkgpobjacgeaaGreatDoorPackAC
import Derived.Test.YtdlkgpobjacgeaaGreatDoorPackAQ
import Derived.Laws.StructEq

/-
  Contract of impl.TableEnts, where the table of the program holds its sixteen words.
-/
namespace Go.Proofs.YtdlkgpobjacgeaaGreatDoor
open Go.ChangeShapes Go.WideShapes Go.ChangeAt Go.RowKit

set_option maxHeartbeats 2000000 in
set_option maxRecDepth 40000 in
theorem iTableEnts_any (a : Option Addr) (cap : Nat) (P : List PartE) (b : ByteArray) (m : Int) (w : World) (hr : elPart.Rd w w.heap.size a P) (hl : P.length ≤ maxLen) (hcap : P.length ≤ cap) (hk : ∀ x ∈ P, x.2.size ≤ 1048576) (hw0 : 0 < w.heap.size) (hT : Hid (CrcTabIn w)) :
    Calls Tryz.prog 8 #[.agg #[.slice a P.length cap, .string b, .int .i64 m]] w (TEPost w (P, b, m)) := by
  have HR := hide hr
  have HTC := hide (tab_claim (P, b, m))
  have HCL := hide (fun W h => tabClaimed_any a cap P b m W h hl hcap hk)
  unfold EntsP1 at HCL
  have HEL := hide (show (entsP (P.take 10)).length ≤ 160 by
    have h := entsP_len (P.take 10)
    rw [List.length_take] at h
    omega)
  obtain ⟨X, hX⟩ : ∃ X, X = entsP (P.take 10) := ⟨_, rfl⟩
  simp only [← hX] at HTC HCL HEL
  obtain ⟨n, hn⟩ : ∃ n, n = P.length := ⟨_, rfl⟩
  have HN := hide hn
  have HLL := hide hl
  rw [← hn] at hl hcap HCL ⊢
  clear hn hr hk hX
  have HX0 := hide (BoxV.new 26 w #[.slice a n cap, .string b, .int .i64 m])
  have HB0 := hide ((Below.refl w.heap.size w).alloc (Nat.le_refl _) (.cells #[.slice a n cap, .string b, .int .i64 m] 26))
  go_enter Tryz.func8, Tryz.ntmps8
  go_wp2_with fail
  refine (HCL.out _ ((HR.out.below HB0.out (Nat.le_refl _)).mono HB0.out.size)).mono ?_
  rintro e w1 ⟨v, rfl, ho, hb1⟩
  obtain ⟨a1, c1, rfl, hrd, hc1, _⟩ := ho.form
  have HB1 := hide (HB0.out.trans (hb1.mono HB0.out.size))
  have HX1 := hide (HX0.out.below hb1 HX0.out.lt)
  have HO1 := hide (ho.mono HB0.out.size)
  have hs1 := HB1.out.size
  have HTO := hide (iTableOf_any a1 c1 X w1 hrd (by have := HEL.out; unfold maxLen; omega) hc1 (Nat.lt_of_lt_of_le hw0 hs1) (hide (hT.out.below HB1.out hw0)))
  unfold TabPost at HTO
  obtain ⟨⟨Q, q1, q2⟩, hQ⟩ : ∃ t, t = tblV X := ⟨_, rfl⟩
  have HQL := hide (show Q.length ≤ 10 by have h := tblV_len X; rw [← hQ] at h; exact h)
  have HQ := hide hQ
  rw [← hQ] at HTO
  dsimp only at HTO
  obtain ⟨k, hkX⟩ : ∃ k, k = X.length := ⟨_, rfl⟩
  have HKX := hide hkX
  rw [← hkX] at HTO HO1 ⊢
  clear hb1 ho hrd hc1 HX0 HB0 HCL hQ hkX
  by_cases hok : tblOk X
  · rw [decide_eq_true hok] at HTO
    go_wp2_with fail
    refine HTO.out.mono ?_
    rintro e w2 ⟨v, rfl, ho, hb2⟩
    obtain ⟨a2, c2, rfl, hrd, _⟩ := ho.form
    have HB2 := hide (HB1.out.trans (hb2.mono hs1))
    have HO2 := hide (HO1.out.below hb2 (Nat.le_refl _))
    have HX2 := hide (HX1.out.below hb2 HX1.out.lt)
    have hs2 := HB2.out.size
    have HX3 := hide (HX2.out.alloc (.cells #[.slice a2 Q.length c2, .string q1, .int .i64 q2] 26))
    have HY3 := hide (BoxV.new 26 w2 #[.slice a2 Q.length c2, .string q1, .int .i64 q2])
    have HB3 := hide (HB2.out.alloc hs2 (.cells #[.slice a2 Q.length c2, .string q1, .int .i64 q2] 26))
    have HO3 := hide (HO2.out.alloc (.cells #[.slice a2 Q.length c2, .string q1, .int .i64 q2] 26))
    have hs3 := HB3.out.size
    have HSM := hide (equal_any a2 a c2 cap Q P q1 b q2 m (w2.alloc (.cells #[.slice a2 Q.length c2, .string q1, .int .i64 q2] 26)) ((hrd.below ((Below.refl w2.heap.size w2).alloc (Nat.le_refl _) _) (Nat.le_refl _)).mono (by simp)) ((HR.out.below HB3.out (Nat.le_refl _)).mono hs3) (by have := HQL.out; unfold maxLen; omega))
    rw [← HN.out] at HSM
    obtain ⟨z0, z1, z2⟩ := HX3.out.three
    obtain ⟨y0, y1, y2⟩ := HY3.out.three
    clear hb2 ho hrd HO1 HX1 HB1 HX2 HB2 HO2 HTO
    by_cases heq : (Q, q1, q2) = (P, b, m)
    · have HYS := hide (HTC.out.1 ⟨hok, by rw [← tblV_yes hok, ← HQ.out, heq]⟩)
      rw [decide_eq_true heq] at HSM
      clear hok heq
      go_wp2_with fail
      refine HSM.out.mono ?_
      rintro e w4 ⟨rfl, hb4⟩
      have HB4 := hide (HB3.out.trans (hb4.mono hs3))
      have HO4 := hide (HO3.out.below hb4 (Nat.le_refl _))
      clear hb4
      go_wp2_with fail
      go_ret2
      exact ⟨_, by rw [HYS.out.2]; rfl, by rw [HYS.out.1]; exact HO4.out.mono (Nat.le_refl _), HB4.out⟩
    · have HNS := hide (HTC.out.2 fun h => heq (by rw [HQ.out, tblV_yes hok]; exact h.2))
      rw [decide_eq_false heq] at HSM
      clear hok heq
      go_wp2_with fail
      refine HSM.out.mono ?_
      rintro e w4 ⟨rfl, hb4⟩
      have HB4 := hide (HB3.out.trans (hb4.mono hs3))
      clear hb4
      go_wp2_with fail
      go_ret2
      exact TEPost.no HNS.out _ (El.Owns.nil _ _) HB4.out
  · have HNS := hide (HTC.out.2 fun h => hok h.1)
    rw [decide_eq_false hok] at HTO
    clear hok
    go_wp2_with fail
    refine HTO.out.mono ?_
    rintro e w2 ⟨v, rfl, ho, hb2⟩
    obtain ⟨a2, c2, rfl, hrd, _⟩ := ho.form
    have HB2 := hide (HB1.out.trans (hb2.mono hs1))
    have hs2 := HB2.out.size
    have HB3 := hide (HB2.out.alloc hs2 (.cells #[.slice a2 Q.length c2, .string q1, .int .i64 q2] 26))
    clear hb2 ho hrd HO1 HX1 HB1 HB2 HTO
    go_wp2_with fail
    go_ret2
    exact TEPost.no HNS.out _ (El.Owns.nil _ _) HB3.out
end Go.Proofs.YtdlkgpobjacgeaaGreatDoor

/-
  Contract of impl.ShowTable, where the table of the program holds its sixteen words.
-/
namespace Go.Proofs.YtdlkgpobjacgeaaGreatDoor
open Go.ChangeShapes Go.WideShapes Go.ChangeAt Go.RowKit

/-- a writer behind some calls, beside what else lay there -/
structure At2 (g : Nat) (W : World) (X : List UInt8) (v : Value) (w' : World) : Prop where
  wri : TxtAt w' g X v
  bent : Bent g W w'
theorem At2.step {g B : Nat} {W w' w2 : World} {X : List UInt8} {v : Value} (h : At2 g W X v w') (hb : Below B w' w2) (hB : w'.heap.size ≤ B) : At2 g W X v w2 :=
  ⟨h.wri.kept hb hB, h.bent.trans (Bent.of_below hb hB (Nat.le_trans (Nat.le_of_lt h.wri.lt) hB))⟩
theorem At2.drew {g : Nat} {W w' : World} {X : List UInt8} {v : Value} (h : At2 g W X v w') : At2 g W X v w'.drew :=
  ⟨h.wri.drew, ⟨h.bent.below.drew, h.bent.keep⟩⟩
theorem At2.alloc {g : Nat} {W w' : World} {X : List UInt8} {v : Value} (h : At2 g W X v w') (o : Obj) : At2 g W X v (w'.alloc o) :=
  h.step ((Below.refl w'.heap.size w').alloc (Nat.le_refl _) o) (Nat.le_refl _)
theorem strs2 (w : World) (a b : ByteArray) : elStr.Holds (w.alloc (.cells #[.string a, .string b] 9)) w.heap.size [a, b] := El.Holds.new (e := elStr) w [a, b]
theorem strs1' (w : World) (a : ByteArray) : elStr.Holds (w.alloc (.cells #[.string a] 9)) w.heap.size [a] := El.Holds.new (e := elStr) w [a]

set_option maxHeartbeats 4000000 in
set_option maxRecDepth 40000 in
theorem iShowTable_any (a : Option Addr) (cap : Nat) (P : List PartE) (b : ByteArray) (m : Int) (w : World) (hr : elPart.Rd w w.heap.size a P) (hl : P.length ≤ maxLen) (hcap : P.length ≤ cap) (hk : ∀ x ∈ P, x.2.size ≤ 1048576) (hw0 : 0 < w.heap.size) (hTb : Hid (CrcTabIn w)) :
    Calls Tryz.prog 11 #[.agg #[.slice a P.length cap, .string b, .int .i64 m]] w (StrPost w (showT (P, b, m))) := by
  have HR := hide hr
  have HTE := hide (fun W h hz ht => iTableEnts_any a cap P b m W h hl hcap hk hz ht)
  unfold TEPost at HTE
  obtain ⟨V, hV⟩ : ∃ V, V = showT (P, b, m) := ⟨_, rfl⟩
  have HV := hide hV
  rw [← hV]
  obtain ⟨n, hn⟩ : ∃ n, n = P.length := ⟨_, rfl⟩
  have HN := hide hn
  rw [← hn] at hl HTE ⊢
  obtain ⟨tq, htq⟩ : ∃ tq, tq = tabQ (P, b, m) := ⟨_, rfl⟩
  have HTQ := hide htq.symm
  rw [← htq] at HTE
  clear hn hr hk hV htq hl hcap
  have HX0 := hide (BoxV.new 26 w #[.slice a n cap, .string b, .int .i64 m])
  have HB0 := hide ((Below.refl w.heap.size w).alloc (Nat.le_refl _) (.cells #[.slice a n cap, .string b, .int .i64 m] 26))
  have HEQ := hide (HTE.out _ ((HR.out.below HB0.out (Nat.le_refl _)).mono HB0.out.size) (Nat.lt_of_lt_of_le hw0 HB0.out.size) (hide (hTb.out.below HB0.out hw0)))
  clear HTE
  go_enter Tryz.func11, Tryz.ntmps11
  go_wp2_with fail
  refine HEQ.out.mono ?_
  rintro e w1 ⟨v, rfl, ho, hb1⟩
  obtain ⟨a1, c1, rfl, _⟩ := ho.form
  have HX1 := hide (HX0.out.below hb1 HX0.out.lt)
  have HB1 := hide (HB0.out.trans (hb1.mono HB0.out.size))
  clear ho hb1 HX0 HB0 HEQ
  obtain ⟨x0, x1, x2⟩ := HX1.out.three
  cases tq with
  | false =>
    have HVn := hide (HV.out.trans (showT_no (tabQ_not HTQ.out)))
    go_wp2_with fail
    go_ret
    exact ⟨by rw [HVn.out]; rfl, HB1.out⟩
  | true =>
  have hT := tabQ_is HTQ.out
  obtain ⟨hbl, hm0, hm1⟩ := tbl_bds hT
  have hpl := parts_len hT
  have HTL := hide (text_len hT)
  dsimp only at hbl hm0 hm1 hpl HTL
  rw [← HN.out] at hpl
  have hn1 : n ≤ 10 := hpl.2
  have HT1 := hide (fun W => iVar_any (n : Int) W)
  have HT2 := hide (fun W => iVar_any m W)
  have v1 := varV_len' (n : Int)
  have v2 := varV_len' m
  have HVy := hide (show V = varV (n : Int) ++ prtsL P ++ (bl b ++ varV m) by
    rw [HV.out, showT_yes hT]
    dsimp only
    rw [← HN.out, varV, if_pos (by omega), varV, if_pos (by omega), Int.toNat_natCast]
    simp only [List.append_assoc])
  obtain ⟨L1, hL1⟩ : ∃ L1, L1 = varV (n : Int) := ⟨_, rfl⟩
  obtain ⟨L2, hL2⟩ : ∃ L2, L2 = varV m := ⟨_, rfl⟩
  rw [← hL1] at HT1 HVy v1
  rw [← hL2] at HT2 HVy v2
  have hbs : b.size = 16 := by rw [← bl_len]; exact hbl
  clear hL1 hL2 hT hpl hbl hm0 hm1 HV
  have hx1 := HX1.out.lt
  -- the writer
  have HW1 := hide (TxtAt.new w1)
  have HX2 := hide (HX1.out.alloc (.cells #[.slice none 0 0] 67))
  have HB2 := hide (HB1.out.alloc HB1.out.size (.cells #[.slice none 0 0] 67))
  obtain ⟨W2, hW2⟩ : ∃ W2, W2 = w1.alloc (.cells #[.slice none 0 0] 67) := ⟨_, rfl⟩
  rw [← hW2] at HW1 HX2 HB2
  obtain ⟨g, hg⟩ : ∃ g, g = w1.heap.size := ⟨_, rfl⟩
  rw [← hg] at HW1
  have hgx : w.heap.size < g := by omega
  have hg2 : g < W2.heap.size := HW1.out.lt
  go_upto_region 5 with (fail)
  rw [← hW2, ← hg]
  clear hW2 hg x0 x1 x2 hx1 HX1 HB1
  obtain ⟨x0, x1, x2⟩ := HX2.out.three
  go_wp2_with fail
  refine (HT1.out _).mono ?_
  rintro e w3 ⟨rfl, hb3⟩
  have HA3 := hide ((show At2 g W2 [] _ W2 from ⟨HW1.out, Bent.refl _ _⟩).step hb3 (Nat.le_refl _))
  have HLS : Hid (∀ s ∈ [(⟨L1.toArray⟩ : ByteArray)], s.size ≤ 1000) := by
    intro s hs
    rw [List.mem_singleton.1 hs, size_of]
    omega
  have HWR := hide (twrite_any g w3.heap.size [] [(⟨L1.toArray⟩ : ByteArray)] 1 (w3.alloc (.cells #[.string ⟨L1.toArray⟩] 9)) (HA3.out.alloc _).wri (strs1' _ _) rfl (by decide) HLS.out (by simp))
  clear hb3 x0 x1 x2
  go_wp2_with fail
  refine HWR.out.mono ?_
  rintro e w4 ⟨rfl, hv4, hb4⟩
  have HV4 := hide hv4
  have HBG4 := hide (show Below g W2 w4 from ((HA3.out.alloc _).bent.trans hb4).below)
  have HC4 := hide (show catL [(⟨L1.toArray⟩ : ByteArray)] = L1 by simp [catL, bl_of])
  rw [List.nil_append, HC4.out] at HV4
  have HX4 := hide (HX2.out.below HBG4.out hgx)
  clear hv4 hb4 HA3 HWR HW1 HC4
  obtain ⟨x0, x1, x2⟩ := HX4.out.three
  go_wp2_with fail
  go_loopw [24] (fun i wr => ∃ (j : Nat) (Y : List UInt8), i = .int .i64 j ∧ j ≤ n ∧ Y.length ≤ 7 + 1000 * j ∧ Hid (Y = L1 ++ prtsL (P.take j)) ∧ Hid (∃ v, TxtAt wr g Y v) ∧ Hid (Below g W2 wr)) (fun i _ => n - (intOf i).toNat)
  case atStart => exact ⟨0, L1, rfl, by omega, by omega, by simp [Hid, prtsL], HV4, HBG4⟩
  case round =>
    obtain ⟨j, Y, rfl, hj, hyl, HY, HW, HB⟩ := hrel
    obtain ⟨vY, hvY⟩ := HW.out
    have hglr := hvY.lt
    have HBw := hide (show Below w.heap.size w wr from HB2.out.trans (HB.out.mono (Nat.le_of_lt hgx)))
    by_cases hlt : j < n
    · have hjP : j < P.length := by rw [← HN.out]; exact hlt
      obtain ⟨gp, off, rfl, hgp, hcell⟩ := HR.out (by omega)
      obtain ⟨f0, f1, hx⟩ := partsPart P[j]
      obtain ⟨c0, c1⟩ := cellsPart hx (hcell j hjP)
      have d0 := (HBw.out.cell (p := ⟨gp, off + j * 2, none⟩) hgp).trans c0
      have d1 := (HBw.out.cell (p := ⟨gp, off + j * 2 + 1, none⟩) hgp).trans c1
      have HJ := hide (show P[j]? = some (f0, f1) by rw [List.getElem?_eq_getElem hjP, hx])
      obtain ⟨t1, t2⟩ := HTL.out _ (List.mem_of_getElem? HJ.out)
      rw [bl_len] at t1 t2
      dsimp only at t1 t2
      have HPK := hide (fun W => sizedText_any f0 (by omega) W)
      have HPV := hide (fun W => sizedText_any f1 (by omega) W)
      have l1 := piece_len (s := f0) (by omega)
      have l2 := piece_len (s := f1) (by omega)
      have HST := hide (prtsL_step HJ.out)
      obtain ⟨PK, hPK⟩ : ∃ PK, PK = pieceL (bl f0) := ⟨_, rfl⟩
      obtain ⟨PV, hPV⟩ : ∃ PV, PV = pieceL (bl f1) := ⟨_, rfl⟩
      simp only [← hPK, ← hPV] at HPK HPV HST l1 l2
      have HSZ : Hid (∀ s ∈ [(⟨PK.toArray⟩ : ByteArray), ⟨PV.toArray⟩], s.size ≤ 1000) := by
        intro s hs
        simp only [List.mem_cons, List.not_mem_nil, or_false] at hs
        rcases hs with rfl | rfl <;> rw [size_of] <;> omega
      have HXN := hide (show Y ++ catL [(⟨PK.toArray⟩ : ByteArray), ⟨PV.toArray⟩] = L1 ++ prtsL (P.take (j + 1)) by
        rw [HST.out, HY.out]
        simp only [catL, List.flatMap_cons, List.flatMap_nil, bl_of, List.append_nil, List.append_assoc])
      have HYL := hide (show (Y ++ catL [(⟨PK.toArray⟩ : ByteArray), ⟨PV.toArray⟩]).length ≤ 7 + 1000 * (j + 1) by
        simp only [catL, List.flatMap_cons, List.flatMap_nil, bl_of, List.append_nil, List.length_append]
        omega)
      have HYM := hide (show Y.length ≤ 1000000 by omega)
      obtain ⟨W, hW⟩ : ∃ W, W = wr.alloc (.cells #[.string f0, .string f1] 59) := ⟨_, rfl⟩
      have hbx : BoxV 59 W wr.heap.size #[.string f0, .string f1] := by rw [hW]; exact BoxV.new _ wr _
      have HBW := hide (show Below g W2 W by rw [hW]; exact HB.out.alloc (Nat.le_of_lt hglr) _)
      have HA1 := hide (show At2 g W Y vY W from ⟨by rw [hW]; exact hvY.alloc _, Bent.refl _ _⟩)
      have hne : wr.heap.size ≠ g := by omega
      have HD := hide (fun (w' : World) (h : Bent g W w') => BoxV.two' (show BoxV 59 w' wr.heap.size #[.string f0, .string f1] from h.keep _ _ _ _ hne (by decide) hbx))
      clear hcell c0 c1 hx hjP hPK hPV t1 t2 hvY hbx l1 l2 HW
      go_upto_region 9 with (fail)
      rw [← hW]
      clear hW d0 d1 x0 x1 x2
      go_region_held3 (fun w' => w'.cell? ⟨wr.heap.size, 0, none⟩ = some (.string f0) ∧ w'.cell? ⟨wr.heap.size, 1, none⟩ = some (.string f1))
        (first
          | with_reducible exact HD.out _ HA1.out.bent
          | with_reducible exact HD.out _ HA1.out.drew.bent
          | with_reducible exact HD.out _ HA3.out.bent
          | with_reducible exact HD.out _ HA4.out.bent
          | with_reducible exact HD.out _ (HA4.out.alloc _).bent
          | with_reducible exact HD.out _ HA5.out)
        (first
          | (have hq4 := HA4.out
             clear hq4
             go_at_call 36
             refine (twrite_any g _ Y [⟨PK.toArray⟩, ⟨PV.toArray⟩] 2 _ (HA4.out.alloc _).wri (strs2 _ _ _) rfl (by decide) HSZ.out HYM.out).mono ?_
             rintro e w5 ⟨rfl, hv5, hb5⟩
             have HV5 := hide hv5
             have HA5 := hide ((HA4.out.alloc _).bent.trans hb5)
             clear hv5 hb5)
          | (have hq3 := HA3.out
             clear hq3
             go_at_call 38
             refine (HPV.out _).mono ?_
             rintro e w4 ⟨rfl, hb4⟩
             have HA4 := hide (HA3.out.step hb4 (Nat.le_refl _))
             clear hb4)
          | (go_at_call 38
             refine (HPK.out _).mono ?_
             rintro e w3 ⟨rfl, hb3⟩
             have HA3 := hide (HA1.out.step (below_of_drew' hb3) (Nat.le_refl _))
             clear hb3))
      all_goals go_wp2_with fail
      all_goals go_roundw
      all_goals first
        | (simp [intOf]; omega)
        | exact ⟨j + 1, _, by go_num, by omega, HYL.out, HXN, HV5, hide (HBW.out.trans HA5.out.below)⟩
    · obtain rfl : j = n := by omega
      have HXE2 := hide (show Y = L1 ++ prtsL P by rw [HY.out, List.take_of_length_le (by rw [← HN.out]; exact Nat.le_refl _)])
      have HXr := hide (HX2.out.below HB.out hgx)
      have HLS2 : Hid (∀ s ∈ [b, (⟨L2.toArray⟩ : ByteArray)], s.size ≤ 1000) := by
        intro s hs
        simp only [List.mem_cons, List.not_mem_nil, or_false] at hs
        rcases hs with rfl | rfl
        · omega
        · rw [size_of]; omega
      have HYM := hide (show Y.length ≤ 1000000 by omega)
      have HVe := hide (show V = Y ++ catL [b, (⟨L2.toArray⟩ : ByteArray)] by
        rw [HVy.out, HXE2.out]
        simp only [catL, List.flatMap_cons, List.flatMap_nil, bl_of, List.append_nil, List.append_assoc])
      have HA1 := hide (show At2 g wr Y vY wr from ⟨hvY, Bent.refl _ _⟩)
      have HD := hide (fun (w' : World) (h : Bent g wr w') => show w'.cell? ⟨w.heap.size, 1, none⟩ = some (.string b) ∧ w'.cell? ⟨w.heap.size, 2, none⟩ = some (.int .i64 m) from by
        have h3 := (HXr.out.below h.below hgx).three
        exact ⟨h3.2.1, h3.2.2⟩)
      clear hvY x0 x1 x2 HW
      go_wp2_with fail
      go_region_held3 (fun w' => w'.cell? ⟨w.heap.size, 1, none⟩ = some (.string b) ∧ w'.cell? ⟨w.heap.size, 2, none⟩ = some (.int .i64 m))
        (first
          | with_reducible exact HD.out _ HA1.out.bent
          | with_reducible exact HD.out _ HA1.out.drew.bent
          | with_reducible exact HD.out _ HA3.out.bent
          | with_reducible exact HD.out _ (HA3.out.alloc _).bent
          | with_reducible exact HD.out _ HA5.out)
        (first
          | (have hq3 := HA3.out
             clear hq3
             go_at_call 36
             refine (twrite_any g _ Y [b, ⟨L2.toArray⟩] 2 _ (HA3.out.alloc _).wri (strs2 _ _ _) rfl (by decide) HLS2.out HYM.out).mono ?_
             rintro e w5 ⟨rfl, hv5, hb5⟩
             have HV5 := hide hv5
             have HA5 := hide ((HA3.out.alloc _).bent.trans hb5)
             clear hv5 hb5)
          | (go_at_call 37
             refine (HT2.out _).mono ?_
             rintro e w3 ⟨rfl, hb3⟩
             have HA3 := hide (HA1.out.step (below_of_drew' hb3) (Nat.le_refl _))
             clear hb3))
      all_goals
        obtain ⟨v5, hv5⟩ := HV5.out
        have HTX := hide (ttext_any hv5)
        have HB5 := hide (HBw.out.trans (HA5.out.below.mono (Nat.le_of_lt hgx)))
        rw [← HVe.out] at HTX
        clear hv5
        go_wp2_with fail
        refine HTX.out.mono ?_
        rintro e w6 ⟨rfl, rfl⟩
        go_wp2_with fail
        go_ret
        exact ⟨rfl, HB5.out⟩
end Go.Proofs.YtdlkgpobjacgeaaGreatDoor

/-
  Contracts of impl.claimedTable and, where the table of the program holds its sixteen words, of impl.ReadTable.
-/
namespace Go.Proofs.YtdlkgpobjacgeaaGreatDoor
open Go.ChangeShapes Go.WideShapes Go.ChangeAt Go.RowKit

/-- a result that is a table in a block of its own -/
theorem res_tab1 {fn : Func} {p : Tmp} (h : fn.results = #[.cell p 26]) (tmps : Array Value) (w : World) (g : Nat) (ht : tmps.getD p undef = .pointer (some ⟨g, 0, none⟩)) {v0 v1 v2 : Value} (hx : BoxV 26 w g #[v0, v1, v2]) :
    (results fn tmps).run Tryz.prog w = .ok (.agg #[v0, v1, v2]) w := by
  obtain ⟨c0, c1, c2⟩ := hx.three
  rw [Array.getD_eq_getD_getElem?] at ht
  simp only [results, h]
  simp [ht, go_sem, c0, c1, c2]
def ClaimPost1 (w : World) (t : Tbl) (e : Ending) (w' : World) : Prop :=
  ∃ v, e = .returned (.agg #[v, .string t.2.1, .int .i64 t.2.2]) ∧ elPart.Owns w.heap.size w' v t.1 ∧ Below w.heap.size w w'

set_option maxHeartbeats 4000000 in
set_option maxRecDepth 40000 in
theorem claimedTable_any (s : ByteArray) (hm : s.size ≤ 1048576) (w : World) :
    Calls Tryz.prog 40 #[.string s] w (ClaimPost1 w (claimQ (bl s))) := by
  have HCV := hide (fun W => cutVar_any s hm W)
  unfold CutVPost at HCV
  have HCQ := hide (show claimQ (bl s) = (cutP (min (cutVn (bl s)) 10) (cutVr (bl s)), ⟨((cutPr (min (cutVn (bl s)) 10) (cutVr (bl s))).take 16).toArray⟩, ((cutVn ((cutPr (min (cutVn (bl s)) 10) (cutVr (bl s))).drop 16) : Nat) : Int)) from rfl)
  obtain ⟨T, hT⟩ : ∃ T, T = claimQ (bl s) := ⟨_, rfl⟩
  have hRl : (cutVr (bl s)).length ≤ 1048576 := by
    have h1 := cutVr_le (bl s)
    rw [bl_len] at h1
    omega
  obtain ⟨n, hn⟩ : ∃ n, n = cutVn (bl s) := ⟨_, rfl⟩
  obtain ⟨R, hR⟩ : ∃ R, R = cutVr (bl s) := ⟨_, rfl⟩
  obtain ⟨q, hq⟩ : ∃ q, q = min n 10 := ⟨_, rfl⟩
  rw [← hn, ← hR] at HCV
  rw [← hn, ← hR, ← hT, ← hq] at HCQ
  rw [← hR] at hRl
  rw [← hT]
  have hmin : (if (10 : Int) < (n : Int) then (10 : Int) else (n : Int)) = (q : Int) := by split <;> omega
  have hq10 : q ≤ 10 := by omega
  clear hT hn hR hq
  have HX0 := hide (BoxV.new 26 w #[.slice none 0 0, .string ⟨#[]⟩, .int .i64 0])
  have HR0 := hide (HX0.out.alloc (.cells #[.slice none 0 0, .string ⟨#[]⟩, .int .i64 0] 26))
  have HT0 := hide (show BoxV 26 ((w.alloc (.cells #[.slice none 0 0, .string ⟨#[]⟩, .int .i64 0] 26)).alloc (.cells #[.slice none 0 0, .string ⟨#[]⟩, .int .i64 0] 26)) (w.heap.size + 1) #[.slice none 0 0, .string ⟨#[]⟩, .int .i64 0] from by
    have h := BoxV.new 26 (w.alloc (.cells #[.slice none 0 0, .string ⟨#[]⟩, .int .i64 0] 26)) #[.slice none 0 0, .string ⟨#[]⟩, .int .i64 0]
    rw [Go.Deep.nblk_alloc] at h
    exact h)
  have HB0 := hide (((Below.refl w.heap.size w).alloc (Nat.le_refl _) (.cells #[.slice none 0 0, .string ⟨#[]⟩, .int .i64 0] 26)).alloc (by simp) (.cells #[.slice none 0 0, .string ⟨#[]⟩, .int .i64 0] 26))
  go_enter Tryz.func40, Tryz.ntmps40
  go_wp2_with fail
  refine (HCV.out _).mono ?_
  rintro e w2 ⟨rfl, hb2⟩
  have HB2 := hide (HB0.out.trans (hb2.mono HB0.out.size))
  have HR2 := hide (HR0.out.below hb2 HR0.out.lt)
  have HT2 := hide (HT0.out.below hb2 HT0.out.lt)
  have HW2 := hide (show w.heap.size + 1 < w2.heap.size from HT2.out.lt)
  clear hb2 HB0 HR0 HT0 HX0
  go_wp2_with fail
  go_loopw [0, 14] (fun t i wr => ∃ (j : Nat) (S : List UInt8) (aP : Option Addr) (cP : Nat), t = .string ⟨S.toArray⟩ ∧ i = .int .i64 j ∧ j ≤ q ∧ S.length ≤ 1048576 ∧ w2.heap.size ≤ wr.heap.size ∧ Hid (S = cutPr j R) ∧ Hid (elPart.Owns (w.heap.size + 2) wr (.slice aP j cP) (cutP j R)) ∧
    Hid (BoxV 26 wr (w.heap.size + 1) #[.slice aP j cP, .string ⟨#[]⟩, .int .i64 0]) ∧ Hid (BoxV 26 wr w.heap.size #[.slice none 0 0, .string ⟨#[]⟩, .int .i64 0]) ∧ Hid (Below w.heap.size w wr)) (fun _ i _ => q - (intOf i).toNat)
  case atStart => exact ⟨0, R, none, 0, rfl, rfl, by omega, hRl, Nat.le_refl _, rfl, El.Owns.nil _ _, HT2, HR2, HB2⟩
  case round =>
    obtain ⟨j, S, aP, cP, rfl, rfl, hj, hSl, hwz, HS, HP, HT, HRb, HB⟩ := hrel
    have hs := HB.out.size
    have hlt1 := HT.out.lt
    by_cases hlt : j < q
    · obtain ⟨sb, hsb⟩ : ∃ sb : ByteArray, sb = ⟨S.toArray⟩ := ⟨_, rfl⟩
      have hsz : sb.size = S.length := by rw [hsb, size_of]
      have hbl : bl sb = S := by rw [hsb, bl_of]
      have HC1 := hide (fun W => cutText_any sb (by omega) W)
      rw [hbl] at HC1
      have hle1 := cutTR_le S
      obtain ⟨sc, hsc⟩ : ∃ sc : ByteArray, sc = ⟨(cutR S).toArray⟩ := ⟨_, rfl⟩
      have hsz2 : sc.size = (cutR S).length := by rw [hsc, size_of]
      have hbl2 : bl sc = cutR S := by rw [hsc, bl_of]
      have HC2 := hide (fun W => cutText_any sc (by omega) W)
      rw [hbl2] at HC2
      have hle2 := cutTR_le (cutR S)
      unfold CutPost at HC1 HC2
      rw [← hsc] at HC1
      obtain ⟨h1, h2⟩ := cutP_step j R
      rw [← HS.out] at h1 h2
      have HP1 := hide h1
      have HP2 := hide h2
      have hpl : (cutP (j + 1) R).length = j + 1 := cutP_len _ _
      obtain ⟨A, hA⟩ : ∃ A : ByteArray, A = ⟨(cutT S).toArray⟩ := ⟨_, rfl⟩
      obtain ⟨B, hB⟩ : ∃ B : ByteArray, B = ⟨(cutT (cutR S)).toArray⟩ := ⟨_, rfl⟩
      obtain ⟨S2, hS2⟩ : ∃ S2, S2 = cutR (cutR S) := ⟨_, rfl⟩
      rw [← hA] at HC1 HP1
      rw [← hB] at HC2 HP1
      rw [← hS2] at HC2 HP2 hle2
      have hS2l : S2.length ≤ 1048576 := by omega
      rw [← hsb]
      clear hsz hbl hle1 hsz2 hbl2 hle2 h1 h2 hA hB hS2 hsc hsb hSl
      -- the part
      have HQ1 := hide (BoxV.new 59 wr #[.string ⟨#[]⟩, .string ⟨#[]⟩])
      have HT1 := hide (HT.out.alloc (.cells #[.string ⟨#[]⟩, .string ⟨#[]⟩] 59))
      have HR1 := hide (HRb.out.alloc (.cells #[.string ⟨#[]⟩, .string ⟨#[]⟩] 59))
      have HO1 := hide (HP.out.alloc (.cells #[.string ⟨#[]⟩, .string ⟨#[]⟩] 59))
      have HB1 := hide (HB.out.alloc hs (.cells #[.string ⟨#[]⟩, .string ⟨#[]⟩] 59))
      have hown : ∀ i, (Value.slice aP j cP).ownBlock = some i → i < wr.heap.size := fun i hi => (HP.out.lt i hi).2
      have hgg : w.heap.size + 2 ≤ wr.heap.size := by
        have h := HW2.out
        omega
      obtain ⟨g, hg⟩ : ∃ g, g = wr.heap.size := ⟨_, rfl⟩
      obtain ⟨W1, hW1⟩ : ∃ W1, W1 = wr.alloc (.cells #[.string ⟨#[]⟩, .string ⟨#[]⟩] 59) := ⟨_, rfl⟩
      rw [← hg] at HQ1 hown hgg
      rw [← hW1] at HQ1 HT1 HR1 HO1 HB1
      clear HT HRb HP HB
      go_upto_region 6 with (fail)
      rw [← hW1, ← hg]
      have HGE := hide hg
      clear hW1 hg
      go_wp2_with fail
      refine (HC1.out _).mono ?_
      rintro e w3 ⟨rfl, hb3⟩
      have hq3 := HQ1.out.below hb3 HQ1.out.lt
      have z0 := hq3.frozen 0
      have y0 := hq3.two'.1
      have hl3 := hq3.lt
      obtain ⟨W3, hW3⟩ : ∃ W3, W3 = w3.setCell ⟨g, 0, none⟩ (.string A) := ⟨_, rfl⟩
      have HQ3 := hide (show BoxV 59 W3 g #[.string A, .string ⟨#[]⟩] from hW3 ▸ hq3.two0 _)
      have HT3 := hide (show BoxV 26 W3 (w.heap.size + 1) #[.slice aP j cP, .string ⟨#[]⟩, .int .i64 0] from hW3 ▸ (HT1.out.below hb3 HT1.out.lt).set_other (by show g ≠ _; omega) _)
      have HR3 := hide (show BoxV 26 W3 w.heap.size #[.slice none 0 0, .string ⟨#[]⟩, .int .i64 0] from hW3 ▸ (HR1.out.below hb3 HR1.out.lt).set_other (by show g ≠ _; omega) _)
      have HO3 := hide (show elPart.Owns (w.heap.size + 2) W3 (.slice aP j cP) (cutP j R) from hW3 ▸ (HO1.out.below hb3 (Nat.le_refl _)).set_ne (fun i hi => by have := hown i hi; show i ≠ g; omega) _)
      have HB3 := hide (show Below w.heap.size w W3 from hW3 ▸ (HB1.out.trans (hb3.mono HB1.out.size)).setCell (p := ⟨g, 0, none⟩) (by show w.heap.size ≤ g; omega) _)
      clear hb3 hq3 HQ1 HT1 HR1 HO1 HB1
      go_upto_region 7 with (fail)
      rw [← hW3]
      clear hW3 z0 y0 hl3
      go_wp2_with fail
      refine (HC2.out _).mono ?_
      rintro e w5 ⟨rfl, hb5⟩
      have hq5 := HQ3.out.below hb5 HQ3.out.lt
      have z1 := hq5.frozen 1
      have y1 := hq5.two'.2
      have hl5 := hq5.lt
      obtain ⟨W5, hW5⟩ : ∃ W5, W5 = w5.setCell ⟨g, 1, none⟩ (.string B) := ⟨_, rfl⟩
      have HQ5 := hide (show BoxV 59 W5 g #[.string A, .string B] from hW5 ▸ hq5.two1 _)
      have HT5 := hide (show BoxV 26 W5 (w.heap.size + 1) #[.slice aP j cP, .string ⟨#[]⟩, .int .i64 0] from hW5 ▸ (HT3.out.below hb5 HT3.out.lt).set_other (by show g ≠ _; omega) _)
      have HR5 := hide (show BoxV 26 W5 w.heap.size #[.slice none 0 0, .string ⟨#[]⟩, .int .i64 0] from hW5 ▸ (HR3.out.below hb5 HR3.out.lt).set_other (by show g ≠ _; omega) _)
      have HO5 := hide (show elPart.Owns (w.heap.size + 2) W5 (.slice aP j cP) (cutP j R) from hW5 ▸ (HO3.out.below hb5 (Nat.le_refl _)).set_ne (fun i hi => by have := hown i hi; show i ≠ g; omega) _)
      have HB5 := hide (show Below w.heap.size w W5 from hW5 ▸ (HB3.out.trans (hb5.mono HB3.out.size)).setCell (p := ⟨g, 1, none⟩) (by show w.heap.size ≤ g; omega) _)
      clear hb5 hq5 HQ3 HT3 HR3 HO3 HB3
      go_upto_region 8 with (fail)
      rw [← hW5]
      clear hW5 z1 y1 hl5
      obtain ⟨t0, t1, t2⟩ := HT5.out.three
      obtain ⟨y0, y1⟩ := HQ5.out.two'
      have hl5 := HQ5.out.lt
      have HPa := hide (HO5.out.alloc (.cells #[.string A, .string B] 59))
      have HSa := hide ((El.Owns.lit (e := elPart) 0 W5 [((A, B) : Prt)] #[.string A, .string B] 1 rfl rfl (Nat.zero_le _) (by simp [maxLen])).src)
      have hbb := hide (Below.refl (w.heap.size + 2) (W5.alloc (.cells #[.string A, .string B] 59)))
      have hka : w.heap.size + 2 ≤ (W5.alloc (.cells #[.string A, .string B] 59)).heap.size := by rw [Go.Deep.nblk_alloc]; omega
      have HAll := hide (fun (w7 : World) (hB7 : Below (w.heap.size + 2) (W5.alloc (.cells #[.string A, .string B] 59)) w7) =>
        show (BoxV 26 w7 (w.heap.size + 1) #[.slice aP j cP, .string ⟨#[]⟩, .int .i64 0] ∧ BoxV 26 w7 w.heap.size #[.slice none 0 0, .string ⟨#[]⟩, .int .i64 0]) ∧ Below w.heap.size w w7 from
        ⟨⟨(HT5.out.alloc _).below hB7 (by omega), (HR5.out.alloc _).below hB7 (by omega)⟩, (HB5.out.alloc HB5.out.size _).trans (hB7.mono (by omega))⟩)
      go_wp2_with (at_builtin; refine El.appendSrc (e := elPart) rfl (.tmp 29) (.tmp 31) 24 rfl Tryz.underlying24 _ _ infoPart rfl (by decide) (by decide) (w.heap.size + 2) (W5.alloc (.cells #[.string A, .string B] 59)) _ _ _ _ [((A, B) : Prt)] rfl rfl HPa HSa hbb hka _ (j + 1) HP1.out.symm hpl (by omega) ?_; intro a7 c7 w7 HO7 HB7 hz7 HN7; obtain ⟨⟨k1, k2⟩, k3⟩ := HAll.out w7 HB7.out; have HT7 := hide k1; have HR7 := hide k2; have HW7 := hide k3; obtain ⟨u0, u1, u2⟩ := HT7.out.three; have zz := HT7.out.frozen 0; have hl7 := HT7.out.lt; clear k1 k2 k3)
      have hfin : w2.heap.size ≤ (w7.setCell ⟨w.heap.size + 1, 0, none⟩ (.slice a7 (j + 1) c7)).heap.size := by
        have h := hz7
        have h2 := HGE.out
        rw [Go.Deep.nblk_alloc] at h
        simp
        omega
      go_roundw
      case rel => exact ⟨j + 1, S2, a7, c7, rfl, by go_num, by omega, hS2l, hfin, HP2.out.symm, HO7.out.set_other (p := ⟨w.heap.size + 1, 0, none⟩) (by show w.heap.size + 1 < _; omega) _, HT7.out.set30 _, HR7.out.set_other (p := ⟨w.heap.size + 1, 0, none⟩) (by show w.heap.size + 1 ≠ w.heap.size; omega) _, HW7.out.setCell (p := ⟨w.heap.size + 1, 0, none⟩) (by show w.heap.size ≤ w.heap.size + 1; omega) _⟩
      case measure => simp [intOf]; omega
    · obtain rfl : j = q := by omega
      obtain ⟨sb, hsb⟩ : ∃ sb : ByteArray, sb = ⟨S.toArray⟩ := ⟨_, rfl⟩
      have hsz : sb.size = S.length := by rw [hsb, size_of]
      have hbl : bl sb = S := by rw [hsb, bl_of]
      obtain ⟨z, hz⟩ : ∃ z, z = min sb.size 16 := ⟨_, rfl⟩
      have hzs : z ≤ sb.size := by omega
      have hmin2 : (if (16 : Int) < (sb.size : Int) then (16 : Int) else (sb.size : Int)) = (z : Int) := by split <;> omega
      have htk : S.take z = S.take 16 := by
        by_cases h16 : 16 ≤ S.length
        · rw [show z = 16 by omega]
        · rw [List.take_of_length_le (by omega), List.take_of_length_le (by omega)]
      have hdr : S.drop z = S.drop 16 := by
        by_cases h16 : 16 ≤ S.length
        · rw [show z = 16 by omega]
        · rw [List.drop_of_length_le (by omega), List.drop_of_length_le (by omega)]
      obtain ⟨F, hF⟩ : ∃ F : ByteArray, F = ⟨(S.take 16).toArray⟩ := ⟨_, rfl⟩
      obtain ⟨sd, hsd⟩ : ∃ sd : ByteArray, sd = ⟨(S.drop 16).toArray⟩ := ⟨_, rfl⟩
      have he1 : sb.extract 0 z = F := by rw [ext_take, hbl, htk, hF]
      have he2 : sb.extract z sb.size = sd := by rw [ext_drop, hbl, hdr, hsd]
      have hdl : sd.size ≤ 1048576 := by rw [hsd, size_of, List.length_drop]; omega
      have HCW := hide (fun W => cutVar_any sd hdl W)
      unfold CutVPost at HCW
      have hbd : bl sd = S.drop 16 := by rw [hsd, bl_of]
      rw [hbd] at HCW
      obtain ⟨mx, hmx⟩ : ∃ mx, mx = cutVn (S.drop 16) := ⟨_, rfl⟩
      rw [← hmx] at HCW
      have HTT := hide (show T = (cutP j R, F, (mx : Int)) by rw [HCQ.out, hF, hmx, HS.out])
      rw [← hsb]
      clear hsz hbl hz htk hdr hF hsd hdl hbd hmx hsb hSl
      have HZ2 := hide hmin2
      clear hmin2
      have hz1 := HT.out.frozen 1
      have zd1 : wr.drew.frozen? ⟨w.heap.size + 1, 1, none⟩ = false := hz1
      obtain ⟨t0, t1, t2⟩ := HT.out.three
      have td1 : wr.drew.cell? ⟨w.heap.size + 1, 1, none⟩ = some (.string ⟨#[]⟩) := t1
      have i1 : (z : Int) ≤ (sb.size : Int) := by omega
      go_upto_region 11 with (fail)
      rw [HZ2.out]
      go_region
      obtain ⟨W5, hW5⟩ : ∃ W5, W5 = (wr.setCell ⟨w.heap.size + 1, 1, none⟩ (.string F)).drew := ⟨_, rfl⟩
      have HT5 := hide (show BoxV 26 W5 (w.heap.size + 1) #[.slice aP j cP, .string F, .int .i64 0] from hW5 ▸ (HT.out.set31 _).drew)
      have HR5 := hide (show BoxV 26 W5 w.heap.size #[.slice none 0 0, .string ⟨#[]⟩, .int .i64 0] from hW5 ▸ (HRb.out.set_other (by show w.heap.size + 1 ≠ w.heap.size; omega) _).drew)
      have HP5 := hide (show elPart.Owns (w.heap.size + 2) W5 (.slice aP j cP) (cutP j R) from hW5 ▸ (HP.out.set_other (by show w.heap.size + 1 < _; omega) _).drew)
      have HB5 := hide (show Below w.heap.size w W5 from hW5 ▸ (HB.out.setCell (p := ⟨w.heap.size + 1, 1, none⟩) (by show w.heap.size ≤ w.heap.size + 1; omega) _).drew)
      rw [← hW5]
      clear hW5 HT HRb HP HB t0 t1 t2 td1 zd1 hz1
      go_wp2_with fail
      refine (HCW.out _).mono ?_
      rintro e w6 ⟨rfl, hb6⟩
      have ht6 := HT5.out.below hb6 HT5.out.lt
      have z2 := ht6.frozen 2
      have y2 := ht6.three.2.2
      have hl6 := ht6.lt
      obtain ⟨W7, hW7⟩ : ∃ W7, W7 = w6.setCell ⟨w.heap.size + 1, 2, none⟩ (.int .i64 (mx : Int)) := ⟨_, rfl⟩
      have HT7 := hide (show BoxV 26 W7 (w.heap.size + 1) #[.slice aP j cP, .string F, .int .i64 (mx : Int)] from hW7 ▸ ht6.set32 _)
      have HR7 := hide (show BoxV 26 W7 w.heap.size #[.slice none 0 0, .string ⟨#[]⟩, .int .i64 0] from hW7 ▸ (HR5.out.below hb6 HR5.out.lt).set_other (by show w.heap.size + 1 ≠ w.heap.size; omega) _)
      have HP7 := hide (show elPart.Owns (w.heap.size + 2) W7 (.slice aP j cP) (cutP j R) from hW7 ▸ (HP5.out.below hb6 (Nat.le_refl _)).set_other (by show w.heap.size + 1 < _; omega) _)
      have HB7 := hide (show Below w.heap.size w W7 from hW7 ▸ (HB5.out.trans (hb6.mono HB5.out.size)).setCell (p := ⟨w.heap.size + 1, 2, none⟩) (by show w.heap.size ≤ w.heap.size + 1; omega) _)
      clear hb6 ht6
      go_upto_region 13 with (fail)
      rw [← hW7]
      clear hW7 z2 y2 hl6
      obtain ⟨t0, t1, t2⟩ := HT7.out.three
      obtain ⟨d0, d1, d2⟩ := HR7.out.three
      obtain ⟨y0, y1, y2⟩ := HR7.out.froz3
      have hl7 := HR7.out.lt
      go_wp2_with fail
      refine bodyPost_ret (res_tab1 rfl _ _ w.heap.size rfl (HR7.out.all3 _ _ _)) rfl ?_
      rw [HTT.out]
      exact ⟨.slice aP j cP, rfl, (((HP7.out.set_other (p := ⟨w.heap.size, 0, none⟩) (by show w.heap.size < _; omega) _).set_other (p := ⟨w.heap.size, 1, none⟩) (by show w.heap.size < _; omega) _).set_other (p := ⟨w.heap.size, 2, none⟩) (by show w.heap.size < _; omega) _).mono (by omega), below_three HB7.out (Nat.le_refl _) _ _ _⟩

theorem cutP_size : ∀ (n : Nat) (l : List UInt8), ∀ x ∈ cutP n l, x.2.size ≤ l.length
  | 0, _, x, hx => by simp [cutP] at hx
  | n + 1, l, x, hx => by
    have h1 := cutTR_le l
    have h2 := cutTR_le (cutR l)
    rw [cutP] at hx
    rcases List.mem_cons.1 hx with rfl | hx
    · show (⟨(cutT (cutR l)).toArray⟩ : ByteArray).size ≤ _
      rw [size_of]
      omega
    · have := cutP_size n _ x hx
      omega
set_option maxHeartbeats 2000000 in
set_option maxRecDepth 40000 in
theorem iReadTable_any (s : ByteArray) (hm : s.size ≤ 1048576) (w : World) (hw0 : 0 < w.heap.size) (hTb : Hid (CrcTabIn w)) :
    Calls Tryz.prog 12 #[.string s] w (TabPost w (readT (bl s)) (readTQ (bl s))) := by
  have HC := hide (fun W => claimedTable_any s hm W)
  unfold ClaimPost1 at HC
  have HY := hide (fun h1 h2 => claimQ_yes (s := bl s) h1 h2)
  have HN := hide (fun h => claimQ_no (s := bl s) h)
  have hPL : (claimQ (bl s)).1.length ≤ 10 := by
    show (cutP _ _).length ≤ 10
    rw [cutP_len]
    omega
  have hPS : ∀ x ∈ (claimQ (bl s)).1, x.2.size ≤ 1048576 := fun x hx => by
    have h1 := cutP_size _ _ x hx
    have h2 := cutVr_le (bl s)
    rw [bl_len] at h2
    omega
  obtain ⟨⟨P, F, mx⟩, hC⟩ : ∃ t, t = claimQ (bl s) := ⟨_, rfl⟩
  rw [← hC] at HC HY HN hPL hPS
  dsimp only at HC hPL hPS
  have HSH := hide (fun W a' c' h hc hz ht => iShowTable_any a' c' P F mx W h (by unfold maxLen; omega) hc hPS hz ht)
  obtain ⟨VS, hVS⟩ : ∃ VS, VS = showT (P, F, mx) := ⟨_, rfl⟩
  rw [← hVS] at HSH HY HN
  obtain ⟨n, hn⟩ : ∃ n, n = P.length := ⟨_, rfl⟩
  have HPN := hide hn
  rw [← hn] at HSH
  clear hC hVS hPS hn
  have HX0 := hide (BoxV.new 26 w #[.slice none 0 0, .string ⟨#[]⟩, .int .i64 0])
  have HB0 := hide ((Below.refl w.heap.size w).alloc (Nat.le_refl _) (.cells #[.slice none 0 0, .string ⟨#[]⟩, .int .i64 0] 26))
  go_enter Tryz.func12, Tryz.ntmps12
  go_wp2_with fail
  refine (HC.out _).mono ?_
  rintro e w1 ⟨v, rfl, ho, hb1⟩
  obtain ⟨a1, c1, rfl, hrd, hc1, _⟩ := ho.form
  have HB1 := hide (HB0.out.trans (hb1.mono HB0.out.size))
  have HX1 := hide (HX0.out.below hb1 HX0.out.lt)
  have HO1 := hide ho
  rw [← HPN.out] at HO1 hc1 ⊢
  have hx1 := HX1.out.lt
  obtain ⟨W2, hW2⟩ : ∃ W2, W2 = w1.alloc (.cells #[.slice a1 n c1, .string F, .int .i64 mx] 26) := ⟨_, rfl⟩
  have HT2 := hide (show BoxV 26 W2 w1.heap.size #[.slice a1 n c1, .string F, .int .i64 mx] from hW2 ▸ BoxV.new _ w1 _)
  have HX2 := hide (show BoxV 26 W2 w.heap.size _ from hW2 ▸ HX1.out.alloc _)
  have HO2 := hide (show elPart.Owns _ W2 _ _ from hW2 ▸ HO1.out.alloc _)
  have HB2 := hide (show Below w.heap.size w W2 from hW2 ▸ HB1.out.alloc HB1.out.size _)
  have hox : w.heap.size + 1 ≤ (w.alloc (.cells #[.slice none 0 0, .string ⟨#[]⟩, .int .i64 0] 26)).heap.size := by simp
  clear hb1 ho hrd HO1 HX1 HB1 HX0 HB0
  go_upto_region 2 with (fail)
  rw [← hW2]
  clear hW2
  by_cases h0 : bl s = []
  · have HN1 := hide (HN.out (.inl h0))
    have hse : s.toList.isEmpty = true := by rw [ByteArray.toList_eq, List.isEmpty_iff]; exact h0
    clear h0 HN HY HSH
    obtain ⟨d0, d1, d2⟩ := HX2.out.three
    obtain ⟨y0, y1, y2⟩ := HX2.out.froz3
    have hl2 := HX2.out.lt
    go_wp2_with fail
    refine bodyPost_ret (res_tab rfl _ _ w.heap.size rfl (HX2.out.all3 _ _ _)) rfl ?_
    exact TabPost.no HN1.out (below_three HB2.out (Nat.le_refl _) _ _ _)
  · have hse : s.toList.isEmpty = false := by rw [ByteArray.toList_eq, List.isEmpty_eq_false_iff]; exact h0
    have HSC := hide (HSH.out W2 a1 c1 (owns_rd HO2.out) hc1 (Nat.lt_of_lt_of_le hw0 HB2.out.size) (hide (hTb.out.below HB2.out hw0)))
    have H0 := hide h0
    clear h0 HSH
    obtain ⟨t0, t1, t2⟩ := HT2.out.three
    by_cases hsh : VS = bl s
    · have HN2 := hide (HY.out H0.out hsh)
      have hbe : (!(VS == s.toList)) = false := by rw [Bool.not_eq_false', beq_iff_eq, ByteArray.toList_eq]; exact hsh
      clear hsh HN HY
      go_wp2_with fail
      refine HSC.out.mono ?_
      rintro e w3 ⟨rfl, hb3⟩
      have HB3 := hide (HB2.out.trans (hb3.mono HB2.out.size))
      have HX3 := hide (HX2.out.below hb3 HX2.out.lt)
      have HT3 := hide (HT2.out.below hb3 HT2.out.lt)
      have HO3 := hide (HO2.out.below hb3 (Nat.le_refl _))
      clear hb3 t0 t1 t2
      obtain ⟨t0, t1, t2⟩ := HT3.out.three
      obtain ⟨d0, d1, d2⟩ := HX3.out.three
      obtain ⟨y0, y1, y2⟩ := HX3.out.froz3
      have hl3 := HX3.out.lt
      go_wp2_with fail
      refine bodyPost_ret (res_tab rfl _ _ w.heap.size rfl (HX3.out.all3 _ _ _)) rfl ?_
      refine ⟨.slice a1 n c1, by rw [HN2.out.1, HN2.out.2]; rfl, ?_, below_three HB3.out (Nat.le_refl _) _ _ _⟩
      rw [HN2.out.1]
      exact (((HO3.out.set_other (p := ⟨w.heap.size, 0, none⟩) (by show w.heap.size < _; omega) _).set_other (p := ⟨w.heap.size, 1, none⟩) (by show w.heap.size < _; omega) _).set_other (p := ⟨w.heap.size, 2, none⟩) (by show w.heap.size < _; omega) _).mono (by omega)
    · have HN1 := hide (HN.out (.inr hsh))
      have hbe : (!(VS == s.toList)) = true := by rw [ne_str hsh]; rfl
      clear hsh HN HY
      go_wp2_with fail
      refine HSC.out.mono ?_
      rintro e w3 ⟨rfl, hb3⟩
      have HB3 := hide (HB2.out.trans (hb3.mono HB2.out.size))
      have HX3 := hide (HX2.out.below hb3 HX2.out.lt)
      clear hb3 t0 t1 t2
      obtain ⟨d0, d1, d2⟩ := HX3.out.three
      obtain ⟨y0, y1, y2⟩ := HX3.out.froz3
      have hl3 := HX3.out.lt
      go_wp2_with fail
      refine bodyPost_ret (res_tab rfl _ _ w.heap.size rfl (HX3.out.all3 _ _ _)) rfl ?_
      exact TabPost.no HN1.out (below_three HB3.out (Nat.le_refl _) _ _ _)
end Go.Proofs.YtdlkgpobjacgeaaGreatDoor

/-
  A table that is being drawn: its box, its parts, the cursor.
-/
namespace Go.Proofs.YtdlkgpobjacgeaaGreatDoor
open Go.ChangeShapes Go.WideShapes Go.ChangeAt Go.RowKit

theorem tblV_some (L : List En) : (tblV L).1.length ≤ 10 ∧ (∀ x ∈ (tblV L).1, x.2.size ≤ 1200) ∧ (tblV L).2.1.size ≤ 16 ∧ 0 ≤ (tblV L).2.2 ∧ (tblV L).2.2 ≤ 1000000 := by
  refine ⟨tblV_len L, ?_⟩
  by_cases h : tblOk L
  · rw [tblV_yes h]
    obtain ⟨h1, h2, h3⟩ := tbl_bds (isTbl_mk' h).1
    refine ⟨fun x hx => ?_, by have e : (bl (tblOf L).2.1).length = (tblOf L).2.1.size := rfl; omega, h2, h3⟩
    have hx' : x ∈ chunks L ((L.length + 5) / 6) := hx
    unfold chunks at hx'
    obtain ⟨i, _, rfl⟩ := List.mem_map.1 hx'
    show (⟨(showK _).toArray⟩ : ByteArray).size ≤ 1200
    rw [size_of]
    exact showK_len _
  · rw [tblV_no h]
    exact ⟨fun x hx => by simp [zeroT] at hx, by show (⟨#[]⟩ : ByteArray).size ≤ 16; decide, by decide, by decide⟩

/-- some table: eleven parts at most, its texts not longer than a reader takes -/
def tabSome (P : List Prt) (b : ByteArray) : Prop := P.length ≤ 11 ∧ (∀ x ∈ P, x.2.size ≤ 1203) ∧ b.size ≤ 19
def TblDrawn (B g : Nat) (a : Option Addr) (cap : Nat) (bs : List Int) (w : World) (e : Ending) (w' : World) : Prop :=
  ∃ v P b m, e = .returned (.agg #[v, .string b, .int .i64 m]) ∧ elPart.Owns w.heap.size w' v P ∧ tabSome P b ∧ CurS B g a cap bs w' ∧ Turned g w w'

structure TS (B g : Nat) (a : Option Addr) (cap : Nat) (bs : List Int) (w : World) (gt : Nat) (v : Value) (P : List Prt) (b : ByteArray) (m : Int) (W : World) : Prop where
  cur : CurS B g a cap bs W
  turned : Turned g w W
  res : BoxV 26 W w.heap.size #[.slice none 0 0, .string ⟨#[]⟩, .int .i64 0]
  box : BoxV 26 W gt #[v, .string b, .int .i64 m]
  own : elPart.Owns w.heap.size W v P
  lg : g < w.heap.size
  lt : w.heap.size < gt
section
variable {B g : Nat} {a : Option Addr} {cap : Nat} {bs : List Int} {w : World} {gt : Nat} {v : Value} {P : List Prt} {b : ByteArray} {m : Int} {W W' : World}
theorem TS.turn (h : TS B g a cap bs w gt v P b m W) (hc : CurS B g a cap bs W') (ht : Turned g W W') : TS B g a cap bs w gt v P b m W' := by
  have h1 := h.lg
  have h2 := h.lt
  have h3 := h.turned.size
  refine ⟨hc, h.turned.trans ht, (ht.block _ h.res.lt (fun e => by have := Option.some.inj e; omega)).trans h.res, (ht.block _ h.box.lt (fun e => by have := Option.some.inj e; omega)).trans h.box, h.own.turned ht h1, h1, h2⟩
theorem TS.below (h : TS B g a cap bs w gt v P b m W) (hb : Below W.heap.size W W') : TS B g a cap bs w gt v P b m W' :=
  ⟨h.cur.keep (hb.mono h.cur.lt), h.turned.then_below (hb.mono h.turned.size) (Nat.le_refl _), h.res.below hb h.res.lt, h.box.below hb h.box.lt, h.own.below hb (Nat.le_refl _), h.lg, h.lt⟩
theorem TS.alloc (h : TS B g a cap bs w gt v P b m W) (o : Obj) : TS B g a cap bs w gt v P b m (W.alloc o) := h.below ((Below.refl _ _).alloc (Nat.le_refl _) _)
theorem TS.drew (h : TS B g a cap bs w gt v P b m W) : TS B g a cap bs w gt v P b m W.drew := by
  obtain ⟨c, hc⟩ := h.cur
  exact ⟨⟨c, hc.drew⟩, h.turned.drew, h.res, h.box, h.own, h.lg, h.lt⟩
/-- the row's block is no box of a table -/
theorem own_ne_tab {D q : Nat} {vs : Array Value} (h : elPart.Owns D W v P) (hx : BoxV 26 W q vs) : ∀ k, v.ownBlock = some k → k ≠ q := by
  intro k hk e
  subst e
  obtain ⟨_, cs, e2⟩ := h.type k hk
  have h1 : W.heap[k]? = _ := hx
  rw [h1] at e2
  injection e2 with e2
  injection e2 with _ e3
  exact absurd e3 (by decide)
/-- a store into the table's box -/
theorem TS.set {o : Nat} {q : Value} {v' : Value} {P' : List Prt} {b' : ByteArray} {m' : Int} (h : TS B g a cap bs w gt v P b m W) (hx : BoxV 26 (W.setCell ⟨gt, o, none⟩ q) gt #[v', .string b', .int .i64 m']) (ho : elPart.Owns w.heap.size W v' P') : TS B g a cap bs w gt v' P' b' m' (W.setCell ⟨gt, o, none⟩ q) := by
  have h1 := h.lg
  have h2 := h.lt
  have hb : Below gt W (W.setCell ⟨gt, o, none⟩ q) := (Below.refl _ _).setCell (p := ⟨gt, o, none⟩) (Nat.le_refl gt) _
  exact ⟨h.cur.keep (hb.mono (by omega)), h.turned.then_below (hb.mono (by omega)) (Nat.le_refl _), h.res.below hb h2, hx, ho.set_ne (own_ne_tab ho h.box) _, h1, h2⟩
/-- behind an append to its parts: the box takes them -/
theorem TS.app {v' : Value} {P' : List Prt} (h : TS B g a cap bs w gt v P b m W) (hb : Below w.heap.size W W') (hr : BoxV 26 W' w.heap.size #[.slice none 0 0, .string ⟨#[]⟩, .int .i64 0]) (hx : BoxV 26 W' gt #[v, .string b, .int .i64 m]) (ho : elPart.Owns w.heap.size W' v' P') : TS B g a cap bs w gt v' P' b m (W'.setCell ⟨gt, 0, none⟩ v') := by
  have h1 := h.lg
  have h2 := h.lt
  have hc : Below gt W' (W'.setCell ⟨gt, 0, none⟩ v') := (Below.refl _ _).setCell (p := ⟨gt, 0, none⟩) (Nat.le_refl gt) _
  exact ⟨(h.cur.keep (hb.mono h1)).keep (hc.mono (by omega)), (h.turned.then_below hb (Nat.le_refl _)).then_below (hc.mono (by omega)) (Nat.le_refl _), hr.below hc h2, hx.set30 v', ho.set_ne (own_ne_tab ho hx) _, h1, h2⟩
/-- a store into the row of its parts -/
theorem TS.setRow {gr n c o : Nat} {q : Value} {P' : List Prt} (h : TS B g a cap bs w gt (.slice (some ⟨gr, 0, none⟩) n c) P b m W) (ho : elPart.Owns w.heap.size (W.setCell ⟨gr, o, none⟩ q) (.slice (some ⟨gr, 0, none⟩) n c) P') : TS B g a cap bs w gt (.slice (some ⟨gr, 0, none⟩) n c) P' b m (W.setCell ⟨gr, o, none⟩ q) := by
  have h1 := h.lg
  have h2 := h.lt
  have hg : w.heap.size ≤ gr := (h.own.lt gr rfl).1
  have n1 : gr ≠ gt := own_ne_tab h.own h.box gr rfl
  have n2 : gr ≠ w.heap.size := own_ne_tab h.own h.res gr rfl
  have hb : Below w.heap.size W (W.setCell ⟨gr, o, none⟩ q) := (Below.refl _ _).setCell (p := ⟨gr, o, none⟩) hg _
  exact ⟨h.cur.keep (hb.mono h1), h.turned.then_below hb (Nat.le_refl _), (heap_setCell_other W ⟨gr, o, none⟩ _ q (fun e => n2 e.symm)).trans h.res, (heap_setCell_other W ⟨gr, o, none⟩ _ q (fun e => n1 e.symm)).trans h.box, ho, h1, h2⟩
/-- the table is copied into the result's box -/
theorem TS.done (h : TS B g a cap bs w gt v P b m W) (u0 u1 u2 : Value) :
    elPart.Owns w.heap.size (((W.setCell ⟨w.heap.size, 0, none⟩ u0).setCell ⟨w.heap.size, 1, none⟩ u1).setCell ⟨w.heap.size, 2, none⟩ u2) v P ∧ CurS B g a cap bs (((W.setCell ⟨w.heap.size, 0, none⟩ u0).setCell ⟨w.heap.size, 1, none⟩ u1).setCell ⟨w.heap.size, 2, none⟩ u2) ∧ Turned g w (((W.setCell ⟨w.heap.size, 0, none⟩ u0).setCell ⟨w.heap.size, 1, none⟩ u1).setCell ⟨w.heap.size, 2, none⟩ u2) := by
  have hn := own_ne_tab h.own h.res
  have hb := below_three (Below.refl w.heap.size W) (Nat.le_refl _) u0 u1 u2
  exact ⟨((h.own.set_ne hn _).set_ne hn _).set_ne hn _, h.cur.keep (hb.mono h.lg), h.turned.then_below hb (Nat.le_refl _)⟩
end
/-- behind the statement that makes the table: its box -/
def KeptT (B g : Nat) (a : Option Addr) (cap : Nat) (bs : List Int) (w : World) (s4 : Value) (wF : World) : Prop :=
  ∃ (gt : Nat) (a6 : Option Addr) (y c6 : Nat) (P : List Prt) (b : ByteArray) (m : Int), s4 = .pointer (some ⟨gt, 0, none⟩) ∧ Hid (P.length = y) ∧ y ≤ 10 ∧ Hid (∀ x ∈ P, x.2.size ≤ 1200) ∧ b.size ≤ 16 ∧ 0 ≤ m ∧ m ≤ 1000000 ∧ Hid (TS B g a cap bs w gt (.slice a6 y c6) P b m wF)
/-- what the call of TableOf left, as a table that is being drawn wants it -/
structure TP (B g : Nat) (a : Option Addr) (cap : Nat) (bs : List Int) (w : World) (t : Tbl) (a6 : Option Addr) (c6 : Nat) (W : World) : Prop where
  cur : CurS B g a cap bs W
  turned : Turned g w W
  res : BoxV 26 W w.heap.size #[.slice none 0 0, .string ⟨#[]⟩, .int .i64 0]
  own : elPart.Owns (w.heap.size + 1) W (.slice a6 t.1.length c6) t.1
  lg : g < w.heap.size
  fit : t.1.length ≤ 10 ∧ (∀ x ∈ t.1, x.2.size ≤ 1200) ∧ t.2.1.size ≤ 16 ∧ 0 ≤ t.2.2 ∧ t.2.2 ≤ 1000000
section
variable {B g : Nat} {a : Option Addr} {cap : Nat} {bs : List Int} {w : World} {t : Tbl} {a6 : Option Addr} {c6 : Nat} {W : World}
theorem TP.late (h : TP B g a cap bs w t a6 c6 W) : KeptT B g a cap bs w (.pointer (some ⟨W.heap.size, 0, none⟩)) (W.alloc (.cells #[.slice a6 t.1.length c6, .string t.2.1, .int .i64 t.2.2] 26)) := by
  have hb := (Below.refl W.heap.size W).alloc (Nat.le_refl _) (.cells #[.slice a6 t.1.length c6, .string t.2.1, .int .i64 t.2.2] 26)
  obtain ⟨h1, h2, h3, h4, h5⟩ := h.fit
  exact ⟨W.heap.size, a6, _, c6, t.1, t.2.1, t.2.2, rfl, hide rfl, h1, hide h2, h3, h4, h5, hide ⟨h.cur.keep (hb.mono h.cur.lt), h.turned.then_below (hb.mono h.turned.size) (Nat.le_refl _), h.res.below hb h.res.lt, BoxV.new _ W _, (h.own.mono (Nat.le_succ _)).alloc _, h.lg, h.res.lt⟩⟩
theorem TP.early {q : Nat} {vs : Array Value} (h : TP B g a cap bs w t a6 c6 W) (hz : BoxV 26 W q vs) (hv : ∃ v0 v1 v2, vs = #[v0, v1, v2]) (hq : w.heap.size < q) :
    KeptT B g a cap bs w (.pointer (some ⟨q, 0, none⟩)) (((W.setCell ⟨q, 0, none⟩ (.slice a6 t.1.length c6)).setCell ⟨q, 1, none⟩ (.string t.2.1)).setCell ⟨q, 2, none⟩ (.int .i64 t.2.2)) := by
  obtain ⟨v0, v1, v2, rfl⟩ := hv
  obtain ⟨h1, h2, h3, h4, h5⟩ := h.fit
  have hn := own_ne_tab h.own hz
  have hb := below_three (Below.refl q W) (Nat.le_refl _) (.slice a6 t.1.length c6) (.string t.2.1) (.int .i64 t.2.2)
  exact ⟨q, a6, _, c6, t.1, t.2.1, t.2.2, rfl, hide rfl, h1, hide h2, h3, h4, h5, hide ⟨h.cur.keep (hb.mono (by have := h.lg; omega)), h.turned.then_below (hb.mono (Nat.le_of_lt hq)) (Nat.le_refl _), h.res.below hb hq, hz.all3 _ _ _, (((h.own.set_ne hn _).set_ne hn _).set_ne hn _).mono (Nat.le_succ _), h.lg, hq⟩⟩
end
end Go.Proofs.YtdlkgpobjacgeaaGreatDoor

/-
  Contract of spec.l12Some: some table, of which little is said.
-/
namespace Go.Proofs.YtdlkgpobjacgeaaGreatDoor
open Go.ChangeShapes Go.WideShapes Go.ChangeAt Go.RowKit

set_option maxHeartbeats 4000000 in
set_option maxRecDepth 40000 in
theorem l12Some_some {B g : Nat} {a : Option Addr} {cap : Nat} {bs : List Int} {w : World} (h : CurS B g a cap bs w) :
    Calls Tryz.prog 22 #[.pointer (some ⟨g, 0, none⟩)] w (TblDrawn B g a cap bs w) := by
  have hgw := h.lt
  have hb0 := (Below.refl w.heap.size w).alloc (Nat.le_refl _) (.cells #[.slice none 0 0, .string ⟨#[]⟩, .int .i64 0] 26)
  have HX0 := hide (BoxV.new 26 w #[.slice none 0 0, .string ⟨#[]⟩, .int .i64 0])
  have HT0 := hide (Turned.of_below (g := g) hb0 (Nat.le_refl _))
  have HC0 := hide (h.keep (hb0.mono (Nat.succ_le_of_lt hgw)))
  clear h hb0
  go_enter Tryz.func22, Tryz.ntmps22
  go_wp2_with fail
  refine (l9Some_some 20 (by omega) (by omega) HC0.out).mono ?_
  rintro e w1 ⟨v1, L, rfl, ho1, hl1, hc1, ht1⟩
  obtain ⟨a1, c1, rfl, hr1, hcp1, _⟩ := ho1.form
  have HC1 := hide hc1
  have HT1 := hide (HT0.out.trans ht1)
  have HX1 := hide (show BoxV 26 w1 w.heap.size _ from (ht1.block w.heap.size HX0.out.lt (fun e => by have := Option.some.inj e; omega)).trans HX0.out)
  have HR1 := hide hr1
  have hs1 := HX1.out.lt
  have HTO := hide (fun W (hb : Below w1.heap.size w1 W) => sTableOf_any a1 c1 L W ((HR1.out.below hb (Nat.le_refl _)).mono hb.size) (by unfold maxLen; omega) hcp1)
  have HTF := hide (tblV_some L)
  obtain ⟨t, ht⟩ : ∃ t, t = tblV L := ⟨_, rfl⟩
  obtain ⟨q, hq⟩ : ∃ q, q = decide (tblOk L) := ⟨_, rfl⟩
  rw [← ht, ← hq] at HTO
  rw [← ht] at HTF
  obtain ⟨y1, hy1⟩ : ∃ y1, y1 = L.length := ⟨_, rfl⟩
  rw [← hy1] at HTO ⊢
  clear ho1 hc1 ht1 hr1 hcp1 ht hq hy1 HX0 HT0 HC0 hl1
  go_upto_region 2 with (fail)
  go_cut [4, 5] from 9 to 13 (fun s4 s5 wF => KeptT B g a cap bs w s4 wF ∧ ∃ q : Bool, s5 = .bool q)
  case first =>
    go_wp2_with fail
    refine (HTO.out _ (Below.refl _ _)).mono ?_
    rintro e w2 ⟨v2, rfl, ho2, hb2⟩
    obtain ⟨a2, c2, rfl, _⟩ := ho2.form
    have HK2 := hide (TP.late ⟨HC1.out.keep (hb2.mono HC1.out.lt), HT1.out.then_below (hb2.mono HT1.out.size) (Nat.le_refl _), HX1.out.below hb2 hs1, ho2.mono hs1, hgw, HTF.out⟩)
    clear ho2 hb2 HC1 HT1 HX1 HTO
    go_wp2_with fail
    go_meet
    exact ⟨HK2.out, q, rfl⟩
  case rest =>
  obtain ⟨⟨gt, a6, y, c6, P, b, m, rfl, HP, hy, HPS, hb, hm0, hm1, HS⟩, q2, rfl⟩ := hcut
  clear HC1 HT1 HX1 HTO HTF HR1 hs1
  obtain ⟨d0, d1, d2⟩ := HS.out.box.three
  have hlx := HS.out.box.lt
  by_cases hy0 : 0 < y
  · have hyi : (0 : Int) < (y : Int) := by omega
    go_wp2_with fail
    refine (once_some 8 (by omega) HS.out.cur).mono ?_
    rintro e w4 ⟨b4, rfl, hc4, ht4⟩
    have HS4 := hide (HS.out.turn hc4 ht4)
    clear hc4 ht4 HS d0 d1 d2 hlx
    obtain ⟨d0, d1, d2⟩ := HS4.out.box.three
    obtain ⟨r0, r1, r2⟩ := HS4.out.res.three
    obtain ⟨z0, z1, z2⟩ := HS4.out.res.froz3
    have hlx := HS4.out.box.lt
    have hlr := HS4.out.res.lt
    cases b4 with
    | false =>
      obtain ⟨ho, hc, ht⟩ := HS4.out.done (.slice a6 y c6) (.string b) (.int .i64 m)
      go_wp2_with fail
      refine bodyPost_ret (res_tab1 rfl _ _ w.heap.size rfl (HS4.out.res.all3 _ _ _)) rfl ?_
      exact ⟨_, P, b, m, rfl, ho, ⟨by have := HP.out; omega, fun x hx => Nat.le_trans (HPS.out x hx) (by omega), by omega⟩, hc, ht⟩
    | true =>
      go_wp2_with fail
      refine (below_some y hy0 (by omega) HS4.out.cur).mono ?_
      rintro e w5 ⟨k, hk, rfl, hc5, ht5⟩
      have HS5 := hide (HS4.out.turn hc5 ht5)
      clear hc5 ht5 HS4 d0 d1 d2 hlx r0 r1 r2 z0 z1 z2 hlr
      go_wp2_with fail
      refine (below_some 5 (by omega) (by omega) HS5.out.cur).mono ?_
      rintro e w6 ⟨x, hx6, rfl, hc6, ht6⟩
      have HS6 := hide (HS5.out.turn hc6 ht6)
      clear hc6 ht6 HS5
      obtain ⟨d0, d1, d2⟩ := HS6.out.box.three
      obtain ⟨gr, rfl, hgr, hgz⟩ := HS6.out.own.pos (by have := HP.out; omega)
      obtain ⟨f0, f1, hx⟩ := partsPart (P[k]'(by have := HP.out; omega))
      have HQ := hide (show P[k]? = some (f0, f1) by rw [List.getElem?_eq_getElem (by have := HP.out; omega), hx])
      have HF := hide (HPS.out _ (List.mem_of_getElem? HQ.out))
      have hkn : (k : Int) < (y : Int) := by omega
      have hk0 : (0 : Int) ≤ (k : Int) := by omega
      have hlx := HS6.out.box.lt
      have hxx : x = 0 ∨ x = 1 ∨ x = 2 ∨ x = 3 ∨ x = 4 := by omega
      clear hx
      rcases hxx with rfl | rfl | rfl | rfl | rfl
      · clear hx6
        go_upto_region 8 with (fail)
        go_region_held3 (fun w' => (w'.cell? ⟨gt, 0, none⟩ = some (.slice (some ⟨gr, 0, none⟩) y c6) ∧ w'.cell? ⟨gt, 1, none⟩ = some (.string b) ∧ w'.cell? ⟨gt, 2, none⟩ = some (.int .i64 m)))
          (first
            | with_reducible exact HS6.out.box.three
            | with_reducible exact HS6.out.box.drew.three
            | with_reducible exact HS7.out.box.three
            | with_reducible exact HS8.out.box.three)
          (first
            | (go_at_call 23
               refine (l7Key_some HS6.out.drew.cur).mono ?_
               rintro e w7 ⟨ky, rfl, hc7, ht7⟩
               have HS7 := hide (HS6.out.drew.turn hc7 ht7)
               obtain ⟨e0, e1⟩ := cellsXPart (o := k * 2) (HS7.out.own.cellsAt HP.out k _ HQ.out)
               have u0 := HS7.out.own.frozenAt HP.out (k * 2)
               have HS8 := hide (HS7.out.setRow (o := k * 2) (q := .string ky) (HS7.out.own.setAt HP.out k _ HQ.out 0 (by decide) (.string ky) (ky, f1) rfl))
               clear hc7 ht7))
        all_goals
          clear HS7 d0 d1 d2 hlx
          obtain ⟨d0, d1, d2⟩ := HS8.out.box.three
          obtain ⟨r0, r1, r2⟩ := HS8.out.res.three
          obtain ⟨z0, z1, z2⟩ := HS8.out.res.froz3
          have hlx := HS8.out.box.lt
          have hlr := HS8.out.res.lt
          obtain ⟨ho, hc, ht⟩ := HS8.out.done (.slice (some ⟨gr, 0, none⟩) y c6) (.string b) (.int .i64 (m))
          go_wp2_with fail
          refine bodyPost_ret (res_tab1 rfl _ _ w.heap.size rfl (HS8.out.res.all3 _ _ _)) rfl ?_
          refine ⟨_, _, b, m, rfl, ho, ⟨by rw [List.length_set]; have := HP.out; omega, fun x hx => ?_, by omega⟩, hc, ht⟩
          rcases List.mem_or_eq_of_mem_set hx with h | rfl
          · exact Nat.le_trans (HPS.out x h) (by omega)
          · exact Nat.le_trans HF.out (by omega)
      · clear hx6
        have HB := hide (fun cc => cSpoil_len bs (bl f1) cc)
        rw [bl_len] at HB
        have hf1 : f1.size ≤ 1200 := HF.out
        have HE6 := (cellsXPart (o := k * 2) (HS6.out.own.cellsAt HP.out k _ HQ.out)).2
        have HE6d : w6.drew.cell? ⟨gr, k * 2 + 1, none⟩ = some (.string f1) := HE6
        go_upto_region 10 with (fail)
        go_region_law
          (first
            | (go_simp
               go_at_call 48
               obtain ⟨cc, hcc⟩ := HS6.out.drew.cur
               refine (l1Spoil_cur f1 (by omega) hcc).mono ?_
               rintro e w7 ⟨rfl, ht7, hc7⟩
               have HS7 := hide (HS6.out.drew.turn hc7 ht7)
               have hs7 := HB.out cc
               obtain ⟨sp, hsp⟩ : ∃ sp : ByteArray, sp = ⟨(cSpoil bs (bl f1) cc).toArray⟩ := ⟨_, rfl⟩
               have hsz : sp.size ≤ 1203 := by rw [hsp, size_of]; omega
               rw [← hsp]
               obtain ⟨e0, e1⟩ := cellsXPart (o := k * 2) (HS7.out.own.cellsAt HP.out k _ HQ.out)
               have u0 := HS7.out.own.frozenAt HP.out (k * 2 + 1)
               obtain ⟨x0, x1, x2⟩ := HS7.out.box.three
               have HS8 := hide (HS7.out.setRow (o := k * 2 + 1) (q := .string sp) (HS7.out.own.setAt HP.out k _ HQ.out 1 (by decide) (.string sp) (f0, sp) rfl))
               clear hc7 ht7 hcc hsp))
        all_goals
          clear HS7 d0 d1 d2 hlx
          obtain ⟨d0, d1, d2⟩ := HS8.out.box.three
          obtain ⟨r0, r1, r2⟩ := HS8.out.res.three
          obtain ⟨z0, z1, z2⟩ := HS8.out.res.froz3
          have hlx := HS8.out.box.lt
          have hlr := HS8.out.res.lt
          obtain ⟨ho, hc, ht⟩ := HS8.out.done (.slice (some ⟨gr, 0, none⟩) y c6) (.string b) (.int .i64 (m))
          go_wp2_with fail
          refine bodyPost_ret (res_tab1 rfl _ _ w.heap.size rfl (HS8.out.res.all3 _ _ _)) rfl ?_
          refine ⟨_, _, b, m, rfl, ho, ⟨by rw [List.length_set]; have := HP.out; omega, fun x hx => ?_, by omega⟩, hc, ht⟩
          rcases List.mem_or_eq_of_mem_set hx with h | rfl
          · exact Nat.le_trans (HPS.out x h) (by omega)
          · exact hsz
      · clear hx6
        obtain ⟨cc, hcc⟩ := HS6.out.cur
        have HB := hide (cSpoil_len bs (bl b) cc)
        rw [bl_len] at HB
        go_wp2_with fail
        refine (l1Spoil_cur b (by omega) hcc).mono ?_
        rintro e w7 ⟨rfl, ht7, hc7⟩
        have HS7 := hide (HS6.out.turn hc7 ht7)
        obtain ⟨sp, hsp⟩ : ∃ sp : ByteArray, sp = ⟨(cSpoil bs (bl b) cc).toArray⟩ := ⟨_, rfl⟩
        have hsz : sp.size ≤ 19 := by rw [hsp, size_of]; have := HB.out; omega
        rw [← hsp]
        have HS8 := hide (HS7.out.set (o := 1) (q := .string sp) (HS7.out.box.set31 _) HS7.out.own)
        have u0 := HS7.out.box.froz3.2.1
        have u1 := HS7.out.box.three.2.1
        have u2 := HS7.out.box.lt
        clear hc7 ht7 hcc HB hsp HS6 d0 d1 d2 hlx
        obtain ⟨d0, d1, d2⟩ := HS8.out.box.three
        obtain ⟨r0, r1, r2⟩ := HS8.out.res.three
        obtain ⟨z0, z1, z2⟩ := HS8.out.res.froz3
        have hlx := HS8.out.box.lt
        have hlr := HS8.out.res.lt
        obtain ⟨ho, hc, ht⟩ := HS8.out.done (.slice (some ⟨gr, 0, none⟩) y c6) (.string sp) (.int .i64 (m))
        go_wp2_with fail
        refine bodyPost_ret (res_tab1 rfl _ _ w.heap.size rfl (HS8.out.res.all3 _ _ _)) rfl ?_
        exact ⟨_, P, sp, m, rfl, ho, ⟨by have := HP.out; omega, fun x hx => Nat.le_trans (HPS.out x hx) (by omega), hsz⟩, hc, ht⟩
      · clear hx6
        have HS8 := hide (HS6.out.set (o := 2) (q := .int .i64 (m + 1)) (HS6.out.box.set32 _) HS6.out.own)
        have u0 := HS6.out.box.froz3.2.2
        have u1 := d2
        have u2 := HS6.out.box.lt
        have hmw : IntKind.i64.wrap (m + 1) = m + 1 := by rw [IntKind.wrap_i64]; omega
        clear HS6 d0 d1 hlx
        obtain ⟨p0, p1, p2⟩ := HS8.out.box.three
        obtain ⟨r0, r1, r2⟩ := HS8.out.res.three
        obtain ⟨z0, z1, z2⟩ := HS8.out.res.froz3
        have hlx := HS8.out.box.lt
        have hlr := HS8.out.res.lt
        obtain ⟨ho, hc, ht⟩ := HS8.out.done (.slice (some ⟨gr, 0, none⟩) y c6) (.string b) (.int .i64 (m + 1))
        go_wp2_with fail
        refine bodyPost_ret (res_tab1 rfl _ _ w.heap.size rfl (HS8.out.res.all3 _ _ _)) rfl ?_
        exact ⟨_, P, b, m + 1, rfl, ho, ⟨by have := HP.out; omega, fun x hx => Nat.le_trans (HPS.out x hx) (by omega), by omega⟩, hc, ht⟩
      · clear hx6
        obtain ⟨e0, e1⟩ := cellsXPart (o := k * 2) (HS6.out.own.cellsAt HP.out k _ HQ.out)
        have HM := hide (show (P ++ [(f0, f1)]).length = y + 1 by rw [List.length_append, HP.out]; rfl)
        go_upto_region 6 with (fail)
        go_region_law
          (first
            | (have HA6 := hide (HS6.out.drew.alloc (.cells #[.string f0, .string f1] 59))
               refine El.stepSrc (e := elPart) rfl (.tmp 30) (.tmp 36) 24 rfl Tryz.underlying24 _ _ infoPart rfl (by decide) (by decide) w.heap.size (w6.drew.alloc (.cells #[.string f0, .string f1] 59)) (w6.drew.alloc (.cells #[.string f0, .string f1] 59)) _ _ 1 1 P [(f0, f1)] rfl rfl rfl (hide HA6.out.own) (fun j u h => El.lit_cells elPart w6.drew [(f0, f1)] _ rfl j u h) (hide (Below.refl _ _)) HA6.out.turned.size _ (y + 1) rfl HM.out (by omega) ?_
               intro a9 c9 w9 HO9 HB9 hz9 HN9
               have HX9 := hide (HA6.out.box.other HA6.out.own (by decide) HN9.out)
               have HR9 := hide (HA6.out.res.other HA6.out.own (by decide) HN9.out)
               have u0 := HX9.out.frozen 0
               have u1 := HX9.out.three.1
               have u2 := HX9.out.lt
               have HS8 := hide (HA6.out.app HB9.out HR9.out HX9.out HO9.out)))
        all_goals
          clear d0 d1 d2 hlx
          obtain ⟨d0, d1, d2⟩ := HS8.out.box.three
          obtain ⟨r0, r1, r2⟩ := HS8.out.res.three
          obtain ⟨z0, z1, z2⟩ := HS8.out.res.froz3
          have hlx := HS8.out.box.lt
          have hlr := HS8.out.res.lt
          obtain ⟨ho, hc, ht⟩ := HS8.out.done (.slice a9 (y + 1) c9) (.string b) (.int .i64 (m))
          go_wp2_with fail
          refine bodyPost_ret (res_tab1 rfl _ _ w.heap.size rfl (HS8.out.res.all3 _ _ _)) rfl ?_
          refine ⟨_, _, b, m, rfl, ho, ⟨by have := HM.out; omega, fun x hx => ?_, by omega⟩, hc, ht⟩
          rcases List.mem_append.1 hx with h | h
          · exact Nat.le_trans (HPS.out x h) (by omega)
          · rw [List.mem_singleton] at h
            subst h
            exact Nat.le_trans HF.out (by omega)
  · obtain rfl : y = 0 := by omega
    obtain ⟨r0, r1, r2⟩ := HS.out.res.three
    obtain ⟨z0, z1, z2⟩ := HS.out.res.froz3
    have hlr := HS.out.res.lt
    obtain ⟨ho, hc, ht⟩ := HS.out.done (.slice a6 0 c6) (.string b) (.int .i64 m)
    go_wp2_with fail
    refine bodyPost_ret (res_tab1 rfl _ _ w.heap.size rfl (HS.out.res.all3 _ _ _)) rfl ?_
    exact ⟨_, P, b, m, rfl, ho, ⟨by have := HP.out; omega, fun x hx => Nat.le_trans (HPS.out x hx) (by omega), by omega⟩, hc, ht⟩
end Go.Proofs.YtdlkgpobjacgeaaGreatDoor

/-
  Contracts of spec.DrawTableGet and DrawReadTable: what the law needs of them.
-/
namespace Go.Proofs.YtdlkgpobjacgeaaGreatDoor
open Go.ChangeShapes Go.WideShapes Go.ChangeAt Go.RowKit

theorem prts_len : ∀ {P : List Prt}, (∀ p ∈ P, (bl p.1).length ≤ 10 ∧ (bl p.2).length ≤ 500) → (prtsL P).length ≤ 1000 * P.length := by
  intro P
  induction P with
  | nil => intro _; simp [prtsL]
  | cons p P ih =>
    intro h
    obtain ⟨h1, h2⟩ := h p (by simp)
    have h3 := ih fun q hq => h q (by simp [hq])
    rw [bl_len] at h1 h2
    have l1 := piece_len (s := p.1) (by omega)
    have l2 := piece_len (s := p.2) (by omega)
    unfold prtsL at h3 ⊢
    rw [List.flatMap_cons, List.length_append, List.length_append, List.length_cons]
    omega
theorem showT_len (t : Tbl) : (showT t).length ≤ 10100 := by
  by_cases h : isTbl t
  · have h1 := (tbl_bds h).1
    have h2 := (parts_len h).2
    have h3 := prts_len (text_len h)
    have h4 := varL_len7 t.1.length (by omega)
    have h5 := varL_len7 t.2.2.toNat (by have := tbl_bds h; omega)
    rw [showT_yes h]
    simp only [List.length_append]
    omega
  · unfold showT
    rw [if_neg h]
    exact Nat.zero_le _

theorem l7Key_len {B g : Nat} {a : Option Addr} {cap : Nat} {bs : List Int} {w : World} (h : CurS B g a cap bs w) :
    Calls Tryz.prog 23 #[.pointer (some ⟨g, 0, none⟩)] w fun e w' => ∃ s : ByteArray, e = .returned (.string s) ∧ s.size ≤ 3 ∧ CurS B g a cap bs w' ∧ Turned g w w' := by
  have H := hide h
  clear h
  have HL := hide (show ∀ s ∈ ([⟨#[97]⟩, ⟨#[98]⟩, ⟨#[97, 98]⟩, ⟨#[97, 98, 99]⟩, ⟨#[98, 48]⟩, ⟨#[99]⟩, ⟨#[0]⟩, ⟨#[122, 122]⟩] : List ByteArray), s.size ≤ 3 by
    intro s hs
    simp only [List.mem_cons, List.not_mem_nil, or_false] at hs
    rcases hs with rfl | rfl | rfl | rfl | rfl | rfl | rfl | rfl <;> decide)
  go_enter Tryz.func23, Tryz.ntmps23
  go_wp2_with fail
  refine (pick_new 8 _ [⟨#[97]⟩, ⟨#[98]⟩, ⟨#[97, 98]⟩, ⟨#[97, 98, 99]⟩, ⟨#[98, 48]⟩, ⟨#[99]⟩, ⟨#[0]⟩, ⟨#[122, 122]⟩] rfl (by omega) (by omega) rfl H.out).mono ?_
  rintro e w1 ⟨s, hs, rfl, hc1, ht1⟩
  have HC1 := hide hc1
  have HT1 := hide ht1
  have HS := hide (HL.out s hs)
  clear hc1 ht1 hs HL
  go_wp2_with fail
  go_ret
  exact ⟨s, rfl, HS.out, HC1.out, HT1.out⟩

theorem turned_undrew {g : Nat} {w w' : World} (h : Turned g w.drew w') : Turned g w w' := ⟨h.os, h.tape, h.output, h.size, h.block⟩
theorem box_three {T : TypeId} {w : World} {g q : Nat} {vs : Array Value} (h : BoxV T w g vs) (hg : g ≠ q) (u0 u1 u2 : Value) : BoxV T (((w.setCell ⟨q, 0, none⟩ u0).setCell ⟨q, 1, none⟩ u1).setCell ⟨q, 2, none⟩ u2) g vs :=
  (heap_setCell_other _ ⟨q, 2, none⟩ _ u2 hg).trans ((heap_setCell_other _ ⟨q, 1, none⟩ _ u1 hg).trans ((heap_setCell_other _ ⟨q, 0, none⟩ _ u0 hg).trans h))
/-- a result that is a table in a block of its own, and two values -/
theorem res_tab3 {fn : Func} {p u x : Tmp} (h : fn.results = #[.cell p 26, .tmp u, .tmp x]) (tmps : Array Value) (w : World) (g : Nat) (ht : tmps.getD p undef = .pointer (some ⟨g, 0, none⟩)) {v0 v1 v2 : Value} (hx : BoxV 26 w g #[v0, v1, v2]) :
    (results fn tmps).run Tryz.prog w = .ok (.tuple #[.agg #[v0, v1, v2], tmps.getD u undef, tmps.getD x undef]) w := by
  obtain ⟨c0, c1, c2⟩ := hx.three
  rw [Array.getD_eq_getD_getElem?] at ht
  simp only [results, h]
  simp [ht, go_sem, c0, c1, c2]

def GetDrawn (w : World) (e : Ending) (w' : World) : Prop :=
  ∃ v P b m k q, e = .returned (.tuple #[.agg #[v, .string b, .int .i64 m], .string k, .int .i64 q]) ∧ elPart.Owns w.heap.size w' v P ∧ tabSome P b ∧ k.size ≤ 3 ∧ Below w.heap.size w w'
def TxtDrawn (w : World) (e : Ending) (w' : World) : Prop := ∃ s : ByteArray, e = .returned (.string s) ∧ s.size ≤ 1048576 ∧ Below w.heap.size w w'

set_option maxHeartbeats 2000000 in
set_option maxRecDepth 20000 in
theorem drawTableGet_any {B : Nat} (a : Option Addr) (cap : Nat) (bs : List Int) (w : World) (hB : B ≤ w.heap.size) (hc : CodeAt B w a bs) (hm : bs.length ≤ 1048576) :
    Calls Tryz.prog 6 #[.slice a bs.length cap] w (GetDrawn w) := by
  have hb0 := (Below.refl w.heap.size w).alloc (Nat.le_refl _) (.cells #[.slice none 0 0, .string ⟨#[]⟩, .int .i64 0] 26)
  have HX0 := hide (BoxV.new 26 w #[.slice none 0 0, .string ⟨#[]⟩, .int .i64 0])
  have H := hide (hc.below (hb0.mono hB))
  have HB0 := hide hb0
  have hB' := Nat.le_trans hB hb0.size
  clear hc hb0
  go_enter Tryz.func6, Tryz.ntmps6
  go_wp2_with fail
  refine (l1New_any a cap bs _ hB' H.out hm).mono ?_
  rintro e w1 ⟨rfl, hc1, hb1⟩
  rw [Go.Deep.nblk_alloc] at hc1 ⊢
  have HC1 := hide (show CurS B (w.heap.size + 1) a cap bs w1 from ⟨_, hc1⟩)
  have HB1 := hide (HB0.out.trans (hb1.mono HB0.out.size))
  have HX1 := hide (HX0.out.below hb1 HX0.out.lt)
  have hs1 := hc1.lt
  clear hc1 hb1 HB0 HX0 H
  go_wp2_with fail
  refine (l12Some_some HC1.out).mono ?_
  rintro e w2 ⟨v, P, b, m, rfl, ho2, hs2, hc2, ht2⟩
  have HB2 := hide (HB1.out.trans (ht2.below (by omega) HB1.out.size))
  have HX2 := hide (show BoxV 26 w2 w.heap.size _ from (ht2.block w.heap.size HX1.out.lt (fun e => by have := Option.some.inj e; omega)).trans HX1.out)
  obtain ⟨a2, c2, rfl, _⟩ := ho2.form
  obtain ⟨W, hW⟩ : ∃ W, W = w2.alloc (.cells #[.slice a2 P.length c2, .string b, .int .i64 m] 26) := ⟨_, rfl⟩
  have hbW : Below w2.heap.size w2 W := hW ▸ (Below.refl _ _).alloc (Nat.le_refl _) _
  have HBW := hide (HB2.out.trans (hbW.mono HB2.out.size))
  have HXW := hide (HX2.out.below hbW HX2.out.lt)
  have HYW := hide (show BoxV 26 W w2.heap.size #[.slice a2 P.length c2, .string b, .int .i64 m] from hW ▸ BoxV.new _ w2 _)
  have HOW := hide (ho2.below hbW (Nat.le_refl _))
  have HCW := hide (hc2.keep (hbW.mono hc2.lt))
  have HS := hide hs2
  have hs3 : w.heap.size + 1 < w2.heap.size := hc2.lt
  clear ho2 hc2 ht2 hs2 HB1 HX1 HC1 HB2 HX2 hbW
  go_wp2_with fail
  rw [← hW]
  clear hW
  refine (l7Key_len HCW.out).mono ?_
  rintro e w3 ⟨k, rfl, hk, hc3, ht3⟩
  have HB3 := hide (HBW.out.trans (ht3.below (by omega) HBW.out.size))
  have HX3 := hide (show BoxV 26 w3 w.heap.size _ from (ht3.block w.heap.size HXW.out.lt (fun e => by have := Option.some.inj e; omega)).trans HXW.out)
  have HY3 := hide (show BoxV 26 w3 w2.heap.size _ from (ht3.block w2.heap.size HYW.out.lt (fun e => by have := Option.some.inj e; omega)).trans HYW.out)
  have HO3 := hide (HOW.out.turned ht3 hs1)
  have HC3 := hide hc3
  clear hc3 ht3 HBW HXW HYW HOW HCW
  have HC3d := hide (show CurS B (w.heap.size + 1) a cap bs w3.drew from CurS.drewN HC3.out 1)
  obtain ⟨d0, d1, d2⟩ := HY3.out.three
  go_wp2_with fail
  go_region_held3 (fun w' => w'.cell? ⟨w2.heap.size, 0, none⟩ = some (.slice a2 P.length c2) ∧ w'.cell? ⟨w2.heap.size, 1, none⟩ = some (.string b) ∧ w'.cell? ⟨w2.heap.size, 2, none⟩ = some (.int .i64 m))
    (first
      | with_reducible exact HY3.out.three
      | with_reducible exact HY3.out.drew.three
      | with_reducible exact HY4.out.three
      | with_reducible exact HY5.out.three)
    (first
      | (go_at_call 24
         refine (below_some 22 (by omega) (by omega) HC3d.out).mono ?_
         rintro e w4 ⟨x, hx, rfl, hc4, ht4⟩
         have hb4 := (turned_undrew ht4).below (B := w.heap.size) (by omega) HB3.out.size
         have HB4 := hide (HB3.out.trans hb4)
         have HX4 := hide (show BoxV 26 w4 w.heap.size _ from (ht4.block w.heap.size HX3.out.lt (fun e => by have := Option.some.inj e; omega)).trans HX3.out)
         have HY4 := hide (show BoxV 26 w4 w2.heap.size _ from (ht4.block w2.heap.size HY3.out.lt (fun e => by have := Option.some.inj e; omega)).trans HY3.out)
         have HO4 := hide (HO3.out.drew.turned ht4 hs1)
         obtain ⟨r0, r1, r2⟩ := HX4.out.three
         obtain ⟨z0, z1, z2⟩ := HX4.out.froz3
         have hlr := HX4.out.lt
         have hl5 := HY4.out.lt
         have HY5 := hide (show BoxV 26 (((w4.setCell ⟨w.heap.size, 0, none⟩ (.slice a2 P.length c2)).setCell ⟨w.heap.size, 1, none⟩ (.string b)).setCell ⟨w.heap.size, 2, none⟩ (.int .i64 m)) w2.heap.size _ from box_three HY4.out (by omega) _ _ _)
         clear hc4 ht4 hb4))
  all_goals
    have ho := ((HO4.out.set_other (p := ⟨w.heap.size, 0, none⟩) (by show w.heap.size < w1.heap.size; omega) (.slice a2 P.length c2)).set_other (p := ⟨w.heap.size, 1, none⟩) (by show w.heap.size < w1.heap.size; omega) (.string b)).set_other (p := ⟨w.heap.size, 2, none⟩) (by show w.heap.size < w1.heap.size; omega) (.int .i64 m)
    go_wp2_with fail
    refine bodyPost_ret (res_tab3 rfl _ _ w.heap.size rfl (HX4.out.all3 _ _ _)) rfl ?_
    exact ⟨_, P, b, m, k, x, rfl, ho.mono (by omega), HS.out, hk, below_three HB4.out (Nat.le_refl _) _ _ _⟩

set_option maxHeartbeats 2000000 in
set_option maxRecDepth 20000 in
theorem drawReadTable_any {B : Nat} (a : Option Addr) (cap : Nat) (bs : List Int) (w : World) (hB : B ≤ w.heap.size) (hc : CodeAt B w a bs) (hm : bs.length ≤ 1048576) :
    Calls Tryz.prog 14 #[.slice a bs.length cap] w (TxtDrawn w) := by
  have H := hide hc
  clear hc
  go_enter Tryz.func14, Tryz.ntmps14
  go_wp2_with fail
  refine (l1New_any a cap bs w hB H.out hm).mono ?_
  rintro e w1 ⟨rfl, hc1, hb1⟩
  have HC1 := hide (show CurS B w.heap.size a cap bs w1 from ⟨_, hc1⟩)
  have HB1 := hide hb1
  clear hc1 hb1
  go_wp2_with fail
  refine (l12Some_some HC1.out).mono ?_
  rintro e w3 ⟨v3, P, b, m, rfl, ho3, hs3, hc3, ht3⟩
  have HB3 := hide (HB1.out.trans (ht3.below (Nat.le_refl _) HB1.out.size))
  have HC3 := hide hc3
  obtain ⟨a3, c3, rfl, hrd, _⟩ := ho3.form
  have HSH := hide (sShowTable_any a3 c3 P b m w3 hrd (by have := hs3.1; omega) (fun x hx => Nat.le_trans (hs3.2.1 x hx) (by omega)))
  have hVl := showT_len (P, b, m)
  obtain ⟨V, hV⟩ : ∃ V, V = showT (P, b, m) := ⟨_, rfl⟩
  rw [← hV] at HSH hVl
  clear ho3 hc3 ht3 hrd hV hs3
  go_wp2_with fail
  refine HSH.out.mono ?_
  rintro e w4 ⟨rfl, hb4⟩
  have HB4 := hide (HB3.out.trans (hb4.mono HB3.out.size))
  have HC4 := hide (HC3.out.keep (hb4.mono HC3.out.lt))
  clear hb4
  go_wp2_with fail
  refine (once_some 3 (by omega) HC4.out).mono ?_
  rintro e w5 ⟨q, rfl, hc5, ht5⟩
  have HB5 := hide (HB4.out.trans (ht5.below (Nat.le_refl _) HB4.out.size))
  obtain ⟨cc, hcc⟩ := hc5
  have HC5 := hide hcc
  clear hcc ht5
  cases q with
  | false =>
    go_wp2_with fail
    go_ret
    exact ⟨_, rfl, by rw [size_of V]; omega, HB5.out⟩
  | true =>
    go_wp2_with fail
    refine (l1Spoil_cur ⟨V.toArray⟩ (by rw [size_of V]; omega) HC5.out).mono ?_
    rintro e w6 ⟨rfl, ht6, _⟩
    have HB6 := hide (HB5.out.trans (ht6.below (Nat.le_refl _) HB5.out.size))
    have HS := hide (cSpoil_len bs (bl ⟨V.toArray⟩) cc)
    rw [bl_of V] at HS
    clear ht6
    go_wp2_with fail
    go_ret
    exact ⟨_, rfl, by rw [size_of]; exact Nat.le_trans HS.out (by omega), HB6.out⟩
end Go.Proofs.YtdlkgpobjacgeaaGreatDoor

/-
  Contracts of impl.searchParts under the closure of TableGet and, where the table of the program holds its sixteen words, of impl.TableGet.
-/
namespace Go.Proofs.YtdlkgpobjacgeaaGreatDoor
open Go.ChangeShapes Go.WideShapes Go.ChangeAt Go.RowKit

/-- what a search leaves: an entry in its box, and how many parts were read -/
def SearchP (ge : Nat) (w : World) (r : En × Nat) (e : Ending) (w' : World) : Prop :=
  e = .returned (.int .i64 (r.2 : Int)) ∧ BoxV 30 w' ge #[.string r.1.1, .int .i64 r.1.2.1, .bool r.1.2.2.1, .string r.1.2.2.2] ∧ Only (some ge) w w'
theorem only_cell {ge : Nat} {w w' : World} (h : Only (some ge) w w') {p : Addr} (hp : p.block < w.heap.size) (hne : p.block ≠ ge) : w'.cell? p = w.cell? p := by
  unfold World.cell?
  rw [h.block p.block hp (fun e => hne (Option.some.inj e))]

set_option maxHeartbeats 4000000 in
set_option maxRecDepth 40000 in
theorem searchParts_any (gk gs ge b off cap : Nat) (P : List PartE) (key : ByteArray) (q : Int) (w : World) (hr : elPart.Rd w w.heap.size (some ⟨b, off, none⟩) P) (h0 : 0 < P.length) (hl : P.length ≤ 1000000) (hcap : P.length ≤ cap) (hP : PrtOk P) (hsz : ∀ x ∈ P, x.2.size ≤ 1048576)
    (hk : w.cell? ⟨gk, 0, none⟩ = some (.string key)) (hs : w.cell? ⟨gs, 0, none⟩ = some (.int .i64 q)) (he : BoxV 30 w ge #[.string ⟨#[]⟩, .int .i64 0, .bool false, .string ⟨#[]⟩]) (hkge : gk ≠ ge) (hsge : gs ≠ ge) (hbge : b ≠ ge) :
    Calls Tryz.prog 26 #[.slice (some ⟨b, off, none⟩) P.length cap, .string key, .func (.func 27) #[] #[.pointer (some ⟨gk, 0, none⟩), .pointer (some ⟨gs, 0, none⟩), .pointer (some ⟨ge, 0, none⟩)]] w (SearchP ge w (runG key q (P.drop (firstP key P)))) := by
  have HR := hide hr
  have HSZ := hide hsz
  obtain ⟨_, _, eb, hbw, _⟩ := hr h0
  injection eb with eb
  injection eb with eb1 eb2
  subst eb1 eb2
  have lk := World.block_lt_of_cell? w _ hk
  have ls := World.block_lt_of_cell? w _ hs
  have HGE := hide (fun (i : Nat) (x : PartE) (h : P[i]? = some x) (hi : firstP key P ≤ i) => firstP_ge hP h hi)
  have hq := firstP_le key P
  have HSR := hide (fun gp W hp hk hr => search_any gp (w.heap.size + 1) b off cap P key W hp hk hr hl hP)
  obtain ⟨r, hrr⟩ : ∃ r, r = runG key q (P.drop (firstP key P)) := ⟨_, rfl⟩
  have HRR := hide hrr
  rw [← hrr]
  obtain ⟨fq, hfq⟩ : ∃ fq, fq = firstP key P := ⟨_, rfl⟩
  rw [← hfq] at HGE hq HSR HRR
  obtain ⟨n, hn⟩ : ∃ n, n = P.length := ⟨_, rfl⟩
  have HN := hide hn
  rw [← hn] at h0 hl hcap hq HSR ⊢
  have HK := hide hk
  have HS := hide hs
  have HE0 := hide he
  -- the two boxes
  have HB0 := hide (((Below.refl w.heap.size w).alloc (Nat.le_refl _) (.cells #[.slice (some ⟨b, off, none⟩) n cap] 24)).alloc (by simp) (.cells #[.string key] 9))
  have hp0 : ((w.alloc (.cells #[.slice (some ⟨b, off, none⟩) n cap] 24)).alloc (.cells #[.string key] 9)).cell? ⟨w.heap.size, 0, none⟩ = some (.slice (some ⟨b, off, none⟩) n cap) := ((BoxV.new 24 w #[.slice (some ⟨b, off, none⟩) n cap]).alloc _).cell 0 _ rfl
  have hk0 : ((w.alloc (.cells #[.slice (some ⟨b, off, none⟩) n cap] 24)).alloc (.cells #[.string key] 9)).cell? ⟨w.heap.size + 1, 0, none⟩ = some (.string key) := by
    have h := (BoxV.new 9 (w.alloc (.cells #[.slice (some ⟨b, off, none⟩) n cap] 24)) #[.string key]).cell 0 _ rfl
    rw [Go.Deep.nblk_alloc] at h
    exact h
  obtain ⟨W0, hW0⟩ : ∃ W0, W0 = (w.alloc (.cells #[.slice (some ⟨b, off, none⟩) n cap] 24)).alloc (.cells #[.string key] 9) := ⟨_, rfl⟩
  have hsz0 : W0.heap.size = w.heap.size + 2 := by rw [hW0]; simp
  rw [← hW0] at HB0 hp0 hk0
  have HP0 := hide hp0
  have HK0 := hide hk0
  have HS0 := hide hsz0
  have hel := he.lt
  clear hr hsz hP hk hs he hrr hfq hn hp0 hk0 hsz0
  go_enter Tryz.func26, Tryz.ntmps26
  go_upto_region 1 with (fail)
  rw [← hW0]
  clear hW0
  have hp0 := HP0.out
  go_wp2_with fail
  refine (HSR.out _ _ HP0.out HK0.out ((HR.out.below HB0.out (Nat.le_refl _)).mono HB0.out.size)).mono ?_
  rintro e w2 ⟨rfl, hb2⟩
  have HB2 := hide (HB0.out.trans (hb2.mono HB0.out.size))
  have HP2 := hide ((hb2.cell (p := ⟨w.heap.size, 0, none⟩) (by show w.heap.size < _; have := HS0.out; omega)).trans HP0.out)
  have HK2 := hide ((hb2.cell (p := ⟨w.heap.size + 1, 0, none⟩) (by show w.heap.size + 1 < _; have := HS0.out; omega)).trans HK0.out)
  have hsz2 : w.heap.size + 2 ≤ w2.heap.size := by have := HS0.out; have := hb2.size; omega
  have HE2 := hide (HE0.out.below HB2.out hel)
  clear hb2 HSR HP0 HK0 hp0
  have hp2 := HP2.out
  obtain ⟨aR, haR⟩ : ∃ aR, aR = if cap = fq then some (⟨b, off, none⟩ : Addr) else some ⟨b, off + fq * 2, none⟩ := ⟨_, rfl⟩
  have hsl : ∀ W : World, (Instr.slice 24 (.slice (some ⟨b, off, none⟩) n cap) (some (.int .i64 (fq : Int))) none none).run Tryz.prog W = .ok (.slice aR (n - fq) (cap - fq)) W := fun W => by
    obtain ⟨i0, hi0, hz0, hz1, hz2⟩ := info_parts infoPart
    rw [run_slice_l (P := Tryz.prog) W 24 (some ⟨b, off, none⟩) n cap (by kernel_rfl) .i64 (fq : Int) (by omega) (by omega)]
    rw [show Tryz.prog.elem 24 = 59 by kernel_rfl, haR]
    by_cases hcf : cap = fq
    · simp [sizeOf, typeInfo, hi0, hz1, sliced, hcf]
    · simp [sizeOf, typeInfo, hi0, hz1, sliced, hcf, Addr.add]
  have HAR := hide haR
  obtain ⟨m, hm⟩ : ∃ m, m = n - fq := ⟨_, rfl⟩
  have HM := hide hm
  rw [← hm] at hsl
  clear haR hm
  go_wp2_with fail
  go_loopw [18] (fun i wr => ∃ j : Nat, i = .int .i64 j ∧ j ≤ m ∧ Hid (r = ((runG key q (P.drop (fq + j))).1, j + (runG key q (P.drop (fq + j))).2)) ∧ Hid (BoxV 30 wr ge #[.string ⟨#[]⟩, .int .i64 0, .bool false, .string ⟨#[]⟩]) ∧ Hid (Only (some ge) w2 wr)) (fun i _ => m - (intOf i).toNat)
  case atStart => exact ⟨0, rfl, by omega, by rw [Nat.add_zero, Nat.zero_add]; exact HRR.out, HE2.out, Only.refl _ _⟩
  case round =>
    obtain ⟨j, rfl, hj, HRN, HE, HO⟩ := hrel
    have hsr := HO.out.size
    have hwge : ge < w2.heap.size := HE2.out.lt
    have HOW := hide (show Only (some ge) w wr from ((Only.refl (some ge) w).then_below HB2.out (Nat.le_refl _)).trans HO.out)
    by_cases hlt : j < m
    · have hjn : fq + j < n := by have := HM.out; omega
      have hjP : fq + j < P.length := by rw [← HN.out]; exact hjn
      obtain ⟨f0, f1, hx⟩ := partsPart (P[fq + j]'hjP)
      have HJ := hide (show P[fq + j]? = some (f0, f1) by rw [List.getElem?_eq_getElem hjP, hx])
      obtain ⟨_, _, e, _, hc⟩ := HR.out (by omega)
      injection e with e
      injection e with e1 e2
      subst e1 e2
      obtain ⟨c0, c1⟩ := cellsPart hx (hc (fq + j) hjP)
      obtain rfl : aR = some ⟨b, off + fq * 2, none⟩ := by rw [HAR.out, if_neg (by omega)]
      have haddr : off + (fq + j) * 2 = off + fq * 2 + j * 2 := by omega
      rw [haddr] at c0 c1
      have d0 := (only_cell HOW.out (p := ⟨b, off + fq * 2 + j * 2, none⟩) hbw hbge).trans c0
      have d1 := (only_cell HOW.out (p := ⟨b, off + fq * 2 + j * 2 + 1, none⟩) hbw hbge).trans c1
      have kk := (only_cell HOW.out (p := ⟨gk, 0, none⟩) lk hkge).trans HK.out
      have ss := (only_cell HOW.out (p := ⟨gs, 0, none⟩) ls hsge).trans HS.out
      have hf1 := HSZ.out _ (List.mem_of_getElem? HJ.out)
      dsimp only at hf1
      have HCN := hide (runG_cons (k := key) (n := q) HJ.out)
      have hlb : Op.bytesLess f0.toList key.toList = false := HGE.out (fq + j) _ HJ.out (by omega)
      -- the part in its box
      have HX5' := BoxV.new 59 wr #[.string f0, .string f1]
      have HE5' := HE.out.alloc (.cells #[.string f0, .string f1] 59)
      have HO5' : Only (some ge) w2 (wr.alloc (.cells #[.string f0, .string f1] 59)) := HO.out.then_below ((Below.refl wr.heap.size wr).alloc (Nat.le_refl _) _) hsr
      have kk5' := (World.cell?_alloc_lt wr (.cells #[.string f0, .string f1] 59) ⟨gk, 0, none⟩ (World.block_lt_of_cell? wr _ kk)).trans kk
      have ss5' := (World.cell?_alloc_lt wr (.cells #[.string f0, .string f1] 59) ⟨gs, 0, none⟩ (World.block_lt_of_cell? wr _ ss)).trans ss
      obtain ⟨W5, hW5⟩ : ∃ W5, W5 = wr.alloc (.cells #[.string f0, .string f1] 59) := ⟨_, rfl⟩
      rw [← hW5] at HX5' HE5' HO5' kk5' ss5'
      have HX5 := hide HX5'
      have HE5 := hide HE5'
      have HO5 := hide HO5'
      have HOW5 := hide (show Only (some ge) w W5 from ((Only.refl (some ge) w).then_below HB2.out (Nat.le_refl _)).trans HO5')
      obtain ⟨⟨z0, z1, z2, z3⟩, hzz⟩ : ∃ z, z = (getE key q (readK (bl f1))).getD zeroE := ⟨_, rfl⟩
      have HFD := hide (found_any gk gs ge f0 f1 key q W5.drew kk5' ss5' HE5'.drew hf1 z0 z1 z2 z3 hzz.symm)
      unfold FoundP at HFD
      have hgx : wr.heap.size ≠ ge := by omega
      have hbx : wr.heap.size < W5.heap.size := HX5'.lt
      have HD6 := hide (fun (w6 : World) (h : Only (some ge) W5 w6) => show (w6.cell? ⟨wr.heap.size, 0, none⟩ = some (.string f0) ∧ w6.cell? ⟨wr.heap.size, 1, none⟩ = some (.string f1)) ∧ w6.cell? ⟨w.heap.size + 1, 0, none⟩ = some (.string key) from
        ⟨⟨(only_cell h (p := ⟨wr.heap.size, 0, none⟩) hbx hgx).trans HX5.out.two'.1, (only_cell h (p := ⟨wr.heap.size, 1, none⟩) hbx hgx).trans HX5.out.two'.2⟩,
          (only_cell h (p := ⟨w.heap.size + 1, 0, none⟩) (by show w.heap.size + 1 < _; omega) (by show w.heap.size + 1 ≠ ge; omega)).trans ((only_cell HO5.out (p := ⟨w.heap.size + 1, 0, none⟩) (by show w.heap.size + 1 < _; omega) (by show w.heap.size + 1 ≠ ge; omega)).trans HK2.out)⟩)
      have HZZ := hide hzz
      obtain ⟨fb, hfb⟩ : ∃ fb, fb = (getE key q (readK (bl f1))).isSome := ⟨_, rfl⟩
      have HFB := hide hfb
      rw [← hfb] at HFD
      obtain ⟨e, hge⟩ : ∃ e, e = getE key q (readK (bl f1)) := ⟨_, rfl⟩
      simp only [← hge] at HZZ HCN HFB
      have hmeth := method_lastKey f0 f1
      clear HX5' HE5' HO5' kk5' ss5' hzz hfb hge HE HO kk ss c0 c1 hc hx haddr
      cases e with
      | some y =>
        obtain rfl : fb = true := HFB.out
        have HRy := hide (show r = ((z0, z1, z2, z3), j + 1) by rw [HRN.out, HCN.out, HZZ.out]; rfl)
        go_upto_region 5 with (fail)
        rw [← hW5]
        clear hW5 d0 d1 hmeth
        refine wp_region_held_drew (S := fun w' => (w'.cell? ⟨wr.heap.size, 0, none⟩ = some (.string f0) ∧ w'.cell? ⟨wr.heap.size, 1, none⟩ = some (.string f1)) ∧ w'.cell? ⟨w.heap.size + 1, 0, none⟩ = some (.string key)) (by kernel_rfl) (HD6.out _ (Only.refl _ _).drew) (fun hHeld => ?_)
        refine wpAnyH_take (i := 0) (v := ?_) rfl (by kernel_rfl) (by kernel_rfl) (by kernel_rfl) (fun _ _ _ h => h) (Or.inl ⟨by rfl, ?_⟩) (by assumption) ?_
        rotate_left 1
        · intro w hSw
          (try dsimp only at hSw)
          go_simp
          try with_reducible rfl
        go_simp
        refine wpAnyH_take (i := 1) (v := ?_) rfl (by kernel_rfl) (by kernel_rfl) (by kernel_rfl) (fun _ _ _ h => h) (Or.inl ⟨by rfl, ?_⟩) (by assumption) ?_
        rotate_left 1
        · intro w hSw
          (try dsimp only at hSw)
          go_simp
          try with_reducible rfl
        go_simp
        refine wpAnyH_ready (rs := [2]) (by kernel_rfl) (by simp) ?_
        refine AllReadyH.cons rfl (fun K hK => ?_) AllReadyH.nil
        go_simp
        go_at_call 27
        refine HFD.out.mono ?_
        rintro e w6 ⟨rfl, hx6, ho6⟩
        have HE6 := hide hx6
        have HO6 := hide (Only.of_drew ho6)
        clear hx6 ho6 hHeld
        refine hK.out _ _ (HD6.out _ HO6.out) (fun hHeld => ?_)
        clear hK K
        go_simp
        refine wpAnyH_take (i := 3) (v := ?_) rfl (by kernel_rfl) (by kernel_rfl) (by kernel_rfl) (fun _ _ _ h => h) (Or.inl ⟨by rfl, ?_⟩) (by assumption) ?_
        rotate_left 1
        · intro w hSw
          (try dsimp only at hSw)
          go_simp
          try with_reducible rfl
        go_simp
        refine wpAnyH_take (i := 4) rfl (by kernel_rfl) (by kernel_rfl) (by kernel_rfl) (fun _ _ _ h => h) (Or.inr ⟨by rfl, rfl⟩) (by assumption) ?_
        go_simp
        refine wpAnyH_take (i := 5) rfl (by kernel_rfl) (by kernel_rfl) (by kernel_rfl) (fun _ _ _ h => h) (Or.inr ⟨by rfl, rfl⟩) (by assumption) ?_
        go_simp
        refine wpAnyH_take (i := 6) rfl (by kernel_rfl) (by kernel_rfl) (by kernel_rfl) (fun _ _ _ h => h) (Or.inr ⟨by rfl, rfl⟩) (by assumption) ?_
        go_simp
        refine wpAnyH_take (i := 7) rfl (by kernel_rfl) (by kernel_rfl) (by kernel_rfl) (fun _ _ _ h => h) (Or.inr ⟨by rfl, rfl⟩) (by assumption) ?_
        go_simp
        refine wpAnyH_take (i := 8) rfl (by kernel_rfl) (by kernel_rfl) (by kernel_rfl) (fun _ _ _ h => h) (Or.inr ⟨by rfl, rfl⟩) (by assumption) ?_
        go_simp
        refine wpAnyH_take (i := 9) (v := ?_) rfl (by kernel_rfl) (by kernel_rfl) (by kernel_rfl) (fun _ _ _ h => h) (Or.inl ⟨by rfl, ?_⟩) (by assumption) ?_
        rotate_left 1
        · intro w hSw
          (try dsimp only at hSw)
          go_simp
          try with_reducible rfl
        go_simp
        refine wpAnyH_done (by kernel_rfl) ?_ _
        clear hHeld
        go_wp2_with fail
        go_ret
        rw [HRy.out]
        exact ⟨rfl, HE6.out, HOW5.out.trans HO6.out⟩
      | none =>
        obtain rfl : fb = false := HFB.out
        obtain ⟨rfl, rfl, rfl, rfl⟩ : z0 = ⟨#[]⟩ ∧ z1 = 0 ∧ z2 = false ∧ z3 = ⟨#[]⟩ := by
          have h := HZZ.out
          simp only [Option.getD_none, zeroE, Prod.mk.injEq] at h
          exact h
        go_upto_region 5 with (fail)
        rw [← hW5]
        clear hW5 d0 d1
        refine wp_region_held_drew (S := fun w' => (w'.cell? ⟨wr.heap.size, 0, none⟩ = some (.string f0) ∧ w'.cell? ⟨wr.heap.size, 1, none⟩ = some (.string f1)) ∧ w'.cell? ⟨w.heap.size + 1, 0, none⟩ = some (.string key)) (by kernel_rfl) (HD6.out _ (Only.refl _ _).drew) (fun hHeld => ?_)
        refine wpAnyH_take (i := 0) (v := ?_) rfl (by kernel_rfl) (by kernel_rfl) (by kernel_rfl) (fun _ _ _ h => h) (Or.inl ⟨by rfl, ?_⟩) (by assumption) ?_
        rotate_left 1
        · intro w hSw
          (try dsimp only at hSw)
          go_simp
          try with_reducible rfl
        go_simp
        refine wpAnyH_take (i := 1) (v := ?_) rfl (by kernel_rfl) (by kernel_rfl) (by kernel_rfl) (fun _ _ _ h => h) (Or.inl ⟨by rfl, ?_⟩) (by assumption) ?_
        rotate_left 1
        · intro w hSw
          (try dsimp only at hSw)
          go_simp
          try with_reducible rfl
        go_simp
        refine wpAnyH_ready (rs := [2]) (by kernel_rfl) (by simp) ?_
        refine AllReadyH.cons rfl (fun K hK => ?_) AllReadyH.nil
        go_simp
        go_at_call 27
        refine HFD.out.mono ?_
        rintro e w6 ⟨rfl, hx6, ho6⟩
        have HE6 := hide hx6
        have HO6 := hide (Only.of_drew ho6)
        clear hx6 ho6 hHeld
        refine hK.out _ _ (HD6.out _ HO6.out) (fun hHeld => ?_)
        clear hK K
        go_simp
        refine wpAnyH_take (i := 3) (v := ?_) rfl (by kernel_rfl) (by kernel_rfl) (by kernel_rfl) (fun _ _ _ h => h) (Or.inl ⟨by rfl, ?_⟩) (by assumption) ?_
        rotate_left 1
        · intro w hSw
          (try dsimp only at hSw)
          go_simp
          try with_reducible rfl
        go_simp
        refine wpAnyH_take (i := 4) (v := ?_) rfl (by kernel_rfl) (by kernel_rfl) (by kernel_rfl) (fun _ _ _ h => h) (Or.inl ⟨by rfl, ?_⟩) (by assumption) ?_
        rotate_left 1
        · intro w hSw
          (try dsimp only at hSw)
          go_simp
          try with_reducible rfl
        go_simp
        refine wpAnyH_take (i := 5) (v := ?_) rfl (by kernel_rfl) (by kernel_rfl) (by kernel_rfl) (fun _ _ _ h => h) (Or.inl ⟨by rfl, ?_⟩) (by assumption) ?_
        rotate_left 1
        · intro w hSw
          (try dsimp only at hSw)
          go_simp
          try with_reducible rfl
        go_simp
        refine wpAnyH_take (i := 7) (v := ?_) rfl (by kernel_rfl) (by kernel_rfl) (by kernel_rfl) (fun _ _ _ h => h) (Or.inl ⟨by rfl, ?_⟩) (by assumption) ?_
        rotate_left 1
        · intro w hSw
          (try dsimp only at hSw)
          go_simp
          try with_reducible rfl
        go_simp
        refine wpAnyH_ready (rs := [6]) (by kernel_rfl) (by simp) ?_
        refine AllReadyH.cons rfl (fun K hK => ?_) AllReadyH.nil
        go_simp
        go_at_call 142
        refine (lastKey_any f0 f1 _).mono ?_
        rintro e w7 ⟨rfl, hb7⟩
        have HO7 := hide (HO6.out.then_below hb7 HO6.out.size)
        have HE7 := hide (HE6.out.below hb7 HE6.out.lt)
        clear hb7 hHeld
        refine hK.out _ _ (HD6.out _ HO7.out) (fun hHeld => ?_)
        clear hK K
        go_simp
        by_cases hgt : kless key f0 = true
        · have HRy := hide (show r = (zeroE, j + 1) by rw [HRN.out, HCN.out]; dsimp only; rw [if_pos hgt])
          have hge : (f0.toList == key.toList) = false := by
            rw [str_eqB, decide_eq_false]
            rintro rfl
            rw [kless_irrefl] at hgt
            cases hgt
          clear hgt
          refine wpAnyH_take (i := 8) (v := ?_) rfl (by kernel_rfl) (by kernel_rfl) (by kernel_rfl) (fun _ _ _ h => h) (Or.inl ⟨by rfl, ?_⟩) (by assumption) ?_
          rotate_left 1
          · intro w hSw
            (try dsimp only at hSw)
            go_simp
            try with_reducible rfl
          go_simp
          refine wpAnyH_take (i := 9) (v := ?_) rfl (by kernel_rfl) (by kernel_rfl) (by kernel_rfl) (fun _ _ _ h => h) (Or.inl ⟨by rfl, ?_⟩) (by assumption) ?_
          rotate_left 1
          · intro w hSw
            (try dsimp only at hSw)
            go_simp
            try with_reducible rfl
          go_simp
          refine wpAnyH_done (by kernel_rfl) ?_ _
          clear hHeld
          go_wp2_with fail
          go_ret
          rw [HRy.out]
          exact ⟨rfl, HE7.out, HOW5.out.trans HO7.out⟩
        · have HRy := hide (show r = ((runG key q (P.drop (fq + (j + 1)))).1, (j + 1) + (runG key q (P.drop (fq + (j + 1)))).2) by
            rw [HRN.out, HCN.out]
            dsimp only
            rw [if_neg hgt]
            dsimp only
            rw [show fq + j + 1 = fq + (j + 1) by omega, show j + ((runG key q (P.drop (fq + (j + 1)))).2 + 1) = j + 1 + (runG key q (P.drop (fq + (j + 1)))).2 by omega])
          have hge : (f0.toList == key.toList) = true := by
            rw [str_eqB, decide_eq_true]
            exact kless_tri hlb (by rw [← Bool.not_eq_true]; exact hgt)
          clear hgt
          refine wpAnyH_take (i := 8) (v := ?_) rfl (by kernel_rfl) (by kernel_rfl) (by kernel_rfl) (fun _ _ _ h => h) (Or.inl ⟨by rfl, ?_⟩) (by assumption) ?_
          rotate_left 1
          · intro w hSw
            (try dsimp only at hSw)
            go_simp
            try with_reducible rfl
          go_simp
          refine wpAnyH_take (i := 9) (v := ?_) rfl (by kernel_rfl) (by kernel_rfl) (by kernel_rfl) (fun _ _ _ h => h) (Or.inl ⟨by rfl, ?_⟩) (by assumption) ?_
          rotate_left 1
          · intro w hSw
            (try dsimp only at hSw)
            go_simp
            try with_reducible rfl
          go_simp
          refine wpAnyH_done (by kernel_rfl) ?_ _
          clear hHeld
          go_wp2_with fail
          go_roundw
          case rel => exact ⟨j + 1, by go_num, by omega, HRy, HE7, hide (HO5.out.trans HO7.out)⟩
          case measure => simp [intOf]; omega
    · obtain rfl : j = m := by omega
      have HRy := hide (show r = (zeroE, j) by
        rw [HRN.out, List.drop_of_length_le (by rw [← HN.out]; have := HM.out; omega)]
        rfl)
      have hp3 := (only_cell HO.out (p := ⟨w.heap.size, 0, none⟩) (by show w.heap.size < _; omega) (by show w.heap.size ≠ ge; omega)).trans HP2.out
      have hsub : IntKind.i64.wrap ((n : Int) - (fq : Int)) = (j : Int) := by rw [IntKind.wrap_i64]; have := HM.out; omega
      have hsub2 : (n : Int) - (fq : Int) = (j : Int) := by have := HM.out; omega
      have hwj : IntKind.i64.wrap (j : Int) = (j : Int) := by rw [IntKind.wrap_i64]; have := HM.out; omega
      go_wp2_with fail
      go_ret
      rw [HRy.out]
      exact ⟨rfl, HE.out, HOW.out⟩
end Go.Proofs.YtdlkgpobjacgeaaGreatDoor

/-
  Contract of impl.TableGet, where the table of the program holds its sixteen words.
-/
namespace Go.Proofs.YtdlkgpobjacgeaaGreatDoor
open Go.ChangeShapes Go.WideShapes Go.ChangeAt Go.RowKit

/-- behind the boxes that TableGet lays -/
theorem get_boxes (w : World) (v0 : Value) (b key : ByteArray) (m q : Int) : ∃ W, W = (((w.alloc (.cells #[v0, .string b, .int .i64 m] 26)).alloc (.cells #[.string key] 9)).alloc (.cells #[.int .i64 q] 3)).alloc (.cells #[.string ⟨#[]⟩, .int .i64 0, .bool false, .string ⟨#[]⟩] 30) ∧ Below w.heap.size w W ∧ W.heap.size = w.heap.size + 4 ∧
    BoxV 26 W w.heap.size #[v0, .string b, .int .i64 m] ∧ BoxV 9 W (w.heap.size + 1) #[.string key] ∧ BoxV 3 W (w.heap.size + 2) #[.int .i64 q] ∧ BoxV 30 W (w.heap.size + 3) #[.string ⟨#[]⟩, .int .i64 0, .bool false, .string ⟨#[]⟩] := by
  refine ⟨_, rfl, (((((Below.refl _ _).alloc (Nat.le_refl _) _).alloc (by simp) _).alloc (by simp <;> omega) _).alloc (by simp <;> omega) _), by simp, ?_, ?_, ?_, ?_⟩
  · exact (((BoxV.new 26 w _).alloc _).alloc _).alloc _
  · have h := ((BoxV.new 9 (w.alloc (.cells #[v0, .string b, .int .i64 m] 26)) #[.string key]).alloc (.cells #[.int .i64 q] 3)).alloc (.cells #[.string ⟨#[]⟩, .int .i64 0, .bool false, .string ⟨#[]⟩] 30)
    simp only [Go.Deep.nblk_alloc] at h
    exact h
  · have h := (BoxV.new 3 ((w.alloc (.cells #[v0, .string b, .int .i64 m] 26)).alloc (.cells #[.string key] 9)) #[.int .i64 q]).alloc (.cells #[.string ⟨#[]⟩, .int .i64 0, .bool false, .string ⟨#[]⟩] 30)
    simp only [Go.Deep.nblk_alloc] at h
    exact h
  · have h := BoxV.new 30 (((w.alloc (.cells #[v0, .string b, .int .i64 m] 26)).alloc (.cells #[.string key] 9)).alloc (.cells #[.int .i64 q] 3)) #[.string ⟨#[]⟩, .int .i64 0, .bool false, .string ⟨#[]⟩]
    simp only [Go.Deep.nblk_alloc] at h
    exact h

set_option maxHeartbeats 4000000 in
set_option maxRecDepth 40000 in
theorem iTableGet_any (a : Option Addr) (cap : Nat) (P : List PartE) (b key : ByteArray) (m q : Int) (w : World) (hr : elPart.Rd w w.heap.size a P) (hl : P.length ≤ maxLen) (hcap : P.length ≤ cap) (hk : ∀ x ∈ P, x.2.size ≤ 1048576) (hb : b.size ≤ maxLen) (hkey : key.size ≤ 1048576) (hw0 : 0 < w.heap.size) (hTb : Hid (CrcTabIn w)) :
    Calls Tryz.prog 7 #[.agg #[.slice a P.length cap, .string b, .int .i64 m], .string key, .int .i64 q] w (GetPost w (getT (P, b, m) key q)) := by
  have HR := hide hr
  have HKS := hide hk
  have HTE := hide (fun W h hz ht => iTableEnts_any a cap P b m W h hl hcap hk hz ht)
  unfold TEPost at HTE
  have HMY := hide (fun W hz ht => iMay_any b key W hb hkey hz ht)
  obtain ⟨r, hrr⟩ : ∃ r, r = getT (P, b, m) key q := ⟨_, rfl⟩
  have HV := hide hrr
  rw [← hrr]
  have hn0 : P.length = P.length := rfl
  obtain ⟨n, hn⟩ : ∃ n, n = P.length := ⟨_, rfl⟩
  have HN := hide hn
  rw [← hn] at hl hcap HTE ⊢
  clear hn hr hk hrr hn0
  obtain ⟨W0, hW0, hbB, hsz0, hbX, hbK, hbS, hbE⟩ := get_boxes w (.slice a n cap) b key m q
  have HB0 := hide hbB
  have HX0 := hide hbX
  have HK0 := hide hbK
  have HS0 := hide hbS
  have HE0 := hide hbE
  have HZ0 := hide hsz0
  have HEQ := hide (HTE.out _ ((HR.out.below HB0.out (Nat.le_refl _)).mono HB0.out.size) (Nat.lt_of_lt_of_le hw0 HB0.out.size) (hide (hTb.out.below HB0.out hw0)))
  obtain ⟨tq, htq⟩ : ∃ tq, tq = tabQ (P, b, m) := ⟨_, rfl⟩
  obtain ⟨mq, hmq⟩ : ∃ mq, mq = mayV (bl b) (bl key) := ⟨_, rfl⟩
  have HTQ := hide htq
  have HMQ := hide hmq
  rw [← htq] at HEQ
  rw [← hmq] at HMY
  clear htq hmq HTE hbB hbX hbK hbS hbE hsz0
  have HNO := hide (show ¬ (tq = true ∧ mq = true) → r = (zeroE, 0) from fun h => HV.out.trans (getT_no fun h2 => h ⟨HTQ.out.trans (tabQ_iff.2 h2.1), HMQ.out.trans h2.2⟩))
  go_enter Tryz.func7, Tryz.ntmps7
  go_upto_region 1 with (fail)
  rw [← hW0]
  clear hW0
  obtain ⟨x0, x1, x2⟩ := HX0.out.three
  go_wp2_with fail
  refine HEQ.out.mono ?_
  rintro e w1 ⟨v, rfl, ho, hb1⟩
  obtain ⟨a1, c1, rfl, _⟩ := ho.form
  have HX1 := hide (HX0.out.below hb1 HX0.out.lt)
  have HK1 := hide (HK0.out.below hb1 HK0.out.lt)
  have HS1 := hide (HS0.out.below hb1 HS0.out.lt)
  have HE1 := hide (HE0.out.below hb1 HE0.out.lt)
  have HB1 := hide (HB0.out.trans (hb1.mono HB0.out.size))
  have hsz1 : w.heap.size + 4 ≤ w1.heap.size := by have := HZ0.out; have := hb1.size; omega
  clear ho hb1 HX0 HK0 HS0 HE0 HB0 HEQ x0 x1 x2
  obtain ⟨x0, x1, x2⟩ := HX1.out.three
  have k0 := HK1.out.cell 0 _ rfl
  cases tq with
  | false =>
    have HZ := hide (HNO.out (fun h => by cases h.1))
    obtain ⟨y0, y1, y2, y3⟩ := HE1.out.froz4
    obtain ⟨d0, d1, d2, d3⟩ := HE1.out.four'
    have hl1 := HE1.out.lt
    go_wp2_with fail
    refine bodyPost_ret (res_ent' rfl _ _ (w.heap.size + 3) rfl (HE1.out.all4 _ _ _ _)) rfl ?_
    rw [HZ.out]
    exact ⟨rfl, below_four HB1.out (by omega) _ _ _ _⟩
  | true =>
  have HMC := hide (HMY.out w1 (Nat.lt_of_lt_of_le hw0 HB1.out.size) (hide (hTb.out.below HB1.out hw0)))
  unfold BoolPost at HMC
  cases mq with
  | false =>
    have HZ := hide (HNO.out (fun h => by cases h.2))
    go_wp2_with fail
    refine HMC.out.mono ?_
    rintro e w2 ⟨rfl, hb2⟩
    have HE2 := hide (HE1.out.below hb2 HE1.out.lt)
    have HB2 := hide (HB1.out.trans (hb2.mono HB1.out.size))
    clear hb2 HE1 HB1 x0 x1 x2 k0
    obtain ⟨y0, y1, y2, y3⟩ := HE2.out.froz4
    obtain ⟨d0, d1, d2, d3⟩ := HE2.out.four'
    have hl1 := HE2.out.lt
    go_wp2_with fail
    refine bodyPost_ret (res_ent' rfl _ _ (w.heap.size + 3) rfl (HE2.out.all4 _ _ _ _)) rfl ?_
    rw [HZ.out]
    exact ⟨rfl, below_four HB2.out (by omega) _ _ _ _⟩
  | true =>
  have hT := tabQ_iff.1 HTQ.out.symm
  have hpl := parts_len hT
  have hprt := isTbl_prt hT
  dsimp only at hpl hprt
  have HRU := hide (show r = runG key q (P.drop (firstP key P)) by
    rw [HV.out, getT_yes ⟨hT, HMQ.out.symm⟩]
    dsimp only
    rw [scan_run key q P hprt, firstP_drop])
  obtain ⟨bb, off, rfl, hbw, _⟩ := HR.out (by omega)
  go_wp2_with fail
  refine HMC.out.mono ?_
  rintro e w2 ⟨rfl, hb2⟩
  have HX2 := hide (HX1.out.below hb2 HX1.out.lt)
  have HK2 := hide (HK1.out.below hb2 HK1.out.lt)
  have HS2 := hide (HS1.out.below hb2 HS1.out.lt)
  have HE2 := hide (HE1.out.below hb2 HE1.out.lt)
  have HB2 := hide (HB1.out.trans (hb2.mono HB1.out.size))
  have hsz2 : w.heap.size + 4 ≤ w2.heap.size := by have := hb2.size; omega
  clear hb2 HX1 HK1 HS1 HE1 HB1 x0 x1 x2 k0 HMC HMY HNO
  have HG3 := hide (BoxV.new 30 w2 #[.string ⟨#[]⟩, .int .i64 0, .bool false, .string ⟨#[]⟩])
  have HX3 := hide (HX2.out.alloc (.cells #[.string ⟨#[]⟩, .int .i64 0, .bool false, .string ⟨#[]⟩] 30))
  have HK3 := hide (HK2.out.alloc (.cells #[.string ⟨#[]⟩, .int .i64 0, .bool false, .string ⟨#[]⟩] 30))
  have HS3 := hide (HS2.out.alloc (.cells #[.string ⟨#[]⟩, .int .i64 0, .bool false, .string ⟨#[]⟩] 30))
  have HE3 := hide (HE2.out.alloc (.cells #[.string ⟨#[]⟩, .int .i64 0, .bool false, .string ⟨#[]⟩] 30))
  have HB3 := hide (HB2.out.alloc HB2.out.size (.cells #[.string ⟨#[]⟩, .int .i64 0, .bool false, .string ⟨#[]⟩] 30))
  obtain ⟨W3, hW3⟩ : ∃ W3, W3 = w2.alloc (.cells #[.string ⟨#[]⟩, .int .i64 0, .bool false, .string ⟨#[]⟩] 30) := ⟨_, rfl⟩
  rw [← hW3] at HG3 HX3 HK3 HS3 HE3 HB3
  have HSP := hide (searchParts_any (w.heap.size + 1) (w.heap.size + 2) w2.heap.size bb off cap P key q W3 ((HR.out.below HB3.out (Nat.le_refl _)).mono HB3.out.size) (by omega) (by omega) (by rw [← HN.out]; exact hcap) hprt HKS.out (HK3.out.cell 0 _ rfl) (HS3.out.cell 0 _ rfl) HG3.out (by omega) (by omega) (by omega))
  rw [← HRU.out, ← HN.out] at HSP
  unfold SearchP at HSP
  clear HX2 HK2 HS2 HE2 HB2 hT hprt hpl
  go_upto_region 5 with (fail)
  rw [← hW3]
  clear hW3
  obtain ⟨x0, x1, x2⟩ := HX3.out.three
  have k0 := HK3.out.cell 0 _ rfl
  go_wp2_with fail
  refine HSP.out.mono ?_
  rintro e w4 ⟨rfl, hg4, ho4⟩
  have hne : w.heap.size + 3 ≠ w2.heap.size := by omega
  have HE4 := hide (show BoxV 30 w4 (w.heap.size + 3) #[.string ⟨#[]⟩, .int .i64 0, .bool false, .string ⟨#[]⟩] from (ho4.block (w.heap.size + 3) HE3.out.lt (fun e => hne (Option.some.inj e))).trans HE3.out)
  have HB4 := hide (HB3.out.trans (ho4.below (B := w.heap.size) (fun g e => by have := Option.some.inj e; omega) HB3.out.size))
  obtain ⟨⟨r0, r1, r2, r3⟩, rc⟩ := r
  dsimp only at hg4
  obtain ⟨u0, u1, u2, u3⟩ := hg4.four'
  obtain ⟨y0, y1, y2, y3⟩ := HE4.out.froz4
  obtain ⟨d0, d1, d2, d3⟩ := HE4.out.four'
  have hl1 := HE4.out.lt
  clear hg4 ho4 x0 x1 x2 k0
  go_wp2_with fail
  refine bodyPost_ret (res_ent' rfl _ _ (w.heap.size + 3) rfl (HE4.out.all4 _ _ _ _)) rfl ?_
  exact ⟨rfl, below_four HB4.out (by omega) _ _ _ _⟩
end Go.Proofs.YtdlkgpobjacgeaaGreatDoor

/-
  The walk of laws.FnTables: it returns true.
-/
namespace Go.Proofs.YtdlkgpobjacgeaaGreatDoor
open Go.ChangeShapes Go.WideShapes Go.ChangeAt Go.RowKit

/-- what is read of a text: ten parts at most, none of them long -/
theorem readT_few (l : List UInt8) : (readT l).1.length ≤ 10 ∧ ∀ x ∈ (readT l).1, x.2.size ≤ 1048576 := by
  by_cases h : readTQ l = true
  · have ht := (readT_show h).1
    refine ⟨(parts_len ht).2, fun x hx => ?_⟩
    have := (text_len ht x hx).2
    rw [bl_len] at this
    omega
  · unfold readT
    rw [if_neg (fun k => h (decide_eq_true k))]
    exact ⟨Nat.zero_le _, fun x hx => by simp [zeroT] at hx⟩
/-- what the law asks of a table that is one -/
theorem tables_ask {t : Tbl} (h : tabQ t = true) (k : ByteArray) (n : Int) : (getT t k n).1 = getM (tabE t) k n ∧ (getB (tabE t) k n = true → 1 ≤ (getT t k n).2) ∧ (getT t k n).2 ≤ t.1.length ∧
    readT (showT t) = t ∧ readTQ (showT t) = true ∧ tblV (tabE t) = t ∧ decide (tblOk (tabE t)) = true := by
  have ht : isTbl t := tabQ_iff.1 h
  obtain ⟨h1, h2, h3⟩ := getT_is ht k n
  have hE : tabE t = entsP t.1 := if_pos ht
  have hok : tblOk (tabE t) := by rw [hE]; exact ht.1
  refine ⟨h1, h2, h3, (readT_of ht rfl).1, (readT_of ht rfl).2, ?_, decide_eq_true hok⟩
  rw [tblV_yes hok, hE]
  exact ht.2

set_option maxHeartbeats 4000000 in
set_option maxRecDepth 100000 in
theorem tables_core (a : Option Addr) (cap : Nat) (bs : List Int) (w : World) (hc : CodeAt w.heap.size w a bs) (h0 : 0 < w.heap.size) (hT : Hid (CrcTabIn w)) :
    Calls Tryz.prog 3 #[.slice a bs.length cap] w fun e w' => e = .returned (.bool true) ∧ Below w.heap.size w w' := by
  have HC := hide hc
  obtain ⟨n, hn⟩ : ∃ n, n = bs.length := ⟨_, rfl⟩
  have HN := hide hn
  by_cases hbig : 1048576 < n
  · have hd : decide ((1048576 : Int) < (n : Int)) = true := decide_eq_true (by omega)
    rw [← hn]
    clear hn hc
    go_enter Tryz.func3, Tryz.ntmps3
    go_wp2_with fail
    refine (big_any a n cap _).mono ?_
    rintro e w1 ⟨rfl, rfl⟩
    rw [hd]
    go_wp2_with fail
    go_ret
    exact ⟨rfl, Below.refl _ _⟩
  have hd : decide ((1048576 : Int) < (n : Int)) = false := decide_eq_false (by omega)
  have HM := hide (show bs.length ≤ 1048576 by omega)
  have HAD := hide (drawTableGet_any (B := w.heap.size) a cap bs w (Nat.le_refl _) hc HM.out)
  have HTW := hide (fun W (h : Below w.heap.size w W) => (⟨Nat.lt_of_lt_of_le h0 h.size, hide (hT.out.below h h0)⟩ : 0 < W.heap.size ∧ Hid (CrcTabIn W)))
  rw [← hn] at HAD ⊢
  clear hn hc hbig hT h0
  go_enter Tryz.func3, Tryz.ntmps3
  go_wp2_with fail
  refine (big_any a n cap _).mono ?_
  rintro e wb ⟨rfl, rfl⟩
  rw [hd]
  go_wp2_with fail
  refine HAD.out.mono ?_
  rintro e w1 ⟨v1, P, b, m, key, q, rfl, ho1, hs1, hk1, hb1⟩
  obtain ⟨a1, c1, rfl, hr1, hc1, hc1'⟩ := ho1.form
  have HB1 := hide hb1
  have HR1 := hide hr1
  have hPl : P.length ≤ 11 := hs1.1
  have HIG := hide (fun W (h : elPart.Rd W W.heap.size a1 P) (hw : Below w.heap.size w W) => iTableGet_any a1 c1 P b key m q W h (by unfold maxLen; omega) hc1 (fun x hx => Nat.le_trans (hs1.2.1 x hx) (by omega)) (by have := hs1.2.2; unfold maxLen; omega) (by omega) (HTW.out W hw).1 (HTW.out W hw).2)
  have HIE := hide (fun W (h : elPart.Rd W W.heap.size a1 P) (hw : Below w.heap.size w W) => iTableEnts_any a1 c1 P b m W h (by unfold maxLen; omega) hc1 (fun x hx => Nat.le_trans (hs1.2.1 x hx) (by omega)) (HTW.out W hw).1 (HTW.out W hw).2)
  have HSE := hide (fun W (h : elPart.Rd W W.heap.size a1 P) => sTableEnts_any a1 c1 P b m W h (by omega) (fun x hx => Nat.le_trans (hs1.2.1 x hx) (by omega)))
  have HIS := hide (fun W (h : elPart.Rd W W.heap.size a1 P) (hw : Below w.heap.size w W) => iShowTable_any a1 c1 P b m W h (by unfold maxLen; omega) hc1 (fun x hx => Nat.le_trans (hs1.2.1 x hx) (by omega)) (HTW.out W hw).1 (HTW.out W hw).2)
  have HASK := hide (fun h : tabQ (P, b, m) = true => tables_ask h key q)
  have HNO := hide (fun h : tabQ (P, b, m) = false => getT_no (t := (P, b, m)) (k := key) (n := q) (fun k => tabQ_not h k.1))
  have hLl := tabE_len (P, b, m)
  obtain ⟨W1, hW1⟩ : ∃ W1, W1 = w1.alloc (.cells #[.slice a1 P.length c1, .string b, .int .i64 m] 26) := ⟨_, rfl⟩
  have hba := (Below.refl w1.heap.size w1).alloc (Nat.le_refl _) (.cells #[.slice a1 P.length c1, .string b, .int .i64 m] 26)
  rw [← hW1] at hba
  have HBa := hide (HB1.out.trans (hba.mono HB1.out.size))
  have HRa := hide ((HR1.out.below hba (Nat.le_refl _)).mono hba.size)
  have HTa := hide (show BoxV 26 W1 w1.heap.size #[.slice a1 P.length c1, .string b, .int .i64 m] from hW1 ▸ BoxV.new _ w1 _)
  have HSH := hide (fun a' c' (hc' : P.length ≤ c') W (h : elPart.Rd W W.heap.size a' P) (hw : Below w.heap.size w W) => iShowTable_any a' c' P b m W h (by unfold maxLen; omega) hc' (fun x hx => Nat.le_trans (hs1.2.1 x hx) (by omega)) (HTW.out W hw).1 (HTW.out W hw).2)
  obtain ⟨⟨⟨g0, g1, g2, g3⟩, N⟩, hG⟩ : ∃ G, G = getT (P, b, m) key q := ⟨_, rfl⟩
  obtain ⟨f0, f1, f2, f3, hf⟩ := partsEnt (getM (tabE (P, b, m)) key q)
  obtain ⟨Lt, hLt⟩ : ∃ Lt, Lt = tabE (P, b, m) := ⟨_, rfl⟩
  obtain ⟨Q, hQ⟩ : ∃ Q, Q = tabQ (P, b, m) := ⟨_, rfl⟩
  obtain ⟨V, hV⟩ : ∃ V, V = showT (P, b, m) := ⟨_, rfl⟩
  have hVl : V.length ≤ 10100 := by rw [hV]; exact showT_len _
  unfold GetPost at HIG
  unfold TEPost at HIE HSE
  rw [← hG] at HIG HNO
  rw [← hG, ← hLt, ← hQ, ← hV] at HASK
  rw [← hLt, ← hQ] at HIE HSE
  rw [← hQ] at HNO
  rw [← hV] at HIS HSH
  rw [← hLt] at hLl hf
  have HF := hide hf
  clear hf ho1 hs1 hr1 hc1' hb1 HAD hba hG hLt hQ hV HB1 HR1
  go_wp2_with fail
  rw [← hW1]
  clear hW1
  refine (HIG.out _ HRa.out HBa.out).mono ?_
  rintro e w2 ⟨rfl, hb2⟩
  dsimp only
  obtain ⟨W3, hW3⟩ : ∃ W3, W3 = w2.alloc (.cells #[.string g0, .int .i64 g1, .bool g2, .string g3] 30) := ⟨_, rfl⟩
  have hb3 : Below W1.heap.size W1 W3 := hW3 ▸ hb2.alloc hb2.size _
  have HB3 := hide (HBa.out.trans (hb3.mono HBa.out.size))
  have HR3 := hide ((HRa.out.below hb3 (Nat.le_refl _)).mono hb3.size)
  have HT3 := hide (HTa.out.below hb3 HTa.out.lt)
  have HE3 := hide (show BoxV 30 W3 w2.heap.size #[.string g0, .int .i64 g1, .bool g2, .string g3] from hW3 ▸ BoxV.new _ w2 _)
  obtain ⟨d0, d1, d2⟩ := (HTa.out.below hb2 HTa.out.lt).three
  have hl2 := (HTa.out.below hb2 HTa.out.lt).lt
  clear hb2 hb3 HBa HRa HTa HIG
  obtain ⟨t0, t1, t2⟩ := HT3.out.three
  have hlt := HT3.out.lt
  go_wp2_with fail
  rw [← hW3]
  clear hW3 d0 d1 d2 hl2
  refine (HIE.out _ HR3.out HB3.out).mono ?_
  rintro e w4 ⟨v4, rfl, ho4, hb4⟩
  obtain ⟨a4, c4, rfl, hr4, hcp4, _⟩ := ho4.form
  have HB4 := hide (HB3.out.trans (hb4.mono HB3.out.size))
  have HR4 := hide ((HR3.out.below hb4 (Nat.le_refl _)).mono hb4.size)
  have HT4 := hide (HT3.out.below hb4 HT3.out.lt)
  have HE4 := hide (HE3.out.below hb4 HE3.out.lt)
  have HL4 := hide hr4
  have HMG := hide (fun W (h : elEnt.Rd W W.heap.size a4 Lt) => sMemGet_any a4 c4 Lt key q W h (by omega) f0 f1 f2 f3 HF.out)
  have HIT := hide (fun W (h : elEnt.Rd W W.heap.size a4 Lt) (hw : Below w.heap.size w W) => iTableOf_any a4 c4 Lt W h (by unfold maxLen; omega) hcp4 (HTW.out W hw).1 (HTW.out W hw).2)
  unfold EntBPost' at HMG
  obtain ⟨z, hz⟩ : ∃ z, z = Lt.length := ⟨_, rfl⟩
  obtain ⟨GB, hGB⟩ : ∃ GB, GB = getB Lt key q := ⟨_, rfl⟩
  rw [← hGB, ← hz] at HMG
  rw [← hGB] at HASK
  rw [← hz] at HIT ⊢
  clear ho4 hb4 hr4 hcp4 HB3 HR3 HT3 HE3 HIE t0 t1 t2 hlt hz hGB
  go_wp2_with fail
  refine (HMG.out _ HL4.out).mono ?_
  rintro e w5 ⟨rfl, hb5⟩
  obtain ⟨W6, hW6⟩ : ∃ W6, W6 = w5.alloc (.cells #[.string f0, .int .i64 f1, .bool f2, .string f3] 30) := ⟨_, rfl⟩
  have hb6 : Below w4.heap.size w4 W6 := hW6 ▸ hb5.alloc hb5.size _
  have HB6 := hide (HB4.out.trans (hb6.mono HB4.out.size))
  have HR6 := hide ((HR4.out.below hb6 (Nat.le_refl _)).mono hb6.size)
  have HT6 := hide (HT4.out.below hb6 HT4.out.lt)
  have HE6 := hide (HE4.out.below hb6 HE4.out.lt)
  have HL6 := hide ((HL4.out.below hb6 (Nat.le_refl _)).mono hb6.size)
  have HG6 := hide (show BoxV 30 W6 w5.heap.size #[.string f0, .int .i64 f1, .bool f2, .string f3] from hW6 ▸ BoxV.new _ w5 _)
  obtain ⟨d0, d1, d2⟩ := (HT4.out.below hb5 HT4.out.lt).three
  have hl2 := (HT4.out.below hb5 HT4.out.lt).lt
  clear hb5 hb6 HB4 HR4 HT4 HE4 HL4 HMG
  go_wp2_with fail
  rw [← hW6]
  clear hW6 d0 d1 d2 hl2
  refine (HSE.out _ HR6.out).mono ?_
  rintro e w7 ⟨v7, rfl, ho7, hb7⟩
  obtain ⟨a7, c7, rfl, _⟩ := ho7.form
  have HB7 := hide (HB6.out.trans (hb7.mono HB6.out.size))
  have HR7 := hide ((HR6.out.below hb7 (Nat.le_refl _)).mono hb7.size)
  have HT7 := hide (HT6.out.below hb7 HT6.out.lt)
  have HE7 := hide (HE6.out.below hb7 HE6.out.lt)
  have HL7 := hide ((HL6.out.below hb7 (Nat.le_refl _)).mono hb7.size)
  have HG7 := hide (HG6.out.below hb7 HG6.out.lt)
  clear ho7 hb7 HB6 HR6 HT6 HE6 HL6 HG6 HSE
  have hqq : (Q != Q) = false := by cases Q <;> rfl
  obtain ⟨t0, t1, t2⟩ := HT7.out.three
  have hlt := HT7.out.lt
  obtain ⟨e0, e1, e2, e3⟩ := HE7.out.four'
  have hle := HE7.out.lt
  obtain ⟨y0, y1, y2, y3⟩ := HG7.out.four'
  have hlg := HG7.out.lt
  cases Q with
  | false =>
    obtain ⟨h1, h2⟩ := Prod.mk.inj (HNO.out rfl)
    obtain ⟨rfl, rfl, rfl, rfl⟩ : g0 = ⟨#[]⟩ ∧ g1 = 0 ∧ g2 = false ∧ g3 = ⟨#[]⟩ := by
      simpa [zeroE] using h1
    subst h2
    clear HASK HNO h1
    go_wp2_with fail
    go_ret
    exact ⟨rfl, HB7.out⟩
  | true =>
    obtain ⟨h1, h2, h3, h4, h5, h6, h7⟩ := HASK.out rfl
    obtain ⟨rfl, rfl, rfl, rfl⟩ : g0 = f0 ∧ g1 = f1 ∧ g2 = f2 ∧ g3 = f3 := by
      have h := h1.trans HF.out
      simpa using h
    have hN : ¬ (P.length < N) := Nat.not_lt.2 h3
    have hd2 : decide (P.length < N) = false := decide_eq_false hN
    have H2 := hide h2
    have HB4 := hide h4
    have HB5 := hide h5
    have HB6 := hide h6
    have HB8 := hide h7
    clear h1 h2 h3 h4 h5 h6 h7 HASK HNO HF
    go_upto_region 12 with (fail)
    go_cut [84] from 68 to 84 (fun t wc => t = .bool false ∧ wc = w7)
    case first =>
      cases GB with
      | true =>
        have hn0 : ((N : Int) == 0) = false := by rw [beq_eq_false_iff_ne]; have := H2.out rfl; omega
        go_wp2_with fail
        go_meet
        exact ⟨by first | rfl | rw [hd2], rfl⟩
      | false =>
        go_wp2_with fail
        go_meet
        exact ⟨by first | rfl | rw [hd2], rfl⟩
    case rest =>
    obtain ⟨rfl, rfl⟩ := hcut
    clear H2 hN hd2 e0 e1 e2 e3 hle y0 y1 y2 y3 hlg HE7 HG7
    go_wp2_with fail
    refine (HIS.out _ HR7.out HB7.out).mono ?_
    rintro e w8 ⟨rfl, hb8⟩
    have HB8' := hide (HB7.out.trans (hb8.mono HB7.out.size))
    have HL8 := hide ((HL7.out.below hb8 (Nat.le_refl _)).mono hb8.size)
    clear hb8 HB7 HL7 HR7 HT7 t0 t1 t2 hlt HIS
    have HIR := hide (fun W (hw : Below w.heap.size w W) => iReadTable_any ⟨V.toArray⟩ (by rw [size_of V]; omega) W (HTW.out W hw).1 (HTW.out W hw).2)
    rw [bl_of V, HB4.out, HB5.out] at HIR
    rw [HB6.out, HB8.out] at HIT
    unfold TabPost at HIR HIT
    go_wp2_with fail
    refine (HIR.out _ HB8'.out).mono ?_
    rintro e w9 ⟨v9, rfl, ho9, hb9⟩
    obtain ⟨a9, c9, rfl, hr9, hcp9, _⟩ := ho9.form
    dsimp only at hr9 hcp9 ⊢
    obtain ⟨W10, hW10⟩ : ∃ W10, W10 = w9.alloc (.cells #[.slice a9 P.length c9, .string b, .int .i64 m] 26) := ⟨_, rfl⟩
    have hb10 : Below w8.heap.size w8 W10 := hW10 ▸ hb9.alloc hb9.size _
    have hbx := (Below.refl w9.heap.size w9).alloc (Nat.le_refl _) (.cells #[.slice a9 P.length c9, .string b, .int .i64 m] 26)
    rw [← hW10] at hbx
    have HB10 := hide (HB8'.out.trans (hb10.mono HB8'.out.size))
    have HL10 := hide ((HL8.out.below hb10 (Nat.le_refl _)).mono hb10.size)
    have HU10 := hide (show BoxV 26 W10 w9.heap.size #[.slice a9 P.length c9, .string b, .int .i64 m] from hW10 ▸ BoxV.new _ w9 _)
    have HP10 := hide ((hr9.below hbx (Nat.le_refl _)).mono hbx.size)
    have HSU := hide (fun W (h : elPart.Rd W W.heap.size a9 P) (hw : Below w.heap.size w W) => HSH.out a9 c9 hcp9 W h hw)
    clear ho9 hb9 hr9 hb10 hbx HB8' HL8 HIR
    go_wp2_with fail
    rw [← hW10]
    clear hW10
    refine (HIT.out _ HL10.out HB10.out).mono ?_
    rintro e w11 ⟨v11, rfl, ho11, hb11⟩
    obtain ⟨a11, c11, rfl, hr11, hcp11, _⟩ := ho11.form
    dsimp only at hr11 hcp11 ⊢
    obtain ⟨W12, hW12⟩ : ∃ W12, W12 = w11.alloc (.cells #[.slice a11 P.length c11, .string b, .int .i64 m] 26) := ⟨_, rfl⟩
    have hb12 : Below W10.heap.size W10 W12 := hW12 ▸ hb11.alloc hb11.size _
    have hbx := (Below.refl w11.heap.size w11).alloc (Nat.le_refl _) (.cells #[.slice a11 P.length c11, .string b, .int .i64 m] 26)
    rw [← hW12] at hbx
    have HB12 := hide (HB10.out.trans (hb12.mono HB10.out.size))
    have HU12 := hide (HU10.out.below hb12 HU10.out.lt)
    have HP12 := hide ((HP10.out.below hb12 (Nat.le_refl _)).mono hb12.size)
    have HX12 := hide (show BoxV 26 W12 w11.heap.size #[.slice a11 P.length c11, .string b, .int .i64 m] from hW12 ▸ BoxV.new _ w11 _)
    have HQ12 := hide ((hr11.below hbx (Nat.le_refl _)).mono hbx.size)
    have HSX := hide (fun W (h : elPart.Rd W W.heap.size a11 P) (hw : Below w.heap.size w W) => HSH.out a11 c11 hcp11 W h hw)
    have HRD := hide (drawReadTable_any (B := w.heap.size) a cap bs W12 HB12.out.size (HC.out.below HB12.out) HM.out)
    rw [← HN.out] at HRD
    clear ho11 hb11 hr11 hb12 hbx HB10 HL10 HU10 HP10 HIT HSH
    go_wp2_with fail
    rw [← hW12]
    clear hW12
    refine HRD.out.mono ?_
    rintro e w13 ⟨s6, rfl, hs6, hb13⟩
    have HB13 := hide (HB12.out.trans (hb13.mono HB12.out.size))
    have HU13 := hide (HU12.out.below hb13 HU12.out.lt)
    have HP13 := hide ((HP12.out.below hb13 (Nat.le_refl _)).mono hb13.size)
    have HX13 := hide (HX12.out.below hb13 HX12.out.lt)
    have HQ13 := hide ((HQ12.out.below hb13 (Nat.le_refl _)).mono hb13.size)
    have HIR := hide (fun W (hw : Below w.heap.size w W) => iReadTable_any s6 hs6 W (HTW.out W hw).1 (HTW.out W hw).2)
    have HSR := hide (fun W => sReadTable_any s6 hs6 W)
    have HFW := hide (readT_few (bl s6))
    have HKS := hide (fun h => (readT_show (s := bl s6) h).2)
    obtain ⟨⟨P2, b2, m2⟩, hK⟩ : ∃ K, K = readT (bl s6) := ⟨_, rfl⟩
    obtain ⟨R, hR⟩ : ∃ R, R = readTQ (bl s6) := ⟨_, rfl⟩
    rw [← hK, ← hR] at HIR HSR HKS
    rw [← hK] at HFW
    unfold TabPost at HIR HSR
    clear hK hR hb13 HRD HB12 HU12 HP12 HX12 HQ12
    go_wp2_with fail
    refine (HIR.out _ HB13.out).mono ?_
    rintro e w14 ⟨v14, rfl, ho14, hb14⟩
    obtain ⟨a14, c14, rfl, hr14, hcp14, _⟩ := ho14.form
    dsimp only at hr14 hcp14 HFW ⊢
    obtain ⟨W15, hW15⟩ : ∃ W15, W15 = w14.alloc (.cells #[.slice a14 P2.length c14, .string b2, .int .i64 m2] 26) := ⟨_, rfl⟩
    have hb15 : Below w13.heap.size w13 W15 := hW15 ▸ hb14.alloc hb14.size _
    have hbx := (Below.refl w14.heap.size w14).alloc (Nat.le_refl _) (.cells #[.slice a14 P2.length c14, .string b2, .int .i64 m2] 26)
    rw [← hW15] at hbx
    have HB15 := hide (HB13.out.trans (hb15.mono HB13.out.size))
    have HU15 := hide (HU13.out.below hb15 HU13.out.lt)
    have HP15 := hide ((HP13.out.below hb15 (Nat.le_refl _)).mono hb15.size)
    have HX15 := hide (HX13.out.below hb15 HX13.out.lt)
    have HQ15 := hide ((HQ13.out.below hb15 (Nat.le_refl _)).mono hb15.size)
    have HV15 := hide (show BoxV 26 W15 w14.heap.size #[.slice a14 P2.length c14, .string b2, .int .i64 m2] from hW15 ▸ BoxV.new _ w14 _)
    have HY15 := hide ((hr14.below hbx (Nat.le_refl _)).mono hbx.size)
    have HSV := hide (fun W (h : elPart.Rd W W.heap.size a14 P2) (hw : Below w.heap.size w W) => iShowTable_any a14 c14 P2 b2 m2 W h (by have := HFW.out.1; unfold maxLen; omega) hcp14 HFW.out.2 (HTW.out W hw).1 (HTW.out W hw).2)
    clear ho14 hb14 hr14 hb15 hbx HB13 HU13 HP13 HX13 HQ13 HIR
    go_wp2_with fail
    rw [← hW15]
    clear hW15
    refine (HSR.out _).mono ?_
    rintro e w16 ⟨v16, rfl, ho16, hb16⟩
    obtain ⟨a16, c16, rfl, _⟩ := ho16.form
    dsimp only
    obtain ⟨W17, hW17⟩ : ∃ W17, W17 = w16.alloc (.cells #[.slice a16 P2.length c16, .string b2, .int .i64 m2] 26) := ⟨_, rfl⟩
    have hb17 : Below W15.heap.size W15 W17 := hW17 ▸ hb16.alloc hb16.size _
    have HB17 := hide (HB15.out.trans (hb17.mono HB15.out.size))
    have HU17 := hide (HU15.out.below hb17 HU15.out.lt)
    have HP17 := hide ((HP15.out.below hb17 (Nat.le_refl _)).mono hb17.size)
    have HX17 := hide (HX15.out.below hb17 HX15.out.lt)
    have HQ17 := hide ((HQ15.out.below hb17 (Nat.le_refl _)).mono hb17.size)
    have HV17 := hide (HV15.out.below hb17 HV15.out.lt)
    have HY17 := hide ((HY15.out.below hb17 (Nat.le_refl _)).mono hb17.size)
    obtain ⟨u0, u1, u2⟩ := HU17.out.three
    clear ho16 hb16 hb17 HB15 HU15 HP15 HX15 HQ15 HV15 HY15 HSR
    go_upto_region 20 with (fail)
    rw [← hW17]
    clear hW17
    have hvv : (V == V) = true := by simp
    go_wp2_with fail
    refine (HSU.out _ HP17.out HB17.out).mono ?_
    rintro e w18 ⟨rfl, hb18⟩
    have HB18 := hide (HB17.out.trans (hb18.mono HB17.out.size))
    have HX18 := hide (HX17.out.below hb18 HX17.out.lt)
    have HQ18 := hide ((HQ17.out.below hb18 (Nat.le_refl _)).mono hb18.size)
    have HV18 := hide (HV17.out.below hb18 HV17.out.lt)
    have HY18 := hide ((HY17.out.below hb18 (Nat.le_refl _)).mono hb18.size)
    obtain ⟨x0, x1, x2⟩ := HX18.out.three
    clear hb18 HB17 HX17 HQ17 HV17 HY17 HU17 HP17 HSU u0 u1 u2
    go_wp2_with fail
    refine (HSX.out _ HQ18.out HB18.out).mono ?_
    rintro e w19 ⟨rfl, hb19⟩
    have HB19 := hide (HB18.out.trans (hb19.mono HB18.out.size))
    have HV19 := hide (HV18.out.below hb19 HV18.out.lt)
    have HY19 := hide ((HY18.out.below hb19 (Nat.le_refl _)).mono hb19.size)
    obtain ⟨v0, v1, v2⟩ := HV19.out.three
    clear hb19 HB18 HV18 HY18 HX18 HQ18 HSX x0 x1 x2
    cases R with
    | true =>
      have hKe := HKS.out rfl
      rw [hKe] at HSV
      have hbe : (bl s6 == s6.toList) = true := by rw [beq_iff_eq, ByteArray.toList_eq]; rfl
      clear hKe HKS
      go_wp2_with fail
      refine (HSV.out _ HY19.out HB19.out).mono ?_
      rintro e w20 ⟨rfl, hb20⟩
      have HB20 := hide (HB19.out.trans (hb20.mono HB19.out.size))
      clear hb20
      go_wp2_with fail
      go_ret
      exact ⟨rfl, HB20.out⟩
    | false =>
      go_wp2_with fail
      go_ret
      exact ⟨rfl, HB19.out⟩

theorem law_tables (a0 : Option Addr) (len0 cap0 : Nat) (z0 : List Int) (w : World) (w0 : IsRow .u8 w a0 len0 cap0 z0) (h0 : 0 < w.heap.size) (hT : Hid (CrcTabIn w)) :
    Calls Tryz.prog 3 #[.slice a0 len0 cap0] w fun e w' => e = .returned (.bool true) ∧ Below w.heap.size w w' := by
  obtain ⟨h1, h2⟩ := w0.code
  have := tables_core a0 cap0 (z0.take len0) w h2 h0 hT
  rwa [h1] at this
end Go.Proofs.YtdlkgpobjacgeaaGreatDoor
