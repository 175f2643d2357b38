/-
  Texts of this proof, put together: LawTableOf.
-/
import Derived.Test.YtdlkgpobjacgeaaDoorPackBP
import Derived.Test.YtdlkgpobjacgeaaDoorPackBQ
import Derived.Test.YtdlkgpobjacgeaaDoorPackBR
import Derived.Test.YtdlkgpobjacgeaaDoorPackAF
import Derived.Test.YtdlkgpobjacgeaaDoorPackBM
import Derived.Test.YtdlkgpobjacgeaaDoorPackBN

/-
  The walk of laws.FnExactTableOf.
-/
namespace Go.Proofs.YtdlkgpobjacgeaaDoor
open Go.ChangeShapes Go.WideShapes Go.ChangeAt Go.RowKit

set_option maxHeartbeats 4000000 in
set_option maxRecDepth 20000 in
theorem law_TableOf (a : Option Addr) (cap : Nat) (L : List EntE) (w : World) (hr : elEnt.Rd w w.heap.size a L) (hl : L.length ≤ maxLen) (hc : ∀ z ∈ L, cameEnt z) (h0 : 0 < w.heap.size) (hT : Hid (CrcTabIn w)) :
    Calls Tryd.prog 3 #[.slice a L.length cap] w (TruePost w) := by
  have HR := hide hr
  have HSZ := hide (szEntS_any a cap L 1048576 w hr hl (cameEnt_sz hc) (by omega) (by omega))
  have HL := hide hl
  have HTO := hide (fun W (h : Below w.heap.size w W) (h2 : L.length ≤ 1048576) => toEntS_any a cap L W ((HR.out.below h (Nat.le_refl _)).mono h.size) h2)
  have HSP := hide (fun W g (h : elEnt.Holds W g L) => sTableOf_any (some ⟨g, 0, none⟩) L.length L W h.rd HL.out (Nat.le_refl _))
  have HIM := hide (fun W g (h : elEnt.Holds W g L) (h3 : Below w.heap.size w W) => iTableOf_any (some ⟨g, 0, none⟩) L.length L W h.rd HL.out (Nat.le_refl _) (Nat.lt_of_lt_of_le h0 h3.size) (hide (hT.out.below h3 h0)))
  obtain ⟨t, ht⟩ : ∃ t, t = tblV L := ⟨_, rfl⟩
  obtain ⟨q, hq⟩ : ∃ q, q = decide (tblOk L) := ⟨_, rfl⟩
  have hlen : t.1.length ≤ 10 := by rw [ht]; exact tblV_len _
  rw [← ht, ← hq] at HSP HIM
  have hqq : (q != q) = false := by cases q <;> rfl
  clear ht hq hT h0 hr hc
  go_enter Tryd.func3, Tryd.ntmps3
  go_wp2_with fail
  refine HSZ.out.mono ?_
  rintro e wa ⟨y, rfl, hy0, hy1, hP, hba⟩
  have HP := hide hP
  have HBa := hide hba
  clear hP hba HSZ
  by_cases hy : y < 0
  · go_wp2_with fail
    go_ret
    exact ⟨rfl, HBa.out⟩
  have hl2 : L.length ≤ 1048576 := (HP.out (by omega)).1
  clear HP hl
  go_wp2_with fail
  refine (HTO.out _ HBa.out hl2).mono ?_
  rintro e wb ⟨rfl, hhb, hbb, hzb⟩
  have HBb := hide (HBa.out.trans (hbb.mono HBa.out.size))
  have HHb := hide hhb
  clear hbb hhb
  go_wp2_with fail
  refine (HSP.out _ _ HHb.out).mono ?_
  rintro e w1 ⟨v6, rfl, ho6, hb1⟩
  obtain ⟨a6, c6, rfl, _⟩ := ho6.form
  obtain ⟨W2, hW2⟩ : ∃ W2, W2 = w1.alloc (.cells (tabBox t a6 c6) 26) := ⟨_, rfl⟩
  have HX2 := hide (show BoxV 26 W2 w1.heap.size (tabBox t a6 c6) from hW2 ▸ BoxV.new _ w1 _)
  have HO2 := hide (show elPart.Owns wb.heap.size W2 _ _ from hW2 ▸ ho6.alloc _)
  have HK6 := hide (show ∀ k, (Value.slice a6 t.1.length c6).ownBlock = some k → w.heap.size ≤ k ∧ k < w1.heap.size from fun k e => by have := ho6.lt k e; have := HBb.out.size; omega)
  have h1 := Nat.le_trans HBb.out.size hb1.size
  have HB2 := hide (show Below w.heap.size w W2 from hW2 ▸ (HBb.out.trans (hb1.mono HBb.out.size)).alloc h1 _)
  clear ho6 hb1 HBb HHb HSP
  go_wp2_with fail
  rw [← hW2]
  clear hW2
  -- the argument
  refine (HTO.out _ HB2.out hl2).mono ?_
  rintro e w2 ⟨rfl, hh2, hb2, hz2⟩
  have HX3 := hide (HX2.out.below hb2 HX2.out.lt)
  have HO3 := hide (HO2.out.below hb2 (Nat.le_refl _))
  have HB3 := hide (HB2.out.trans (hb2.mono HB2.out.size))
  have HG := hide hh2
  have h2 := HX2.out.lt
  clear hb2 hh2 HX2 HO2 HB2
  go_wp2_with fail
  -- the answer
  refine (HIM.out _ _ HG.out HB3.out).mono ?_
  rintro e w3 ⟨v9, rfl, ho9, hb3⟩
  obtain ⟨a9, c9, rfl, _⟩ := ho9.form
  obtain ⟨W4, hW4⟩ : ∃ W4, W4 = w3.alloc (.cells (tabBox t a9 c9) 26) := ⟨_, rfl⟩
  have h3 := hb3.size
  have HX4 := hide (HX3.out.below hb3 HX3.out.lt)
  have HG4 := hide (show elEnt.Holds W4 W2.heap.size L from hW4 ▸ (HG.out.below hb3 hz2).below ((Below.refl w3.heap.size w3).alloc (Nat.le_refl _) _) (by omega))
  have HV4 := hide (show InvT w t w1.heap.size a6 c6 w2.heap.size w3.heap.size a9 c9 t.1 W4 from
    ⟨hW4 ▸ (HB3.out.trans (hb3.mono HB3.out.size)).alloc (Nat.le_trans HB3.out.size hb3.size) _, hW4 ▸ HX4.out.alloc _, hW4 ▸ ((HO3.out.below hb3 (Nat.le_refl _)).mono (Nat.zero_le _)).alloc _, hW4 ▸ BoxV.new _ w3 _, hW4 ▸ (ho9.mono (Nat.zero_le _)).alloc _, h1, by omega, h3, HK6.out, ho9.lt⟩)
  have h4 : w3.heap.size < W4.heap.size := by rw [hW4]; simp
  obtain ⟨p0, p1, p2⟩ := HX4.out.three
  have hl4 := HX4.out.lt
  clear ho9 hb3 HB3 HO3 HX3 HK6 HG
  go_wp2_with fail
  rw [← hW4]
  clear hW4 p0 p1 p2 HX4 hl4
  refine (eqTable_same a9 a6 c9 c6 t.1 t.2.1 t.2.2 _ (owns_rd HV4.out.o9) (owns_rd HV4.out.o6) (by omega)).mono ?_
  rintro e w5 ⟨rfl, hb5⟩
  have HV5 := hide (HV4.out.keep hb5)
  have HG5 := hide (HG4.out.below hb5 (by omega))
  have h5 := hb5.size
  clear hb5 HV4 HG4
  go_wp2_with fail
  -- the argument reads as it did
  refine (HTO.out _ HV5.out.below hl2).mono ?_
  rintro e w6 ⟨rfl, hh6, hb6, hz6⟩
  have HV6 := hide (HV5.out.keep hb6)
  have HG6 := hide (HG5.out.below hb6 (by omega))
  have HH6 := hide hh6
  have h6 := hb6.size
  clear hb6 hh6 HV5 HG5
  go_wp2_with fail
  refine (eqEntS_same _ _ _ _ L _ HG6.out.rd HH6.out.rd (by omega)).mono ?_
  rintro e w7 ⟨rfl, hb7⟩
  have HV7 := hide (HV6.out.keep hb7)
  have HG7 := hide (HG6.out.below hb7 (by omega))
  have h7 := hb7.size
  clear hb7 HV6 HG6 HH6
  go_wp2_with fail
  -- the argument is marked
  refine (markEntS_any 0 _ _ 1 L _ (HG7.out.owns (Nat.zero_le _) HL.out) (by omega) (by omega)).mono ?_
  rintro e w8 ⟨rfl, _, ht8⟩
  have HV8 := hide (HV7.out.markX (gx := W2.heap.size) ht8 h2 hz2)
  clear ht8 HV7 HG7
  obtain ⟨y0, y1, y2⟩ := HV8.out.b9.three
  obtain ⟨q0, q1, q2⟩ := HV8.out.b6.three
  go_wp2_with fail
  refine (eqTable_same a9 a6 c9 c6 t.1 t.2.1 t.2.2 _ (owns_rd HV8.out.o9) (owns_rd HV8.out.o6) (by omega)).mono ?_
  rintro e w9 ⟨rfl, hb9⟩
  have HV9 := hide (HV8.out.keep hb9)
  clear hb9 HV8 y0 y1 y2 q0 q1 q2
  obtain ⟨y0, y1, y2⟩ := HV9.out.b9.three
  go_wp2_with fail
  -- the answer is marked
  refine (markTable_any 0 a9 c9 1 t.1 t.2.1 t.2.2 _ HV9.out.o9 (by omega) (by omega)).mono ?_
  rintro e w10 ⟨rfl, ho10, ht10⟩
  have HV10 := hide (HV9.out.mark9 ht10 ho10)
  clear ht10 ho10 HV9 y0 y1 y2
  obtain ⟨y0, y1, y2⟩ := HV10.out.b9.three
  go_wp2_with fail
  refine (heldTable_any a9 c9 1 t.1.length t.2.1 t.2.2 _ (owns_rd HV10.out.o9) (by omega) (by omega)).mono ?_
  rintro e w11 ⟨rfl, hb11⟩
  have HV11 := hide (HV10.out.keep hb11)
  clear hb11 HV10 y0 y1 y2
  go_wp2_with fail
  -- the call once more
  refine (HTO.out _ HV11.out.below hl2).mono ?_
  rintro e w12 ⟨rfl, hh12, hb12, hz12⟩
  have HV12 := hide (HV11.out.keep hb12)
  have HG12 := hide hh12
  clear hb12 hh12 HV11
  go_wp2_with fail
  refine (HIM.out _ _ HG12.out HV12.out.below).mono ?_
  rintro e w13 ⟨vh, rfl, hoh, hb13⟩
  obtain ⟨ah, ch, rfl, _⟩ := hoh.form
  have HV13 := hide (HV12.out.keep hb13)
  obtain ⟨W14, hW14⟩ : ∃ W14, W14 = w13.alloc (.cells (tabBox t ah ch) 26) := ⟨_, rfl⟩
  have HV14 := hide (show InvT w t w1.heap.size a6 c6 w2.heap.size w3.heap.size a9 c9 _ W14 from hW14 ▸ HV13.out.keep ((Below.refl w13.heap.size w13).alloc (Nat.le_refl _) _))
  have HOH := hide (show elPart.Owns _ W14 _ _ from hW14 ▸ hoh.alloc _)
  obtain ⟨p0, p1, p2⟩ := HV13.out.b6.three
  have hl6 := HV13.out.b6.lt
  clear hb13 hoh HV12 HIM HTO HG12
  go_wp2_with fail
  rw [← hW14]
  clear hW14 HV13 p0 p1 p2 hl6
  refine (eqTable_same ah a6 ch c6 t.1 t.2.1 t.2.2 _ (owns_rd HOH.out) (owns_rd HV14.out.o6) (by omega)).mono ?_
  rintro e w15 ⟨rfl, hb15⟩
  have HV15 := hide (HV14.out.keep hb15)
  clear hb15 HV14 HOH
  obtain ⟨y0, y1, y2⟩ := HV15.out.b9.three
  go_wp2_with fail
  refine (heldTable_any a9 c9 1 t.1.length t.2.1 t.2.2 _ (owns_rd HV15.out.o9) (by omega) (by omega)).mono ?_
  rintro e w16 ⟨rfl, hb16⟩
  have HV16 := hide (HV15.out.keep hb16)
  clear hb16 HV15 y0 y1 y2
  go_wp2_with fail
  go_ret
  exact ⟨rfl, HV16.out.below⟩
end Go.Proofs.YtdlkgpobjacgeaaDoor
