/-
  The walk of laws.FnExactKeyAdd: it returns true.
-/
import Derived.Test.YtpgbjbhoefjodaaLawInv
import Derived.Test.YtpgbjbhoefjodaaKeyD
import Derived.Deep.RegionHeld3
namespace Go.Proofs.Ytpgbjbhoefjodaa
open Go.ChangeShapes Go.WideShapes Go.ChangeAt Go.RowKit

set_option maxHeartbeats 8000000 in
set_option maxRecDepth 40000 in
theorem law_keyAdd (m : ByteArray) (a : Option Addr) (cap : Nat) (L : List Slot) (x t : Int) (key : ByteArray) (w : World) (hm : m.size ≤ maxLen) (hr : SlotRd w w.heap.size a L) (hl : L.length ≤ maxLen) (hk : ∀ j, (ky L j).size ≤ maxLen) (_hx : (Lit.int .i64 x).wf = true) (_ht : (Lit.int .i64 t).wf = true) (_hkey : key.size ≤ maxLen) :
    Calls Try.prog 4 #[.agg #[.string m, .slice a L.length cap, .int .i64 x], .int .i64 t, .string key] w (TruePost w) := by
  have HR := hide hr
  clear hr
  by_cases hbig : (1048576 : Int) < (key.size : Int)
  · go_enter Try.func4, Try.ntmps4
    go_wp2_with fail
    go_ret
    exact ⟨rfl, (Below.refl _ _).alloc (Nat.le_refl _) _⟩
  go_enter Try.func4, Try.ntmps4
  go_wp2_with fail
  have hB0 := fun o => (Below.refl w.heap.size w).alloc (Nat.le_refl _) o
  refine (szKeyDev_any m a cap L x 1048576 _ hm ((HR.out.below (hB0 _) (Nat.le_refl _)).mono (by simp)) hl hk (by omega) (by omega)).mono ?_
  rintro e w1 ⟨y, rfl, hy0, hy1, hP, hb1⟩
  have HX1 := hide ((BoxB.new 24 w (.string m) (.slice a L.length cap) (.int .i64 x)).below hb1 (by simp))
  have HB1 := hide ((hB0 _).trans (hb1.mono (by simp)))
  have HP := hide hP
  clear hP hb1 hB0 hm hl hk
  obtain ⟨c10, c11, c12⟩ := HX1.out.cells
  by_cases hy : y < 0
  · go_wp2_with fail
    go_ret
    exact ⟨rfl, HB1.out⟩
  have hlen := (HP.out (by omega)).2.1
  have HL := hide hlen
  clear hlen
  go_wp2_with fail
  -- the model's answer
  refine (toKeyDev_any m a cap L x _ ((HR.out.below HB1.out (Nat.le_refl _)).mono HB1.out.size) HL.out).mono ?_
  rintro e w2 ⟨g2, rfl, hg2, hz2, hh2, hb2⟩
  have HX2 := hide (HX1.out.below hb2 HX1.out.lt)
  have HB2 := hide (HB1.out.trans (hb2.mono HB1.out.size))
  have HH2 := hide (hh2.own0 HL.out)
  clear hh2 hb2 c10 c11 c12 HX1 HB1 hy
  obtain ⟨R, hR⟩ : ∃ R, R = addV m L x t key := ⟨_, rfl⟩
  have HS := hide (fun v W (h : OwnsS 0 W v L) => sKeyAdd_any 0 m v L x t key W h (by have := HL.out; omega))
  have HI := hide (fun v W (h : OwnsS 0 W v L) => iKeyAdd_any 0 m v L x t key W h (by have := HL.out; omega))
  have hRl : R.L.length ≤ 1048577 := by rw [hR]; have := length_addV m L x t key; have := HL.out; omega
  rw [← hR] at HS HI
  have HLR := hide hRl
  clear hR hRl
  go_wp2_with fail
  refine (HS.out _ _ HH2.out).mono ?_
  rintro e w3 ⟨v6, rfl, ho6, hb3⟩
  obtain ⟨a6, c6, rfl, _⟩ := ho6.form
  have HX3 := hide (HX2.out.below hb3 HX2.out.lt)
  have HB3 := hide (HB2.out.trans (hb3.mono HB2.out.size))
  have HO6 := hide ho6
  have h02 := HX2.out.lt
  clear hb3 ho6 HX2 HB2 HH2 HS
  obtain ⟨c0, c1, c2⟩ := HX3.out.cells
  have h03 := HX3.out.lt
  obtain ⟨W4, hW4⟩ : ∃ W4, W4 = w3.alloc (.cells #[.string R.m, .slice a6 R.L.length c6, .int .i64 R.x] 29) := ⟨_, rfl⟩
  have HX4 := hide (show BoxB 24 W4 w.heap.size _ _ _ from hW4 ▸ HX3.out.alloc _)
  have HB4 := hide (show Below w.heap.size w W4 from hW4 ▸ HB3.out.alloc HB3.out.size _)
  have HO64 := hide (show OwnsS w2.heap.size W4 _ _ from hW4 ▸ HO6.out.alloc _)
  have H64 := hide (show BoxB 29 W4 w3.heap.size _ _ _ from hW4 ▸ BoxB.new _ w3 _ _ _)
  have HK6 := hide (show ∀ k, (Value.slice a6 R.L.length c6).ownBlock = some k → w.heap.size < k ∧ k < w3.heap.size from fun k e => by have := HO6.out.lt k e; omega)
  have h34 : w3.heap.size < W4.heap.size := by rw [hW4]; simp
  go_wp2_with fail
  rw [← hW4]
  clear hW4 HX3 HB3 HO6 c0 c1 c2
  -- the argument
  refine (toKeyDev_any m a cap L x _ ((HR.out.below HB4.out (Nat.le_refl _)).mono HB4.out.size) HL.out).mono ?_
  rintro e w5 ⟨gx, rfl, hgx, hzx, hhx, hb5⟩
  have HX5 := hide (HX4.out.below hb5 HX4.out.lt)
  have HB5 := hide (HB4.out.trans (hb5.mono HB4.out.size))
  have HO65 := hide (HO64.out.below hb5 (Nat.le_refl _))
  have H65 := hide (H64.out.below hb5 H64.out.lt)
  have HGX := hide hhx
  clear hhx hb5 HX4 HB4 HO64 H64
  obtain ⟨W6, hW6⟩ : ∃ W6, W6 = w5.alloc (.cells #[.string m, .slice (some ⟨gx, 0, none⟩) L.length L.length, .int .i64 x] 29) := ⟨_, rfl⟩
  have HX6 := hide (show BoxB 24 W6 w.heap.size _ _ _ from hW6 ▸ HX5.out.alloc _)
  have HB6 := hide (show Below w.heap.size w W6 from hW6 ▸ HB5.out.alloc HB5.out.size _)
  have HO66 := hide (show OwnsS w2.heap.size W6 _ _ from hW6 ▸ HO65.out.alloc _)
  have H66 := hide (show BoxB 29 W6 w3.heap.size _ _ _ from hW6 ▸ H65.out.alloc _)
  have H86 := hide (show BoxB 29 W6 w5.heap.size _ _ _ from hW6 ▸ BoxB.new _ w5 _ _ _)
  have HGX6 := hide (show HoldsS W6 gx L from hW6 ▸ HGX.out.below ((Below.refl w5.heap.size w5).alloc (Nat.le_refl _) _) hzx)
  have h56 : w5.heap.size < W6.heap.size := by rw [hW6]; simp
  go_wp2_with fail
  rw [← hW6]
  clear hW6 HX5 HB5 HO65 H65 HGX
  -- the answer
  refine (HI.out _ _ (HGX6.out.own0 HL.out)).mono ?_
  rintro e w7 ⟨v9, rfl, ho9, hb7⟩
  obtain ⟨a9, c9, rfl, _⟩ := ho9.form
  have HX7 := hide (HX6.out.below hb7 HX6.out.lt)
  have HB7 := hide (HB6.out.trans (hb7.mono HB6.out.size))
  have HO67 := hide (HO66.out.below hb7 (Nat.le_refl _))
  have H67 := hide (H66.out.below hb7 H66.out.lt)
  have H87 := hide (H86.out.below hb7 H86.out.lt)
  have HGX7 := hide (HGX6.out.below hb7 (by omega))
  have HO97 := hide ho9
  have h67 := hb7.size
  have HK9 := hide (show ∀ k, (Value.slice a9 R.L.length c9).ownBlock = some k → w5.heap.size < k ∧ k < w7.heap.size from fun k e => by have := ho9.lt k e; omega)
  clear hb7 ho9 HX6 HB6 HO66 H66 H86 HGX6
  obtain ⟨W8, hW8⟩ : ∃ W8, W8 = w7.alloc (.cells #[.string R.m, .slice a9 R.L.length c9, .int .i64 R.x] 29) := ⟨_, rfl⟩
  have HG8 := hide (show HoldsS W8 gx L from hW8 ▸ HGX7.out.below ((Below.refl w7.heap.size w7).alloc (Nat.le_refl _) _) (by omega))
  have HV8 := hide (show Inv w m a L.length cap x R w3.heap.size a6 c6 w5.heap.size gx w7.heap.size a9 c9 R.L W8 from
    ⟨hW8 ▸ HB7.out.alloc HB7.out.size _, hW8 ▸ HX7.out.alloc _, hW8 ▸ H67.out.alloc _, hW8 ▸ (HO67.out.mono (Nat.zero_le _)).alloc _, hW8 ▸ H87.out.alloc _, hW8 ▸ BoxB.new _ w7 _ _ _, hW8 ▸ (HO97.out.mono (Nat.zero_le _)).alloc _, h03, by omega, hzx, by omega, HK6.out, HK9.out⟩)
  have h78 : w7.heap.size < W8.heap.size := by rw [hW8]; simp
  obtain ⟨q0, q1, q2⟩ := H67.out.cells
  have hl6 := H67.out.lt
  go_wp2_with fail
  rw [← hW8]
  clear hW8 HX7 HB7 HO67 H67 H87 HGX7 HO97 HK6 HK9 q0 q1 q2 hl6
  refine (eqKeyDev_same R.m a9 a6 c9 c6 R.L R.x _ HV8.out.o9.rd HV8.out.o6.rd (by have := HLR.out; omega)).mono ?_
  rintro e w9 ⟨rfl, hb9⟩
  have HV9 := hide (HV8.out.keep hb9)
  have HG9 := hide (HG8.out.below hb9 (by omega))
  have h89 := hb9.size
  clear hb9 HV8 HG8
  obtain ⟨c0, c1, c2⟩ := HV9.out.b0.cells
  obtain ⟨d0, d1, d2⟩ := HV9.out.b8.cells
  go_wp2_with fail
  go_region_held3 (fun w' => (w'.cell? ⟨w.heap.size, 0, none⟩ = some (.string m) ∧ w'.cell? ⟨w.heap.size, 1, none⟩ = some (.slice a L.length cap) ∧ w'.cell? ⟨w.heap.size, 2, none⟩ = some (.int .i64 x)) ∧
      (w'.cell? ⟨w5.heap.size, 0, none⟩ = some (.string m) ∧ w'.cell? ⟨w5.heap.size, 1, none⟩ = some (.slice (some ⟨gx, 0, none⟩) L.length L.length) ∧ w'.cell? ⟨w5.heap.size, 2, none⟩ = some (.int .i64 x)))
    (first
      | with_reducible exact ⟨HV9.out.b0.cells, HV9.out.b8.cells⟩
      | with_reducible exact ⟨HV9.out.b0.drew.cells, HV9.out.b8.drew.cells⟩
      | with_reducible exact ⟨HV10.out.b0.cells, HV10.out.b8.cells⟩
      | with_reducible exact ⟨HV11.out.b0.cells, HV11.out.b8.cells⟩)
    (first
      | (go_at_call 9
         refine (toKeyDev_any m a cap L x _ ((HR.out.below HV9.out.below.drew (Nat.le_refl _)).mono HV9.out.below.size) HL.out).mono ?_
         rintro e w10 ⟨g10, rfl, hg10, hz10, hh10, hb10⟩
         have hb10' := below_of_drew hb10
         have HV10 := hide (HV9.out.keep hb10')
         have HG10 := hide (HG9.out.below hb10' (by omega))
         have HH10 := hide hh10
         have h910 := hb10'.size
         clear hb10 hb10' hh10)
      | (go_at_call 11
         refine (eqKeyDev_same m _ _ _ _ L x _ HG10.out.rd HH10.out.rd (by have := HL.out; omega)).mono ?_
         rintro e w11 ⟨rfl, hb11⟩
         have HV11 := hide (HV10.out.keep hb11)
         have HG11 := hide (HG10.out.below hb11 (by omega))
         have h1011 := hb11.size
         clear hb11))
  clear c0 c1 c2 d0 d1 d2 HV9 HG9
  obtain ⟨d0, d1, d2⟩ := HV11.out.b8.cells
  go_wp2_with fail
  -- the argument is marked
  refine (markDev1 m _ _ L x _ (HG11.out.own0 HL.out) (by have := HL.out; omega)).mono ?_
  rintro e w12 ⟨rfl, _, ht12⟩
  have HV12 := hide (HV11.out.mark8 ht12)
  clear ht12 d0 d1 d2 HV10 HG10 HH10 HV11 HG11
  obtain ⟨y0, y1, y2⟩ := HV12.out.b9.cells
  obtain ⟨q0, q1, q2⟩ := HV12.out.b6.cells
  go_wp2_with fail
  refine (eqKeyDev_same R.m a9 a6 c9 c6 R.L R.x _ HV12.out.o9.rd HV12.out.o6.rd (by have := HLR.out; omega)).mono ?_
  rintro e w13 ⟨rfl, hb13⟩
  have HV13 := hide (HV12.out.keep hb13)
  clear hb13 HV12 y0 y1 y2 q0 q1 q2
  obtain ⟨y0, y1, y2⟩ := HV13.out.b9.cells
  go_wp2_with fail
  -- the answer is marked
  refine (markDev1 R.m _ _ R.L R.x _ HV13.out.o9 (by have := HLR.out; omega)).mono ?_
  rintro e w14 ⟨rfl, ho14, ht14⟩
  have HV14 := hide (HV13.out.mark9 ht14 ho14)
  clear ht14 ho14 HV13 y0 y1 y2
  obtain ⟨y0, y1, y2⟩ := HV14.out.b9.cells
  go_wp2_with fail
  refine (heldDev1 R.m _ _ _ R.x _ HV14.out.o9 (by have := HLR.out; omega)).mono ?_
  rintro e w15 ⟨rfl, hb15⟩
  have HV15 := hide (HV14.out.keep hb15)
  clear hb15 HV14 y0 y1 y2
  obtain ⟨c0, c1, c2⟩ := HV15.out.b0.cells
  go_wp2_with fail
  -- the call once more
  refine (toKeyDev_any m a cap L x _ ((HR.out.below HV15.out.below (Nat.le_refl _)).mono HV15.out.below.size) HL.out).mono ?_
  rintro e w16 ⟨g16, rfl, hg16, hz16, hh16, hb16⟩
  have HV16 := hide (HV15.out.keep hb16)
  have HH16 := hide (hh16.own0 HL.out)
  clear hb16 hh16 HV15 c0 c1 c2
  go_wp2_with fail
  refine (HI.out _ _ HH16.out).mono ?_
  rintro e w17 ⟨vh, rfl, hoh, hb17⟩
  obtain ⟨ah, ch, rfl, _⟩ := hoh.form
  have HV17 := hide (HV16.out.keep hb17)
  obtain ⟨W18, hW18⟩ : ∃ W18, W18 = w17.alloc (.cells #[.string R.m, .slice ah R.L.length ch, .int .i64 R.x] 29) := ⟨_, rfl⟩
  have HV18 := hide (show Inv w m a L.length cap x R w3.heap.size a6 c6 w5.heap.size gx w7.heap.size a9 c9 _ W18 from hW18 ▸ HV17.out.keep ((Below.refl w17.heap.size w17).alloc (Nat.le_refl _) _))
  have HOH := hide (show OwnsS w16.heap.size W18 _ _ from hW18 ▸ hoh.alloc _)
  obtain ⟨q0, q1, q2⟩ := HV17.out.b6.cells
  have hl6 := HV17.out.b6.lt
  clear hb17 hoh HV16 HH16 HI
  go_wp2_with fail
  rw [← hW18]
  clear hW18 HV17 q0 q1 q2 hl6
  refine (eqKeyDev_same R.m ah a6 ch c6 R.L R.x _ HOH.out.rd HV18.out.o6.rd (by have := HLR.out; omega)).mono ?_
  rintro e w19 ⟨rfl, hb19⟩
  have HV19 := hide (HV18.out.keep hb19)
  clear hb19 HV18 HOH
  obtain ⟨y0, y1, y2⟩ := HV19.out.b9.cells
  go_wp2_with fail
  refine (heldDev1 R.m _ _ _ R.x _ HV19.out.o9 (by have := HLR.out; omega)).mono ?_
  rintro e w20 ⟨rfl, hb20⟩
  have HV20 := hide (HV19.out.keep hb20)
  clear hb20 HV19 y0 y1 y2
  go_wp2_with fail
  go_ret
  exact ⟨rfl, HV20.out.below⟩
end Go.Proofs.Ytpgbjbhoefjodaa
