/-
  The walk of laws.FnExactDevFlush: it returns true.
-/
import Derived.Test.YtnbaffdonbnocaaLawInvV
import Derived.Test.YtnbaffdonbnocaaDevH
import Derived.Deep.RegionHeld3
namespace Go.Proofs.Ytnbaffdonbnocaa
open Go.ChangeShapes Go.WideShapes Go.ChangeAt Go.RowKit

set_option maxHeartbeats 16000000 in
set_option maxRecDepth 40000 in
theorem law_devFlush (a a' : Option Addr) (cap cap' : Nat) (S : List ByteArray) (L : List Slot) (x : Int) (w : World) (hs : StrRd w w.heap.size a S) (hsl : S.length ≤ maxLen) (hsk : ∀ j, (st S j).size ≤ maxLen) (hr : SlotRd w w.heap.size a' L) (hl : L.length ≤ maxLen) (hk : ∀ j, (ky L j).size ≤ maxLen) (_hx : (Lit.int .i64 x).wf = true) :
    Calls Try.prog 7 #[.agg #[.slice a S.length cap, .slice a' L.length cap', .int .i64 x]] w (TruePost w) := by
  have HRT := hide hs
  have HRS := hide hr
  clear hr hs
  go_enter Try.func7, Try.ntmps7
  go_wp2_with fail
  have hB0 := fun o => (Below.refl w.heap.size w).alloc (Nat.le_refl _) o
  refine (szDev_any a a' cap cap' S L x 1048576 _ ((HRT.out.below (hB0 _) (Nat.le_refl _)).mono (by simp)) hsl hsk ((HRS.out.below (hB0 _) (Nat.le_refl _)).mono (by simp)) hl hk (by omega) (by omega)).mono ?_
  rintro e w1 ⟨y, rfl, hy0, hy1, hP, hb1⟩
  have HX1 := hide ((BoxB.new 43 w (.slice a S.length cap) (.slice a' L.length cap') (.int .i64 x)).below hb1 (by simp))
  have HB1 := hide ((hB0 _).trans (hb1.mono (by simp)))
  have HP := hide hP
  clear hP hb1 hB0 hl hk hsl hsk
  obtain ⟨c10, c11, c12⟩ := HX1.out.cells
  by_cases hy : y < 0
  · go_wp2_with fail
    go_ret
    exact ⟨rfl, HB1.out⟩
  have HSL := hide (HP.out (by omega)).1
  have HL := hide (HP.out (by omega)).2
  have HTO := hide (fun W (h1 : Below w.heap.size w W) => toDev_any a a' cap cap' S L x W ((HRT.out.below h1 (Nat.le_refl _)).mono h1.size) HSL.out ((HRS.out.below h1 (Nat.le_refl _)).mono h1.size) HL.out)
  obtain ⟨va, hva⟩ : ∃ v, v = Value.slice a S.length cap := ⟨_, rfl⟩
  obtain ⟨vb, hvb⟩ : ∃ v, v = Value.slice a' L.length cap' := ⟨_, rfl⟩
  rw [← hva] at HTO HX1 c10 ⊢
  rw [← hvb] at HTO HX1 c11 ⊢
  clear HRT HRS HP hva hvb
  go_wp2_with fail
  -- the model's answer
  refine (HTO.out _ HB1.out).mono ?_
  rintro e w2 ⟨g2, k2, rfl, hg2, hgk2, hz2, ht2, hh2, hb2⟩
  have HX2 := hide (HX1.out.below hb2 HX1.out.lt)
  have HB2 := hide (HB1.out.trans (hb2.mono HB1.out.size))
  have HH2 := hide (hh2.own0 HL.out)
  have HT2 := hide (ht2.own0 HSL.out)
  clear hh2 ht2 hb2 c10 c11 c12 HX1 HB1 hy
  obtain ⟨R, hR⟩ : ∃ R, R = fallV S L x (fun _ => true) := ⟨_, rfl⟩
  have HS := hide (fun v v' W (h : OwnsT 0 W v S) (h' : OwnsS 0 W v' L) => sDevFlush_any 0 0 v v' S L x W h (by have := HSL.out; omega) h' (by have := HL.out; omega))
  have HI := hide (fun v v' W (h : OwnsT 0 W v S) (h' : OwnsS 0 W v' L) => iDevFlush_any 0 0 v v' S L x W h (by have := HSL.out; omega) h' (by have := HL.out; omega))
  have hRl : R.S.length ≤ 1048577 ∧ R.L.length ≤ 1048577 := by rw [hR]; have := length_fallV S L x (fun _ => true); have := HSL.out; have := HL.out; omega
  rw [← hR] at HS HI
  have HLT := hide hRl.1
  have HLR := hide hRl.2
  clear hR hRl
  go_wp2_with fail
  refine (HS.out _ _ _ HT2.out HH2.out).mono ?_
  rintro e w3 ⟨v6, u6, rfl, ht6, ho6, hb3⟩
  obtain ⟨a6, c6, rfl, _⟩ := ht6.form
  obtain ⟨d6, e6, rfl, _⟩ := ho6.form
  have HX3 := hide (HX2.out.below hb3 HX2.out.lt)
  have HB3 := hide (HB2.out.trans (hb3.mono HB2.out.size))
  have HT6 := hide ht6
  have HO6 := hide ho6
  have h02 := HX2.out.lt
  clear hb3 ho6 ht6 HX2 HB2 HH2 HT2 HS
  have h03 := HX3.out.lt
  obtain ⟨W4, hW4⟩ : ∃ W4, W4 = w3.alloc (.cells #[.slice a6 R.S.length c6, .slice d6 R.L.length e6, .int .i64 R.x] 27) := ⟨_, rfl⟩
  have HX4 := hide (show BoxB 43 W4 w.heap.size _ _ _ from hW4 ▸ HX3.out.alloc _)
  have HB4 := hide (show Below w.heap.size w W4 from hW4 ▸ HB3.out.alloc HB3.out.size _)
  have HT64 := hide (show OwnsT w2.heap.size W4 _ _ from hW4 ▸ HT6.out.alloc _)
  have HO64 := hide (show OwnsS w2.heap.size W4 _ _ from hW4 ▸ HO6.out.alloc _)
  have H64 := hide (show BoxB 27 W4 w3.heap.size _ _ _ from hW4 ▸ BoxB.new _ w3 _ _ _)
  have HK6 := hide (show ∀ k, (Value.slice a6 R.S.length c6).ownBlock = some k → w.heap.size < k ∧ k < w3.heap.size from fun k e => by have := HT6.out.lt k e; omega)
  have HM6 := hide (show ∀ k, (Value.slice d6 R.L.length e6).ownBlock = some k → w.heap.size < k ∧ k < w3.heap.size from fun k e => by have := HO6.out.lt k e; omega)
  have h34 : w3.heap.size < W4.heap.size := by rw [hW4]; simp
  obtain ⟨c0, c1, c2⟩ := HX3.out.cells
  go_wp2_with fail
  rw [← hW4]
  clear hW4 HX3 HB3 HO6 HT6 c0 c1 c2
  -- the argument
  refine (HTO.out _ HB4.out).mono ?_
  rintro e w5 ⟨gx, hx, rfl, hgx, hgh, hzx, htx, hhx, hb5⟩
  have HX5 := hide (HX4.out.below hb5 HX4.out.lt)
  have HB5 := hide (HB4.out.trans (hb5.mono HB4.out.size))
  have HT65 := hide (HT64.out.below hb5 (Nat.le_refl _))
  have HO65 := hide (HO64.out.below hb5 (Nat.le_refl _))
  have H65 := hide (H64.out.below hb5 H64.out.lt)
  have HGX := hide htx
  have HHX := hide hhx
  clear hhx htx hb5 HX4 HB4 HO64 HT64 H64
  obtain ⟨W6, hW6⟩ : ∃ W6, W6 = w5.alloc (.cells #[.slice (some ⟨gx, 0, none⟩) S.length S.length, .slice (some ⟨hx, 0, none⟩) L.length L.length, .int .i64 x] 27) := ⟨_, rfl⟩
  have HX6 := hide (show BoxB 43 W6 w.heap.size _ _ _ from hW6 ▸ HX5.out.alloc _)
  have HB6 := hide (show Below w.heap.size w W6 from hW6 ▸ HB5.out.alloc HB5.out.size _)
  have HT66 := hide (show OwnsT w2.heap.size W6 _ _ from hW6 ▸ HT65.out.alloc _)
  have HO66 := hide (show OwnsS w2.heap.size W6 _ _ from hW6 ▸ HO65.out.alloc _)
  have H66 := hide (show BoxB 27 W6 w3.heap.size _ _ _ from hW6 ▸ H65.out.alloc _)
  have H86 := hide (show BoxB 27 W6 w5.heap.size _ _ _ from hW6 ▸ BoxB.new _ w5 _ _ _)
  have HGX6 := hide (show HoldsT W6 gx S from hW6 ▸ HGX.out.alloc _)
  have HHX6 := hide (show HoldsS W6 hx L from hW6 ▸ HHX.out.below ((Below.refl w5.heap.size w5).alloc (Nat.le_refl _) _) hzx)
  have h56 : w5.heap.size < W6.heap.size := by rw [hW6]; simp
  go_wp2_with fail
  rw [← hW6]
  clear hW6 HX5 HB5 HO65 HT65 H65 HGX HHX
  -- the answer
  refine (HI.out _ _ _ (HGX6.out.own0 HSL.out) (HHX6.out.own0 HL.out)).mono ?_
  rintro e w7 ⟨v9, u9, rfl, ht9, ho9, hb7⟩
  obtain ⟨a9, c9, rfl, _⟩ := ht9.form
  obtain ⟨d9, e9, rfl, _⟩ := ho9.form
  have h67 := hb7.size
  have HX7 := hide (HX6.out.below hb7 HX6.out.lt)
  have HB7 := hide (HB6.out.trans (hb7.mono HB6.out.size))
  have HT67 := hide (HT66.out.below hb7 (Nat.le_refl _))
  have HO67 := hide (HO66.out.below hb7 (Nat.le_refl _))
  have H67 := hide (H66.out.below hb7 H66.out.lt)
  have H87 := hide (H86.out.below hb7 H86.out.lt)
  have HGX7 := hide (HGX6.out.below hb7 (by omega))
  have HHX7 := hide (HHX6.out.below hb7 (by omega))
  have HT97 := hide ht9
  have HO97 := hide ho9
  have HK9 := hide (show ∀ k, (Value.slice a9 R.S.length c9).ownBlock = some k → w5.heap.size < k ∧ k < w7.heap.size from fun k e => by have := ht9.lt k e; omega)
  have HM9 := hide (show ∀ k, (Value.slice d9 R.L.length e9).ownBlock = some k → w5.heap.size < k ∧ k < w7.heap.size from fun k e => by have := ho9.lt k e; omega)
  clear hb7 ho9 ht9 HX6 HB6 HO66 HT66 H66 H86 HGX6 HHX6
  obtain ⟨W8, hW8⟩ : ∃ W8, W8 = w7.alloc (.cells #[.slice a9 R.S.length c9, .slice d9 R.L.length e9, .int .i64 R.x] 27) := ⟨_, rfl⟩
  have HG8 := hide (show HoldsT W8 gx S from hW8 ▸ HGX7.out.alloc _)
  have HH8 := hide (show HoldsS W8 hx L from hW8 ▸ HHX7.out.below ((Below.refl w7.heap.size w7).alloc (Nat.le_refl _) _) (by omega))
  have HT8 := hide (show OwnsT 0 W8 (.slice a9 R.S.length c9) R.S from hW8 ▸ (HT97.out.mono (Nat.zero_le _)).alloc _)
  have HO8 := hide (show OwnsS 0 W8 (.slice d9 R.L.length e9) R.L from hW8 ▸ (HO97.out.mono (Nat.zero_le _)).alloc _)
  have HV8 := hide (show Inv w va vb S L x R w3.heap.size (.slice a6 R.S.length c6) (.slice d6 R.L.length e6) w5.heap.size gx hx w7.heap.size (.slice a9 R.S.length c9) (.slice d9 R.L.length e9) W8 from
    ⟨hW8 ▸ HB7.out.alloc HB7.out.size _, hW8 ▸ HX7.out.alloc _, hW8 ▸ H67.out.alloc _, hW8 ▸ (HT67.out.mono (Nat.zero_le _)).alloc _, hW8 ▸ (HO67.out.mono (Nat.zero_le _)).alloc _, hW8 ▸ H87.out.alloc _, hW8 ▸ BoxB.new _ w7 _ _ _, h03, by omega, hgh, hzx, by omega, HK6.out, HM6.out, HK9.out, HM9.out⟩)
  have h78 : w7.heap.size < W8.heap.size := by rw [hW8]; simp
  obtain ⟨q0, q1, q2⟩ := H67.out.cells
  have hl6 := H67.out.lt
  go_wp2_with fail
  rw [← hW8]
  clear hW8 HX7 HB7 HO67 HT67 H67 H87 HGX7 HHX7 HO97 HT97 HK6 HM6 HK9 HM9 q0 q1 q2 hl6
  have HEQ := hide (fun W c1 c2 c1' c2' a1 a2 a1' a2' h1 h2 h3 h4 => eqDev_same a1 a2 a1' a2' c1 c2 c1' c2' R.S R.L R.x W h1 h2 (by have := HLT.out; omega) h3 h4 (by have := HLR.out; omega))
  refine (HEQ.out _ _ _ _ _ _ _ _ _ HT8.out.rd HV8.out.t6.rd HO8.out.rd HV8.out.o6.rd).mono ?_
  rintro e w9 ⟨rfl, hb9⟩
  have HV9 := hide (HV8.out.keep hb9)
  have HG9 := hide (HG8.out.below hb9 (by omega))
  have HH9 := hide (HH8.out.below hb9 (by omega))
  have HT9 := hide (HT8.out.below hb9 (Nat.le_refl _))
  have HO9 := hide (HO8.out.below hb9 (Nat.le_refl _))
  have h89 := hb9.size
  clear hb9 HV8 HG8 HH8 HT8 HO8
  obtain ⟨c0, c1, c2⟩ := HV9.out.b0.cells
  obtain ⟨d0, d1, d2⟩ := HV9.out.b8.cells
  go_wp2_with fail
  go_region_held3 (fun w' => (w'.cell? ⟨w.heap.size, 0, none⟩ = some va ∧ w'.cell? ⟨w.heap.size, 1, none⟩ = some vb ∧ w'.cell? ⟨w.heap.size, 2, none⟩ = some (.int .i64 x)) ∧
      (w'.cell? ⟨w5.heap.size, 0, none⟩ = some (.slice (some ⟨gx, 0, none⟩) S.length S.length) ∧ w'.cell? ⟨w5.heap.size, 1, none⟩ = some (.slice (some ⟨hx, 0, none⟩) L.length L.length) ∧ w'.cell? ⟨w5.heap.size, 2, none⟩ = some (.int .i64 x)))
    (first
      | with_reducible exact ⟨HV9.out.b0.cells, HV9.out.b8.cells⟩
      | with_reducible exact ⟨HV9.out.b0.drew.cells, HV9.out.b8.drew.cells⟩
      | with_reducible exact ⟨HV10.out.b0.cells, HV10.out.b8.cells⟩
      | with_reducible exact ⟨HV11.out.b0.cells, HV11.out.b8.cells⟩)
    (first
      | (go_at_call 19
         refine (HTO.out _ HV9.out.below.drew).mono ?_
         rintro e w10 ⟨g10, k10, rfl, hg10, hgk10, hz10, ht10, hh10, hb10⟩
         have hb10' := below_of_drew hb10
         have HV10 := hide (HV9.out.keep hb10')
         have HG10 := hide (HG9.out.below hb10' (by omega))
         have HH10 := hide (HH9.out.below hb10' (by omega))
         have HT10 := hide (HT9.out.below hb10' (Nat.le_refl _))
         have HO10 := hide (HO9.out.below hb10' (Nat.le_refl _))
         have HA10 := hide ht10
         have HC10 := hide hh10
         have h910 := hb10'.size
         clear hb10 hb10' hh10 ht10)
      | (go_at_call 21
         refine (eqDev_same _ _ _ _ _ _ _ _ S L x _ HG10.out.rd HA10.out.rd (by have := HSL.out; omega) HH10.out.rd HC10.out.rd (by have := HL.out; omega)).mono ?_
         rintro e w11 ⟨rfl, hb11⟩
         have HV11 := hide (HV10.out.keep hb11)
         have HG11 := hide (HG10.out.below hb11 (by omega))
         have HH11 := hide (HH10.out.below hb11 (by omega))
         have HT11 := hide (HT10.out.below hb11 (Nat.le_refl _))
         have HO11 := hide (HO10.out.below hb11 (Nat.le_refl _))
         clear hb11))
  clear c0 c1 c2 d0 d1 d2 HV9 HG9 HH9 HT9 HO9
  obtain ⟨d0, d1, d2⟩ := HV11.out.b8.cells
  go_wp2_with fail
  -- the argument is marked
  refine (markDev1 _ _ _ _ S L x _ (HG11.out.own0 HSL.out) (HH11.out.own0 HL.out) (by have := HSL.out; omega) (by have := HL.out; omega)).mono ?_
  rintro e w12 ⟨rfl, _, _, hn12⟩
  have HV12 := hide (HV11.out.mark8 hn12)
  have HT12 := hide (HV11.out.ownsT HT11.out hn12)
  have HO12 := hide (HV11.out.ownsS HO11.out hn12)
  clear hn12 d0 d1 d2 HV10 HG10 HH10 HV11 HG11 HH11 HT10 HO10 HT11 HO11 HA10 HC10
  obtain ⟨y0, y1, y2⟩ := HV12.out.b9.cells
  obtain ⟨q0, q1, q2⟩ := HV12.out.b6.cells
  go_wp2_with fail
  refine (HEQ.out _ _ _ _ _ _ _ _ _ HT12.out.rd HV12.out.t6.rd HO12.out.rd HV12.out.o6.rd).mono ?_
  rintro e w13 ⟨rfl, hb13⟩
  have HV13 := hide (HV12.out.keep hb13)
  have HT13 := hide (HT12.out.below hb13 (Nat.le_refl _))
  have HO13 := hide (HO12.out.below hb13 (Nat.le_refl _))
  clear hb13 HV12 HT12 HO12 y0 y1 y2 q0 q1 q2
  obtain ⟨y0, y1, y2⟩ := HV13.out.b9.cells
  go_wp2_with fail
  -- the answer is marked
  refine (markDev1 _ _ _ _ R.S R.L R.x _ HT13.out HO13.out (by have := HLT.out; omega) (by have := HLR.out; omega)).mono ?_
  rintro e w14 ⟨rfl, ht14, ho14, hn14⟩
  have HV14 := hide (HV13.out.mark9 hn14)
  have HT14 := hide ht14
  have HO14 := hide ho14
  clear hn14 ht14 ho14 HV13 HT13 HO13 y0 y1 y2
  have HHE := hide (fun W h1 h2 => heldDev1 a9 d9 c9 e9 R.S.length R.L.length R.x W h1 h2 (by have := HLT.out; omega) (by have := HLR.out; omega))
  obtain ⟨y0, y1, y2⟩ := HV14.out.b9.cells
  go_wp2_with fail
  refine (HHE.out _ HT14.out HO14.out).mono ?_
  rintro e w15 ⟨rfl, hb15⟩
  have HV15 := hide (HV14.out.keep hb15)
  have HT15 := hide (HT14.out.below hb15 (Nat.le_refl _))
  have HO15 := hide (HO14.out.below hb15 (Nat.le_refl _))
  clear hb15 HV14 HT14 HO14 y0 y1 y2
  obtain ⟨c0, c1, c2⟩ := HV15.out.b0.cells
  go_wp2_with fail
  -- the call once more
  refine (HTO.out _ HV15.out.below).mono ?_
  rintro e w16 ⟨g16, k16, rfl, hg16, hgk16, hz16, ht16, hh16, hb16⟩
  have HV16 := hide (HV15.out.keep hb16)
  have HT16 := hide (HT15.out.below hb16 (Nat.le_refl _))
  have HO16 := hide (HO15.out.below hb16 (Nat.le_refl _))
  have HA16 := hide (ht16.own0 HSL.out)
  have HC16 := hide (hh16.own0 HL.out)
  clear hb16 hh16 ht16 HV15 HT15 HO15 c0 c1 c2
  go_wp2_with fail
  refine (HI.out _ _ _ HA16.out HC16.out).mono ?_
  rintro e w17 ⟨vh, uh, rfl, hth, hoh, hb17⟩
  obtain ⟨ah, ch, rfl, _⟩ := hth.form
  obtain ⟨dh, eh, rfl, _⟩ := hoh.form
  have HV17 := hide (HV16.out.keep hb17)
  obtain ⟨W18, hW18⟩ : ∃ W18, W18 = w17.alloc (.cells #[.slice ah R.S.length ch, .slice dh R.L.length eh, .int .i64 R.x] 27) := ⟨_, rfl⟩
  have HV18 := hide (show Inv w va vb S L x R w3.heap.size _ _ w5.heap.size gx hx w7.heap.size _ _ W18 from hW18 ▸ HV17.out.keep ((Below.refl w17.heap.size w17).alloc (Nat.le_refl _) _))
  have HT18 := hide (show OwnsT 0 W18 (.slice a9 R.S.length c9) (markT 1 R.S.length) from hW18 ▸ (HT16.out.below hb17 (Nat.le_refl _)).alloc _)
  have HO18 := hide (show OwnsS 0 W18 (.slice d9 R.L.length e9) (markL (1 + R.S.length) R.L.length) from hW18 ▸ (HO16.out.below hb17 (Nat.le_refl _)).alloc _)
  have HTH := hide (show OwnsT w16.heap.size W18 _ _ from hW18 ▸ hth.alloc _)
  have HOH := hide (show OwnsS w16.heap.size W18 _ _ from hW18 ▸ hoh.alloc _)
  obtain ⟨q0, q1, q2⟩ := HV17.out.b6.cells
  have hl6 := HV17.out.b6.lt
  clear hb17 hoh hth HV16 HT16 HO16 HA16 HC16 HI
  go_wp2_with fail
  rw [← hW18]
  clear hW18 HV17 q0 q1 q2 hl6
  refine (HEQ.out _ _ _ _ _ _ _ _ _ HTH.out.rd HV18.out.t6.rd HOH.out.rd HV18.out.o6.rd).mono ?_
  rintro e w19 ⟨rfl, hb19⟩
  have HV19 := hide (HV18.out.keep hb19)
  have HT19 := hide (HT18.out.below hb19 (Nat.le_refl _))
  have HO19 := hide (HO18.out.below hb19 (Nat.le_refl _))
  clear hb19 HV18 HT18 HO18 HTH HOH
  obtain ⟨y0, y1, y2⟩ := HV19.out.b9.cells
  go_wp2_with fail
  refine (HHE.out _ HT19.out HO19.out).mono ?_
  rintro e w20 ⟨rfl, hb20⟩
  have HV20 := hide (HV19.out.keep hb20)
  clear hb20 HV19 y0 y1 y2
  go_wp2_with fail
  go_ret
  exact ⟨rfl, HV20.out.below⟩
end Go.Proofs.Ytnbaffdonbnocaa
