/-
  The walk of laws.FnExactMemPut. (Written by mklaw9.py.)
-/
import Derived.Test.YthpeoeiaiabfcaaSzEnt
import Derived.Test.YthpeoeiaiabfcaaEqEnt
import Derived.Test.YthpeoeiaiabfcaaMarkEnt
import Derived.Test.YthpeoeiaiabfcaaMemG
import Derived.Test.YthpeoeiaiabfcaaMemC
import Derived.Test.YthpeoeiaiabfcaaRowH
import Derived.Test.YthpeoeiaiabfcaaOpenEnt
import Derived.Deep.RegionHeld3
namespace Go.Proofs.Ythpeoeiaiabfcaa
open Go.ChangeShapes Go.WideShapes Go.ChangeAt Go.RowKit

set_option maxHeartbeats 8000000 in
set_option maxRecDepth 40000 in
theorem law_MemPut (a0 : Option Addr) (cap0 : Nat) (L : List EntE) (s10 : ByteArray) (s11 : Int) (s12 : Bool) (s13 : ByteArray) (w : World) (hr : elEnt.Rd w w.heap.size a0 L) (hl : L.length ≤ maxLen) (hc : ∀ z ∈ L, cameEnt z) (hs10 : s10.size ≤ maxLen) (_ : (Lit.int .i64 s11).wf = true) (hs13 : s13.size ≤ maxLen) :
    Calls Try.prog 5 #[.slice a0 L.length cap0, .agg #[.string s10, .int .i64 s11, .bool s12, .string s13]] w (TruePost w) := by
  have HR := hide hr
  have HC := hide hc
  have HL := hide hl
  clear hr hc
  have HSZ := hide (fun W (h1 : Below w.heap.size w W) => szEntS_any a0 cap0 L 1048576 W ((HR.out.below h1 (Nat.le_refl _)).mono h1.size) HL.out (cameEnt_sz HC.out) (by omega) (by omega))
  obtain ⟨n, hn⟩ : ∃ n, n = L.length := ⟨_, rfl⟩
  have HN := hide hn
  rw [← hn] at HSZ ⊢
  clear hn hl
  have HX0 := hide (BoxV.new 48 w #[.string s10, .int .i64 s11, .bool s12, .string s13])
  have HB0 := hide ((Below.refl w.heap.size w).alloc (Nat.le_refl _) (.cells #[.string s10, .int .i64 s11, .bool s12, .string s13] 48))
  go_enter Try.func5, Try.ntmps5
  go_wp2_with fail
  refine (HSZ.out _ HB0.out).mono ?_
  rintro e w1 ⟨y, rfl, hy0, hy1, hP, hb1⟩
  have HB1 := hide (HB0.out.trans (hb1.mono HB0.out.size))
  have HX1 := hide (HX0.out.below hb1 HX0.out.lt)
  have HP := hide hP
  clear hP hb1 HSZ
  by_cases hy : y < 0
  · go_wp2_with fail
    go_ret
    exact ⟨rfl, HB1.out⟩
  have HK := hide (show L.length ≤ 1048576 by have := (HP.out (by omega)).1; rw [HN.out] at this; exact this)
  obtain ⟨c0, c1, c2, c3⟩ := (show w1.cell? ⟨w.heap.size, 0, none⟩ = some (.string s10) ∧ w1.cell? ⟨w.heap.size, 1, none⟩ = some (.int .i64 s11) ∧ w1.cell? ⟨w.heap.size, 2, none⟩ = some (.bool s12) ∧ w1.cell? ⟨w.heap.size, 3, none⟩ = some (.string s13) from ⟨HX1.out.cell 0 _ rfl, HX1.out.cell 1 _ rfl, HX1.out.cell 2 _ rfl, HX1.out.cell 3 _ rfl⟩)
  go_wp2_with fail
  refine (szEnt_any s10 s11 s12 s13 y _ hs10 hs13 (by omega) hy1).mono ?_
  rintro e w2 ⟨y2, rfl, hz0, hz1, hzf, hb2⟩
  clear hzf
  have HB2 := hide (HB1.out.trans (hb2.mono HB1.out.size))
  have HX2 := hide (HX1.out.below hb2 HX1.out.lt)
  clear hb2 c0 c1 c2 c3 HX1 HX0
  by_cases hy2 : y2 < 0
  · go_wp2_with fail
    go_ret
    exact ⟨rfl, HB2.out⟩
  have HTO := hide (fun W (h1 : Below w.heap.size w W) => toEntS_any a0 cap0 L W ((HR.out.below h1 (Nat.le_refl _)).mono h1.size) HK.out)
  have HSP := hide (fun W a c (h : elEnt.Owns w.heap.size W (.slice a L.length c) L) => sMemPut_any _ a c L s10 s11 s12 s13 W h (by have := HK.out; omega))
  have HIM := hide (fun W a c (h : elEnt.Owns w.heap.size W (.slice a L.length c) L) => iMemPut_any _ a c L s10 s11 s12 s13 W h (by have := HK.out; omega))
  have HEQ := hide (fun W b1 b2 c1 c2 (h1 : elEnt.Rd W W.heap.size b1 L) (h2 : elEnt.Rd W W.heap.size b2 L) => eqEntS_same b1 b2 c1 c2 L W h1 h2 (by have := HK.out; omega))
  have HMX := hide (fun W B a c (h : elEnt.Owns B W (.slice a L.length c) L) => markEntS_any B a c 1 L W h (by omega) (by have := HK.out; omega))
  have HOW := hide (fun W g (h : elEnt.Holds W g L) (hg : w.heap.size ≤ g) => h.owns hg (show L.length ≤ maxLen by have := HK.out; unfold maxLen; omega))
  have HXL := hide (show (putM L (s10, s11, s12, s13)).length ≤ 1048577 from by have := putM_len L (s10, s11, s12, s13); have := HK.out; omega)
  obtain ⟨X, hX⟩ : ∃ X, X = putM L (s10, s11, s12, s13) := ⟨_, rfl⟩
  obtain ⟨Q, hQ⟩ : ∃ Q, Q = putB L (s10, s11, s12, s13) := ⟨_, rfl⟩
  have HRA := hide (fun W b1 b2 c1 c2 (h1 : elEnt.Rd W W.heap.size b1 X) (h2 : elEnt.Rd W W.heap.size b2 X) => eqEntS_same b1 b2 c1 c2 X W h1 h2 (by have := HXL.out; rw [← hX] at this; omega))
  have HMK := hide (fun W B a c (h : elEnt.Owns B W (.slice a X.length c) X) => markEntS_any B a c 1 X W h (by omega) (by have := HXL.out; rw [← hX] at this; omega))
  have HHE := hide (fun W a c (h : elEnt.Rd W W.heap.size a (marksG markEnt 4 1 X.length)) => heldEntS_any a c 1 X.length W h (by omega) (by have := HXL.out; rw [← hX] at this; omega))
  have HXN := hide (show X.length ≤ 1048577 by have := HXL.out; rw [← hX] at this; exact this)
  rw [← hX, ← hQ] at HSP HIM
  unfold PutPost' at HSP
  unfold PutPost at HIM
  obtain ⟨m, hm⟩ : ∃ m, m = X.length := ⟨_, rfl⟩
  have HM := hide hm
  have hm1 : m ≤ 1048577 := by rw [hm]; exact HXN.out
  rw [← hm] at HRA HMK HHE
  rw [← HN.out] at HTO HSP HIM HEQ HMX HOW
  clear hX hQ hm HR HC HL HP HK
  have hq : (Q != Q) = false := by cases Q <;> rfl
  go_wp2_with fail
  go_region_held3 (fun w' => w'.cell? ⟨w.heap.size, 0, none⟩ = some (.string s10) ∧ w'.cell? ⟨w.heap.size, 1, none⟩ = some (.int .i64 s11) ∧ w'.cell? ⟨w.heap.size, 2, none⟩ = some (.bool s12) ∧ w'.cell? ⟨w.heap.size, 3, none⟩ = some (.string s13))
    (first
      | exact ⟨HX2.out.cell 0 _ rfl, HX2.out.cell 1 _ rfl, HX2.out.cell 2 _ rfl, HX2.out.cell 3 _ rfl⟩
      | exact ⟨HX21.out.cell 0 _ rfl, HX21.out.cell 1 _ rfl, HX21.out.cell 2 _ rfl, HX21.out.cell 3 _ rfl⟩
      | exact ⟨HX22.out.cell 0 _ rfl, HX22.out.cell 1 _ rfl, HX22.out.cell 2 _ rfl, HX22.out.cell 3 _ rfl⟩
      | exact ⟨HX23.out.cell 0 _ rfl, HX23.out.cell 1 _ rfl, HX23.out.cell 2 _ rfl, HX23.out.cell 3 _ rfl⟩)
    (first
      | (have hq1 := HT21.out
         have hq2 := HB22.out
         clear hq1 hq2
         go_at_call 12
         refine (HSP.out _ _ _ (HOW.out _ _ HT21.out hgt21)).mono ?_
         rintro e w23 ⟨v, rfl, ho23, hb23⟩
         obtain ⟨aS, cS, rfl, hrd23, _⟩ := ho23.form
         have HS23 := hide hrd23
         have HB23 := hide (HB22.out.trans (hb23.mono HB22.out.size))
         have HX23 := hide (HX22.out.below hb23 HX22.out.lt)
         clear ho23 hrd23 hb23)
      | (have hq1 := HT21.out
         clear hq1
         go_at_call 27
         refine (toEnt_any s10 s11 s12 s13 _).mono ?_
         rintro e w22 ⟨rfl, hb22⟩
         have HB22 := hide (HB21.out.trans (hb22.mono HB21.out.size))
         have HX22 := hide (HX21.out.below hb22 HX21.out.lt)
         replace HT21 := hide (HT21.out.below hb22 hzt21)
         clear hb22)
      | (have hq1 := HB22.out
         clear hq1
         go_at_call 23
         refine (HTO.out _ HB22.out).mono ?_
         rintro e w21 ⟨rfl, hh21, hb21, hz21⟩
         have HT21 := hide hh21
         have hgt21 := HB22.out.size
         replace HX22 := hide (HX22.out.below hb21 HX22.out.lt)
         replace HB22 := hide (HB22.out.trans (hb21.mono HB22.out.size))
         clear hh21 hb21)
      | (go_at_call 27
         refine (toEnt_any s10 s11 s12 s13 _).mono ?_
         rintro e w22 ⟨rfl, hb22⟩
         have hb22' := below_drew' hb22
         have HB22 := hide (HB2.out.trans (hb22'.mono HB2.out.size))
         have HX22 := hide (HX2.out.below hb22' HX2.out.lt)
         clear hb22 hb22')
      | (go_at_call 23
         refine (HTO.out _ HB2.out.drew).mono ?_
         rintro e w21 ⟨rfl, hh21, hb21, hz21⟩
         have hb21' := below_drew' hb21
         have HT21 := hide hh21
         have hgt21 := HB2.out.size
         have hzt21 := hz21
         have HX21 := hide (HX2.out.below hb21' HX2.out.lt)
         have HB21 := hide (HB2.out.trans (hb21'.mono HB2.out.size))
         clear hh21 hb21 hb21'))
  all_goals rw [← HM.out]
  all_goals have hgs23 : w23.heap.size ≤ w23.heap.size := Nat.le_refl _
  all_goals clear HSP HX2
  all_goals go_wp2_with fail
  all_goals refine (HTO.out _ HB23.out).mono ?_
  all_goals rintro e w24 ⟨rfl, hh24, hb24, hz24⟩
  all_goals have HT24 := hide hh24
  all_goals have HB24 := hide (HB23.out.trans (hb24.mono HB23.out.size))
  all_goals have HX24 := hide (HX23.out.below hb24 HX23.out.lt)
  all_goals have HS24 := hide (HS23.out.below hb24 hgs23)
  all_goals have hgs24 := Nat.le_trans hgs23 hb24.size
  all_goals have HH24 := HT24
  all_goals have hgx24 := hz24
  all_goals have hxx := HX23.out.lt
  all_goals have hwx24 := HB23.out.size
  all_goals have hsx24 := hgs23
  all_goals clear hh24 hb24 HT24
  all_goals obtain ⟨k0, k1, k2, k3⟩ := (show w24.cell? ⟨w.heap.size, 0, none⟩ = some (.string s10) ∧ w24.cell? ⟨w.heap.size, 1, none⟩ = some (.int .i64 s11) ∧ w24.cell? ⟨w.heap.size, 2, none⟩ = some (.bool s12) ∧ w24.cell? ⟨w.heap.size, 3, none⟩ = some (.string s13) from ⟨HX24.out.cell 0 _ rfl, HX24.out.cell 1 _ rfl, HX24.out.cell 2 _ rfl, HX24.out.cell 3 _ rfl⟩)
  all_goals go_wp2_with fail
  all_goals refine (toEnt_any s10 s11 s12 s13 _).mono ?_
  all_goals rintro e w25 ⟨rfl, hb25⟩
  all_goals have HB25 := hide (HB24.out.trans (hb25.mono HB24.out.size))
  all_goals have HX25 := hide (HX24.out.below hb25 HX24.out.lt)
  all_goals have HS25 := hide (HS24.out.below hb25 hgs24)
  all_goals have hgs25 := Nat.le_trans hgs24 hb25.size
  all_goals have HH25 := hide (HH24.out.below hb25 hgx24)
  all_goals have hgx25 := Nat.lt_of_lt_of_le hgx24 hb25.size
  all_goals clear hb25 k0 k1 k2 k3
  all_goals go_wp2_with fail
  all_goals refine (HIM.out _ _ _ (HOW.out _ _ HH25.out hwx24)).mono ?_
  all_goals rintro e w26 ⟨v26, rfl, ho26, hb26⟩
  all_goals obtain ⟨ag, cg, rfl, hrd26, _⟩ := ho26.form
  all_goals rw [← HM.out] at ho26 ⊢
  all_goals have HG26 := hide ho26
  all_goals have hwg := HB25.out.size
  all_goals have hbg := hgx25
  all_goals have HB26 := hide (HB25.out.trans (hb26.mono HB25.out.size))
  all_goals have HX26 := hide (HX25.out.below hb26 HX25.out.lt)
  all_goals have HS26 := hide (HS25.out.below hb26 hgs25)
  all_goals have hgs26 := Nat.le_trans hgs25 hb26.size
  all_goals have HH26 := hide (HH25.out.below hb26 hgx25)
  all_goals have hgx26 := Nat.lt_of_lt_of_le hgx25 hb26.size
  all_goals have HQ26 := hide hrd26
  all_goals have hbs26 := hb26.size
  all_goals clear ho26 hb26 hrd26
  all_goals go_wp2_with fail
  all_goals refine (HRA.out _ _ _ _ _ HQ26.out ((HS26.out).mono hgs26)).mono ?_
  all_goals rintro e w27 ⟨rfl, hb27⟩
  all_goals have HB27 := hide (HB26.out.trans (hb27.mono HB26.out.size))
  all_goals have HX27 := hide (HX26.out.below hb27 HX26.out.lt)
  all_goals have HS27 := hide (HS26.out.below hb27 hgs26)
  all_goals have hgs27 := Nat.le_trans hgs26 hb27.size
  all_goals have HH27 := hide (HH26.out.below hb27 hgx26)
  all_goals have hgx27 := Nat.lt_of_lt_of_le hgx26 hb27.size
  all_goals have HG27 := hide (HG26.out.below hb27 (Nat.le_refl _))
  all_goals have hbs27 := Nat.le_trans hbs26 hb27.size
  all_goals clear hb27 HQ26
  all_goals go_wp2_with fail
  all_goals refine (HTO.out _ HB27.out).mono ?_
  all_goals rintro e w28 ⟨rfl, hh28, hb28, hz28⟩
  all_goals have HT28 := hide hh28
  all_goals have HB28 := hide (HB27.out.trans (hb28.mono HB27.out.size))
  all_goals have HX28 := hide (HX27.out.below hb28 HX27.out.lt)
  all_goals have HS28 := hide (HS27.out.below hb28 hgs27)
  all_goals have hgs28 := Nat.le_trans hgs27 hb28.size
  all_goals have HH28 := hide (HH27.out.below hb28 hgx27)
  all_goals have hgx28 := Nat.lt_of_lt_of_le hgx27 hb28.size
  all_goals have HG28 := hide (HG27.out.below hb28 (Nat.le_refl _))
  all_goals have hbs28 := Nat.le_trans hbs27 hb28.size
  all_goals clear hh28 hb28
  all_goals go_wp2_with fail
  all_goals refine (HEQ.out _ _ _ _ _ HH28.out.rd HT28.out.rd).mono ?_
  all_goals rintro e w29 ⟨rfl, hb29⟩
  all_goals have HB29 := hide (HB28.out.trans (hb29.mono HB28.out.size))
  all_goals have HX29 := hide (HX28.out.below hb29 HX28.out.lt)
  all_goals have HS29 := hide (HS28.out.below hb29 hgs28)
  all_goals have hgs29 := Nat.le_trans hgs28 hb29.size
  all_goals have HH29 := hide (HH28.out.below hb29 hgx28)
  all_goals have hgx29 := Nat.lt_of_lt_of_le hgx28 hb29.size
  all_goals have HG29 := hide (HG28.out.below hb29 (Nat.le_refl _))
  all_goals have hbs29 := Nat.le_trans hbs28 hb29.size
  all_goals clear hb29 HT28
  all_goals go_wp2_with fail
  all_goals refine (HMX.out _ w.heap.size _ _ (HOW.out _ _ HH29.out hwx24)).mono ?_
  all_goals rintro e w30 ⟨rfl, _, hk30⟩
  all_goals have hbx30 : Below w23.heap.size w29 w30 := Only.below hk30 (fun g e => by have e' : some w23.heap.size = some g := e; injection e' with e'; omega) (Nat.le_of_lt hgx29)
  all_goals have HB30 := hide (HB29.out.trans (hbx30.mono hwx24))
  all_goals have HX30 := hide (HX29.out.below hbx30 hxx)
  all_goals have HS30 := hide (HS29.out.below hbx30 hsx24)
  all_goals have hgs30 := Nat.le_trans hgs29 hbx30.size
  all_goals have hbs30 := Nat.le_trans hbs29 hbx30.size
  all_goals have HG30 := hide (HG29.out.keep (fun g' q1 q2 => Go.World.grownBy.block hk30 g' q2 (fun e => by have e' : some g' = some w23.heap.size := e; injection e' with e'; omega)))
  all_goals clear hk30 hbx30 HH29
  all_goals obtain ⟨ag2, cg2, eg2, hrd30, _⟩ := HG30.out.form
  all_goals rw [← HM.out] at eg2
  all_goals injection eg2 with eg3 eg4 eg5
  all_goals subst eg3 eg5
  all_goals clear eg4
  all_goals have HQ30 := hide hrd30
  all_goals clear hrd30
  all_goals go_wp2_with fail
  all_goals refine (HRA.out _ _ _ _ _ HQ30.out ((HS30.out).mono hgs30)).mono ?_
  all_goals rintro e w31 ⟨rfl, hb31⟩
  all_goals have HB31 := hide (HB30.out.trans (hb31.mono HB30.out.size))
  all_goals have HX31 := hide (HX30.out.below hb31 HX30.out.lt)
  all_goals have HS31 := hide (HS30.out.below hb31 hgs30)
  all_goals have hgs31 := Nat.le_trans hgs30 hb31.size
  all_goals have HG31 := hide (HG30.out.below hb31 (Nat.le_refl _))
  all_goals have hbs31 := Nat.le_trans hbs30 hb31.size
  all_goals clear hb31 HQ30
  all_goals go_wp2_with fail
  all_goals refine (HMK.out _ _ _ _ HG31.out).mono ?_
  all_goals rintro e w32 ⟨rfl, ho32, hk32⟩
  all_goals have hbx32 : Below w25.heap.size w31 w32 := Only.below hk32 (fun g e => (HG31.out.lt g e).1) hbs31
  all_goals have HB32 := hide (HB31.out.trans (hbx32.mono hwg))
  all_goals have HX32 := hide (HX31.out.below hbx32 (Nat.lt_trans hxx hbg))
  all_goals have HS32 := hide (HS31.out.below hbx32 (Nat.le_trans hsx24 (Nat.le_of_lt hbg)))
  all_goals have hgs32 := Nat.le_trans hgs31 hbx32.size
  all_goals have hbs32 := Nat.le_trans hbs31 hbx32.size
  all_goals have HG32 := hide ho32
  all_goals obtain ⟨ag3, cg3, eg6, hrd32, _⟩ := ho32.form
  all_goals rw [length_marksG] at eg6
  all_goals injection eg6 with eg7 eg8 eg9
  all_goals subst eg7 eg9
  all_goals clear eg8 hk32 hbx32 ho32
  all_goals have HQ32 := hide hrd32
  all_goals clear hrd32
  all_goals go_wp2_with fail
  all_goals refine (HHE.out _ _ _ HQ32.out).mono ?_
  all_goals rintro e w33 ⟨rfl, hb33⟩
  all_goals have HB33 := hide (HB32.out.trans (hb33.mono HB32.out.size))
  all_goals have HX33 := hide (HX32.out.below hb33 HX32.out.lt)
  all_goals have HS33 := hide (HS32.out.below hb33 hgs32)
  all_goals have hgs33 := Nat.le_trans hgs32 hb33.size
  all_goals have HG33 := hide (HG32.out.below hb33 (Nat.le_refl _))
  all_goals have hbs33 := Nat.le_trans hbs32 hb33.size
  all_goals have HQ33 := hide ((HQ32.out.below hb33 (Nat.le_refl _)).mono hb33.size)
  all_goals clear hb33 HQ32
  all_goals go_wp2_with fail
  all_goals (
    go_region_held3 (fun w' => w'.cell? ⟨w.heap.size, 0, none⟩ = some (.string s10) ∧ w'.cell? ⟨w.heap.size, 1, none⟩ = some (.int .i64 s11) ∧ w'.cell? ⟨w.heap.size, 2, none⟩ = some (.bool s12) ∧ w'.cell? ⟨w.heap.size, 3, none⟩ = some (.string s13))
      (first
        | exact ⟨HX33.out.cell 0 _ rfl, HX33.out.cell 1 _ rfl, HX33.out.cell 2 _ rfl, HX33.out.cell 3 _ rfl⟩
        | exact ⟨HX51.out.cell 0 _ rfl, HX51.out.cell 1 _ rfl, HX51.out.cell 2 _ rfl, HX51.out.cell 3 _ rfl⟩
        | exact ⟨HX52.out.cell 0 _ rfl, HX52.out.cell 1 _ rfl, HX52.out.cell 2 _ rfl, HX52.out.cell 3 _ rfl⟩
        | exact ⟨HX53.out.cell 0 _ rfl, HX53.out.cell 1 _ rfl, HX53.out.cell 2 _ rfl, HX53.out.cell 3 _ rfl⟩)
      (first
        | (have hq1 := HT51.out
           have hq2 := HB52.out
           clear hq1 hq2
           go_at_call 11
           refine (HIM.out _ _ _ (HOW.out _ _ HT51.out hgt51)).mono ?_
           rintro e w53 ⟨v53, rfl, ho53, hb53⟩
           obtain ⟨ah, ch, rfl, hrd53, _⟩ := ho53.form
           have HW53 := hide hrd53
           have HB53 := hide (HB52.out.trans (hb53.mono HB52.out.size))
           have HX53 := hide (HX52.out.below hb53 HX52.out.lt)
           have HS53 := hide (HS52.out.below hb53 hgs52)
           have HQ53 := hide ((HQ52.out.below hb53 (Nat.le_refl _)).mono hb53.size)
           have hgs53 := Nat.le_trans hgs52 hb53.size
           clear ho53 hrd53 hb53)
        | (have hq1 := HT51.out
           clear hq1
           go_at_call 27
           refine (toEnt_any s10 s11 s12 s13 _).mono ?_
           rintro e w52 ⟨rfl, hb52⟩
           have HB52 := hide (HB51.out.trans (hb52.mono HB51.out.size))
           have HX52 := hide (HX51.out.below hb52 HX51.out.lt)
           have HS52 := hide (HS51.out.below hb52 hgs51)
           have HQ52 := hide ((HQ51.out.below hb52 (Nat.le_refl _)).mono hb52.size)
           have hgs52 := Nat.le_trans hgs51 hb52.size
           replace HT51 := hide (HT51.out.below hb52 hzt51)
           clear hb52)
        | (have hq1 := HB52.out
           clear hq1
           go_at_call 23
           refine (HTO.out _ HB52.out).mono ?_
           rintro e w51 ⟨rfl, hh51, hb51, hz51⟩
           have HT51 := hide hh51
           have hgt51 := HB52.out.size
           replace HX52 := hide (HX52.out.below hb51 HX52.out.lt)
           replace HS52 := hide (HS52.out.below hb51 hgs52)
           replace HQ52 := hide ((HQ52.out.below hb51 (Nat.le_refl _)).mono hb51.size)
           replace hgs52 := Nat.le_trans hgs52 hb51.size
           replace HB52 := hide (HB52.out.trans (hb51.mono HB52.out.size))
           clear hh51 hb51)
        | (go_at_call 27
           refine (toEnt_any s10 s11 s12 s13 _).mono ?_
           rintro e w52 ⟨rfl, hb52⟩
           have hb52' := below_drew' hb52
           have HB52 := hide (HB33.out.trans (hb52'.mono HB33.out.size))
           have HX52 := hide (HX33.out.below hb52' HX33.out.lt)
           have HS52 := hide (HS33.out.below hb52' hgs33)
           have HQ52 := hide ((HQ33.out.below hb52' (Nat.le_refl _)).mono hb52'.size)
           have hgs52 := Nat.le_trans hgs33 hb52'.size
           clear hb52 hb52')
        | (go_at_call 23
           refine (HTO.out _ HB33.out.drew).mono ?_
           rintro e w51 ⟨rfl, hh51, hb51, hz51⟩
           have hb51' := below_drew' hb51
           have HT51 := hide hh51
           have hgt51 := HB33.out.size
           have hzt51 := hz51
           have HX51 := hide (HX33.out.below hb51' HX33.out.lt)
           have HS51 := hide (HS33.out.below hb51' hgs33)
           have HQ51 := hide ((HQ33.out.below hb51' (Nat.le_refl _)).mono hb51'.size)
           have hgs51 := Nat.le_trans hgs33 hb51'.size
           have HB51 := hide (HB33.out.trans (hb51'.mono HB33.out.size))
           clear hh51 hb51 hb51')))
  all_goals rw [← HM.out]
  all_goals go_wp2_with fail
  all_goals refine (HRA.out _ _ _ _ _ HW53.out ((HS53.out).mono hgs53)).mono ?_
  all_goals rintro e w54 ⟨rfl, hb54⟩
  all_goals have HB54 := hide (HB53.out.trans (hb54.mono HB53.out.size))
  all_goals have HQ54 := hide ((HQ53.out.below hb54 (Nat.le_refl _)).mono hb54.size)
  all_goals clear hb54
  all_goals go_wp2_with fail
  all_goals refine (HHE.out _ _ _ HQ54.out).mono ?_
  all_goals rintro e w55 ⟨rfl, hb55⟩
  all_goals have HB55 := hide (HB54.out.trans (hb55.mono HB54.out.size))
  all_goals clear hb55
  all_goals go_wp2_with fail
  all_goals go_ret
  all_goals exact ⟨rfl, HB55.out⟩
end Go.Proofs.Ythpeoeiaiabfcaa
