/-
  Texts of this proof, put together: LawMem.
-/
import Derived.Test.YtphfakdbgohhgaaPackAB
import Derived.Test.YtphfakdbgohhgaaPackAR
import Derived.Test.YtphfakdbgohhgaaPackAZ
import Derived.Test.YtphfakdbgohhgaaPackAW
import Derived.Test.YtphfakdbgohhgaaPackAV
import Derived.Test.YtphfakdbgohhgaaPackAT
import Derived.Test.YtphfakdbgohhgaaPackBA
import Derived.Test.YtphfakdbgohhgaaPackAE
import Derived.Test.YtphfakdbgohhgaaPackAI
import Derived.Deep.DeepCutAuto
import Derived.Deep.RegionHeld3

/-
  The walk of laws.FnMem: it returns true. (Written by mklawm9.py.)
-/
namespace Go.Proofs.Ytphfakdbgohhgaa
open Go.ChangeShapes Go.WideShapes Go.ChangeAt Go.RowKit

theorem at_kv {α : Type} {L : List α} {i : Nat} (h : i < L.length) {x : α} (hx : L[i]? = some x) : L[i] = x := by
  rw [List.getElem?_eq_getElem h] at hx
  exact Option.some.inj hx
/-- behind 'f, found := MemGet(..)' -/
def KeptF (wb : World) (g0 : ByteArray) (g1 : Int) (g2 : Bool) (g3 : ByteArray) (s12 s13 : Value) (wF : World) : Prop :=
  ∃ gx, s12 = .pointer (some ⟨gx, 0, none⟩) ∧ s13 = .bool true ∧ Hid (BoxV 26 wF gx #[.string g0, .int .i64 g1, .bool g2, .string g3]) ∧ Hid (Below wb.heap.size wb wF)
set_option maxHeartbeats 16000000 in
set_option maxRecDepth 100000 in
theorem mem_core (a : Option Addr) (cap : Nat) (bs : List Int) (w : World) (hc : CodeAt w.heap.size w a bs) :
    Calls Try.prog 3 #[.slice a bs.length cap] w fun e w' => e = .returned (.bool true) ∧ Below w.heap.size w w' := by
  have HC := hide hc
  obtain ⟨n, hn⟩ : ∃ n, n = bs.length := ⟨_, rfl⟩
  have HN := hide hn
  by_cases hbig : 1048576 < n
  · have hd : decide ((1048576 : Int) < (n : Int)) = true := decide_eq_true (by omega)
    rw [← hn]
    clear hn hc
    go_enter Try.func3, Try.ntmps3
    go_wp2_with fail
    refine (big_any a n cap _).mono ?_
    rintro e w1 ⟨rfl, rfl⟩
    rw [hd]
    go_wp2_with fail
    go_ret
    exact ⟨rfl, Below.refl _ _⟩
  have hd : decide ((1048576 : Int) < (n : Int)) = false := decide_eq_false (by omega)
  have HM := hide (show bs.length ≤ 1048576 by omega)
  have HAD := hide (drawMemPut_any (B := w.heap.size) a cap bs w (Nat.le_refl _) hc HM.out)
  rw [← hn] at HAD ⊢
  clear hn hc hbig
  go_enter Try.func3, Try.ntmps3
  go_wp2_with fail
  refine (big_any a n cap _).mono ?_
  rintro e wb ⟨rfl, rfl⟩
  rw [hd]
  go_wp2_with fail
  refine HAD.out.mono ?_
  rintro e w1 ⟨a1, n1, c1, L, f0, f1, f2, f3, rfl, hL, hn1, ho1, hb1⟩
  obtain ⟨W1, hW1⟩ : ∃ W1, W1 = w1.alloc (.cells #[.string f0, .int .i64 f1, .bool f2, .string f3] 26) := ⟨_, rfl⟩
  have HO1 := hide (show elEnt.Owns w.heap.size W1 (.slice a1 n1 c1) L from hW1 ▸ ho1.alloc _)
  have HX1 := hide (show BoxV 26 W1 w1.heap.size #[.string f0, .int .i64 f1, .bool f2, .string f3] from hW1 ▸ BoxV.new _ w1 _)
  have HB1 := hide (show Below w.heap.size w W1 from hW1 ▸ hb1.alloc hb1.size _)
  have HLN := hide hL
  have HIP := hide (fun W (h : elEnt.Owns w.heap.size W (.slice a1 n1 c1) L) => iMemPut_any w.heap.size a1 c1 L f0 f1 f2 f3 W (hL ▸ h) (by omega))
  have HSP := hide (fun W (h : elEnt.Owns w.heap.size W (.slice a1 n1 c1) L) => sMemPut_any w.heap.size a1 c1 L f0 f1 f2 f3 W (hL ▸ h) (by omega))
  have HSO := hide (fun W (h : elEnt.Rd W W.heap.size a1 L) => sMemOk_any a1 c1 L W h (by omega))
  have HSE := hide (fun W a2 c2 (h1 : elEnt.Rd W W.heap.size a2 L) (h2 : elEnt.Rd W W.heap.size a1 L) => sameEnts_same a2 a1 c2 c1 L W h1 h2 (by omega))
  rw [hL] at HIP HSP HSO HSE
  have hcase := put_letters L (f0, f1, f2, f3)
  have hlen := insE_len (f0, f1, f2, f3) L
  obtain ⟨P, hP⟩ : ∃ P, P = putM L (f0, f1, f2, f3) := ⟨_, rfl⟩
  obtain ⟨is, his⟩ : ∃ is, is = putB L (f0, f1, f2, f3) := ⟨_, rfl⟩
  rw [← hP, ← his] at HIP HSP hcase
  have HCASE := hide hcase
  have HLEN := hide hlen
  have hii : (is != is) = false := by cases is <;> rfl
  clear ho1 hb1 HAD hL hP his hcase hlen
  go_upto_region 4 with (fail)
  rw [← hW1]
  clear hW1
  obtain ⟨k0, k1, k2, k3⟩ := HX1.out.four'
  go_wp2_with fail
  refine (HIP.out _ HO1.out).mono ?_
  rintro e w2 ⟨v2, rfl, ho2, hb2⟩
  obtain ⟨a2, c2, rfl, hr2, _⟩ := ho2.form
  obtain ⟨n2, hn2⟩ : ∃ n2, n2 = P.length := ⟨_, rfl⟩
  have HN2 := hide hn2
  rw [← hn2]
  have HP2 := hide hr2
  have HB2 := hide (HB1.out.trans (hb2.mono HB1.out.size))
  have HO2 := hide (HO1.out.below hb2 (Nat.le_refl _))
  have HX2 := hide (HX1.out.below hb2 HX1.out.lt)
  clear ho2 hb2 hr2 hn2 HIP HO1 HX1 HB1 k0 k1 k2 k3
  obtain ⟨k0, k1, k2, k3⟩ := HX2.out.four'
  go_wp2_with fail
  refine (HSP.out _ HO2.out).mono ?_
  rintro e w3 ⟨v3, rfl, ho3, hb3⟩
  obtain ⟨a3', c3', rfl, _⟩ := ho3.form
  have HB3 := hide (HB2.out.trans (hb3.mono HB2.out.size))
  have HP3 := hide ((HP2.out.below hb3 (Nat.le_refl _)).mono hb3.size)
  have HL3 := hide (owns_rd (HO2.out.below hb3 (Nat.le_refl _)))
  have HX3 := hide (HX2.out.below hb3 HX2.out.lt)
  clear ho3 hb3 HSP HO2 HX2 HB2 HP2 k0 k1 k2 k3
  rcases HCASE.out with ⟨rfl, hmo, hmi, hPe⟩ | ⟨rfl, hmo, hPe⟩ | ⟨rfl, hmo, hPe⟩
  · have HG0 := hide (fun W (h : elEnt.Rd W W.heap.size a2 P) => iMemGet_any a2 c2 P f0 f1 W h (by rw [hPe, HLEN.out, HLN.out]; omega) f0 f1 f2 f3 (by rw [hPe]; exact (get_self hmi (mem_insE.mpr (.inl rfl))).1))
    have hq0 : getB P f0 f1 = true := by rw [hPe]; exact (get_self hmi (mem_insE.mpr (.inl rfl))).2
    have HG1 := hide (fun (g0 : ByteArray) (g1 : Int) (g2 : Bool) (g3 : ByteArray) (hg : ((g0, g1, g2, g3) : En) ∈ L) W (h : elEnt.Rd W W.heap.size a2 P) => iMemGet_any a2 c2 P g0 g1 W h (by rw [hPe, HLEN.out, HLN.out]; omega) g0 g1 g2 g3 (by rw [hPe]; exact (get_self hmi (mem_insE.mpr (.inr hg))).1))
    have HQ1 := hide (fun (g0 : ByteArray) (g1 : Int) (g2 : Bool) (g3 : ByteArray) (hg : ((g0, g1, g2, g3) : En) ∈ L) => (show getB P g0 g1 = true by rw [hPe]; exact (get_self hmi (mem_insE.mpr (.inr hg))).2))
    have hn21 : n2 = n1 + 1 := by rw [HN2.out, hPe, HLEN.out, HLN.out]
    rw [hq0, ← HN2.out] at HG0
    have HG1' := hide (fun (g0 : ByteArray) (g1 : Int) (g2 : Bool) (g3 : ByteArray) (hg : ((g0, g1, g2, g3) : En) ∈ L) W (h : elEnt.Rd W W.heap.size a2 P) => (show Calls Try.prog 16 #[.slice a2 n2 c2, .string g0, .int .i64 g1] W (EntBPost W g0 g1 g2 g3 true) by have := HG1.out g0 g1 g2 g3 hg W h; rwa [HQ1.out g0 g1 g2 g3 hg, ← HN2.out] at this))
    subst hn21
    clear hmo hmi hPe hq0 HG1 HQ1 HCASE HSO HSE HN2
    obtain ⟨k0, k1, k2, k3⟩ := HX3.out.four'
    go_wp2_with fail
    refine (HG0.out _ HP3.out).mono ?_
    rintro e w5 ⟨rfl, hb5⟩
    have HB5 := hide (HB3.out.trans (hb5.mono HB3.out.size))
    have HP5 := hide ((HP3.out.below hb5 (Nat.le_refl _)).mono hb5.size)
    have HL5 := hide ((HL3.out.below hb5 (Nat.le_refl _)).mono hb5.size)
    have HX5 := hide (HX3.out.below hb5 HX3.out.lt)
    obtain ⟨W5, hW5⟩ : ∃ W5, W5 = w5.alloc (.cells #[.string f0, .int .i64 f1, .bool f2, .string f3] 26) := ⟨_, rfl⟩
    have hb6 : Below w5.heap.size w5 W5 := hW5 ▸ (Below.refl _ _).alloc (Nat.le_refl _) _
    have HY6 := hide (show BoxV 26 W5 w5.heap.size #[.string f0, .int .i64 f1, .bool f2, .string f3] from hW5 ▸ BoxV.new _ w5 _)
    have HB6 := hide (HB5.out.trans (hb6.mono HB5.out.size))
    have HP6 := hide ((HP5.out.below hb6 (Nat.le_refl _)).mono hb6.size)
    have HL6 := hide ((HL5.out.below hb6 (Nat.le_refl _)).mono hb6.size)
    have HX6 := hide (HX5.out.below hb6 HX5.out.lt)
    clear hb5 hb6 HG0 HX3 HP3 HL3 HB3 HX5 HP5 HL5 HB5 k0 k1 k2 k3
    go_upto_region 10 with (fail)
    rw [← hW5]
    clear hW5
    obtain ⟨k0, k1, k2, k3⟩ := HX6.out.four'
    obtain ⟨l0, l1, l2, l3⟩ := HY6.out.four'
    go_wp2_with fail
    clear k0 k1 k2 k3 l0 l1 l2 l3 HX6 HY6
    go_loopw [11, 12, 13] (fun i _ _ wr => ∃ j : Nat, i = .int .i64 j ∧ j ≤ n1 ∧ Hid (Below W5.heap.size W5 wr)) (fun i _ _ _ => n1 - (intOf i).toNat)
    case atStart => exact ⟨0, rfl, by omega, Below.refl _ _⟩
    case round =>
      obtain ⟨j, rfl, hj, HBr⟩ := hrel
      have hsr := HBr.out.size
      by_cases hlt : j < n1
      · have hjL : j < L.length := by rw [HLN.out]; exact hlt
        obtain ⟨b, off, rfl, hb, hcell⟩ := HL6.out (by omega)
        obtain ⟨g0, g1, g2, g3, hx⟩ := partsEnt L[j]
        obtain ⟨q0, q1, q2, q3⟩ := cellsEnt hx (hcell j hjL)
        have HDL := hide (show ∀ w', Below W5.heap.size W5 w' → w'.cell? ⟨b, off + j * 4, none⟩ = some (.string g0) ∧ w'.cell? ⟨b, off + j * 4 + 1, none⟩ = some (.int .i64 g1) ∧ w'.cell? ⟨b, off + j * 4 + 2, none⟩ = some (.bool g2) ∧ w'.cell? ⟨b, off + j * 4 + 3, none⟩ = some (.string g3) from fun w' h => ⟨(h.cell (p := ⟨b, off + j * 4, none⟩) hb).trans q0, (h.cell (p := ⟨b, off + j * 4 + 1, none⟩) hb).trans q1, (h.cell (p := ⟨b, off + j * 4 + 2, none⟩) hb).trans q2, (h.cell (p := ⟨b, off + j * 4 + 3, none⟩) hb).trans q3⟩)
        have HG := hide (HG1'.out g0 g1 g2 g3 (hx ▸ List.getElem_mem hjL))
        have hji : (j : Int) < (n1 : Int) := by omega
        have HRA := hide (show elEnt.Rd wr.drew wr.drew.heap.size a2 P from (HP6.out.below HBr.out (Nat.le_refl _)).mono HBr.out.size)
        have HBz := hide (HBr.out.alloc hsr (.cells #[.string ⟨#[]⟩, .int .i64 0, .bool false, .string ⟨#[]⟩] 26))
        have HRZ := hide (show elEnt.Rd (wr.alloc (.cells #[.string ⟨#[]⟩, .int .i64 0, .bool false, .string ⟨#[]⟩] 26)).drew (wr.alloc (.cells #[.string ⟨#[]⟩, .int .i64 0, .bool false, .string ⟨#[]⟩] 26)).drew.heap.size a2 P from (HP6.out.below HBz.out (Nat.le_refl _)).mono HBz.out.size)
        clear hcell q0 q1 q2 q3 hx hjL
        obtain ⟨d0, d1, d2, d3⟩ := HDL.out _ HBr.out
        go_upto_region 15 with (fail)
        go_cut [12, 13] from 83 to 113 (fun s12 s13 wF => KeptF W5 g0 g1 g2 g3 s12 s13 wF)
        case first =>
          go_region_held3 (fun w' => w'.cell? ⟨b, off + j * 4, none⟩ = some (.string g0) ∧ w'.cell? ⟨b, off + j * 4 + 1, none⟩ = some (.int .i64 g1) ∧ w'.cell? ⟨b, off + j * 4 + 2, none⟩ = some (.bool g2) ∧ w'.cell? ⟨b, off + j * 4 + 3, none⟩ = some (.string g3))
            (first
              | with_reducible exact HDL.out _ HBr.out
              | with_reducible exact HDL.out _ HBr.out.drew
              | with_reducible exact HDL.out _ HBz.out.drew
              | with_reducible exact HDL.out _ HBz.out
              | with_reducible exact HDL.out _ HB7.out
              | with_reducible exact HDL.out _ HB7.out.drew
              | with_reducible exact HDL.out _ (HB7.out.alloc HB7.out.size _)
              | with_reducible exact HDL.out _ (HB7.out.alloc HB7.out.size _).drew
              | with_reducible exact HDL.out _ (below_four HB7.out hsr _ _ _ _))
            (first
              | (go_at_call 16
                 first
                 | (refine (HG.out _ (by with_reducible exact HRA.out)).mono ?_
                    rintro e w7 ⟨rfl, hb7⟩
                    have hb7' := below_drew' hb7
                    have HB7 := hide (HBr.out.trans (hb7'.mono hsr))
                    clear hb7 hb7')
                 | (refine (HG.out _ (by with_reducible exact HRZ.out)).mono ?_
                    rintro e w7 ⟨rfl, hb7⟩
                    have hb7' := below_drew' hb7
                    have HB7 := hide (HBz.out.trans (hb7'.mono HBz.out.size))
                    have HY7 := hide ((BoxV.new 26 wr #[.string ⟨#[]⟩, .int .i64 0, .bool false, .string ⟨#[]⟩]).below hb7' (by simp))
                    obtain ⟨y0, y1, y2, y3⟩ := HY7.out.four'
                    obtain ⟨z0, z1, z2, z3⟩ := HY7.out.froz4
                    have hy7 := HY7.out.lt
                    clear hb7 hb7')))
          all_goals go_wp2_with fail
          all_goals go_meet
          all_goals unfold KeptF
          all_goals first
            | with_reducible exact ⟨w7.heap.size, rfl, rfl, hide (BoxV.new _ w7 _), hide (HB7.out.alloc HB7.out.size _)⟩
            | with_reducible exact ⟨wr.heap.size, rfl, rfl, hide (HY7.out.all4 _ _ _ _), hide (below_four HB7.out hsr _ _ _ _)⟩
        case rest =>
          obtain ⟨gx, rfl, rfl, HF, HBF⟩ := hcut
          obtain ⟨q0, q1, q2, q3⟩ := HDL.out _ HBF.out
          obtain ⟨e0, e1, e2, e3⟩ := HF.out.four'
          clear d0 d1 d2 d3
          go_wp2_with fail
          go_quiet (fail)
          go_wp2_with fail
          go_roundw
          case rel => exact ⟨j + 1, by go_num, by omega, below_drewN HBF.out _⟩
          case measure => simp [intOf]; omega
      · have HBt := hide (HB6.out.trans (HBr.out.mono HB6.out.size))
        clear HBr HB6 HP6 HL6 HG1'
        have HAR := hide (drawMemRange_any (B := w.heap.size) a cap bs wr HBt.out.size (HC.out.below HBt.out) HM.out)
        rw [← HN.out] at HAR
        go_wp2_with fail
        refine HAR.out.mono ?_
        rintro e w20 ⟨a3, n3, c3, K, ft, tt, q, rfl, hK, hn3, ho20, hb20⟩
        have HB20 := hide (HBt.out.trans (hb20.mono HBt.out.size))
        have HK := hide (owns_rd ho20)
        have HMR := hide (fun W (h : elEnt.Rd W W.heap.size a3 K) => iMemRange_any a3 c3 K ft tt q W h (by omega))
        have HMP := hide (fun W (h : elEnt.Rd W W.heap.size a3 K) => iMemMap_any a3 c3 K q W h (by omega))
        have HSM := hide (fun W (h : elEnt.Rd W W.heap.size a3 K) => sMemMap_any a3 c3 K q W h (by omega))
        rw [hK] at HMR HMP HSM
        have HOKM := hide (mapM_ok K q)
        have hlk := mapM_len K q
        rw [hK] at hlk
        obtain ⟨AL, hAL⟩ : ∃ AL, AL = mapM K q := ⟨_, rfl⟩
        rw [← hAL] at HMR HMP HSM HOKM hlk
        have HRL := hide (rangeE_len ft tt AL)
        obtain ⟨RG, hRG⟩ : ∃ RG, RG = rangeE ft tt AL := ⟨_, rfl⟩
        have HRG := hide hRG
        rw [← hRG] at HMR HRL
        clear ho20 hb20 HAR hK hAL hRG
        go_wp2_with fail
        refine (HMR.out _ HK.out).mono ?_
        rintro e w21 ⟨v4, rfl, ho21, hb21⟩
        obtain ⟨a4, c4, rfl, hr4, _⟩ := ho21.form
        have HB21 := hide (HB20.out.trans (hb21.mono HB20.out.size))
        have HK21 := hide ((HK.out.below hb21 (Nat.le_refl _)).mono hb21.size)
        have HR21 := hide hr4
        obtain ⟨n4, hn4⟩ : ∃ n4, n4 = RG.length := ⟨_, rfl⟩
        have HN4 := hide hn4
        rw [← hn4] at HRL ⊢
        clear ho21 hr4 hb21 hn4 HMR HK HB20
        go_wp2_with fail
        refine (HMP.out _ HK21.out).mono ?_
        rintro e w22 ⟨v5, rfl, ho22, hb22⟩
        obtain ⟨a5, c5, rfl, hr5, _⟩ := ho22.form
        have HB22 := hide (HB21.out.trans (hb22.mono HB21.out.size))
        have HK22 := hide ((HK21.out.below hb22 (Nat.le_refl _)).mono hb22.size)
        have HR4 := hide ((HR21.out.below hb22 (Nat.le_refl _)).mono hb22.size)
        have HR5 := hide hr5
        obtain ⟨n5, hn5⟩ : ∃ n5, n5 = AL.length := ⟨_, rfl⟩
        have HN5 := hide hn5
        rw [← hn5] at hlk HRL ⊢
        have hn4l := HRL.out
        have HALL := hide (rangP_all ft tt AL)
        clear ho22 hr5 hb22 hn5 HMP HK21 HR21 HB21
        go_wp2_with fail
        go_loopw [20, 21] (fun nn i wr => ∃ (j y : Nat), nn = .int .i64 y ∧ i = .int .i64 j ∧ j ≤ n5 ∧ y ≤ j ∧ Hid ((rangP ft tt AL j).length = y) ∧ Hid (Below w22.heap.size w22 wr)) (fun _ i _ => n5 - (intOf i).toNat)
        case atStart => exact ⟨0, 0, rfl, rfl, by omega, by omega, hide (by rw [rangP_zero]; rfl), Below.refl _ _⟩
        case round =>
          obtain ⟨j, y, rfl, rfl, hj, hyj, HY, HBr⟩ := hrel
          by_cases hlt : j < n5
          · have hjL : j < AL.length := by rw [← HN5.out]; exact hlt
            obtain ⟨b, off, rfl, hb, hcell⟩ := HR5.out (by omega)
            obtain ⟨f0, f1, hx⟩ := partsKV AL[j]
            obtain ⟨k0, k1⟩ := cellsKV hx (hcell j hjL)
            have d0 := (HBr.out.cell (p := ⟨b, off + j * 2, none⟩) hb).trans k0
            have d1 := (HBr.out.cell (p := ⟨b, off + j * 2 + 1, none⟩) hb).trans k1
            have HX := hide (show AL[j]? = some (f0, f1) by rw [List.getElem?_eq_getElem hjL, hx])
            have hji : (j : Int) < (n5 : Int) := by omega
            clear hcell k0 k1 hx hjL
            cases h1 : kless f0 ft with
            | true =>
              have z1 := kless_of true h1
              have HMM := hide (rangP_no HX.out (show ¬ withinK f0 ft tt from fun h => by rw [h.1] at h1; cases h1))
              clear h1
              go_wp2_with fail
              go_roundw
              case rel => exact ⟨j + 1, y, rfl, by go_num, by omega, by omega, by rw [HMM.out]; exact HY, HBr⟩
              case measure => simp [intOf]; omega
            | false =>
              have z1 := kless_of false h1
              by_cases h2 : tt.size = 0
              · have hv : withinK f0 ft tt := ⟨h1, .inl h2⟩
                have z2 : tt.toList.isEmpty = true := by rw [empty_mk h2, ByteArray.toList_eq]; rfl
                have HMM := hide (rangP_yes HX.out hv)
                have HAT := hide (rangP_at HX.out hv)
                have hyr : y < n4 := by
                  have := (List.getElem?_eq_some_iff.1 HAT.out).1
                  rw [HY.out, ← HRG.out, ← HN4.out] at this
                  exact this
                have HRI := hide (show RG[y]? = some (f0, f1) by rw [HRG.out, ← HY.out]; exact HAT.out)
                obtain ⟨b4, o4, rfl, hb4, hc4⟩ := HR4.out (by rw [← HN4.out]; omega)
                have hyL : y < RG.length := by rw [← HN4.out]; exact hyr
                obtain ⟨k0, k1⟩ := cellsKV (at_kv hyL HRI.out) (hc4 y hyL)
                have e0 := (HBr.out.cell (p := ⟨b4, o4 + y * 2, none⟩) hb4).trans k0
                have e1 := (HBr.out.cell (p := ⟨b4, o4 + y * 2 + 1, none⟩) hb4).trans k1
                have hyd : decide ((n4 : Int) ≤ (y : Int)) = false := decide_eq_false (by omega)
                have hyi : (y : Int) < (n4 : Int) := by omega
                clear hv hc4 k0 k1 hyL h1 h2
                go_wp2_with fail
                go_quiet (fail)
                go_wp2_with fail
                go_roundw
                case rel => exact ⟨j + 1, y + 1, by go_num, by go_num, by omega, by omega, hide (by rw [HMM.out, List.length_append, HY.out]; rfl), below_drewN HBr.out _⟩
                case measure => simp [intOf]; omega
              · have z2 := empty_not h2
                cases h3 : kless f0 tt with
                | true =>
                  have z3 := kless_of true h3
                  have hv : withinK f0 ft tt := ⟨h1, .inr h3⟩
                  have HMM := hide (rangP_yes HX.out hv)
                  have HAT := hide (rangP_at HX.out hv)
                  have hyr : y < n4 := by
                    have := (List.getElem?_eq_some_iff.1 HAT.out).1
                    rw [HY.out, ← HRG.out, ← HN4.out] at this
                    exact this
                  have HRI := hide (show RG[y]? = some (f0, f1) by rw [HRG.out, ← HY.out]; exact HAT.out)
                  obtain ⟨b4, o4, rfl, hb4, hc4⟩ := HR4.out (by rw [← HN4.out]; omega)
                  have hyL : y < RG.length := by rw [← HN4.out]; exact hyr
                  obtain ⟨k0, k1⟩ := cellsKV (at_kv hyL HRI.out) (hc4 y hyL)
                  have e0 := (HBr.out.cell (p := ⟨b4, o4 + y * 2, none⟩) hb4).trans k0
                  have e1 := (HBr.out.cell (p := ⟨b4, o4 + y * 2 + 1, none⟩) hb4).trans k1
                  have hyd : decide ((n4 : Int) ≤ (y : Int)) = false := decide_eq_false (by omega)
                  have hyi : (y : Int) < (n4 : Int) := by omega
                  clear hv hc4 k0 k1 hyL h1 h2 h3
                  go_wp2_with fail
                  go_quiet (fail)
                  go_wp2_with fail
                  go_roundw
                  case rel => exact ⟨j + 1, y + 1, by go_num, by go_num, by omega, by omega, hide (by rw [HMM.out, List.length_append, HY.out]; rfl), below_drewN HBr.out _⟩
                  case measure => simp [intOf]; omega
                | false =>
                  have z3 := kless_of false h3
                  have HMM := hide (rangP_no HX.out (show ¬ withinK f0 ft tt from fun h => h.2.elim h2 (fun h => by rw [h] at h3; cases h3)))
                  clear h1 h2 h3
                  go_wp2_with fail
                  go_roundw
                  case rel => exact ⟨j + 1, y, rfl, by go_num, by omega, by omega, by rw [HMM.out]; exact HY, HBr⟩
                  case measure => simp [intOf]; omega
          · have hjn : j = n5 := by omega
            subst hjn
            have hyn : n4 = y := by rw [HN4.out, HRG.out, ← HALL.out, ← HY.out, HN5.out]
            subst hyn
            have hs22 := HB22.out.size
            have HSE := hide (fun W c1 c2 b1 b2 (h1 : elKV.Rd W W.heap.size b1 AL) (h2 : elKV.Rd W W.heap.size b2 AL) => sameMap_same b1 b2 c1 c2 AL W h1 h2 (by rw [← HN5.out]; omega))
            have HMO := hide (fun W (h1 : elKV.Rd W W.heap.size a5 AL) => sMapOk_any a5 c5 AL W h1 (by rw [← HN5.out]; omega))
            rw [decide_eq_true HOKM.out] at HMO
            rw [← HN5.out] at HSE HMO
            have HK23 := hide ((HK22.out.below HBr.out (Nat.le_refl _)).mono HBr.out.size)
            have HR23 := hide ((HR5.out.below HBr.out (Nat.le_refl _)).mono HBr.out.size)
            have HB23 := hide (HB22.out.trans (HBr.out.mono hs22))
            clear HBr HR4 HR5 HK22 HB22 HY HN4 HRL hn4l
            go_wp2_with fail
            refine (HSM.out _ HK23.out).mono ?_
            rintro e w24 ⟨v6, rfl, ho24, hb24⟩
            obtain ⟨a6, c6, rfl, hr6, _⟩ := ho24.form
            have HB24 := hide (HB23.out.trans (hb24.mono HB23.out.size))
            have HR24 := hide ((HR23.out.below hb24 (Nat.le_refl _)).mono hb24.size)
            have HR6 := hide hr6
            rw [← HN5.out]
            clear ho24 hr6 hb24 HK23 HR23 HB23 HSM
            go_wp2_with fail
            refine (HSE.out _ _ _ _ _ HR24.out HR6.out).mono ?_
            rintro e w25 ⟨rfl, hb25⟩
            have HB25 := hide (HB24.out.trans (hb25.mono HB24.out.size))
            have HR25 := hide ((HR24.out.below hb25 (Nat.le_refl _)).mono hb25.size)
            clear hb25 HB24 HR24 HR6 HSE
            go_wp2_with fail
            refine (HMO.out _ HR25.out).mono ?_
            rintro e w26 ⟨rfl, hb26⟩
            have HB26 := hide (HB25.out.trans (hb26.mono HB25.out.size))
            clear hb26 HB25
            go_wp2_with fail
            go_ret
            exact ⟨rfl, HB26.out⟩
  · have HR3 := hide (show elEnt.Rd w3 w3.heap.size a2 L by have := HP3.out; rwa [hPe] at this)
    have hn21 : n2 = n1 := by rw [HN2.out, hPe, HLN.out]
    have HSO' := hide (fun W h => HSO.out W h)
    rw [decide_eq_true hmo] at HSO'
    subst hn21
    clear hPe hmo HP3 HX3 HCASE HN2 HSO
    go_wp2_with fail
    refine (HSO'.out _ HL3.out).mono ?_
    rintro e w5 ⟨rfl, hb5⟩
    have HB5 := hide (HB3.out.trans (hb5.mono HB3.out.size))
    have HR5' := hide ((HR3.out.below hb5 (Nat.le_refl _)).mono hb5.size)
    have HL5 := hide ((HL3.out.below hb5 (Nat.le_refl _)).mono hb5.size)
    clear hb5 HR3 HL3 HB3 HSO'
    go_wp2_with fail
    refine (HSE.out _ _ _ HR5'.out HL5.out).mono ?_
    rintro e w6 ⟨rfl, hb6⟩
    have HB6 := hide (HB5.out.trans (hb6.mono HB5.out.size))
    clear hb6 HR5' HL5 HB5 HSE
    have HAR := hide (drawMemRange_any (B := w.heap.size) a cap bs w6 HB6.out.size (HC.out.below HB6.out) HM.out)
    rw [← HN.out] at HAR
    go_wp2_with fail
    refine HAR.out.mono ?_
    rintro e w20 ⟨a3, n3, c3, K, ft, tt, q, rfl, hK, hn3, ho20, hb20⟩
    have HB20 := hide (HB6.out.trans (hb20.mono HB6.out.size))
    have HK := hide (owns_rd ho20)
    have HMR := hide (fun W (h : elEnt.Rd W W.heap.size a3 K) => iMemRange_any a3 c3 K ft tt q W h (by omega))
    have HMP := hide (fun W (h : elEnt.Rd W W.heap.size a3 K) => iMemMap_any a3 c3 K q W h (by omega))
    have HSM := hide (fun W (h : elEnt.Rd W W.heap.size a3 K) => sMemMap_any a3 c3 K q W h (by omega))
    rw [hK] at HMR HMP HSM
    have HOKM := hide (mapM_ok K q)
    have hlk := mapM_len K q
    rw [hK] at hlk
    obtain ⟨AL, hAL⟩ : ∃ AL, AL = mapM K q := ⟨_, rfl⟩
    rw [← hAL] at HMR HMP HSM HOKM hlk
    have HRL := hide (rangeE_len ft tt AL)
    obtain ⟨RG, hRG⟩ : ∃ RG, RG = rangeE ft tt AL := ⟨_, rfl⟩
    have HRG := hide hRG
    rw [← hRG] at HMR HRL
    clear ho20 hb20 HAR hK hAL hRG
    go_wp2_with fail
    refine (HMR.out _ HK.out).mono ?_
    rintro e w21 ⟨v4, rfl, ho21, hb21⟩
    obtain ⟨a4, c4, rfl, hr4, _⟩ := ho21.form
    have HB21 := hide (HB20.out.trans (hb21.mono HB20.out.size))
    have HK21 := hide ((HK.out.below hb21 (Nat.le_refl _)).mono hb21.size)
    have HR21 := hide hr4
    obtain ⟨n4, hn4⟩ : ∃ n4, n4 = RG.length := ⟨_, rfl⟩
    have HN4 := hide hn4
    rw [← hn4] at HRL ⊢
    clear ho21 hr4 hb21 hn4 HMR HK HB20
    go_wp2_with fail
    refine (HMP.out _ HK21.out).mono ?_
    rintro e w22 ⟨v5, rfl, ho22, hb22⟩
    obtain ⟨a5, c5, rfl, hr5, _⟩ := ho22.form
    have HB22 := hide (HB21.out.trans (hb22.mono HB21.out.size))
    have HK22 := hide ((HK21.out.below hb22 (Nat.le_refl _)).mono hb22.size)
    have HR4 := hide ((HR21.out.below hb22 (Nat.le_refl _)).mono hb22.size)
    have HR5 := hide hr5
    obtain ⟨n5, hn5⟩ : ∃ n5, n5 = AL.length := ⟨_, rfl⟩
    have HN5 := hide hn5
    rw [← hn5] at hlk HRL ⊢
    have hn4l := HRL.out
    have HALL := hide (rangP_all ft tt AL)
    clear ho22 hr5 hb22 hn5 HMP HK21 HR21 HB21
    go_wp2_with fail
    go_loopw [20, 21] (fun nn i wr => ∃ (j y : Nat), nn = .int .i64 y ∧ i = .int .i64 j ∧ j ≤ n5 ∧ y ≤ j ∧ Hid ((rangP ft tt AL j).length = y) ∧ Hid (Below w22.heap.size w22 wr)) (fun _ i _ => n5 - (intOf i).toNat)
    case atStart => exact ⟨0, 0, rfl, rfl, by omega, by omega, hide (by rw [rangP_zero]; rfl), Below.refl _ _⟩
    case round =>
      obtain ⟨j, y, rfl, rfl, hj, hyj, HY, HBr⟩ := hrel
      by_cases hlt : j < n5
      · have hjL : j < AL.length := by rw [← HN5.out]; exact hlt
        obtain ⟨b, off, rfl, hb, hcell⟩ := HR5.out (by omega)
        obtain ⟨f0, f1, hx⟩ := partsKV AL[j]
        obtain ⟨k0, k1⟩ := cellsKV hx (hcell j hjL)
        have d0 := (HBr.out.cell (p := ⟨b, off + j * 2, none⟩) hb).trans k0
        have d1 := (HBr.out.cell (p := ⟨b, off + j * 2 + 1, none⟩) hb).trans k1
        have HX := hide (show AL[j]? = some (f0, f1) by rw [List.getElem?_eq_getElem hjL, hx])
        have hji : (j : Int) < (n5 : Int) := by omega
        clear hcell k0 k1 hx hjL
        cases h1 : kless f0 ft with
        | true =>
          have z1 := kless_of true h1
          have HMM := hide (rangP_no HX.out (show ¬ withinK f0 ft tt from fun h => by rw [h.1] at h1; cases h1))
          clear h1
          go_wp2_with fail
          go_roundw
          case rel => exact ⟨j + 1, y, rfl, by go_num, by omega, by omega, by rw [HMM.out]; exact HY, HBr⟩
          case measure => simp [intOf]; omega
        | false =>
          have z1 := kless_of false h1
          by_cases h2 : tt.size = 0
          · have hv : withinK f0 ft tt := ⟨h1, .inl h2⟩
            have z2 : tt.toList.isEmpty = true := by rw [empty_mk h2, ByteArray.toList_eq]; rfl
            have HMM := hide (rangP_yes HX.out hv)
            have HAT := hide (rangP_at HX.out hv)
            have hyr : y < n4 := by
              have := (List.getElem?_eq_some_iff.1 HAT.out).1
              rw [HY.out, ← HRG.out, ← HN4.out] at this
              exact this
            have HRI := hide (show RG[y]? = some (f0, f1) by rw [HRG.out, ← HY.out]; exact HAT.out)
            obtain ⟨b4, o4, rfl, hb4, hc4⟩ := HR4.out (by rw [← HN4.out]; omega)
            have hyL : y < RG.length := by rw [← HN4.out]; exact hyr
            obtain ⟨k0, k1⟩ := cellsKV (at_kv hyL HRI.out) (hc4 y hyL)
            have e0 := (HBr.out.cell (p := ⟨b4, o4 + y * 2, none⟩) hb4).trans k0
            have e1 := (HBr.out.cell (p := ⟨b4, o4 + y * 2 + 1, none⟩) hb4).trans k1
            have hyd : decide ((n4 : Int) ≤ (y : Int)) = false := decide_eq_false (by omega)
            have hyi : (y : Int) < (n4 : Int) := by omega
            clear hv hc4 k0 k1 hyL h1 h2
            go_wp2_with fail
            go_quiet (fail)
            go_wp2_with fail
            go_roundw
            case rel => exact ⟨j + 1, y + 1, by go_num, by go_num, by omega, by omega, hide (by rw [HMM.out, List.length_append, HY.out]; rfl), below_drewN HBr.out _⟩
            case measure => simp [intOf]; omega
          · have z2 := empty_not h2
            cases h3 : kless f0 tt with
            | true =>
              have z3 := kless_of true h3
              have hv : withinK f0 ft tt := ⟨h1, .inr h3⟩
              have HMM := hide (rangP_yes HX.out hv)
              have HAT := hide (rangP_at HX.out hv)
              have hyr : y < n4 := by
                have := (List.getElem?_eq_some_iff.1 HAT.out).1
                rw [HY.out, ← HRG.out, ← HN4.out] at this
                exact this
              have HRI := hide (show RG[y]? = some (f0, f1) by rw [HRG.out, ← HY.out]; exact HAT.out)
              obtain ⟨b4, o4, rfl, hb4, hc4⟩ := HR4.out (by rw [← HN4.out]; omega)
              have hyL : y < RG.length := by rw [← HN4.out]; exact hyr
              obtain ⟨k0, k1⟩ := cellsKV (at_kv hyL HRI.out) (hc4 y hyL)
              have e0 := (HBr.out.cell (p := ⟨b4, o4 + y * 2, none⟩) hb4).trans k0
              have e1 := (HBr.out.cell (p := ⟨b4, o4 + y * 2 + 1, none⟩) hb4).trans k1
              have hyd : decide ((n4 : Int) ≤ (y : Int)) = false := decide_eq_false (by omega)
              have hyi : (y : Int) < (n4 : Int) := by omega
              clear hv hc4 k0 k1 hyL h1 h2 h3
              go_wp2_with fail
              go_quiet (fail)
              go_wp2_with fail
              go_roundw
              case rel => exact ⟨j + 1, y + 1, by go_num, by go_num, by omega, by omega, hide (by rw [HMM.out, List.length_append, HY.out]; rfl), below_drewN HBr.out _⟩
              case measure => simp [intOf]; omega
            | false =>
              have z3 := kless_of false h3
              have HMM := hide (rangP_no HX.out (show ¬ withinK f0 ft tt from fun h => h.2.elim h2 (fun h => by rw [h] at h3; cases h3)))
              clear h1 h2 h3
              go_wp2_with fail
              go_roundw
              case rel => exact ⟨j + 1, y, rfl, by go_num, by omega, by omega, by rw [HMM.out]; exact HY, HBr⟩
              case measure => simp [intOf]; omega
      · have hjn : j = n5 := by omega
        subst hjn
        have hyn : n4 = y := by rw [HN4.out, HRG.out, ← HALL.out, ← HY.out, HN5.out]
        subst hyn
        have hs22 := HB22.out.size
        have HSE := hide (fun W c1 c2 b1 b2 (h1 : elKV.Rd W W.heap.size b1 AL) (h2 : elKV.Rd W W.heap.size b2 AL) => sameMap_same b1 b2 c1 c2 AL W h1 h2 (by rw [← HN5.out]; omega))
        have HMO := hide (fun W (h1 : elKV.Rd W W.heap.size a5 AL) => sMapOk_any a5 c5 AL W h1 (by rw [← HN5.out]; omega))
        rw [decide_eq_true HOKM.out] at HMO
        rw [← HN5.out] at HSE HMO
        have HK23 := hide ((HK22.out.below HBr.out (Nat.le_refl _)).mono HBr.out.size)
        have HR23 := hide ((HR5.out.below HBr.out (Nat.le_refl _)).mono HBr.out.size)
        have HB23 := hide (HB22.out.trans (HBr.out.mono hs22))
        clear HBr HR4 HR5 HK22 HB22 HY HN4 HRL hn4l
        go_wp2_with fail
        refine (HSM.out _ HK23.out).mono ?_
        rintro e w24 ⟨v6, rfl, ho24, hb24⟩
        obtain ⟨a6, c6, rfl, hr6, _⟩ := ho24.form
        have HB24 := hide (HB23.out.trans (hb24.mono HB23.out.size))
        have HR24 := hide ((HR23.out.below hb24 (Nat.le_refl _)).mono hb24.size)
        have HR6 := hide hr6
        rw [← HN5.out]
        clear ho24 hr6 hb24 HK23 HR23 HB23 HSM
        go_wp2_with fail
        refine (HSE.out _ _ _ _ _ HR24.out HR6.out).mono ?_
        rintro e w25 ⟨rfl, hb25⟩
        have HB25 := hide (HB24.out.trans (hb25.mono HB24.out.size))
        have HR25 := hide ((HR24.out.below hb25 (Nat.le_refl _)).mono hb25.size)
        clear hb25 HB24 HR24 HR6 HSE
        go_wp2_with fail
        refine (HMO.out _ HR25.out).mono ?_
        rintro e w26 ⟨rfl, hb26⟩
        have HB26 := hide (HB25.out.trans (hb26.mono HB25.out.size))
        clear hb26 HB25
        go_wp2_with fail
        go_ret
        exact ⟨rfl, HB26.out⟩
  · rw [decide_eq_false hmo] at HSO
    clear hPe hmo HP3 HX3 HCASE HN2
    go_wp2_with fail
    refine (HSO.out _ HL3.out).mono ?_
    rintro e w5 ⟨rfl, hb5⟩
    have HB5 := hide (HB3.out.trans (hb5.mono HB3.out.size))
    clear hb5 HL3 HB3 HSO HSE
    have HAR := hide (drawMemRange_any (B := w.heap.size) a cap bs w5 HB5.out.size (HC.out.below HB5.out) HM.out)
    rw [← HN.out] at HAR
    go_wp2_with fail
    refine HAR.out.mono ?_
    rintro e w20 ⟨a3, n3, c3, K, ft, tt, q, rfl, hK, hn3, ho20, hb20⟩
    have HB20 := hide (HB5.out.trans (hb20.mono HB5.out.size))
    have HK := hide (owns_rd ho20)
    have HMR := hide (fun W (h : elEnt.Rd W W.heap.size a3 K) => iMemRange_any a3 c3 K ft tt q W h (by omega))
    have HMP := hide (fun W (h : elEnt.Rd W W.heap.size a3 K) => iMemMap_any a3 c3 K q W h (by omega))
    have HSM := hide (fun W (h : elEnt.Rd W W.heap.size a3 K) => sMemMap_any a3 c3 K q W h (by omega))
    rw [hK] at HMR HMP HSM
    have HOKM := hide (mapM_ok K q)
    have hlk := mapM_len K q
    rw [hK] at hlk
    obtain ⟨AL, hAL⟩ : ∃ AL, AL = mapM K q := ⟨_, rfl⟩
    rw [← hAL] at HMR HMP HSM HOKM hlk
    have HRL := hide (rangeE_len ft tt AL)
    obtain ⟨RG, hRG⟩ : ∃ RG, RG = rangeE ft tt AL := ⟨_, rfl⟩
    have HRG := hide hRG
    rw [← hRG] at HMR HRL
    clear ho20 hb20 HAR hK hAL hRG
    go_wp2_with fail
    refine (HMR.out _ HK.out).mono ?_
    rintro e w21 ⟨v4, rfl, ho21, hb21⟩
    obtain ⟨a4, c4, rfl, hr4, _⟩ := ho21.form
    have HB21 := hide (HB20.out.trans (hb21.mono HB20.out.size))
    have HK21 := hide ((HK.out.below hb21 (Nat.le_refl _)).mono hb21.size)
    have HR21 := hide hr4
    obtain ⟨n4, hn4⟩ : ∃ n4, n4 = RG.length := ⟨_, rfl⟩
    have HN4 := hide hn4
    rw [← hn4] at HRL ⊢
    clear ho21 hr4 hb21 hn4 HMR HK HB20
    go_wp2_with fail
    refine (HMP.out _ HK21.out).mono ?_
    rintro e w22 ⟨v5, rfl, ho22, hb22⟩
    obtain ⟨a5, c5, rfl, hr5, _⟩ := ho22.form
    have HB22 := hide (HB21.out.trans (hb22.mono HB21.out.size))
    have HK22 := hide ((HK21.out.below hb22 (Nat.le_refl _)).mono hb22.size)
    have HR4 := hide ((HR21.out.below hb22 (Nat.le_refl _)).mono hb22.size)
    have HR5 := hide hr5
    obtain ⟨n5, hn5⟩ : ∃ n5, n5 = AL.length := ⟨_, rfl⟩
    have HN5 := hide hn5
    rw [← hn5] at hlk HRL ⊢
    have hn4l := HRL.out
    have HALL := hide (rangP_all ft tt AL)
    clear ho22 hr5 hb22 hn5 HMP HK21 HR21 HB21
    go_wp2_with fail
    go_loopw [20, 21] (fun nn i wr => ∃ (j y : Nat), nn = .int .i64 y ∧ i = .int .i64 j ∧ j ≤ n5 ∧ y ≤ j ∧ Hid ((rangP ft tt AL j).length = y) ∧ Hid (Below w22.heap.size w22 wr)) (fun _ i _ => n5 - (intOf i).toNat)
    case atStart => exact ⟨0, 0, rfl, rfl, by omega, by omega, hide (by rw [rangP_zero]; rfl), Below.refl _ _⟩
    case round =>
      obtain ⟨j, y, rfl, rfl, hj, hyj, HY, HBr⟩ := hrel
      by_cases hlt : j < n5
      · have hjL : j < AL.length := by rw [← HN5.out]; exact hlt
        obtain ⟨b, off, rfl, hb, hcell⟩ := HR5.out (by omega)
        obtain ⟨f0, f1, hx⟩ := partsKV AL[j]
        obtain ⟨k0, k1⟩ := cellsKV hx (hcell j hjL)
        have d0 := (HBr.out.cell (p := ⟨b, off + j * 2, none⟩) hb).trans k0
        have d1 := (HBr.out.cell (p := ⟨b, off + j * 2 + 1, none⟩) hb).trans k1
        have HX := hide (show AL[j]? = some (f0, f1) by rw [List.getElem?_eq_getElem hjL, hx])
        have hji : (j : Int) < (n5 : Int) := by omega
        clear hcell k0 k1 hx hjL
        cases h1 : kless f0 ft with
        | true =>
          have z1 := kless_of true h1
          have HMM := hide (rangP_no HX.out (show ¬ withinK f0 ft tt from fun h => by rw [h.1] at h1; cases h1))
          clear h1
          go_wp2_with fail
          go_roundw
          case rel => exact ⟨j + 1, y, rfl, by go_num, by omega, by omega, by rw [HMM.out]; exact HY, HBr⟩
          case measure => simp [intOf]; omega
        | false =>
          have z1 := kless_of false h1
          by_cases h2 : tt.size = 0
          · have hv : withinK f0 ft tt := ⟨h1, .inl h2⟩
            have z2 : tt.toList.isEmpty = true := by rw [empty_mk h2, ByteArray.toList_eq]; rfl
            have HMM := hide (rangP_yes HX.out hv)
            have HAT := hide (rangP_at HX.out hv)
            have hyr : y < n4 := by
              have := (List.getElem?_eq_some_iff.1 HAT.out).1
              rw [HY.out, ← HRG.out, ← HN4.out] at this
              exact this
            have HRI := hide (show RG[y]? = some (f0, f1) by rw [HRG.out, ← HY.out]; exact HAT.out)
            obtain ⟨b4, o4, rfl, hb4, hc4⟩ := HR4.out (by rw [← HN4.out]; omega)
            have hyL : y < RG.length := by rw [← HN4.out]; exact hyr
            obtain ⟨k0, k1⟩ := cellsKV (at_kv hyL HRI.out) (hc4 y hyL)
            have e0 := (HBr.out.cell (p := ⟨b4, o4 + y * 2, none⟩) hb4).trans k0
            have e1 := (HBr.out.cell (p := ⟨b4, o4 + y * 2 + 1, none⟩) hb4).trans k1
            have hyd : decide ((n4 : Int) ≤ (y : Int)) = false := decide_eq_false (by omega)
            have hyi : (y : Int) < (n4 : Int) := by omega
            clear hv hc4 k0 k1 hyL h1 h2
            go_wp2_with fail
            go_quiet (fail)
            go_wp2_with fail
            go_roundw
            case rel => exact ⟨j + 1, y + 1, by go_num, by go_num, by omega, by omega, hide (by rw [HMM.out, List.length_append, HY.out]; rfl), below_drewN HBr.out _⟩
            case measure => simp [intOf]; omega
          · have z2 := empty_not h2
            cases h3 : kless f0 tt with
            | true =>
              have z3 := kless_of true h3
              have hv : withinK f0 ft tt := ⟨h1, .inr h3⟩
              have HMM := hide (rangP_yes HX.out hv)
              have HAT := hide (rangP_at HX.out hv)
              have hyr : y < n4 := by
                have := (List.getElem?_eq_some_iff.1 HAT.out).1
                rw [HY.out, ← HRG.out, ← HN4.out] at this
                exact this
              have HRI := hide (show RG[y]? = some (f0, f1) by rw [HRG.out, ← HY.out]; exact HAT.out)
              obtain ⟨b4, o4, rfl, hb4, hc4⟩ := HR4.out (by rw [← HN4.out]; omega)
              have hyL : y < RG.length := by rw [← HN4.out]; exact hyr
              obtain ⟨k0, k1⟩ := cellsKV (at_kv hyL HRI.out) (hc4 y hyL)
              have e0 := (HBr.out.cell (p := ⟨b4, o4 + y * 2, none⟩) hb4).trans k0
              have e1 := (HBr.out.cell (p := ⟨b4, o4 + y * 2 + 1, none⟩) hb4).trans k1
              have hyd : decide ((n4 : Int) ≤ (y : Int)) = false := decide_eq_false (by omega)
              have hyi : (y : Int) < (n4 : Int) := by omega
              clear hv hc4 k0 k1 hyL h1 h2 h3
              go_wp2_with fail
              go_quiet (fail)
              go_wp2_with fail
              go_roundw
              case rel => exact ⟨j + 1, y + 1, by go_num, by go_num, by omega, by omega, hide (by rw [HMM.out, List.length_append, HY.out]; rfl), below_drewN HBr.out _⟩
              case measure => simp [intOf]; omega
            | false =>
              have z3 := kless_of false h3
              have HMM := hide (rangP_no HX.out (show ¬ withinK f0 ft tt from fun h => h.2.elim h2 (fun h => by rw [h] at h3; cases h3)))
              clear h1 h2 h3
              go_wp2_with fail
              go_roundw
              case rel => exact ⟨j + 1, y, rfl, by go_num, by omega, by omega, by rw [HMM.out]; exact HY, HBr⟩
              case measure => simp [intOf]; omega
      · have hjn : j = n5 := by omega
        subst hjn
        have hyn : n4 = y := by rw [HN4.out, HRG.out, ← HALL.out, ← HY.out, HN5.out]
        subst hyn
        have hs22 := HB22.out.size
        have HSE := hide (fun W c1 c2 b1 b2 (h1 : elKV.Rd W W.heap.size b1 AL) (h2 : elKV.Rd W W.heap.size b2 AL) => sameMap_same b1 b2 c1 c2 AL W h1 h2 (by rw [← HN5.out]; omega))
        have HMO := hide (fun W (h1 : elKV.Rd W W.heap.size a5 AL) => sMapOk_any a5 c5 AL W h1 (by rw [← HN5.out]; omega))
        rw [decide_eq_true HOKM.out] at HMO
        rw [← HN5.out] at HSE HMO
        have HK23 := hide ((HK22.out.below HBr.out (Nat.le_refl _)).mono HBr.out.size)
        have HR23 := hide ((HR5.out.below HBr.out (Nat.le_refl _)).mono HBr.out.size)
        have HB23 := hide (HB22.out.trans (HBr.out.mono hs22))
        clear HBr HR4 HR5 HK22 HB22 HY HN4 HRL hn4l
        go_wp2_with fail
        refine (HSM.out _ HK23.out).mono ?_
        rintro e w24 ⟨v6, rfl, ho24, hb24⟩
        obtain ⟨a6, c6, rfl, hr6, _⟩ := ho24.form
        have HB24 := hide (HB23.out.trans (hb24.mono HB23.out.size))
        have HR24 := hide ((HR23.out.below hb24 (Nat.le_refl _)).mono hb24.size)
        have HR6 := hide hr6
        rw [← HN5.out]
        clear ho24 hr6 hb24 HK23 HR23 HB23 HSM
        go_wp2_with fail
        refine (HSE.out _ _ _ _ _ HR24.out HR6.out).mono ?_
        rintro e w25 ⟨rfl, hb25⟩
        have HB25 := hide (HB24.out.trans (hb25.mono HB24.out.size))
        have HR25 := hide ((HR24.out.below hb25 (Nat.le_refl _)).mono hb25.size)
        clear hb25 HB24 HR24 HR6 HSE
        go_wp2_with fail
        refine (HMO.out _ HR25.out).mono ?_
        rintro e w26 ⟨rfl, hb26⟩
        have HB26 := hide (HB25.out.trans (hb26.mono HB25.out.size))
        clear hb26 HB25
        go_wp2_with fail
        go_ret
        exact ⟨rfl, HB26.out⟩

theorem law_mem (a0 : Option Addr) (len0 cap0 : Nat) (z0 : List Int) (w : World) (w0 : IsRow .u8 w a0 len0 cap0 z0) :
    Calls Try.prog 3 #[.slice a0 len0 cap0] w fun e w' => e = .returned (.bool true) ∧ Below w.heap.size w w' := by
  obtain ⟨h1, h2⟩ := w0.code
  have := mem_core a0 cap0 (z0.take len0) w h2
  rwa [h1] at this
end Go.Proofs.Ytphfakdbgohhgaa
