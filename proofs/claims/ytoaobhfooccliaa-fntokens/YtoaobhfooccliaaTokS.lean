/-
  Contracts of spec.MintToken and spec.ReadToken.
-/
import Derived.Test.YtoaobhfooccliaaTokD
import Derived.Test.YtoaobhfooccliaaVarsS
import Derived.Test.YtoaobhfooccliaaChaU
import Derived.Test.YtoaobhfooccliaaVarS
namespace Go.Proofs.Ytoaobhfooccliaa
open Go.ChangeShapes Go.WideShapes Go.ChangeAt Go.RowKit

set_option maxHeartbeats 1000000 in
set_option maxRecDepth 20000 in
theorem sMint_any (k : ByteArray) (t n : Int) (w : World) :
    Calls Try.prog 12 #[.string k, .int .i64 t, .int .i64 n] w (StrPost w (tokV (bl k) t n)) := by
  obtain ⟨V, hV⟩ : ∃ V, V = tokV (bl k) t n := ⟨_, rfl⟩
  have HV := hide hV
  rw [← hV]
  clear hV
  by_cases hk : k.size = 32
  · have k1 : ((k.size : Int) != 32) = false := by rw [bne_eq_false_iff_eq]; omega
    have HK := hide (show (bl k).length = 32 by rw [bl_len]; exact hk)
    clear hk
    by_cases ht : 1 ≤ t ∧ t ≤ 99
    · have HT := hide ht
      clear ht
      by_cases hn : 0 ≤ n ∧ n ≤ 1000000
      · have hok : tokOk (bl k) t n := ⟨HK.out, HT.out.1, HT.out.2, hn.1, hn.2⟩
        obtain ⟨S, hS⟩ : ∃ S, S = blockV (bl k) n (nonceL 2 t) := ⟨_, rfl⟩
        obtain ⟨VT, hVT⟩ : ∃ VT, VT = varV t := ⟨_, rfl⟩
        obtain ⟨VE, hVE⟩ : ∃ VE, VE = varV n := ⟨_, rfl⟩
        obtain ⟨G, hG⟩ : ∃ G, G = S.take 8 := ⟨_, rfl⟩
        have HV1 := hide (show V = VT ++ VE ++ G by rw [HV.out, tokV_yes hok, hVT, hVE, hG, hS]; rfl)
        have hlS : (ByteArray.mk S.toArray).size = 64 := by rw [size_of, hS]; exact length_blockV (tok_block hok)
        have hlG : G.length = 8 := by rw [hG, hS]; exact length_tagL hok
        have hlT : VT.length ≤ 7 := by rw [hVT]; exact varV_len t
        have hlE : VE.length ≤ 7 := by rw [hVE]; exact varV_len n
        have ex := ext_take (ByteArray.mk S.toArray) 8
        rw [bl_of S, ← hG] at ex
        have ha1 := run_cat VT VE (by omega)
        have ha2 := run_cat (VT ++ VE) G (by rw [List.length_append]; omega)
        have HVT := hide (fun W => sVar_any t W)
        have HVE := hide (fun W => sVar_any n W)
        have HBl := hide (fun W => sBlock_any k ⟨(nonceL 2 t).toArray⟩ n W)
        rw [bl_of (nonceL 2 t), ← hS] at HBl
        rw [← hVT] at HVT
        rw [← hVE] at HVE
        have HNn := hide hn
        unfold StrPost at HBl
        generalize (ByteArray.mk S.toArray) = sb at hlS ex HBl
        clear hok hS hVT hVE hG hlG hlT hlE hn
        go_enter Try.func12, Try.ntmps12
        go_wp2_with fail
        refine (in_yes t 1 99 _ HT.out.1 HT.out.2).mono ?_
        rintro e w' ⟨rfl, rfl⟩
        go_wp2_with fail
        refine (in_yes n 0 1000000 _ HNn.out.1 HNn.out.2).mono ?_
        rintro e w' ⟨rfl, rfl⟩
        go_wp2_with fail
        refine (HVT.out _).mono ?_
        rintro e w1 ⟨rfl, hb1⟩
        have HB1 := hide hb1
        clear hb1
        go_wp2_with fail
        refine (HVE.out _).mono ?_
        rintro e w2 ⟨rfl, hb2⟩
        have HB2 := hide (HB1.out.trans (hb2.mono HB1.out.size))
        clear hb2 HB1
        go_wp2_with fail
        refine (sNonce_any 2 t _).mono ?_
        rintro e w3 ⟨rfl, hb3⟩
        have HB3 := hide (HB2.out.trans (hb3.mono HB2.out.size))
        clear hb3 HB2
        go_wp2_with fail
        refine (HBl.out _).mono ?_
        rintro e w4 ⟨rfl, hb4⟩
        have HB4 := hide (HB3.out.trans (hb4.mono HB3.out.size))
        clear hb4 HB3
        go_wp2_with fail
        go_ret
        exact ⟨by rw [HV1.out, List.append_assoc]; rfl, HB4.out⟩
      · have HV1 := hide (show V = [] by rw [HV.out, tokV_no (fun h => hn h.2.2.2)])
        have HNn := hide (show n < 0 ∨ 1000000 < n by omega)
        clear hn
        go_enter Try.func12, Try.ntmps12
        go_wp2_with fail
        refine (in_yes t 1 99 _ HT.out.1 HT.out.2).mono ?_
        rintro e w' ⟨rfl, rfl⟩
        go_wp2_with fail
        refine (in_no n 0 1000000 _ HNn.out).mono ?_
        rintro e w' ⟨rfl, rfl⟩
        go_wp2_with fail
        go_ret
        exact ⟨by rw [HV1.out]; rfl, Below.refl _ _⟩
    · have HV1 := hide (show V = [] by rw [HV.out, tokV_no (fun h => ht ⟨h.2.1, h.2.2.1⟩)])
      have HTn := hide (show t < 1 ∨ 99 < t by omega)
      clear ht
      go_enter Try.func12, Try.ntmps12
      go_wp2_with fail
      refine (in_no t 1 99 _ HTn.out).mono ?_
      rintro e w' ⟨rfl, rfl⟩
      go_wp2_with fail
      go_ret
      exact ⟨by rw [HV1.out]; rfl, Below.refl _ _⟩
  · have k1 : ((k.size : Int) != 32) = true := by rw [bne_iff_ne]; omega
    have HV1 := hide (show V = [] by rw [HV.out, tokV_no (fun h => hk (by have := h.1; rwa [bl_len] at this))])
    clear hk
    go_enter Try.func12, Try.ntmps12
    go_wp2_with fail
    go_ret
    exact ⟨by rw [HV1.out]; rfl, Below.refl _ _⟩
end Go.Proofs.Ytoaobhfooccliaa
