/-
  Texts of this proof, put together: WrapS.
-/
import Derived.Test.YtakjjfbocokpaaaDoorPackAQ
import Derived.Test.YtakjjfbocokpaaaDoorPackAD
import Derived.Test.YtakjjfbocokpaaaDoorPackAR
import Derived.Test.YtakjjfbocokpaaaDoorPackAE

/-
  Contracts of spec.Wrap and spec.Unwrap.
-/
namespace Go.Proofs.YtakjjfbocokpaaaDoor
open Go.ChangeShapes Go.WideShapes Go.ChangeAt Go.RowKit


set_option maxHeartbeats 1000000 in
set_option maxRecDepth 20000 in
theorem sWrap_any (m k : ByteArray) (n : Int) (w : World) :
    Calls Tryd.prog 38 #[.string m, .int .i64 n, .string k] w (StrPost w (wrapV (bl m) n (bl k))) := by
  obtain ⟨V, hV⟩ : ∃ V, V = wrapV (bl m) n (bl k) := ⟨_, rfl⟩
  have HV := hide hV
  rw [← hV]
  clear hV
  by_cases hk : k.size = 32
  · have k1 : ((k.size : Int) != 32) = false := by rw [bne_eq_false_iff_eq]; omega
    have HK := hide (show (bl k).length = 32 by rw [bl_len]; exact hk)
    have hks : k.size ≤ 1048576 := by omega
    clear hk
    by_cases hm : m.size = 32
    · have m1 : ((m.size : Int) != 32) = false := by rw [bne_eq_false_iff_eq]; omega
      have HM := hide (show (bl m).length = 32 by rw [bl_len]; exact hm)
      clear hm
      by_cases hn : 0 ≤ n ∧ n ≤ 562949953421311
      · have hw : wrapOk (bl m) n (bl k) := ⟨HK.out, HM.out, hn.1, hn.2⟩
        obtain ⟨S, hS⟩ : ∃ S, S = hideV (bl m) n (bl k) := ⟨_, rfl⟩
        have HS := hide hS
        have hl : S.length = 32 := by rw [hS]; exact length_hideV hw
        have HV1 := hide (show V = fixedV (crcI S) 4 ++ S by rw [HV.out, wrapV, if_pos hw, ← hS])
        have hcb := crcI_bd S
        have hf4 := fixedV4 (crcI S) hcb
        have hadd := run_cat (fixedV (crcI S) 4) S (by omega)
        have HL := hide hl
        have HST := hide (fun W => sStream m ⟨(nonceL 1 n).toArray⟩ k 0 W ⟨by omega, by omega⟩ hks)
        rw [bl_of (nonceL 1 n), show streamV (bl m) 0 (nonceL 1 n) (bl k) = S from hS.symm] at HST
        have HNn := hide hn
        clear hw hl hS hn
        go_enter Tryd.func38, Tryd.ntmps38
        go_wp2_with fail
        refine (in_yes n 0 562949953421311 _ HNn.out.1 HNn.out.2).mono ?_
        rintro e w' ⟨rfl, rfl⟩
        go_wp2_with fail
        refine (sNonce_any 1 n _).mono ?_
        rintro e w1 ⟨rfl, hb1⟩
        have HB1 := hide hb1
        clear hb1
        go_wp2_with fail
        refine (HST.out _).mono ?_
        rintro e w2 ⟨rfl, hb2⟩
        have HB2 := hide (HB1.out.trans (hb2.mono HB1.out.size))
        clear hb2 HB1
        go_wp2_with fail
        refine (sCrc_any ⟨S.toArray⟩ _ (by rw [size_of, HL.out]; unfold maxLen; omega)).mono ?_
        rw [bl_of S, show 4294967295 - (crcRun 4294967295 S : Int) = crcI S from rfl]
        rintro e w3 ⟨rfl, rfl⟩
        go_wp2_with fail
        refine (sFixed_any (crcI S) 4 _ (by omega)).mono ?_
        rintro e w4 ⟨rfl, hb4⟩
        have HB4 := hide (HB2.out.trans (hb4.mono HB2.out.size))
        clear hb4 HB2
        go_wp2_with fail
        go_ret
        exact ⟨by rw [HV1.out]; rfl, HB4.out⟩
      · have HV1 := hide (show V = [] by rw [HV.out, wrapV, if_neg (fun h => hn h.2.2)])
        have HNn := hide (show n < 0 ∨ 562949953421311 < n by omega)
        clear hn
        go_enter Tryd.func38, Tryd.ntmps38
        go_wp2_with fail
        refine (in_no n 0 562949953421311 _ HNn.out).mono ?_
        rintro e w' ⟨rfl, rfl⟩
        go_wp2_with fail
        go_ret
        exact ⟨by rw [HV1.out]; rfl, Below.refl _ _⟩
    · have m1 : ((m.size : Int) != 32) = true := by rw [bne_iff_ne]; omega
      have HV1 := hide (show V = [] by rw [HV.out, wrapV, if_neg (fun h => hm (by have := h.2.1; rwa [bl_len] at this))])
      clear hm
      go_enter Tryd.func38, Tryd.ntmps38
      go_wp2_with fail
      go_ret
      exact ⟨by rw [HV1.out]; rfl, Below.refl _ _⟩
  · have k1 : ((k.size : Int) != 32) = true := by rw [bne_iff_ne]; omega
    have HV1 := hide (show V = [] by rw [HV.out, wrapV, if_neg (fun h => hk (by have := h.1; rwa [bl_len] at this))])
    clear hk
    go_enter Tryd.func38, Tryd.ntmps38
    go_wp2_with fail
    go_ret
    exact ⟨by rw [HV1.out]; rfl, Below.refl _ _⟩

set_option maxHeartbeats 1000000 in
set_option maxRecDepth 20000 in
theorem sUnwrap_any (m s : ByteArray) (n : Int) (w : World) :
    Calls Tryd.prog 15 #[.string m, .int .i64 n, .string s] w (UnPost w (bl m) n (bl s)) := by
  by_cases hk : s.size = 36
  · have k1 : ((s.size : Int) != 36) = false := by rw [bne_eq_false_iff_eq]; omega
    have HK := hide (show (bl s).length = 36 by rw [bl_len]; exact hk)
    have hk4 : (4 : Int) ≤ (s.size : Int) := by omega
    have hk5 : 4 ≤ s.size := by omega
    have ec2 := cut4 s
    clear hk
    by_cases hm : m.size = 32
    · have m1 : ((m.size : Int) != 32) = false := by rw [bne_eq_false_iff_eq]; omega
      clear hm
      by_cases hn : 0 ≤ n ∧ n ≤ 562949953421311
      · have HST := hide (fun W => sStream m ⟨(nonceL 1 n).toArray⟩ ⟨((bl s).drop 4).toArray⟩ 0 W ⟨by omega, by omega⟩ (by rw [size_of, List.length_drop, HK.out]; omega))
        rw [bl_of (nonceL 1 n), bl_of ((bl s).drop 4)] at HST
        obtain ⟨S, hS⟩ : ∃ S, S = hideV (bl m) n ((bl s).drop 4) := ⟨_, rfl⟩
        have HS := hide hS
        rw [show streamV (bl m) 0 (nonceL 1 n) ((bl s).drop 4) = S from hS.symm] at HST
        have HNn := hide hn
        clear hS hn
        go_enter Tryd.func15, Tryd.ntmps15
        go_wp2_with fail
        refine (in_yes n 0 562949953421311 _ HNn.out.1 HNn.out.2).mono ?_
        rintro e w' ⟨rfl, rfl⟩
        go_wp2_with fail
        go_region_held3 (fun _ => True) (trivial)
          (first
            | (go_at_call 54
               refine (sNonce_any 1 n _).mono ?_
               rintro e w1 ⟨rfl, hb1⟩
               have HB1 := hide (below_of_drew' hb1)
               clear hb1)
            | (go_at_call 53
               refine (HST.out _).mono ?_
               rintro e w2 ⟨rfl, hb2⟩
               have HB2 := hide (HB1.out.trans (hb2.mono HB1.out.size))
               clear hb2))
        all_goals go_wp2_with fail
        all_goals refine (sWrap_any m ⟨S.toArray⟩ n _).mono ?_
        all_goals rw [bl_of S]
        all_goals
          rintro e w3 ⟨rfl, hb3⟩
          have HB3 := hide (HB2.out.trans (hb3.mono HB2.out.size))
          clear hb3
        all_goals
          by_cases hw : unOk (bl m) n (bl s)
          · have HU := hide (unKey_yes hw)
            have hE : wrapV (bl m) n S = bl s := by rw [HS.out]; exact hw.2
            rw [hE, ← ba_mk s]
            clear hE hw
            go_wp2_with fail
            go_ret2
            exact ⟨by rw [HU.out.1, HU.out.2, ← HS.out]; rfl, HB3.out⟩
          · have HU := hide (unKey_no hw)
            have hE : wrapV (bl m) n S ≠ bl s := fun h => hw ⟨HK.out, by rw [← HS.out]; exact h⟩
            obtain ⟨V, hV⟩ : ∃ V, V = wrapV (bl m) n S := ⟨_, rfl⟩
            rw [← hV] at hE ⊢
            have hne := ne_str hE
            clear hE hw hV
            go_wp2_with fail
            go_ret2
            exact ⟨by rw [HU.out.1, HU.out.2]; rfl, HB3.out⟩
      · have HU := hide (unKey_no (fun h => hn (unOk_ok h).2 : ¬ unOk (bl m) n (bl s)))
        have HNn := hide (show n < 0 ∨ 562949953421311 < n by omega)
        clear hn
        go_enter Tryd.func15, Tryd.ntmps15
        go_wp2_with fail
        refine (in_no n 0 562949953421311 _ HNn.out).mono ?_
        rintro e w' ⟨rfl, rfl⟩
        go_wp2_with fail
        go_ret2
        exact ⟨by rw [HU.out.1, HU.out.2]; rfl, Below.refl _ _⟩
    · have m1 : ((m.size : Int) != 32) = true := by rw [bne_iff_ne]; omega
      have HU := hide (unKey_no (fun h => hm (by have := (unOk_ok h).1; rwa [bl_len] at this) : ¬ unOk (bl m) n (bl s)))
      clear hm
      go_enter Tryd.func15, Tryd.ntmps15
      go_wp2_with fail
      go_ret2
      exact ⟨by rw [HU.out.1, HU.out.2]; rfl, Below.refl _ _⟩
  · have k1 : ((s.size : Int) != 36) = true := by rw [bne_iff_ne]; omega
    have hno : ¬ unOk (bl m) n (bl s) := fun h => hk (by have := h.1; rwa [bl_len] at this)
    have HU := hide (unKey_no hno)
    clear hk hno
    go_enter Tryd.func15, Tryd.ntmps15
    go_wp2_with fail
    go_ret2
    exact ⟨by rw [HU.out.1, HU.out.2]; rfl, Below.refl _ _⟩
end Go.Proofs.YtakjjfbocokpaaaDoor
