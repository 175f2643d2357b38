/-
  Texts of this proof, put together: FilS.
-/
import Derived.Test.YtakjjfbocokpaaaDoorPackAR
import Derived.Test.YtakjjfbocokpaaaDoorPackAI
import Derived.Test.YtakjjfbocokpaaaDoorPackAS
import Derived.Test.YtakjjfbocokpaaaDoorPackAE

/-
  Contracts of spec.FileKey, SealFile and OpenFile.
-/
namespace Go.Proofs.YtakjjfbocokpaaaDoor
open Go.ChangeShapes Go.WideShapes Go.ChangeAt Go.RowKit

set_option maxHeartbeats 1000000 in
set_option maxRecDepth 20000 in
theorem sSealFile_any (m t : ByteArray) (n : Int) (w : World) :
    Calls Tryd.prog 45 #[.string m, .int .i64 n, .string t] w (StrPost w (fileV (bl m) n (bl t))) := by
  have HK := hide (fun W => sFileKey_any m n W)
  obtain ⟨V, hV⟩ : ∃ V, V = fileV (bl m) n (bl t) := ⟨_, rfl⟩
  have HV := hide hV
  rw [← hV]
  clear hV
  by_cases hk : fOk (bl m) n
  · have hkl := fkey_len hk
    by_cases ht : t.size ≤ 2000
    · have HST := hide (fun W => sStream ⟨(fkeyV (bl m) n).toArray⟩ ⟨(nonceL 5 n).toArray⟩ t 1 W ⟨by omega, by omega⟩ (by omega))
      rw [bl_of (fkeyV (bl m) n), bl_of (nonceL 5 n), show streamV (fkeyV (bl m) n) 1 (nonceL 5 n) (bl t) = fstr (bl m) n (bl t) from rfl] at HST
      have hsl := fstr_len hk (t := bl t) (by rw [bl_len]; omega)
      rw [bl_len] at hsl
      have HV1 := hide (HV.out.trans (fileV_yes hk (by rw [bl_len]; exact ht)))
      obtain ⟨S, hS⟩ : ∃ S, S = fstr (bl m) n (bl t) := ⟨_, rfl⟩
      rw [← hS] at HST hsl HV1
      obtain ⟨K, hK⟩ : ∃ K, K = fkeyV (bl m) n := ⟨_, rfl⟩
      rw [← hK] at HK HST hkl
      have s1 := isEmpty_32 K hkl
      have hcb := crcI_bd S
      have hf4 := fixedV4 (crcI S) hcb
      have hadd := run_cat (fixedV (crcI S) 4) S (by omega)
      have HCR := hide (fun W => sCrc_any ⟨S.toArray⟩ W (by rw [size_of]; unfold maxLen; omega))
      rw [bl_of S, show 4294967295 - (crcRun 4294967295 S : Int) = crcI S from rfl] at HCR
      have hd : decide ((2000 : Int) < (t.size : Int)) = false := decide_eq_false (by omega)
      clear hS hK hkl hsl ht hk
      go_enter Tryd.func45, Tryd.ntmps45
      go_wp2_with fail
      refine (HK.out _).mono ?_
      rintro e w1 ⟨rfl, hb1⟩
      have HB1 := hide hb1
      clear hb1
      go_wp2_with fail
      refine (sNonce_any 5 n _).mono ?_
      rintro e w2 ⟨rfl, hb2⟩
      have HB2 := hide (HB1.out.trans (hb2.mono HB1.out.size))
      clear hb2 HB1
      go_wp2_with fail
      refine (HST.out _).mono ?_
      rintro e w3 ⟨rfl, hb3⟩
      have HB3 := hide (HB2.out.trans (hb3.mono HB2.out.size))
      clear hb3 HB2
      go_wp2_with fail
      refine (HCR.out _).mono ?_
      rintro e w4 ⟨rfl, rfl⟩
      go_wp2_with fail
      refine (sFixed_any (crcI S) 4 _ (by omega)).mono ?_
      rintro e w5 ⟨rfl, hb5⟩
      have HB5 := hide (HB3.out.trans (hb5.mono HB3.out.size))
      clear hb5 HB3
      go_wp2_with fail
      go_ret
      exact ⟨by rw [HV1.out]; rfl, HB5.out⟩
    · have HV1 := hide (HV.out.trans (fileV_no (fun q => ht (by have := q.2; rwa [bl_len] at this))))
      obtain ⟨K, hK⟩ : ∃ K, K = fkeyV (bl m) n := ⟨_, rfl⟩
      rw [← hK] at HK hkl
      have s1 := isEmpty_32 K hkl
      have hd : decide ((2000 : Int) < (t.size : Int)) = true := decide_eq_true (by omega)
      clear hK hkl ht hk
      go_enter Tryd.func45, Tryd.ntmps45
      go_wp2_with fail
      refine (HK.out _).mono ?_
      rintro e w1 ⟨rfl, hb1⟩
      have HB1 := hide hb1
      clear hb1
      go_wp2_with fail
      go_ret
      exact ⟨by rw [HV1.out]; rfl, HB1.out⟩
  · have HV1 := hide (HV.out.trans (fileV_no (fun q => hk q.1)))
    rw [fkey_no hk] at HK
    clear hk
    go_enter Tryd.func45, Tryd.ntmps45
    go_wp2_with fail
    refine (HK.out _).mono ?_
    rintro e w1 ⟨rfl, hb1⟩
    have HB1 := hide hb1
    clear hb1
    go_wp2_with fail
    go_ret
    exact ⟨by rw [HV1.out]; rfl, HB1.out⟩

def OpenFPost (w : World) (m : List UInt8) (n : Int) (s : List UInt8) (e : Ending) (w' : World) : Prop :=
  e = .returned (.tuple #[.string ⟨(openV m n s).toArray⟩, .bool (openQ m n s)]) ∧ Below w.heap.size w w'
set_option maxHeartbeats 1000000 in
set_option maxRecDepth 20000 in
theorem sOpenFile_any (m s : ByteArray) (n : Int) (w : World) (hs : s.size ≤ 1048576) :
    Calls Tryd.prog 35 #[.string m, .int .i64 n, .string s] w (OpenFPost w (bl m) n (bl s)) := by
  have HK := hide (fun W => sFileKey_any m n W)
  by_cases hk : fOk (bl m) n
  · have hkl := fkey_len hk
    by_cases h4 : s.size < 4
    · have HU := hide (open_no (k := bl m) (n := n) (s := bl s) fun q => by have := q.2.1; rw [bl_len] at this; omega)
      obtain ⟨K, hK⟩ : ∃ K, K = fkeyV (bl m) n := ⟨_, rfl⟩
      rw [← hK] at HK hkl
      have s1 := isEmpty_32 K hkl
      have hd : decide ((s.size : Int) < 4) = true := decide_eq_true (by omega)
      clear hK hkl h4 hk hs
      go_enter Tryd.func35, Tryd.ntmps35
      go_wp2_with fail
      refine (HK.out _).mono ?_
      rintro e w1 ⟨rfl, hb1⟩
      have HB1 := hide hb1
      clear hb1
      go_wp2_with fail
      go_ret2
      exact ⟨by rw [HU.out.1, HU.out.2]; rfl, HB1.out⟩
    · have hk4 : (4 : Int) ≤ (s.size : Int) := by omega
      have hk5 : 4 ≤ s.size := by omega
      have ec2 := ext_drop s 4
      have HST := hide (fun W => sStream ⟨(fkeyV (bl m) n).toArray⟩ ⟨(nonceL 5 n).toArray⟩ ⟨((bl s).drop 4).toArray⟩ 1 W ⟨by omega, by omega⟩ (by rw [size_of, List.length_drop, bl_len]; omega))
      rw [bl_of (fkeyV (bl m) n), bl_of (nonceL 5 n), bl_of ((bl s).drop 4), show streamV (fkeyV (bl m) n) 1 (nonceL 5 n) ((bl s).drop 4) = fstr (bl m) n ((bl s).drop 4) from rfl] at HST
      obtain ⟨S, hS⟩ : ∃ S, S = fstr (bl m) n ((bl s).drop 4) := ⟨_, rfl⟩
      have HS := hide hS
      rw [← hS] at HST
      obtain ⟨K, hK⟩ : ∃ K, K = fkeyV (bl m) n := ⟨_, rfl⟩
      rw [← hK] at HK hkl HST
      have s1 := isEmpty_32 K hkl
      have hd : decide ((s.size : Int) < 4) = false := decide_eq_false (by omega)
      have HSF := hide (fun W => sSealFile_any m ⟨S.toArray⟩ n W)
      rw [bl_of S] at HSF
      have HF := hide (And.intro hk (show 4 ≤ (bl s).length by rw [bl_len]; omega))
      clear hS hK hkl h4 hk hs
      go_enter Tryd.func35, Tryd.ntmps35
      go_wp2_with fail
      refine (HK.out _).mono ?_
      rintro e w1 ⟨rfl, hb1⟩
      have HB1 := hide hb1
      clear hb1
      go_wp2_with fail
      go_region_held3 (fun _ => True) (trivial)
        (first
          | (go_at_call 54
             refine (sNonce_any 5 n _).mono ?_
             rintro e w2 ⟨rfl, hb2⟩
             have HB2 := hide (HB1.out.trans ((below_of_drew' hb2).mono HB1.out.size))
             clear hb2)
          | (go_at_call 53
             refine (HST.out _).mono ?_
             rintro e w3 ⟨rfl, hb3⟩
             have HB3 := hide (HB2.out.trans (hb3.mono HB2.out.size))
             clear hb3))
      all_goals go_wp2_with fail
      all_goals refine (HSF.out _).mono ?_
      all_goals
        rintro e w4 ⟨rfl, hb4⟩
        have HB4 := hide (HB3.out.trans (hb4.mono HB3.out.size))
        clear hb4
      all_goals
        by_cases hw : openOk (bl m) n (bl s)
        · have HU := hide (open_yes hw)
          have hE : fileV (bl m) n S = bl s := by rw [HS.out]; exact hw.2.2
          rw [hE, ← ba_mk s]
          clear hE hw
          go_wp2_with fail
          go_ret2
          exact ⟨by rw [HU.out.1, HU.out.2, ← HS.out]; rfl, HB4.out⟩
        · have HU := hide (open_no hw)
          have hE : fileV (bl m) n S ≠ bl s := fun h => hw ⟨HF.out.1, HF.out.2, by rw [← HS.out]; exact h⟩
          obtain ⟨V, hV⟩ : ∃ V, V = fileV (bl m) n S := ⟨_, rfl⟩
          rw [← hV] at hE ⊢
          have hne := ne_str hE
          clear hE hw hV
          go_wp2_with fail
          go_ret2
          exact ⟨by rw [HU.out.1, HU.out.2]; rfl, HB4.out⟩
  · have HU := hide (open_no (k := bl m) (n := n) (s := bl s) fun q => hk q.1)
    rw [fkey_no hk] at HK
    clear hk hs
    go_enter Tryd.func35, Tryd.ntmps35
    go_wp2_with fail
    refine (HK.out _).mono ?_
    rintro e w1 ⟨rfl, hb1⟩
    have HB1 := hide hb1
    clear hb1
    go_wp2_with fail
    go_ret2
    exact ⟨by rw [HU.out.1, HU.out.2]; rfl, HB1.out⟩
end Go.Proofs.YtakjjfbocokpaaaDoor
