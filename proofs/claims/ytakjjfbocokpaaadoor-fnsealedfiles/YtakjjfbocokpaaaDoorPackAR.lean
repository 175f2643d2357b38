/-
  Texts of this proof, put together: FilI.
-/
import Derived.Test.YtakjjfbocokpaaaDoorPackAN
import Derived.Test.YtakjjfbocokpaaaDoorPackAP
import Derived.Test.YtakjjfbocokpaaaDoorPackAQ

/-
  Contracts of impl.FileKey, fileStream and SealFile, where the table of the program holds its sixteen words.
-/
namespace Go.Proofs.YtakjjfbocokpaaaDoor
open Go.ChangeShapes Go.WideShapes Go.ChangeAt Go.RowKit

set_option maxHeartbeats 1000000 in
theorem iFileStream_any (k t : ByteArray) (n : Int) (w : World) (ht : t.size ≤ 1048576) :
    Calls Tryd.prog 78 #[.string k, .int .i64 n, .string t] w (StrPost w (streamV (bl k) 1 (nonceL 5 n) (bl t))) := by
  have HST := hide (fun W => iStream k ⟨(nonceL 5 n).toArray⟩ t 1 W ⟨by omega, by omega⟩ ht)
  rw [bl_of (nonceL 5 n)] at HST
  go_enter Tryd.func78, Tryd.ntmps78
  go_wp2_with fail
  refine (iNonce_any 5 n _).mono ?_
  rintro e w1 ⟨rfl, hb1⟩
  have HB1 := hide hb1
  clear hb1
  go_wp2_with fail
  refine (HST.out _).mono ?_
  rintro e w2 ⟨rfl, hb2⟩
  have HB2 := hide (HB1.out.trans (hb2.mono HB1.out.size))
  clear hb2 HB1
  go_wp2_with fail
  go_ret
  exact ⟨rfl, HB2.out⟩

set_option maxHeartbeats 1000000 in
set_option maxRecDepth 20000 in
theorem iSealFile_any (m t : ByteArray) (n : Int) (w : World) (h0 : 1 < w.heap.size) (hT : Hid (CrcTabIn w)) :
    Calls Tryd.prog 36 #[.string m, .int .i64 n, .string t] w (StrPost w (fileV (bl m) n (bl t))) := by
  have HK := hide (fun W => iFileKey_any m n W)
  obtain ⟨V, hV⟩ : ∃ V, V = fileV (bl m) n (bl t) := ⟨_, rfl⟩
  have HV := hide hV
  rw [← hV]
  clear hV
  by_cases hk : fOk (bl m) n
  · have hkl := fkey_len hk
    by_cases ht : t.size ≤ 2000
    · have HST := hide (fun W => iFileStream_any ⟨(fkeyV (bl m) n).toArray⟩ t n W (by omega))
      rw [bl_of (fkeyV (bl m) n), show streamV (fkeyV (bl m) n) 1 (nonceL 5 n) (bl t) = fstr (bl m) n (bl t) from rfl] at HST
      have hsl := fstr_len hk (t := bl t) (by rw [bl_len]; omega)
      rw [bl_len] at hsl
      have HV1 := hide (HV.out.trans (fileV_yes hk (by rw [bl_len]; exact ht)))
      obtain ⟨S, hS⟩ : ∃ S, S = fstr (bl m) n (bl t) := ⟨_, rfl⟩
      rw [← hS] at HST hsl HV1
      obtain ⟨K, hK⟩ : ∃ K, K = fkeyV (bl m) n := ⟨_, rfl⟩
      rw [← hK] at HK HST hkl
      have s1 := isEmpty_32 K hkl
      have HSM := hide (fun W a b => iSummed_any S W (by omega) a b)
      have hd : decide ((2000 : Int) < (t.size : Int)) = false := decide_eq_false (by omega)
      clear hS hK hkl hsl ht hk
      go_enter Tryd.func36, Tryd.ntmps36
      go_wp2_with fail
      refine (HK.out _).mono ?_
      rintro e w1 ⟨rfl, hb1⟩
      have HB1 := hide hb1
      clear hb1
      go_wp2_with fail
      refine (HST.out _).mono ?_
      rintro e w2 ⟨rfl, hb2⟩
      have HB2 := hide (HB1.out.trans (hb2.mono HB1.out.size))
      clear hb2 HB1
      go_wp2_with fail
      refine (HSM.out _ (by have := HB2.out.size; omega) (hide (hT.out.below HB2.out h0))).mono ?_
      rintro e w3 ⟨rfl, hb3⟩
      have HB3 := hide (HB2.out.trans (hb3.mono HB2.out.size))
      clear hb3 HB2
      go_wp2_with fail
      go_ret
      exact ⟨by rw [HV1.out]; rfl, HB3.out⟩
    · have HV1 := hide (HV.out.trans (fileV_no (fun q => ht (by have := q.2; rwa [bl_len] at this))))
      obtain ⟨K, hK⟩ : ∃ K, K = fkeyV (bl m) n := ⟨_, rfl⟩
      rw [← hK] at HK hkl
      have s1 := isEmpty_32 K hkl
      have hd : decide ((2000 : Int) < (t.size : Int)) = true := decide_eq_true (by omega)
      clear hK hkl ht hk
      go_enter Tryd.func36, Tryd.ntmps36
      go_wp2_with fail
      refine (HK.out _).mono ?_
      rintro e w1 ⟨rfl, hb1⟩
      have HB1 := hide hb1
      clear hb1
      go_wp2_with fail
      go_ret
      exact ⟨by rw [HV1.out]; rfl, HB1.out⟩
  · have HV1 := hide (HV.out.trans (fileV_no (fun q => hk q.1)))
    rw [fkey_no hk] at HK
    clear hk
    go_enter Tryd.func36, Tryd.ntmps36
    go_wp2_with fail
    refine (HK.out _).mono ?_
    rintro e w1 ⟨rfl, hb1⟩
    have HB1 := hide hb1
    clear hb1
    go_wp2_with fail
    go_ret
    exact ⟨by rw [HV1.out]; rfl, HB1.out⟩
end Go.Proofs.YtakjjfbocokpaaaDoor
