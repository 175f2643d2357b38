/-
  Texts of this proof, put together: WrapI.
-/
import Derived.Test.YtakjjfbocokpaaaDoorPackAF
import Derived.Test.YtakjjfbocokpaaaDoorPackAL
import Derived.Test.YtakjjfbocokpaaaDoorPackAO
import Derived.Test.YtakjjfbocokpaaaDoorPackAP
import Derived.Deep.RegionHeld3

/-
  Contracts of impl.Wrap and impl.Unwrap, where the table of the program holds its sixteen words.
-/
namespace Go.Proofs.YtakjjfbocokpaaaDoor
open Go.ChangeShapes Go.WideShapes Go.ChangeAt Go.RowKit

theorem isEmpty_of_len (V : List UInt8) (h : V.length = 32) : V.isEmpty = false := by
  cases V
  · simp at h
  · rfl


set_option maxHeartbeats 1000000 in
set_option maxRecDepth 20000 in
theorem iWrap_any (m k : ByteArray) (n : Int) (w : World) (h0 : 1 < w.heap.size) (hT : Hid (CrcTabIn w)) :
    Calls Tryd.prog 16 #[.string m, .int .i64 n, .string k] w (StrPost w (wrapV (bl m) n (bl k))) := by
  obtain ⟨V, hV⟩ : ∃ V, V = wrapV (bl m) n (bl k) := ⟨_, rfl⟩
  have HV := hide hV
  rw [← hV]
  clear hV
  by_cases hk : k.size = 32
  · have k1 : ((k.size : Int) != 32) = false := by rw [bne_eq_false_iff_eq]; omega
    have HK := hide (show (bl k).length = 32 by rw [bl_len]; exact hk)
    have hks : k.size ≤ 1048576 := by omega
    clear hk
    go_enter Tryd.func16, Tryd.ntmps16
    go_wp2_with fail
    refine (iNonce_any 1 n _).mono ?_
    rintro e w1 ⟨rfl, hb1⟩
    have HB1 := hide hb1
    clear hb1
    go_wp2_with fail
    refine (iStream m ⟨(nonceL 1 n).toArray⟩ k 0 _ ⟨by omega, by omega⟩ hks).mono ?_
    rw [bl_of (nonceL 1 n)]
    rintro e w2 ⟨rfl, hb2⟩
    have HB2 := hide (HB1.out.trans (hb2.mono HB1.out.size))
    clear hb2 HB1
    obtain ⟨S, hS⟩ : ∃ S, S = hideV (bl m) n (bl k) := ⟨_, rfl⟩
    have HS := hide hS
    rw [show streamV (bl m) 0 (nonceL 1 n) (bl k) = S from hS.symm]
    clear hS
    by_cases hw : wrapOk (bl m) n (bl k)
    · have hl : S.length = 32 := by rw [HS.out]; exact length_hideV hw
      have s1 := isEmpty_of_len S hl
      have HV1 := hide (show V = fixedV (crcI S) 4 ++ S by rw [HV.out, wrapV, if_pos hw, ← HS.out])
      have HL := hide hl
      clear hw hl
      go_wp2_with fail
      have h02 : 1 < w2.heap.size := by have := HB2.out.size; omega
      refine (iSummed_any S _ (by rw [HL.out]; omega) h02 (hide (hT.out.below HB2.out h0))).mono ?_
      rintro e w3 ⟨rfl, hb3⟩
      have HB3 := hide (HB2.out.trans (hb3.mono HB2.out.size))
      clear hb3 HB2
      go_wp2_with fail
      go_ret
      exact ⟨by rw [HV1.out]; rfl, HB3.out⟩
    · have hS0 : S = [] := by rw [HS.out]; exact hideV_bad HK.out hw
      have HV1 := hide (show V = [] by rw [HV.out, wrapV, if_neg hw])
      subst hS0
      clear hw
      go_wp2_with fail
      go_ret
      exact ⟨by rw [HV1.out]; rfl, HB2.out⟩
  · have k1 : ((k.size : Int) != 32) = true := by rw [bne_iff_ne]; omega
    have HV1 := hide (show V = [] by rw [HV.out, wrapV, if_neg (fun h => hk (by have := h.1; rwa [bl_len] at this))])
    clear hk
    go_enter Tryd.func16, Tryd.ntmps16
    go_wp2_with fail
    go_ret
    exact ⟨by rw [HV1.out]; rfl, Below.refl _ _⟩

def UnPost (w : World) (m : List UInt8) (n : Int) (s : List UInt8) (e : Ending) (w' : World) : Prop :=
  e = .returned (.tuple #[.string ⟨(unKey m n s).toArray⟩, .bool (unB m n s)]) ∧ Below w.heap.size w w'
theorem cut4 (s : ByteArray) : s.extract 4 s.size = ⟨((bl s).drop 4).toArray⟩ := ext_drop s 4
theorem bl_ne {a : List UInt8} {s : ByteArray} (h : a ≠ bl s) : (a != bl s) = true := by rw [bne_iff_ne]; exact h

set_option maxHeartbeats 1000000 in
set_option maxRecDepth 20000 in
theorem iUnwrap_any (m s : ByteArray) (n : Int) (w : World) (h0 : 1 < w.heap.size) (hT : Hid (CrcTabIn w)) :
    Calls Tryd.prog 14 #[.string m, .int .i64 n, .string s] w (UnPost w (bl m) n (bl s)) := by
  by_cases hk : s.size = 36
  · have k1 : ((s.size : Int) != 36) = false := by rw [bne_eq_false_iff_eq]; omega
    have HK := hide (show (bl s).length = 36 by rw [bl_len]; exact hk)
    have ec : s.extract 4 36 = ⟨((bl s).drop 4).toArray⟩ := by have := cut4 s; rwa [hk] at this
    have hk4 : (4 : Int) ≤ (s.size : Int) := by omega
    have hk5 : 4 ≤ s.size := by omega
    have ec2 := cut4 s
    have HST := hide (fun W => iStream m ⟨(nonceL 1 n).toArray⟩ ⟨((bl s).drop 4).toArray⟩ 0 W ⟨by omega, by omega⟩ (by rw [size_of, List.length_drop, HK.out]; omega))
    rw [bl_of (nonceL 1 n), bl_of ((bl s).drop 4)] at HST
    obtain ⟨S, hS⟩ : ∃ S, S = hideV (bl m) n ((bl s).drop 4) := ⟨_, rfl⟩
    have HS := hide hS
    rw [show streamV (bl m) 0 (nonceL 1 n) ((bl s).drop 4) = S from hS.symm] at HST
    clear hS hk
    go_enter Tryd.func14, Tryd.ntmps14
    go_wp2_with fail
    go_region_held3 (fun _ => True) (trivial)
      (first
        | (go_at_call 51
           refine (iNonce_any 1 n _).mono ?_
           rintro e w1 ⟨rfl, hb1⟩
           have HB1 := hide (below_of_drew' hb1)
           clear hb1)
        | (go_at_call 50
           refine (HST.out _).mono ?_
           rintro e w2 ⟨rfl, hb2⟩
           have HB2 := hide (HB1.out.trans (hb2.mono HB1.out.size))
           clear hb2))
    all_goals go_wp2_with fail
    all_goals have h02 : 1 < w2.heap.size := by have := HB2.out.size; omega
    all_goals refine (iWrap_any m ⟨S.toArray⟩ n _ h02 (hide (hT.out.below HB2.out h0))).mono ?_
    all_goals rw [bl_of S]
    all_goals
      rintro e w3 ⟨rfl, hb3⟩
      have HB3 := hide (HB2.out.trans (hb3.mono HB2.out.size))
      clear hb3
    all_goals
      by_cases hw : unOk (bl m) n (bl s)
      · have HU := hide (unKey_yes hw)
        have hE : wrapV (bl m) n S = bl s := by rw [HS.out]; exact hw.2
        rw [hE, ← ba_mk s]
        clear hE hw
        go_wp2_with fail
        go_ret2
        exact ⟨by rw [HU.out.1, HU.out.2, ← HS.out]; rfl, HB3.out⟩
      · have HU := hide (unKey_no hw)
        have hE : wrapV (bl m) n S ≠ bl s := fun h => hw ⟨HK.out, by rw [← HS.out]; exact h⟩
        obtain ⟨V, hV⟩ : ∃ V, V = wrapV (bl m) n S := ⟨_, rfl⟩
        rw [← hV] at hE ⊢
        have hne := ne_str hE
        clear hE hw hV
        go_wp2_with fail
        go_ret2
        exact ⟨by rw [HU.out.1, HU.out.2]; rfl, HB3.out⟩
  · have k1 : ((s.size : Int) != 36) = true := by rw [bne_iff_ne]; omega
    have hno : ¬ unOk (bl m) n (bl s) := fun h => hk (by have := h.1; rwa [bl_len] at this)
    have HU := hide (unKey_no hno)
    clear hk hno
    go_enter Tryd.func14, Tryd.ntmps14
    go_wp2_with fail
    go_ret2
    exact ⟨by rw [HU.out.1, HU.out.2]; rfl, Below.refl _ _⟩
end Go.Proofs.YtakjjfbocokpaaaDoor
