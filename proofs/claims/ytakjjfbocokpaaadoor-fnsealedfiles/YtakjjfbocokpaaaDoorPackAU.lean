/-
  Texts of this proof, put together: DrawFil.
-/
import Derived.Test.YtakjjfbocokpaaaDoorPackAF
import Derived.Test.YtakjjfbocokpaaaDoorPackAH
import Derived.Test.YtakjjfbocokpaaaDoorPackAD
import Derived.Test.YtakjjfbocokpaaaDoorPackAT

/-
  Contract of spec.DrawOpenFile: what the law needs of it.
-/
namespace Go.Proofs.YtakjjfbocokpaaaDoor
open Go.ChangeShapes Go.WideShapes Go.ChangeAt Go.RowKit

def OpenDrawn (w : World) (e : Ending) (w' : World) : Prop :=
  ∃ (k : ByteArray) (n : Int) (s : ByteArray), e = .returned (.tuple #[.string k, .int .i64 n, .string s]) ∧ s.size ≤ 4000 ∧ 0 ≤ n ∧ n ≤ 5 ∧ Below w.heap.size w w'
theorem fileV_le (k : List UInt8) (n : Int) (t : List UInt8) : (fileV k n t).length ≤ 2004 := by
  by_cases h : fOk k n ∧ t.length ≤ 2000
  · rw [fileV_len h.1 h.2]
    omega
  · rw [fileV_no h]
    simp

set_option maxHeartbeats 1000000 in
theorem drawOpenFile_any {B : Nat} (a : Option Addr) (cap : Nat) (bs : List Int) (w : World) (hB : B ≤ w.heap.size) (hc : CodeAt B w a bs) (hm : bs.length ≤ 1048576) :
    Calls Tryd.prog 33 #[.slice a bs.length cap] w (OpenDrawn w) := by
  have H := hide hc
  clear hc
  go_enter Tryd.func33, Tryd.ntmps33
  go_wp2_with fail
  refine (l1New_any a cap bs w hB H.out hm).mono ?_
  rintro e w1 ⟨rfl, hc1, hb1⟩
  have HC1 := hide hc1
  have HB1 := hide hb1
  clear hc1 hb1
  generalize newC bs = c1 at HC1
  go_wp2_with fail
  refine (l3Key_any HC1.out).mono ?_
  rintro e w2 ⟨rfl, hc2, ht2⟩
  have HC2 := hide hc2
  have HB2 := hide (HB1.out.trans (ht2.below (Nat.le_refl _) HB1.out.size))
  clear hc2 ht2 HC1 HB1
  generalize aKey bs c1 = c2 at HC2
  generalize cKey bs c1 = key
  go_wp2_with fail
  refine (l1Below_any 5 (by omega) HC2.out).mono ?_
  rintro e w3 ⟨rfl, hc3, ht3⟩
  have HC3 := hide hc3
  have HB3 := hide (HB2.out.trans (ht3.below (Nat.le_refl _) HB2.out.size))
  have hb5 := cBelow_bd bs 5 c2 (by omega)
  clear hc3 ht3 HC2 HB2
  generalize aBelow bs 5 c2 = c3 at HC3
  generalize cBelow bs 5 c2 = n at hb5 ⊢
  go_wp2_with fail
  refine (l1Text_any 70 (by omega) (by omega) HC3.out).mono ?_
  rintro e w4 ⟨rfl, hc4, ht4⟩
  have HC4 := hide hc4
  have HB4 := hide (HB3.out.trans (ht4.below (Nat.le_refl _) HB3.out.size))
  clear hc4 ht4 HC3 HB3
  generalize aText bs 70 c3 = c4 at HC4
  generalize cText bs 70 c3 = o
  go_wp2_with fail
  refine (sSealFile_any _ _ _ _).mono ?_
  rintro e w5 ⟨rfl, hb5'⟩
  have HC5 := hide (HC4.out.keep (hb5'.mono HC4.out.lt))
  have HB5 := hide (HB4.out.trans (hb5'.mono HB4.out.size))
  have HV := hide (fileV_le (bl ⟨key.toArray⟩) n (bl ⟨o.toArray⟩))
  clear hb5' HC4 HB4
  generalize fileV (bl ⟨key.toArray⟩) n (bl ⟨o.toArray⟩) = V at HV ⊢
  go_wp2_with fail
  refine (l1Below_any 5 (by omega) HC5.out).mono ?_
  rintro e w6 ⟨rfl, hc6, ht6⟩
  have HC6 := hide hc6
  have HB6 := hide (HB5.out.trans (ht6.below (Nat.le_refl _) HB5.out.size))
  clear hc6 ht6 HC5 HB5
  generalize aBelow bs 5 c4 = c6 at HC6
  generalize cBelow bs 5 c4 = p
  by_cases h0 : p = 0
  · subst h0
    go_wp2_with fail
    refine (l1Spoil_any ⟨V.toArray⟩ (by have := HV.out; rw [size_of]; omega) HC6.out).mono ?_
    rintro e w7 ⟨rfl, ht7⟩
    have HB7 := hide (HB6.out.trans (ht7.below (Nat.le_refl _) HB6.out.size))
    have HS := hide (cSpoil_len bs (bl ⟨V.toArray⟩) c6)
    rw [bl_of V] at HS
    clear ht7
    go_wp2
    go_ret3
    exact ⟨_, _, _, rfl, by rw [size_of]; have h1 := HV.out; have h2 := HS.out; exact Nat.le_trans h2 (by omega), by omega, by omega, HB7.out⟩
  · have k0 : (p == 0) = false := by rw [beq_eq_false_iff_ne]; exact h0
    clear h0
    by_cases h1 : p = 1
    · subst h1
      go_wp2_with fail
      go_ret3
      exact ⟨_, _, _, rfl, by rw [size_of]; have := HV.out; omega, by omega, by omega, HB6.out⟩
    · have k1 : (p == 1) = false := by rw [beq_eq_false_iff_ne]; exact h1
      clear h1
      by_cases h2 : p = 2
      · subst h2
        go_wp2_with fail
        refine (l3Key_any HC6.out).mono ?_
        rintro e w7 ⟨rfl, hc7, ht7⟩
        have HB7 := hide (HB6.out.trans (ht7.below (Nat.le_refl _) HB6.out.size))
        clear hc7 ht7
        go_wp2
        go_ret3
        exact ⟨_, _, _, rfl, by rw [size_of]; have := HV.out; omega, by omega, by omega, HB7.out⟩
      · have k2 : (p == 2) = false := by rw [beq_eq_false_iff_ne]; exact h2
        clear h2
        go_wp2
        go_ret3
        exact ⟨_, _, _, rfl, by rw [size_of]; have := HV.out; omega, by omega, by omega, HB6.out⟩
end Go.Proofs.YtakjjfbocokpaaaDoor
