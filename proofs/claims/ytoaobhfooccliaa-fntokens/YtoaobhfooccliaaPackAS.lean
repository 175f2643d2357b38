/-
  Texts of this proof, put together: DrawJ.
-/
import Derived.Test.YtoaobhfooccliaaPackAF
import Derived.Test.YtoaobhfooccliaaPackAD
import Derived.Test.YtoaobhfooccliaaPackAH
import Derived.Test.YtoaobhfooccliaaPackAR

/-
  Contracts of spec.DrawReadToken and spec.DrawMintToken: what the law needs of them.
-/
namespace Go.Proofs.Ytoaobhfooccliaa
open Go.ChangeShapes Go.WideShapes Go.ChangeAt Go.RowKit

def ReadDrawn (w : World) (e : Ending) (w' : World) : Prop :=
  ∃ (k s : ByteArray), e = .returned (.tuple #[.string k, .string s]) ∧ s.size ≤ 1048576 ∧ Below w.heap.size w w'
def MintDrawn (w : World) (e : Ending) (w' : World) : Prop :=
  ∃ (k : ByteArray) (t n : Int), e = .returned (.tuple #[.string k, .int .i64 t, .int .i64 n]) ∧ Below w.heap.size w w'

set_option maxHeartbeats 1000000 in
theorem drawReadToken_any {B : Nat} (a : Option Addr) (cap : Nat) (bs : List Int) (w : World) (hB : B ≤ w.heap.size) (hc : CodeAt B w a bs) (hm : bs.length ≤ 1048576) :
    Calls Try.prog 7 #[.slice a bs.length cap] w (ReadDrawn w) := by
  have H := hide hc
  clear hc
  go_enter Try.func7, Try.ntmps7
  go_wp2_with fail
  refine (l1New_any a cap bs w hB H.out hm).mono ?_
  rintro e w1 ⟨rfl, hc1, hb1⟩
  have HC1 := hide hc1
  have HB1 := hide hb1
  clear hc1 hb1
  generalize newC bs = c1 at HC1
  go_wp2_with fail
  refine (l3Key_any HC1.out).mono ?_
  rintro e w2 ⟨rfl, hc2, ht2⟩
  have HC2 := hide hc2
  have HB2 := hide (HB1.out.trans (ht2.below (Nat.le_refl _) HB1.out.size))
  clear hc2 ht2 HC1 HB1
  generalize aKey bs c1 = c2 at HC2
  generalize cKey bs c1 = key
  go_wp2_with fail
  refine (l1Below_any 5 (by omega) HC2.out).mono ?_
  rintro e w3 ⟨rfl, hc3, ht3⟩
  have HC3 := hide hc3
  have HB3 := hide (HB2.out.trans (ht3.below (Nat.le_refl _) HB2.out.size))
  have hb5 := cBelow_bd bs 5 c2 (by omega)
  clear hc3 ht3 HC2 HB2
  generalize aBelow bs 5 c2 = c3 at HC3
  generalize cBelow bs 5 c2 = n at hb5 ⊢
  go_wp2_with fail
  refine (l1Below_any 300 (by omega) HC3.out).mono ?_
  rintro e w4 ⟨rfl, hc4, ht4⟩
  have HC4 := hide hc4
  have HB4 := hide (HB3.out.trans (ht4.below (Nat.le_refl _) HB3.out.size))
  clear hc4 ht4 HC3 HB3
  generalize aBelow bs 300 c3 = c4 at HC4
  generalize cBelow bs 300 c3 = o
  go_wp2_with fail
  refine (sMint_any _ _ _ _).mono ?_
  rintro e w5 ⟨rfl, hb5⟩
  have HC5 := hide (HC4.out.keep (hb5.mono HC4.out.lt))
  have HB5 := hide (HB4.out.trans (hb5.mono HB4.out.size))
  have HV := hide (tokV_len (bl ⟨key.toArray⟩) (1 + n) o)
  clear hb5 HC4 HB4
  generalize tokV (bl ⟨key.toArray⟩) (1 + n) o = V at HV ⊢
  go_wp2_with fail
  refine (l1Below_any 4 (by omega) HC5.out).mono ?_
  rintro e w6 ⟨rfl, hc6, ht6⟩
  have HC6 := hide hc6
  have HB6 := hide (HB5.out.trans (ht6.below (Nat.le_refl _) HB5.out.size))
  clear hc6 ht6 HC5 HB5
  generalize aBelow bs 4 c4 = c6 at HC6
  generalize cBelow bs 4 c4 = p
  by_cases h0 : p = 0
  · subst h0
    go_wp2_with fail
    refine (l1Spoil_any ⟨V.toArray⟩ (by have := HV.out; rw [size_of]; omega) HC6.out).mono ?_
    rintro e w7 ⟨rfl, ht7⟩
    have HB7 := hide (HB6.out.trans (ht7.below (Nat.le_refl _) HB6.out.size))
    have HS := hide (cSpoil_len bs (bl ⟨V.toArray⟩) c6)
    rw [bl_of V] at HS
    clear ht7
    go_wp2
    go_ret2
    exact ⟨_, _, rfl, by rw [size_of]; have h1 := HV.out; have h2 := HS.out; exact Nat.le_trans h2 (by omega), HB7.out⟩
  · have k0 : (p == 0) = false := by rw [beq_eq_false_iff_ne]; exact h0
    clear h0
    by_cases h1 : p = 1
    · subst h1
      go_wp2_with fail
      refine (l3Key_any HC6.out).mono ?_
      rintro e w7 ⟨rfl, hc7, ht7⟩
      have HB7 := hide (HB6.out.trans (ht7.below (Nat.le_refl _) HB6.out.size))
      clear hc7 ht7
      go_wp2
      go_ret2
      exact ⟨_, _, rfl, by rw [size_of]; have := HV.out; omega, HB7.out⟩
    · have k1 : (p == 1) = false := by rw [beq_eq_false_iff_ne]; exact h1
      clear h1
      go_wp2
      go_ret2
      exact ⟨_, _, rfl, by rw [size_of]; have := HV.out; omega, HB6.out⟩

def tenL : List Int := [1, 2, 99, 0, 100]
def epoL : List Int := [0, 1, 300, 1000000, 1000001, -1]

set_option maxHeartbeats 1000000 in
theorem drawMintToken_any {B : Nat} (a : Option Addr) (cap : Nat) (bs : List Int) (w : World) (hB : B ≤ w.heap.size) (hc : CodeAt B w a bs) (hm : bs.length ≤ 1048576) :
    Calls Try.prog 11 #[.slice a bs.length cap] w (MintDrawn w) := by
  have H := hide hc
  clear hc
  go_enter Try.func11, Try.ntmps11
  go_wp2_with fail
  refine (l1New_any a cap bs w hB H.out hm).mono ?_
  rintro e w1 ⟨rfl, hc1, hb1⟩
  have HC1 := hide hc1
  have HB1 := hide hb1
  clear hc1 hb1
  generalize newC bs = c1 at HC1
  go_wp2_with fail
  refine (l3Key_any HC1.out).mono ?_
  rintro e w2 ⟨rfl, hc2, ht2⟩
  have HC2 := hide hc2
  have HB2 := hide (HB1.out.trans (ht2.below (Nat.le_refl _) HB1.out.size))
  have hlt := hc2.lt
  clear hc2 ht2 HC1
  generalize aKey bs c1 = c2 at HC2
  generalize cKey bs c1 = key
  go_wp2_with fail
  refine (l1PickInt_any (c := c2) w2.heap.size 5 tenL (by omega) (by omega) (by simp) (by omega) (fun j hj => ints_new 3 w2 tenL j hj) (HC2.out.keep ((Below.refl _ _).alloc hlt _))).mono ?_
  rintro e w3 ⟨rfl, hc3, ht3⟩
  have HC3 := hide hc3
  have HB3 := hide ((HB2.out.alloc HB2.out.size _).trans (ht3.below (Nat.le_refl _) (by rw [Go.Deep.nblk_alloc]; have := HB2.out.size; omega)))
  have hlt3 := hc3.lt
  clear hc3 ht3 HC2
  generalize aBelow bs ((5 : Nat) : Int) c2 = c3 at HC3
  generalize tenL[(cBelow bs ((5 : Nat) : Int) c2).toNat]?.getD 0 = t
  go_wp2_with fail
  refine (l1PickInt_any (c := c3) w3.heap.size 6 epoL (by omega) (by omega) (by simp) (by omega) (fun j hj => ints_new 3 w3 epoL j hj) (HC3.out.keep ((Below.refl _ _).alloc hlt3 _))).mono ?_
  rintro e w4 ⟨rfl, hc4, ht4⟩
  have HB4 := hide ((HB3.out.alloc HB3.out.size _).trans (ht4.below (Nat.le_refl _) (by rw [Go.Deep.nblk_alloc]; have := HB3.out.size; omega)))
  clear hc4 ht4 HC3
  generalize epoL[(cBelow bs ((6 : Nat) : Int) c3).toNat]?.getD 0 = n
  go_wp2_with fail
  go_ret3
  exact ⟨_, t, n, rfl, HB4.out⟩
end Go.Proofs.Ytoaobhfooccliaa
