/-
  Contracts of spec.DrawVar, DrawHex and DrawReadVar.
-/
import Derived.Test.YtbogonhmpibelaaDoorDrawN
import Derived.Test.YtbogonhmpibelaaDoorDrawS
import Derived.Test.YtbogonhmpibelaaDoorDrawW
import Derived.Test.YtbogonhmpibelaaDoorVarS
namespace Go.Proofs.YtbogonhmpibelaaDoor
open Go.ChangeShapes Go.WideShapes Go.ChangeAt Go.RowKit

def OutPost (w : World) (x : Value) (e : Ending) (w' : World) : Prop := e = .returned x ∧ Below w.heap.size w w'

theorem drawVar_any {B : Nat} (a : Option Addr) (cap : Nat) (bs : List Int) (w : World) (hB : B ≤ w.heap.size) (hc : CodeAt B w a bs) (hm : bs.length ≤ 1048576) :
    Calls Tryd.prog 7 #[.slice a bs.length cap] w (OutPost w (.int .i64 (cNum bs (newC bs)))) := by
  have H := hide hc
  clear hc
  go_enter Tryd.func7, Tryd.ntmps7
  go_wp2_with (first | (go_at_call 20; refine (l1New_any a cap bs w hB H.out hm).mono ?_; rintro e w1 ⟨rfl, hc1, hb1⟩; have HC1 := hide hc1; have HB1 := hide hb1; clear hc1 hb1) | (go_at_call 21; refine (l1Num_any HC1.out).mono ?_; rintro e w2 ⟨rfl, hc2, ht2⟩; have HT2 := hide ht2; clear hc2 ht2))
  go_ret
  exact ⟨rfl, HB1.out.trans (HT2.out.below (Nat.le_refl _) HB1.out.size)⟩

theorem drawHex_any {B : Nat} (a : Option Addr) (cap : Nat) (bs : List Int) (w : World) (hB : B ≤ w.heap.size) (hc : CodeAt B w a bs) (hm : bs.length ≤ 1048576) :
    Calls Tryd.prog 8 #[.slice a bs.length cap] w (OutPost w (.string ⟨(cText bs 40 (newC bs)).toArray⟩)) := by
  have H := hide hc
  clear hc
  go_enter Tryd.func8, Tryd.ntmps8
  go_wp2_with (first | (go_at_call 20; refine (l1New_any a cap bs w hB H.out hm).mono ?_; rintro e w1 ⟨rfl, hc1, hb1⟩; have HC1 := hide hc1; have HB1 := hide hb1; clear hc1 hb1) | (go_at_call 22; refine (l1Text_any 40 (by omega) (by omega) HC1.out).mono ?_; rintro e w2 ⟨rfl, hc2, ht2⟩; have HT2 := hide ht2; clear hc2 ht2))
  go_ret
  exact ⟨rfl, HB1.out.trans (HT2.out.below (Nat.le_refl _) HB1.out.size)⟩

/-- the text ahead of a spoiling -/
def rvText (bs : List Int) : List UInt8 := varV (cNum bs (newC bs)) ++ cText bs 4 (aNum bs (newC bs))
def rvCur (bs : List Int) : Cu := aText bs 4 (aNum bs (newC bs))
def dReadVar (bs : List Int) : List UInt8 := if cBelow bs 4 (rvCur bs) = 0 then cSpoil bs (rvText bs) (aBelow bs 4 (rvCur bs)) else rvText bs
theorem varV_len (n : Int) : (varV n).length ≤ 7 := by
  unfold varV
  split
  · exact varL_len7 _ (by omega)
  · simp
theorem rvText_len (bs : List Int) : (rvText bs).length ≤ 11 := by
  have h1 := varV_len (cNum bs (newC bs))
  have h2 := cText_len bs 4 (aNum bs (newC bs)) (by omega)
  rw [rvText, List.length_append]; omega
theorem dReadVar_len (bs : List Int) : (dReadVar bs).length ≤ 14 := by
  have h1 := rvText_len bs
  unfold dReadVar
  split
  · have := cSpoil_len bs (rvText bs) (aBelow bs 4 (rvCur bs)); omega
  · omega
theorem bl_mk (l : List UInt8) : bl ⟨l.toArray⟩ = l := rfl

set_option maxHeartbeats 1000000 in
theorem drawReadVar_any {B : Nat} (a : Option Addr) (cap : Nat) (bs : List Int) (w : World) (hB : B ≤ w.heap.size) (hc : CodeAt B w a bs) (hm : bs.length ≤ 1048576) :
    Calls Tryd.prog 17 #[.slice a bs.length cap] w (OutPost w (.string ⟨(dReadVar bs).toArray⟩)) := by
  have H := hide hc
  clear hc
  have hadd : ∀ W, (Op.stringOp .add ⟨(varV (cNum bs (newC bs))).toArray⟩ ⟨(cText bs 4 (aNum bs (newC bs))).toArray⟩).run Tryd.prog W = .ok (.string ⟨(rvText bs).toArray⟩) W := fun W => by
    have h := rvText_len bs
    rw [rvText, List.length_append] at h
    rw [run_string_add_sum (P := Tryd.prog) (w := W) _ _ (by rw [size_of_list, size_of_list]; omega), ByteArray.mk_append_mk]; rfl
  have ED := hide (dReadVar.eq_def bs)
  go_enter Tryd.func17, Tryd.ntmps17
  go_wp2_with fail
  refine (l1New_any a cap bs w hB H.out hm).mono ?_
  rintro e w1 ⟨rfl, hc1, hb1⟩
  have HC1 := hide hc1
  have HB1 := hide hb1
  clear hc1 hb1
  go_wp2_with fail
  refine (l1Num_any HC1.out).mono ?_
  rintro e w2 ⟨rfl, hc2, ht2⟩
  have HC2 := hide hc2
  have HB2 := hide (HB1.out.trans (ht2.below (Nat.le_refl _) HB1.out.size))
  clear hc2 ht2 HC1 HB1
  go_wp2_with fail
  refine (sVar_any _ _).mono ?_
  rintro e w3 ⟨rfl, hb3⟩
  have HC3 := hide (HC2.out.keep (hb3.mono HC2.out.lt))
  have HB3 := hide (HB2.out.trans (hb3.mono HB2.out.size))
  clear hb3 HC2 HB2
  go_wp2_with fail
  refine (l1Text_any 4 (by omega) (by omega) HC3.out).mono ?_
  rintro e w4 ⟨rfl, hc4, ht4⟩
  have HC4 := hide hc4
  have HB4 := hide (HB3.out.trans (ht4.below (Nat.le_refl _) HB3.out.size))
  clear hc4 ht4 HC3 HB3
  go_wp2_with fail
  refine (l1Once_any 4 (by omega) HC4.out).mono ?_
  rintro e w5 ⟨rfl, hc5, ht5⟩
  have HC5 := hide hc5
  have HB5 := hide (HB4.out.trans (ht5.below (Nat.le_refl _) HB4.out.size))
  clear hc5 ht5 HC4 HB4
  by_cases h0 : cBelow bs 4 (rvCur bs) = 0
  · rw [if_pos h0] at ED
    have t0 : (cBelow bs 4 (aText bs 4 (aNum bs (newC bs))) == 0) = true := by rw [beq_iff_eq]; exact h0
    clear h0
    go_wp2_with fail
    refine (l1Spoil_any ⟨(rvText bs).toArray⟩ (by have := rvText_len bs; rw [size_of_list]; omega) HC5.out).mono ?_
    rintro e w6 ⟨rfl, ht6⟩
    have HB6 := hide (HB5.out.trans (ht6.below (Nat.le_refl _) HB5.out.size))
    clear ht6
    go_wp2
    go_ret
    exact ⟨by rw [ED.out]; rfl, HB6.out⟩
  · rw [if_neg h0] at ED
    have t0 : (cBelow bs 4 (aText bs 4 (aNum bs (newC bs))) == 0) = false := by rw [beq_eq_false_iff_ne]; exact h0
    clear h0
    go_wp2
    go_ret
    exact ⟨by rw [ED.out]; rfl, HB5.out⟩
end Go.Proofs.YtbogonhmpibelaaDoor
