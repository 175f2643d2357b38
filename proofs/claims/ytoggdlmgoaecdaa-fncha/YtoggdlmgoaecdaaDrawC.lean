/-
  Contract of spec.DrawChaStream: what the law needs of it.
-/
import Derived.Test.YtoggdlmgoaecdaaDrawK
import Derived.Test.YtoggdlmgoaecdaaDrawP
import Derived.Test.YtoggdlmgoaecdaaDrawW
import Derived.Test.YtoggdlmgoaecdaaNonce
namespace Go.Proofs.Ytoggdlmgoaecdaa
open Go.ChangeShapes Go.WideShapes Go.ChangeAt Go.RowKit

theorem four_results {fn : Func} {t u v x : Tmp} (h : fn.results = #[.tmp t, .tmp u, .tmp v, .tmp x]) (tmps : Array Value) (P : Program) (w : World) :
    (results fn tmps).run P w = .ok (.tuple #[tmps.getD t undef, tmps.getD u undef, tmps.getD v undef, tmps.getD x undef]) w := by
  simp [results, h]
def ctrL : List Int := [0, 1, 7, 4294967295]
theorem ctr_bd : ∀ k : Nat, 0 ≤ ctrL[k]?.getD 0 ∧ ctrL[k]?.getD 0 ≤ 4294967295 := by
  intro k
  match k with
  | 0 => decide
  | 1 => decide
  | 2 => decide
  | 3 => decide
  | k + 4 => simp [ctrL]
theorem size_mk (l : List UInt8) : (ByteArray.mk l.toArray).size = l.length := by simp [ByteArray.size]
def ChaDrawn (w : World) (e : Ending) (w' : World) : Prop :=
  ∃ (k s t : List UInt8) (n : Int), e = .returned (.tuple #[.string ⟨k.toArray⟩, .int .i64 n, .string ⟨s.toArray⟩, .string ⟨t.toArray⟩]) ∧ 0 ≤ n ∧ n ≤ 4294967295 ∧ t.length ≤ 140 ∧ Below w.heap.size w w'

set_option maxHeartbeats 1000000 in
theorem drawCha_any {B : Nat} (a : Option Addr) (cap : Nat) (bs : List Int) (w : World) (hB : B ≤ w.heap.size) (hc : CodeAt B w a bs) (hm : bs.length ≤ 1048576) :
    Calls Try.prog 8 #[.slice a bs.length cap] w (ChaDrawn w) := by
  have H := hide hc
  clear hc
  go_enter Try.func8, Try.ntmps8
  go_wp2_with fail
  refine (l1New_any a cap bs w hB H.out hm).mono ?_
  rintro e w1 ⟨rfl, hc1, hb1⟩
  have HC1 := hide hc1
  have HB1 := hide hb1
  clear hc1 hb1
  generalize newC bs = c1 at HC1
  go_wp2_with fail
  refine (l3Key_any HC1.out).mono ?_
  rintro e w2 ⟨rfl, hc2, ht2⟩
  have HC2 := hide hc2
  have HB2 := hide (HB1.out.trans (ht2.below (Nat.le_refl _) HB1.out.size))
  have hlt := hc2.lt
  clear hc2 ht2 HC1
  generalize aKey bs c1 = c2 at HC2
  generalize cKey bs c1 = key
  go_wp2_with fail
  refine (l1PickInt_any (c := c2) w2.heap.size 4 ctrL (by omega) (by omega) (by simp) (by omega) (fun j hj => ints_new 3 w2 ctrL j hj) (HC2.out.keep ((Below.refl _ _).alloc hlt _))).mono ?_
  rintro e w3 ⟨rfl, hc3, ht3⟩
  have HC3 := hide hc3
  have HB3 := hide ((HB2.out.alloc HB2.out.size _).trans (ht3.below (Nat.le_refl _) (by rw [Go.Deep.nblk_alloc]; have := HB2.out.size; omega)))
  have hn := ctr_bd (cBelow bs ((4 : Nat) : Int) c2).toNat
  clear hc3 ht3 HC2
  generalize aBelow bs ((4 : Nat) : Int) c2 = c3 at HC3
  generalize ctrL[(cBelow bs ((4 : Nat) : Int) c2).toNat]?.getD 0 = ctr at hn ⊢
  go_wp2_with fail
  refine (l1Below_any 4 (by omega) HC3.out).mono ?_
  rintro e w4 ⟨rfl, hc4, ht4⟩
  have HC4 := hide hc4
  have HB4 := hide (HB3.out.trans (ht4.below (Nat.le_refl _) HB3.out.size))
  clear hc4 ht4 HC3
  generalize aBelow bs 4 c3 = c4 at HC4
  generalize cBelow bs 4 c3 = x4
  go_wp2_with fail
  refine (l1Below_any 9 (by omega) HC4.out).mono ?_
  rintro e w5 ⟨rfl, hc5, ht5⟩
  have HC5 := hide hc5
  have HB5 := hide (HB4.out.trans (ht5.below (Nat.le_refl _) HB4.out.size))
  have hlt5 := hc5.lt
  clear hc5 ht5 HC4
  generalize aBelow bs 9 c4 = c5 at HC5
  generalize cBelow bs 9 c4 = x5
  go_wp2_with fail
  refine (sNonce_any x4 x5 _).mono ?_
  rintro e w6 ⟨rfl, hb6⟩
  have HC6 := hide (HC5.out.keep (hb6.mono hlt5))
  have HB6 := hide (HB5.out.trans (hb6.mono HB5.out.size))
  clear hb6 HC5
  generalize nonceL x4 x5 = nonce
  go_wp2_with fail
  refine (l1Text_any 70 (by omega) (by omega) HC6.out).mono ?_
  rintro e w7 ⟨rfl, hc7, ht7⟩
  have HC7 := hide hc7
  have HB7 := hide (HB6.out.trans (ht7.below (Nat.le_refl _) HB6.out.size))
  have hl7 := cText_len bs 70 c5 (by omega)
  clear hc7 ht7 HC6
  generalize aText bs 70 c5 = c7 at HC7
  generalize cText bs 70 c5 = t7 at hl7 ⊢
  go_wp2_with fail
  refine (l1Once_any 4 (by omega) HC7.out).mono ?_
  rintro e w8 ⟨rfl, hc8, ht8⟩
  have HC8 := hide hc8
  have HB8 := hide (HB7.out.trans (ht8.below (Nat.le_refl _) HB7.out.size))
  clear hc8 ht8 HC7
  generalize aBelow bs 4 c7 = c8 at HC8
  generalize (cBelow bs 4 c7 == 0) = once
  cases once
  · go_wp2_with fail
    (try simp only [Exit.inBlock, Exit.then])
    refine bodyPost_ret (four_results rfl _ _ _) rfl ?_
    exact ⟨key, nonce, t7, ctr, rfl, hn.1, hn.2, by omega, HB8.out⟩
  · go_wp2_with fail
    refine (l1Text_any 70 (by omega) (by omega) HC8.out).mono ?_
    rintro e w9 ⟨rfl, hc9, ht9⟩
    have HB9 := hide (HB8.out.trans (ht9.below (Nat.le_refl _) HB8.out.size))
    have hl9 := cText_len bs 70 c8 (by omega)
    clear hc9 ht9 HC8
    generalize cText bs 70 c8 = t9 at hl9 ⊢
    have hadd : ∀ W, (Op.stringOp .add ⟨t7.toArray⟩ ⟨t9.toArray⟩).run Try.prog W = .ok (.string ⟨(t7 ++ t9).toArray⟩) W := fun W => by
      rw [run_string_add_sum (P := Try.prog) (w := W) _ _ (by rw [size_mk, size_mk]; omega), ByteArray.mk_append_mk]
    go_wp2_with fail
    (try simp only [Exit.inBlock, Exit.then])
    refine bodyPost_ret (four_results rfl _ _ _) rfl ?_
    exact ⟨key, nonce, t7 ++ t9, ctr, rfl, hn.1, hn.2, by rw [List.length_append]; omega, HB9.out⟩
end Go.Proofs.Ytoggdlmgoaecdaa
