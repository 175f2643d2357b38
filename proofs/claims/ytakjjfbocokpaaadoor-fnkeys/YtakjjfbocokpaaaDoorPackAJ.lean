/-
  Texts of this proof, put together: DrawS.
-/
import Derived.Test.YtakjjfbocokpaaaDoorPackAI
import Derived.Test.YtakjjfbocokpaaaDoorPackAC
import Derived.Deep.RegionWith

/-
  Contract of spec.l1Spoil.
-/
namespace Go.Proofs.YtakjjfbocokpaaaDoor
open Go.ChangeShapes Go.WideShapes Go.ChangeAt Go.RowKit

def SpoilPost (g : Nat) (w : World) (l : List UInt8) (e : Ending) (w' : World) : Prop := e = .returned (.string ⟨l.toArray⟩) ∧ Turned g w w'

set_option maxHeartbeats 4000000 in
theorem l1Spoil_any {B g : Nat} {a : Option Addr} {cap : Nat} {bs : List Int} {w : World} {c : Cu} (s : ByteArray) (hs : s.size ≤ 1048576) (h : Cursor B g a cap bs w c) :
    Calls Tryd.prog 49 #[.pointer (some ⟨g, 0, none⟩), .string s] w (SpoilPost g w (cSpoil bs (bl s) c)) := by
  have H := hide h
  have hlt := h.lt
  clear h
  have ES := hide (cSpoil.eq_def bs (bl s) c)
  rw [bl_len] at ES
  by_cases h0 : s.size = 0
  · rw [if_pos h0] at ES
    have t0 : ((s.size : Int) == 0) = true := by rw [beq_iff_eq]; omega
    clear h0
    go_enter Tryd.func49, Tryd.ntmps49
    go_wp2_with fail
    refine (l1Text_any 3 (by omega) (by omega) H.out).mono ?_
    rintro e w1 ⟨rfl, hc1, ht1⟩
    have HT1 := hide ht1
    clear hc1 ht1
    go_wp2
    go_ret
    exact ⟨by rw [ES.out]; rfl, HT1.out⟩
  · rw [if_neg h0] at ES
    have t0 : ((s.size : Int) == 0) = false := by rw [beq_eq_false_iff_ne]; omega
    have hk := cBelow_bd bs (s.size : Int) c (by omega)
    obtain ⟨K, hK⟩ : ∃ K : Nat, cBelow bs (s.size : Int) c = (K : Int) := ⟨_, (Int.toNat_of_nonneg hk.1).symm⟩
    have hKs : K < s.size := by omega
    have HK := hide hK
    rw [hK, Int.toNat_natCast] at ES
    obtain ⟨c1, hc1⟩ : ∃ c1, c1 = aBelow bs (s.size : Int) c := ⟨_, rfl⟩
    rw [← hc1] at ES
    have HC1' := hide hc1
    clear h0 hk hK hc1
    have hm := cBelow_bd bs 4 c1 (by omega)
    by_cases m0 : cBelow bs 4 c1 = 0
    · rw [if_pos m0] at ES
      have u0 : (cBelow bs 4 c1 == 0) = true := by rw [beq_iff_eq]; exact m0
      have hadd : ∀ W, (Op.stringOp .add (s.extract 0 K) (s.extract (K + 1) s.size)).run Tryd.prog W = .ok (.string ⟨(cSpoil bs (bl s) c).toArray⟩) W := fun W => by
        rw [run_string_add_sum (P := Tryd.prog) (w := W) _ _ (by rw [ByteArray.size_extract, ByteArray.size_extract]; omega), ext_take, ext_drop, ByteArray.mk_append_mk, ES.out]
      clear m0
      have e1 : IntKind.i64.wrap ((K : Int) + 1) = (K : Int) + 1 := by rw [IntKind.wrap_i64]; omega
      have e2 : ((K : Int) + 1).toNat = K + 1 := by omega
      have e3 : (0 : Int) ≤ (K : Int) + 1 := by omega
      have e4 : (K : Int) + 1 ≤ (s.size : Int) := by omega
      have e5 : (K : Int) ≤ (s.size : Int) := by omega
      go_enter Tryd.func49, Tryd.ntmps49
      go_wp2_with fail
      refine (l1Below_any (s.size : Int) (by omega) H.out).mono ?_
      rintro e w1 ⟨he, hc1, ht1⟩
      rw [HK.out] at he
      rw [← HC1'.out] at hc1
      subst he
      have HC1 := hide hc1
      have HT1 := hide ht1
      clear hc1 ht1
      go_wp2_with fail
      refine (l1Below_any 4 (by omega) HC1.out).mono ?_
      rintro e w2 ⟨rfl, hc2, ht2⟩
      have HC2 := hide hc2
      have HT2 := hide (HT1.out.trans ht2)
      clear hc2 ht2
      go_wp2
      go_quiet (fail)
      go_wp2
      go_ret
      exact ⟨rfl, HT2.out.drewN _⟩
    · rw [if_neg m0] at ES
      have u0 : (cBelow bs 4 c1 == 0) = false := by rw [beq_eq_false_iff_ne]; exact m0
      clear m0
      by_cases m1 : cBelow bs 4 c1 = 1
      · rw [if_pos m1] at ES
        have u1 : (cBelow bs 4 c1 == 1) = true := by rw [beq_iff_eq]; exact m1
        have hb := cByte_bd bs (aBelow bs 4 c1)
        have hcv := run_conv1 (cByte bs (aBelow bs 4 c1)) (oneB (cByte bs (aBelow bs 4 c1))) (oneB_toNat _ hb.1 hb.2).symm
        have hadd1 : ∀ W, (Op.stringOp .add (s.extract 0 K) ⟨#[oneB (cByte bs (aBelow bs 4 c1))]⟩).run Tryd.prog W = .ok (.string ⟨((bl s).take K ++ [oneB (cByte bs (aBelow bs 4 c1))]).toArray⟩) W := fun W => by
          rw [run_string_add_sum (P := Tryd.prog) (w := W) _ _ (by rw [ByteArray.size_extract, show (ByteArray.mk #[oneB (cByte bs (aBelow bs 4 c1))]).size = 1 from rfl]; omega), ext_take, show #[oneB (cByte bs (aBelow bs 4 c1))] = [oneB (cByte bs (aBelow bs 4 c1))].toArray from rfl, ByteArray.mk_append_mk]
        have hadd2 : ∀ W, (Op.stringOp .add ⟨((bl s).take K ++ [oneB (cByte bs (aBelow bs 4 c1))]).toArray⟩ (s.extract K s.size)).run Tryd.prog W = .ok (.string ⟨(cSpoil bs (bl s) c).toArray⟩) W := fun W => by
          rw [run_string_add_sum (P := Tryd.prog) (w := W) _ _ (by rw [ByteArray.size_extract, size_of_list, List.length_append, List.length_take, List.length_singleton]; omega), ext_drop, ByteArray.mk_append_mk, ES.out]
        clear m1
        have e5 : (K : Int) ≤ (s.size : Int) := by omega
        have e6 : IntKind.u8.wrap (cByte bs (aBelow bs 4 c1)) = cByte bs (aBelow bs 4 c1) := by rw [IntKind.wrap_u8']; omega
        go_enter Tryd.func49, Tryd.ntmps49
        go_wp2_with fail
        refine (l1Below_any (s.size : Int) (by omega) H.out).mono ?_
        rintro e w1 ⟨he, hc1, ht1⟩
        rw [HK.out] at he
        rw [← HC1'.out] at hc1
        subst he
        have HC1 := hide hc1
        have HT1 := hide ht1
        clear hc1 ht1
        go_wp2_with fail
        refine (l1Below_any 4 (by omega) HC1.out).mono ?_
        rintro e w2 ⟨rfl, hc2, ht2⟩
        have HC2 := hide hc2
        have HT2 := hide (HT1.out.trans ht2)
        clear hc2 ht2
        go_wp2
        go_region_with (go_at_call 87; refine (l1Byte_any HC2.out.drew).mono ?_; rintro e w3 ⟨rfl, hc3, ht3⟩; have HT3 := hide (HT2.out.drew.trans ht3); clear hc3 ht3)
        all_goals
          go_wp2
          go_ret
          exact ⟨rfl, HT3.out.alloc _⟩
      · rw [if_neg m1] at ES
        have u1 : (cBelow bs 4 c1 == 1) = false := by rw [beq_eq_false_iff_ne]; exact m1
        clear m1
        by_cases m2 : cBelow bs 4 c1 = 2
        · rw [if_pos m2] at ES
          have u2 : (cBelow bs 4 c1 == 2) = true := by rw [beq_iff_eq]; exact m2
          clear m2
          go_enter Tryd.func49, Tryd.ntmps49
          go_wp2_with fail
          refine (l1Below_any (s.size : Int) (by omega) H.out).mono ?_
          rintro e w1 ⟨he, hc1, ht1⟩
          rw [HK.out] at he
          rw [← HC1'.out] at hc1
          subst he
          have HC1 := hide hc1
          have HT1 := hide ht1
          clear hc1 ht1
          go_wp2_with fail
          refine (l1Below_any 4 (by omega) HC1.out).mono ?_
          rintro e w2 ⟨rfl, hc2, ht2⟩
          have HC2 := hide hc2
          have HT2 := hide (HT1.out.trans ht2)
          clear hc2 ht2
          go_wp2
          go_ret
          exact ⟨by rw [ES.out, ← ext_take]; rfl, HT2.out⟩
        · rw [if_neg m2] at ES
          have u2 : (cBelow bs 4 c1 == 2) = false := by rw [beq_eq_false_iff_ne]; exact m2
          clear m2
          have hb := cBelow_bd bs 255 (aBelow bs 4 c1) (by omega)
          have EB := hide (show ((bl s)[K]?.getD 0) = s[K]'hKs by rw [List.getElem?_eq_getElem (by rw [bl_len]; exact hKs), bl_at s K hKs]; rfl)
          rw [EB.out] at ES
          have hz := turnB_bd (s[K]'hKs).toNat (cBelow bs 255 (aBelow bs 4 c1))
          have hcv := run_conv1 (bits .xor .i64 ((s[K]'hKs).toNat : Int) (1 + cBelow bs 255 (aBelow bs 4 c1)) % 256) (oneB (turnB (s[K]'hKs).toNat (cBelow bs 255 (aBelow bs 4 c1)))) (oneB_toNat _ hz.1 hz.2).symm
          have hadd1 : ∀ W, (Op.stringOp .add (s.extract 0 K) ⟨#[oneB (turnB (s[K]'hKs).toNat (cBelow bs 255 (aBelow bs 4 c1)))]⟩).run Tryd.prog W = .ok (.string ⟨((bl s).take K ++ [oneB (turnB (s[K]'hKs).toNat (cBelow bs 255 (aBelow bs 4 c1)))]).toArray⟩) W := fun W => by
            rw [run_string_add_sum (P := Tryd.prog) (w := W) _ _ (by rw [ByteArray.size_extract, show (ByteArray.mk #[oneB (turnB (s[K]'hKs).toNat (cBelow bs 255 (aBelow bs 4 c1)))]).size = 1 from rfl]; omega), ext_take, show #[oneB (turnB (s[K]'hKs).toNat (cBelow bs 255 (aBelow bs 4 c1)))] = [oneB (turnB (s[K]'hKs).toNat (cBelow bs 255 (aBelow bs 4 c1)))].toArray from rfl, ByteArray.mk_append_mk]
          have hadd2 : ∀ W, (Op.stringOp .add ⟨((bl s).take K ++ [oneB (turnB (s[K]'hKs).toNat (cBelow bs 255 (aBelow bs 4 c1)))]).toArray⟩ (s.extract (K + 1) s.size)).run Tryd.prog W = .ok (.string ⟨(cSpoil bs (bl s) c).toArray⟩) W := fun W => by
            rw [run_string_add_sum (P := Tryd.prog) (w := W) _ _ (by rw [ByteArray.size_extract, size_of_list, List.length_append, List.length_take, List.length_singleton]; omega), ext_drop, ByteArray.mk_append_mk, ES.out]
          clear hz
          have e1 : IntKind.i64.wrap ((K : Int) + 1) = (K : Int) + 1 := by rw [IntKind.wrap_i64]; omega
          have e2 : ((K : Int) + 1).toNat = K + 1 := by omega
          have e3 : (0 : Int) ≤ (K : Int) + 1 := by omega
          have e4 : (K : Int) + 1 ≤ (s.size : Int) := by omega
          have e5 : (K : Int) ≤ (s.size : Int) := by omega
          have e6 : (K : Int) < (s.size : Int) := by omega
          have e7 : IntKind.i64.wrap (1 + cBelow bs 255 (aBelow bs 4 c1)) = 1 + cBelow bs 255 (aBelow bs 4 c1) := by rw [IntKind.wrap_i64]; omega
          have hs8 : (s[K]'hKs).toNat < 256 := (s[K]'hKs).toNat_lt
          have e8 : IntKind.i64.wrap ((s[K]'hKs).toNat : Int) = ((s[K]'hKs).toNat : Int) := by rw [IntKind.wrap_i64]; omega
          have e9 : IntKind.u8.wrap (bits .xor .i64 ((s[K]'hKs).toNat : Int) (1 + cBelow bs 255 (aBelow bs 4 c1))) = bits .xor .i64 ((s[K]'hKs).toNat : Int) (1 + cBelow bs 255 (aBelow bs 4 c1)) % 256 := IntKind.wrap_u8' _
          go_enter Tryd.func49, Tryd.ntmps49
          go_wp2_with fail
          refine (l1Below_any (s.size : Int) (by omega) H.out).mono ?_
          rintro e w1 ⟨he, hc1, ht1⟩
          rw [HK.out] at he
          rw [← HC1'.out] at hc1
          subst he
          have HC1 := hide hc1
          have HT1 := hide ht1
          clear hc1 ht1
          go_wp2_with fail
          refine (l1Below_any 4 (by omega) HC1.out).mono ?_
          rintro e w2 ⟨rfl, hc2, ht2⟩
          have HC2 := hide hc2
          have HT2 := hide (HT1.out.trans ht2)
          clear hc2 ht2
          go_wp2
          go_region_with (go_at_call 48; refine (l1Below_any 255 (by omega) HC2.out.drew).mono ?_; rintro e w3 ⟨rfl, hc3, ht3⟩; have HT3 := hide (HT2.out.drew.trans ht3); clear hc3 ht3)
          all_goals
            go_wp2
            go_ret
            exact ⟨rfl, HT3.out.alloc _⟩
end Go.Proofs.YtakjjfbocokpaaaDoor
