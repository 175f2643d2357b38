/-
  Texts of this proof, put together: DrawT.
-/
import Derived.Test.YtphfakdbgohhgaaPackAE
import Derived.Test.YtphfakdbgohhgaaPackAF

/-
  Contract of spec.l1Text.
-/
namespace Go.Proofs.Ytphfakdbgohhgaa
open Go.ChangeShapes Go.WideShapes Go.ChangeAt Go.RowKit

theorem Owns8.turned {B g : Nat} {w w' : World} {v : Value} {l : List UInt8} (h : Owns8 B w v l) (ht : Turned g w w') (hg : g < B) : Owns8 B w' v l := by
  refine World.ownsRow.kept h ht ?_
  cases hv : v.ownBlock with
  | none => exact .inl rfl
  | some k =>
    refine .inr fun e => ?_
    have := (World.ownsRow.lt h k hv).1
    injection e with e
    omega

set_option maxHeartbeats 1000000 in
theorem l1Text_any {B g : Nat} {a : Option Addr} {cap : Nat} {bs : List Int} {w : World} {c : Cu} (m : Int) (hm0 : 0 ≤ m) (hm : m ≤ 1000) (h : Cursor B g a cap bs w c) :
    Calls Try.prog 53 #[.pointer (some ⟨g, 0, none⟩), .int .i64 m] w (Drew B g a cap bs w (.string ⟨(cText bs m c).toArray⟩) (aText bs m c)) := by
  have H := hide h
  have hlt := h.lt
  clear h
  have hb4 := cBelow_bd bs 4 c (by omega)
  have hbm := cBelow_bd bs (m + 1) (aBelow bs 4 c) (by omega)
  have ET := hide (cText.eq_def bs m c)
  have EA := hide (aText.eq_def bs m c)
  go_enter Try.func53, Try.ntmps53
  go_wp2_with fail
  refine (l1Below_any 4 (by omega) (H.out.keep ((Below.refl _ _).alloc hlt _))).mono ?_
  rintro e w1 ⟨rfl, hc1, ht1⟩
  have HC1 := hide hc1
  have HO1 := hide ((Owns8.lit w.heap.size w [] (Nat.le_refl _) (by simp)).turned ht1 hlt)
  have HT1 := hide (((Turned.refl g w).alloc (.cells #[] 5)).trans ht1)
  clear hc1 ht1
  go_wp2_with fail
  refine (l1Below_any (m + 1) (by omega) HC1.out).mono ?_
  rintro e w2 ⟨rfl, hc2, ht2⟩
  have HC2 := hide hc2
  have HO2 := hide (HO1.out.turned ht2 hlt)
  have HT2 := hide (HT1.out.trans ht2)
  clear hc2 ht2 HC1 HO1 HT1
  go_wp2
  go_loopw [5, 7, 8] (fun v n _ wr => ∃ (k : Nat) (pre : List UInt8) (c' : Cu), pre.length + k ≤ 1001 ∧ n = .int .i64 (k : Int) ∧ Hid (cText bs m c = pre ++ tLoop bs (cBelow bs 4 c) k c') ∧ Hid (aText bs m c = tCur bs k c') ∧ Hid (Owns8 w.heap.size wr v pre) ∧ Hid (Cursor B g a cap bs wr c') ∧ Hid (Turned g w wr))
    (fun _ n _ _ => (intOf n).toNat)
  case atStart =>
    exact ⟨(cBelow bs (m + 1) (aBelow bs 4 c)).toNat, [], aBelow bs (m + 1) (aBelow bs 4 c), by simp; omega, by rw [Int.toNat_of_nonneg hbm.1], by rw [ET.out]; rfl, EA.out, HO2.out, HC2.out, HT2.out⟩
  case round =>
    obtain ⟨k, pre, c', hk, rfl, HX, HY, HO, HC, HT⟩ := hrel
    cases k with
    | zero =>
      have hcv := run_convOwn w.heap.size wr _ _ HO.out
      go_wp2
      go_ret
      exact ⟨by rw [HX.out]; simp [tLoop], by rw [HY.out]; exact HC.out, HT.out⟩
    | succ k =>
      have hb := cByte_bd bs c'
      have C2 := hide (show cText bs m c = (pre ++ [tByte bs (cBelow bs 4 c) c']) ++ tLoop bs (cBelow bs 4 c) k (aByte bs c') by rw [HX.out, tLoop]; simp)
      have C3 := hide (show aText bs m c = tCur bs k (aByte bs c') from HY.out)
      go_wp2_with fail
      refine (l1Byte_any HC.out).mono ?_
      rintro e w3 ⟨rfl, hc3, ht3⟩
      have HC3 := hide hc3
      have HO3 := hide (HO.out.turned ht3 hlt)
      have HT3 := hide (HT.out.trans ht3)
      have hs3 : w.heap.size ≤ w3.heap.size := HT3.out.size
      clear hc3 ht3
      by_cases s1 : cBelow bs 4 c = 1
      · have t1 : (cBelow bs 4 c == 1) = true := by rw [beq_iff_eq]; exact s1
        have t2 : (cBelow bs 4 c == 2) = false := by rw [beq_eq_false_iff_ne]; omega
        have C1 := hide (show #[Value.int .u8 (cByte bs c' % 2)] = (byteVals [tByte bs (cBelow bs 4 c) c']).toArray by
          simp only [byteVals, List.map_cons, List.map_nil, tByte_toNat, styl]
          rw [if_pos s1])
        clear s1
        go_wp2_with (at_builtin; refine append8 rfl (.tmp 31) (.tmp 34) rfl w.heap.size w3 w3 _ pre [tByte bs (cBelow bs 4 c) c'] 1 _ rfl rfl HO3 (hide (Below.refl _ _)) hs3 C1.out rfl (by omega) ?_; intro v' w' HO' HB' hsz')
        go_roundw
        case rel => exact ⟨k, _, aByte bs c', by simp; omega, by go_num, C2.out, C3.out, HO', HC3.out.keep (HB'.out.mono hlt), HT3.out.then_below HB'.out (Nat.le_refl _)⟩
        case measure => simp [intOf]
      · have t1 : (cBelow bs 4 c == 1) = false := by rw [beq_eq_false_iff_ne]; exact s1
        by_cases s2 : cBelow bs 4 c = 2
        · have t2 : (cBelow bs 4 c == 2) = true := by rw [beq_iff_eq]; exact s2
          have C1 := hide (show #[Value.int .u8 (97 + cByte bs c' % 4)] = (byteVals [tByte bs (cBelow bs 4 c) c']).toArray by
            simp only [byteVals, List.map_cons, List.map_nil, tByte_toNat, styl]
            rw [if_neg s1, if_pos s2])
          clear s1 s2
          go_wp2_with (at_builtin; refine append8 rfl (.tmp 31) (.tmp 34) rfl w.heap.size w3 w3 _ pre [tByte bs (cBelow bs 4 c) c'] 1 _ rfl rfl HO3 (hide (Below.refl _ _)) hs3 C1.out rfl (by omega) ?_; intro v' w' HO' HB' hsz')
          go_roundw
          case rel => exact ⟨k, _, aByte bs c', by simp; omega, by go_num, C2.out, C3.out, HO', HC3.out.keep (HB'.out.mono hlt), HT3.out.then_below HB'.out (Nat.le_refl _)⟩
          case measure => simp [intOf]
        · have t2 : (cBelow bs 4 c == 2) = false := by rw [beq_eq_false_iff_ne]; exact s2
          have C1 := hide (show #[Value.int .u8 (cByte bs c')] = (byteVals [tByte bs (cBelow bs 4 c) c']).toArray by
            simp only [byteVals, List.map_cons, List.map_nil, tByte_toNat, styl]
            rw [if_neg s1, if_neg s2])
          clear s1 s2
          go_wp2_with (at_builtin; refine append8 rfl (.tmp 31) (.tmp 34) rfl w.heap.size w3 w3 _ pre [tByte bs (cBelow bs 4 c) c'] 1 _ rfl rfl HO3 (hide (Below.refl _ _)) hs3 C1.out rfl (by omega) ?_; intro v' w' HO' HB' hsz')
          go_roundw
          case rel => exact ⟨k, _, aByte bs c', by simp; omega, by go_num, C2.out, C3.out, HO', HC3.out.keep (HB'.out.mono hlt), HT3.out.then_below HB'.out (Nat.le_refl _)⟩
          case measure => simp [intOf]
end Go.Proofs.Ytphfakdbgohhgaa
