/-
  Texts of this proof, put together: DrawT, DrawK.
-/
import Derived.Test.YtakjjfbocokpaaaDoorPackAH
import Derived.Test.YtakjjfbocokpaaaDoorPackAE

/-
  Contract of spec.l1Text.
-/
namespace Go.Proofs.YtakjjfbocokpaaaDoor
open Go.ChangeShapes Go.WideShapes Go.ChangeAt Go.RowKit

theorem Owns8.turned {B g : Nat} {w w' : World} {v : Value} {l : List UInt8} (h : Owns8 B w v l) (ht : Turned g w w') (hg : g < B) : Owns8 B w' v l := by
  refine World.ownsRow.kept h ht ?_
  cases hv : v.ownBlock with
  | none => exact .inl rfl
  | some k =>
    refine .inr fun e => ?_
    have := (World.ownsRow.lt h k hv).1
    injection e with e
    omega

set_option maxHeartbeats 1000000 in
theorem l1Text_any {B g : Nat} {a : Option Addr} {cap : Nat} {bs : List Int} {w : World} {c : Cu} (m : Int) (hm0 : 0 ≤ m) (hm : m ≤ 1000) (h : Cursor B g a cap bs w c) :
    Calls Tryd.prog 67 #[.pointer (some ⟨g, 0, none⟩), .int .i64 m] w (Drew B g a cap bs w (.string ⟨(cText bs m c).toArray⟩) (aText bs m c)) := by
  have H := hide h
  have hlt := h.lt
  clear h
  have hb4 := cBelow_bd bs 4 c (by omega)
  have hbm := cBelow_bd bs (m + 1) (aBelow bs 4 c) (by omega)
  have ET := hide (cText.eq_def bs m c)
  have EA := hide (aText.eq_def bs m c)
  go_enter Tryd.func67, Tryd.ntmps67
  go_wp2_with fail
  refine (l1Below_any 4 (by omega) (H.out.keep ((Below.refl _ _).alloc hlt _))).mono ?_
  rintro e w1 ⟨rfl, hc1, ht1⟩
  have HC1 := hide hc1
  have HO1 := hide ((Owns8.lit w.heap.size w [] (Nat.le_refl _) (by simp)).turned ht1 hlt)
  have HT1 := hide (((Turned.refl g w).alloc (.cells #[] 5)).trans ht1)
  clear hc1 ht1
  go_wp2_with fail
  refine (l1Below_any (m + 1) (by omega) HC1.out).mono ?_
  rintro e w2 ⟨rfl, hc2, ht2⟩
  have HC2 := hide hc2
  have HO2 := hide (HO1.out.turned ht2 hlt)
  have HT2 := hide (HT1.out.trans ht2)
  clear hc2 ht2 HC1 HO1 HT1
  go_wp2
  go_loopw [5, 7, 8] (fun v n _ wr => ∃ (k : Nat) (pre : List UInt8) (c' : Cu), pre.length + k ≤ 1001 ∧ n = .int .i64 (k : Int) ∧ Hid (cText bs m c = pre ++ tLoop bs (cBelow bs 4 c) k c') ∧ Hid (aText bs m c = tCur bs k c') ∧ Hid (Owns8 w.heap.size wr v pre) ∧ Hid (Cursor B g a cap bs wr c') ∧ Hid (Turned g w wr))
    (fun _ n _ _ => (intOf n).toNat)
  case atStart =>
    exact ⟨(cBelow bs (m + 1) (aBelow bs 4 c)).toNat, [], aBelow bs (m + 1) (aBelow bs 4 c), by simp; omega, by rw [Int.toNat_of_nonneg hbm.1], by rw [ET.out]; rfl, EA.out, HO2.out, HC2.out, HT2.out⟩
  case round =>
    obtain ⟨k, pre, c', hk, rfl, HX, HY, HO, HC, HT⟩ := hrel
    cases k with
    | zero =>
      have hcv := run_convOwn w.heap.size wr _ _ HO.out
      go_wp2
      go_ret
      exact ⟨by rw [HX.out]; simp [tLoop], by rw [HY.out]; exact HC.out, HT.out⟩
    | succ k =>
      have hb := cByte_bd bs c'
      have C2 := hide (show cText bs m c = (pre ++ [tByte bs (cBelow bs 4 c) c']) ++ tLoop bs (cBelow bs 4 c) k (aByte bs c') by rw [HX.out, tLoop]; simp)
      have C3 := hide (show aText bs m c = tCur bs k (aByte bs c') from HY.out)
      go_wp2_with fail
      refine (l1Byte_any HC.out).mono ?_
      rintro e w3 ⟨rfl, hc3, ht3⟩
      have HC3 := hide hc3
      have HO3 := hide (HO.out.turned ht3 hlt)
      have HT3 := hide (HT.out.trans ht3)
      have hs3 : w.heap.size ≤ w3.heap.size := HT3.out.size
      clear hc3 ht3
      by_cases s1 : cBelow bs 4 c = 1
      · have t1 : (cBelow bs 4 c == 1) = true := by rw [beq_iff_eq]; exact s1
        have t2 : (cBelow bs 4 c == 2) = false := by rw [beq_eq_false_iff_ne]; omega
        have C1 := hide (show #[Value.int .u8 (cByte bs c' % 2)] = (byteVals [tByte bs (cBelow bs 4 c) c']).toArray by
          simp only [byteVals, List.map_cons, List.map_nil, tByte_toNat, styl]
          rw [if_pos s1])
        clear s1
        go_wp2_with (at_builtin; refine append8 rfl (.tmp 31) (.tmp 34) rfl w.heap.size w3 w3 _ pre [tByte bs (cBelow bs 4 c) c'] 1 _ rfl rfl HO3 (hide (Below.refl _ _)) hs3 C1.out rfl (by omega) ?_; intro v' w' HO' HB' hsz')
        go_roundw
        case rel => exact ⟨k, _, aByte bs c', by simp; omega, by go_num, C2.out, C3.out, HO', HC3.out.keep (HB'.out.mono hlt), HT3.out.then_below HB'.out (Nat.le_refl _)⟩
        case measure => simp [intOf]
      · have t1 : (cBelow bs 4 c == 1) = false := by rw [beq_eq_false_iff_ne]; exact s1
        by_cases s2 : cBelow bs 4 c = 2
        · have t2 : (cBelow bs 4 c == 2) = true := by rw [beq_iff_eq]; exact s2
          have C1 := hide (show #[Value.int .u8 (97 + cByte bs c' % 4)] = (byteVals [tByte bs (cBelow bs 4 c) c']).toArray by
            simp only [byteVals, List.map_cons, List.map_nil, tByte_toNat, styl]
            rw [if_neg s1, if_pos s2])
          clear s1 s2
          go_wp2_with (at_builtin; refine append8 rfl (.tmp 31) (.tmp 34) rfl w.heap.size w3 w3 _ pre [tByte bs (cBelow bs 4 c) c'] 1 _ rfl rfl HO3 (hide (Below.refl _ _)) hs3 C1.out rfl (by omega) ?_; intro v' w' HO' HB' hsz')
          go_roundw
          case rel => exact ⟨k, _, aByte bs c', by simp; omega, by go_num, C2.out, C3.out, HO', HC3.out.keep (HB'.out.mono hlt), HT3.out.then_below HB'.out (Nat.le_refl _)⟩
          case measure => simp [intOf]
        · have t2 : (cBelow bs 4 c == 2) = false := by rw [beq_eq_false_iff_ne]; exact s2
          have C1 := hide (show #[Value.int .u8 (cByte bs c')] = (byteVals [tByte bs (cBelow bs 4 c) c']).toArray by
            simp only [byteVals, List.map_cons, List.map_nil, tByte_toNat, styl]
            rw [if_neg s1, if_neg s2])
          clear s1 s2
          go_wp2_with (at_builtin; refine append8 rfl (.tmp 31) (.tmp 34) rfl w.heap.size w3 w3 _ pre [tByte bs (cBelow bs 4 c) c'] 1 _ rfl rfl HO3 (hide (Below.refl _ _)) hs3 C1.out rfl (by omega) ?_; intro v' w' HO' HB' hsz')
          go_roundw
          case rel => exact ⟨k, _, aByte bs c', by simp; omega, by go_num, C2.out, C3.out, HO', HC3.out.keep (HB'.out.mono hlt), HT3.out.then_below HB'.out (Nat.le_refl _)⟩
          case measure => simp [intOf]
end Go.Proofs.YtakjjfbocokpaaaDoor

/-
  Contract of spec.l3Key: a key is drawn.
-/
namespace Go.Proofs.YtakjjfbocokpaaaDoor
open Go.ChangeShapes Go.WideShapes Go.ChangeAt Go.RowKit

/-- byte i of the key over b -/
def keyB (b : Int) (i : Nat) : UInt8 := UInt8.ofNat ((b * (i : Int) + (i : Int) % 3) % 256).toNat
theorem keyB_toNat (b : Int) (i : Nat) : ((keyB b i).toNat : Int) = (b * (i : Int) + (i : Int) % 3) % 256 := by
  show (((UInt8.ofNat ((b * (i : Int) + (i : Int) % 3) % 256).toNat)).toNat : Int) = (b * (i : Int) + (i : Int) % 3) % 256
  have h : (0 : Int) ≤ (b * (i : Int) + (i : Int) % 3) % 256 ∧ (b * (i : Int) + (i : Int) % 3) % 256 < 256 := by omega
  simp only [UInt8.toNat_ofNat']
  omega
def keyL (b : Int) (n : Nat) : List UInt8 := (List.range n).map (keyB b)
theorem keyL_succ (b : Int) (n : Nat) : keyL b (n + 1) = keyL b n ++ [keyB b n] := by simp [keyL, List.range_succ]
theorem length_keyL (b : Int) (n : Nat) : (keyL b n).length = n := by simp [keyL]
def cKey (bs : List Int) (c : Cu) : List UInt8 := if cBelow bs 15 (aByte bs c) = 0 then (keyL (cByte bs c) 32).take (cBelow bs 32 (aBelow bs 15 (aByte bs c))).toNat else keyL (cByte bs c) 32
def aKey (bs : List Int) (c : Cu) : Cu := if cBelow bs 15 (aByte bs c) = 0 then aBelow bs 32 (aBelow bs 15 (aByte bs c)) else aBelow bs 15 (aByte bs c)
theorem cKey_len (bs : List Int) (c : Cu) : (cKey bs c).length ≤ 32 := by
  unfold cKey
  split
  · rw [List.length_take, length_keyL]; omega
  · rw [length_keyL]; omega
theorem Owns8.slice {B : Nat} {w : World} {v : Value} {l : List UInt8} (h : Owns8 B w v l) (hp : 0 < l.length) : ∃ g cap, v = .slice (some ⟨g, 0, none⟩) l.length cap ∧ B ≤ g ∧ l.length ≤ cap ∧ cap ≤ maxLen ∧ ∀ j (hj : j < l.length), w.cell? ⟨g, j, none⟩ = some (.int .u8 (l[j].toNat : Int)) := by
  obtain ⟨hl, ⟨rfl, h0⟩ | ⟨g, cap, cur, rfl, hg, hh, hn, hc, hs, ht⟩⟩ := h
  · omega
  · refine ⟨g, cap, rfl, hg, hn, hc, fun j hj => ?_⟩
    have e : cur[j]? = (byteVals l)[j]? := by
      rw [← ht, Nat.mul_one, List.getElem?_take, if_pos hj, Array.getElem?_toList]
    rw [byteVals_at l j hj] at e
    simp [World.cell?, hh, e]

set_option maxHeartbeats 1000000 in
theorem l3Key_any {B g : Nat} {a : Option Addr} {cap : Nat} {bs : List Int} {w : World} {c : Cu} (h : Cursor B g a cap bs w c) :
    Calls Tryd.prog 47 #[.pointer (some ⟨g, 0, none⟩)] w (Drew B g a cap bs w (.string ⟨(cKey bs c).toArray⟩) (aKey bs c)) := by
  have H := hide h
  have hlt := h.lt
  clear h
  have hb := cByte_bd bs c
  have EK := hide (cKey.eq_def bs c)
  have EA := hide (aKey.eq_def bs c)
  go_enter Tryd.func47, Tryd.ntmps47
  go_wp2_with fail
  refine (l1Byte_any (H.out.keep ((Below.refl _ _).alloc hlt _))).mono ?_
  rintro e w1 ⟨rfl, hc1, ht1⟩
  have HC1 := hide hc1
  have HO1 := hide ((Owns8.lit w.heap.size w [] (Nat.le_refl _) (by simp)).turned ht1 hlt)
  have HT1 := hide (((Turned.refl g w).alloc (.cells #[] 5)).trans ht1)
  clear hc1 ht1
  go_wp2_with fail
  go_loopw [3, 5] (fun v i wr => ∃ j : Nat, j ≤ 32 ∧ i = .int .i64 (j : Int) ∧ Hid (Owns8 w.heap.size wr v (keyL (cByte bs c) j)) ∧ Hid (Cursor B g a cap bs wr (aByte bs c)) ∧ Hid (Turned g w wr)) (fun _ i _ => 32 - (intOf i).toNat)
  case atStart => exact ⟨0, by omega, rfl, HO1, HC1, HT1⟩
  case round =>
    obtain ⟨j, hj, rfl, HO, HC, HT⟩ := hrel
    by_cases hj32 : j < 32
    · have hp0 : 0 ≤ cByte bs c * (j : Int) := Int.mul_nonneg hb.1 (by omega)
      have hp1 : cByte bs c * (j : Int) ≤ 8160 := by
        have := Int.mul_le_mul hb.2 (show (j : Int) ≤ 32 by omega) (by omega) (by omega)
        omega
      have HS := hide (keyL_succ (cByte bs c) j)
      have HC0 := hide (show #[Value.int .u8 ((cByte bs c * (j : Int) + (j : Int) % 3) % 256)] = (byteVals [keyB (cByte bs c) j]).toArray by
        simp only [byteVals, List.map_cons, List.map_nil, keyB_toNat])
      have hl : (keyL (cByte bs c) j).length + 1 ≤ 1099511627776 := by rw [length_keyL]; omega
      have hs := HT.out.size
      go_wp2_with (at_builtin; go_loud (refine append8 rfl (.tmp 13) (.tmp 21) rfl w.heap.size wr wr _ (keyL (cByte bs c) j) [keyB (cByte bs c) j] 1 _ rfl rfl HO (hide (Below.refl _ _)) hs HC0.out rfl hl ?_); intro v' w' HO' HB' hsz')
      go_roundw
      case rel => exact ⟨j + 1, by omega, by go_num, by rw [HS.out]; exact HO', HC.out.keep (HB'.out.mono hlt), HT.out.then_below HB'.out (Nat.le_refl _)⟩
      case measure => simp [intOf]; omega
    · rw [show j = 32 by omega] at HO
      go_wp2_with fail
      refine (l1Once_any 15 (by omega) HC.out).mono ?_
      rintro e w2 ⟨rfl, hc2, ht2⟩
      have HC2 := hide hc2
      have HO2 := hide (HO.out.turned ht2 hlt)
      have HT2 := hide (HT.out.trans ht2)
      clear hc2 ht2 HO HC HT
      have hb2 := cBelow_bd bs 32 (aBelow bs 15 (aByte bs c)) (by omega)
      by_cases k0 : cBelow bs 15 (aByte bs c) = 0
      · rw [if_pos k0] at EK EA
        have t0 : (cBelow bs 15 (aByte bs c) == 0) = true := by rw [beq_iff_eq]; exact k0
        clear k0
        go_wp2_with fail
        refine (l1Below_any 32 (by omega) HC2.out).mono ?_
        rintro e w3 ⟨rfl, hc3, ht3⟩
        have HC3 := hide hc3
        have HO3 := hide (HO2.out.turned ht3 hlt)
        have HT3 := hide (HT2.out.trans ht3)
        clear hc3 ht3 HO2 HC2 HT2
        obtain ⟨gv, cv, hv, _, hlc, hcm, hcell⟩ := HO3.out.slice (by rw [length_keyL]; omega)
        rw [length_keyL] at hv hlc
        subst hv
        have hcv := run_convert_bytes_back (P := Tryd.prog) w3 22 9 5 ⟨gv, 0, none⟩ cv ((keyL (cByte bs c) 32).take (cBelow bs 32 (aBelow bs 15 (aByte bs c))).toNat) Tryd.underlying22 Tryd.underlying5 Tryd.underlying9 (fun i hi => by
          rw [addr_add0, hcell i (by rw [List.length_take] at hi; omega)]
          simp)
        rw [List.length_take, length_keyL, Nat.min_eq_left (by omega)] at hcv
        clear hcell
        go_wp2_with fail
        go_ret
        exact ⟨by rw [EK.out]; rfl, by rw [EA.out]; exact HC3.out, HT3.out⟩
      · rw [if_neg k0] at EK EA
        have t0 : (cBelow bs 15 (aByte bs c) == 0) = false := by rw [beq_eq_false_iff_ne]; exact k0
        clear k0
        have hcv := run_convOwn w.heap.size w2 _ _ HO2.out
        go_wp2_with fail
        go_ret
        exact ⟨by rw [EK.out]; rfl, by rw [EA.out]; exact HC2.out, HT2.out⟩
end Go.Proofs.YtakjjfbocokpaaaDoor
