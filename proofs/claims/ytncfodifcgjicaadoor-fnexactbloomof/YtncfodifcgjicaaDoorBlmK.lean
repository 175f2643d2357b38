/-
  Contracts of (bloomWords).text, impl.BloomMay and impl.BloomOf.
-/
import Derived.Test.YtncfodifcgjicaaDoorBlmJ
import Derived.Test.YtncfodifcgjicaaDoorSzStr
namespace Go.Proofs.YtncfodifcgjicaaDoor
open Go.ChangeShapes Go.WideShapes Go.ChangeAt Go.RowKit

theorem byte_wrap (x r : Nat) : IntKind.u8.wrap ((x : Int) / 2 ^ r) = ((UInt8.ofNat (x / 2 ^ r)).toNat : Int) := by
  rw [shr_nat, IntKind.wrap_u8', UInt8.toNat_ofNat']
  omega
theorem eight {W : List Nat} (h : W.length = 8) : ∃ a0 a1 a2 a3 a4 a5 a6 a7, W = [a0, a1, a2, a3, a4, a5, a6, a7] := by
  match W, h with
  | [a0, a1, a2, a3, a4, a5, a6, a7], _ => exact ⟨a0, a1, a2, a3, a4, a5, a6, a7, rfl⟩
set_option maxHeartbeats 1000000 in
theorem text_any (a0 a1 a2 a3 a4 a5 a6 a7 z : Nat) (F : List UInt8) (w : World) (hS : Same [a0, a1, a2, a3, a4, a5, a6, a7] F) (hz : F.length = z) (h2 : z ≤ 64) :
    Calls Tryd.prog 22 #[.agg #[.int .u64 a0, .int .u64 a1, .int .u64 a2, .int .u64 a3, .int .u64 a4, .int .u64 a5, .int .u64 a6, .int .u64 a7], .int .i64 z] w (StrPost w F) := by
  have HS := hide hS
  have HZ := hide hz
  have hnew : WordsIn (w.alloc (.cells #[.int .u64 a0, .int .u64 a1, .int .u64 a2, .int .u64 a3, .int .u64 a4, .int .u64 a5, .int .u64 a6, .int .u64 a7] 43)) w.heap.size [a0, a1, a2, a3, a4, a5, a6, a7] := BoxV.new _ w _
  have hb0 := (Below.refl w.heap.size w).alloc (Nat.le_refl _) (.cells #[.int .u64 a0, .int .u64 a1, .int .u64 a2, .int .u64 a3, .int .u64 a4, .int .u64 a5, .int .u64 a6, .int .u64 a7] 43)
  have hlen : ([a0, a1, a2, a3, a4, a5, a6, a7] : List Nat).length = 8 := rfl
  obtain ⟨W1, hW1⟩ : ∃ W1, W1 = w.alloc (.cells #[.int .u64 a0, .int .u64 a1, .int .u64 a2, .int .u64 a3, .int .u64 a4, .int .u64 a5, .int .u64 a6, .int .u64 a7] 43) := ⟨_, rfl⟩
  rw [← hW1] at hnew hb0
  have hs1 : W1.heap.size = w.heap.size + 1 := by rw [hW1]; simp
  obtain ⟨WS, hWS⟩ : ∃ WS : List Nat, WS = [a0, a1, a2, a3, a4, a5, a6, a7] := ⟨_, rfl⟩
  rw [← hWS] at HS hnew hlen
  have HN := hide hnew
  have HB0 := hide hb0
  have HLE := hide hlen
  have hmk8 := run_make8 z (by omega) W1
  rw [hs1, hW1] at hmk8
  clear hS hz hnew hb0 hWS hlen
  go_enter Tryd.func22, Tryd.ntmps22
  go_wp2_with fail
  rw [← hW1]
  clear hmk8
  obtain ⟨W2, hW2⟩ : ∃ W2, W2 = W1.alloc (.cells (byteVals (List.replicate z 0)).toArray 5) := ⟨_, rfl⟩
  have HN2 := hide (show WordsIn W2 w.heap.size WS from hW2 ▸ BoxV.alloc HN.out _)
  have HB2 := hide (show Below w.heap.size w W2 from hW2 ▸ HB0.out.alloc (by omega) _)
  have HH2 := hide (show Holds8 5 W2 (w.heap.size + 1) (rowOf F 0) by
    rw [rowOf_zero, HZ.out, hW2, ← hs1]
    exact Holds8.new _ _ _)
  have hs2 : w.heap.size + 1 < W2.heap.size := by rw [hW2]; simp; omega
  rw [← hW2]
  clear hW1 hW2 HN HB0 hs1
  go_loopw [6, 7, 12] (fun _ _ i wr => ∃ j : Nat, i = .int .i64 j ∧ j ≤ z ∧ Hid (Holds8 5 wr (w.heap.size + 1) (rowOf F j)) ∧ Hid (WordsIn wr w.heap.size WS) ∧ Hid (Below w.heap.size w wr)) (fun _ _ i _ => z - (intOf i).toNat)
  case atStart => exact ⟨0, rfl, by omega, HH2.out, HN2.out, HB2.out⟩
  case round =>
    clear HH2 HN2 HB2 hs2
    obtain ⟨j, rfl, hj, HH, HW, HB⟩ := hrel
    by_cases hlt : j < z
    · have hjF : j < F.length := by rw [HZ.out]; exact hlt
      obtain ⟨q, hq⟩ : ∃ q, q = j * 8 := ⟨_, rfl⟩
      obtain ⟨p, hp⟩ : ∃ p, p = q / 64 := ⟨_, rfl⟩
      obtain ⟨r, hr⟩ : ∃ r, r = q % 64 := ⟨_, rfl⟩
      have hpW : p < WS.length := by rw [HLE.out]; omega
      have hr64 : r < 64 := by omega
      have c0 := HW.out.cell p hpW
      have hjr : j < (rowOf F j).length := by rw [length_rowOf F j (by omega)]; exact hjF
      have c1 := HH.out.cell j hjr
      have f1 := HH.out.frozen j
      have e0 : IntKind.i64.wrap ((j : Int) * 8) = (q : Int) := by rw [IntKind.wrap_i64]; omega
      have e1 : IntKind.i64.wrap ((q : Int) / 64) = (p : Int) := by rw [IntKind.wrap_i64]; omega
      have e2 : (q : Int).tmod 64 = (r : Int) := by rw [Int.tmod_eq_emod_of_nonneg (by omega)]; omega
      have e3 := byte_wrap WS[p] r
      have hby : UInt8.ofNat (WS[p] / 2 ^ r) = F[j] := by
        rw [← byteW_same HS.out j hjF]
        unfold byteW
        subst hp hr hq
        rw [show 8 * j / 64 = j * 8 / 64 by omega, show 8 * j % 64 = j * 8 % 64 by omega, List.getElem?_eq_getElem hpW]
        rfl
      rw [hby] at e3
      have hH2 := HH.out.set j F[j] _ rfl
      rw [rowOf_set F j hjF] at hH2
      have HH2 := hide hH2
      have HW2 := hide (BoxV.set_other HW.out (p := ⟨w.heap.size + 1, j, none⟩) (by simp) (.int .u8 (F[j].toNat : Int)))
      have HB2 := hide (HB.out.setCell (p := ⟨w.heap.size + 1, j, none⟩) (by simp) (.int .u8 (F[j].toNat : Int)))
      generalize (rowOf F j)[j] = y at *
      generalize F[j] = x at *
      generalize WS[p] = v at *
      have i1 : (p : Int) < 8 := by have := HLE.out; omega
      clear hq hp hr hby hH2 hpW hjr hjF
      go_wp2_with fail
      go_roundw
      case rel => exact ⟨j + 1, by go_num, by omega, HH2.out, HW2.out, HB2.out⟩
      case measure => simp [intOf]; omega
    · have HJ := hide (show rowOf F j = F by rw [show j = F.length by rw [HZ.out]; omega, rowOf_all])
      have hh := HH.out
      rw [HJ.out] at hh
      have hcv := run_convTake (w.heap.size + 1) z z F F wr hh HZ.out (by rw [← HZ.out, List.take_length])
      clear hh
      go_wp2_with fail
      go_ret
      exact ⟨rfl, HB.out⟩

theorem mayV_yes {F k : List UInt8} (h : 1 ≤ F.length ∧ F.length ≤ 64) : mayV F k = decide (hasK3 F k) := by
  unfold mayV
  rw [decide_eq_decide]
  exact ⟨fun x => x.2.2, fun x => ⟨h.1, h.2, x⟩⟩
theorem mayV_no {F k : List UInt8} (h : ¬ (1 ≤ F.length ∧ F.length ≤ 64)) : mayV F k = false := decide_eq_false fun x => h ⟨x.1, x.2.1⟩
/-- what goes from bit to bit in BloomMay -/
def MayP (w : World) (b : ByteArray) (k : List UInt8) (n i : Nat) (W : World) : Prop := BoxV 4 W (w.heap.size + 1) #[.bool (upK n (bl b) k i)] ∧ BoxV 9 W w.heap.size #[.string b] ∧ Below w.heap.size w W
theorem Only.box {T : TypeId} {g g' : Nat} {vs : Array Value} {w w' : World} (h : Only (some g) w w') (hb : BoxV T w g' vs) (hne : g' ≠ g) : BoxV T w' g' vs := (h.block g' hb.lt (fun e => hne (Option.some.inj e))).trans hb
theorem MayP.step {w W : World} {b : ByteArray} {k : List UInt8} {n i : Nat} (h : MayP w b k n i W) (hb : b.size ≤ 64) (h1 : 1 ≤ b.size) (hn : 8 * b.size = n) : Calls Tryd.prog 25 #[.int .i64 (kbit k n i : Nat), .pointer (some ⟨w.heap.size + 1, 0, none⟩), .pointer (some ⟨w.heap.size, 0, none⟩)] W (EndPost (MayP w b k n (i + 1))) := by
  obtain ⟨h2, h3, h4⟩ := h
  refine (mayBit_any (w.heap.size + 1) w.heap.size (kbit k n i) _ b W hb h2 (h3.cell 0 _ rfl) (by rw [hn]; exact kbit_lt _ _ _ (by omega))).mono ?_
  rintro e w' ⟨rfl, k1, k2⟩
  exact ⟨rfl, k1, k2.box h3 (by omega), h4.trans (k2.below (fun g e => by have := Option.some.inj e; omega) h4.size)⟩
set_option maxHeartbeats 1000000 in
theorem iMay_any (b k : ByteArray) (w : World) (hb : b.size ≤ maxLen) (hk : k.size ≤ 1048576) (h0 : 0 < w.heap.size) (hT : Hid (CrcTabIn w)) :
    Calls Tryd.prog 10 #[.string b, .string k] w (BoolPost w (mayV (bl b) (bl k))) := by
  obtain ⟨V, hV⟩ : ∃ V, V = mayV (bl b) (bl k) := ⟨_, rfl⟩
  have HV := hide hV
  rw [← hV]
  clear hV
  unfold maxLen at hb
  have hb0 := (Below.refl w.heap.size w).alloc (Nat.le_refl _) (.cells #[.string b] 9)
  by_cases hin : 1 ≤ b.size ∧ b.size ≤ 64
  · have HVy := hide (show V = upK (8 * b.size) (bl b) (bl k) 3 by rw [HV.out, mayV_yes (by rw [bl_len]; exact hin), ← upK_three, bl_len])
    go_enter Tryd.func10, Tryd.ntmps10
    go_wp2_with fail
    refine (sizeOk_yes _ _ (by omega)).mono ?_
    rintro e w1 ⟨rfl, rfl⟩
    have hb2 : Below w.heap.size w ((w.alloc (.cells #[.string b] 9)).alloc (.cells #[.bool true] 4)) := hb0.alloc (by simp) _
    have HE := hide (each2_any (.pointer (some ⟨w.heap.size + 1, 0, none⟩)) (.pointer (some ⟨w.heap.size, 0, none⟩)) (MayP w b (bl k) (8 * b.size)) k b.size (8 * b.size) ((w.alloc (.cells #[.string b] 9)).alloc (.cells #[.bool true] 4)) hk hin.1 hin.2 rfl (by simp) (hide (hT.out.below hb2 h0))
      (fun W h => by
        obtain ⟨x1, x2, x3⟩ := two_boxV h
        exact ⟨x2, x1, x3⟩)
      (fun i W _ h => h.step hin.2 hin.1 rfl))
    clear hb2
    go_wp2_with fail
    refine HE.out.mono ?_
    rintro e w1 ⟨rfl, h1, h2, h3⟩
    rw [← HVy.out] at h1
    have c0 := h1.cell 0 _ rfl
    have HB := hide h3
    clear h1 h2 h3
    go_wp2_with fail
    go_ret
    exact ⟨rfl, HB.out⟩
  · have HVn := hide (show V = false by rw [HV.out, mayV_no (by rw [bl_len]; exact hin)])
    go_enter Tryd.func10, Tryd.ntmps10
    go_wp2_with fail
    refine (sizeOk_no _ _ (by omega)).mono ?_
    rintro e w1 ⟨rfl, rfl⟩
    go_wp2_with fail
    go_ret
    exact ⟨by rw [HVn.out]; rfl, hb0⟩
end Go.Proofs.YtncfodifcgjicaaDoor
