/-
  Texts of this proof, put together: BlmK, BlmL.
-/
import Derived.Test.YtdlkgpobjacgeaaDoorPackBM
import Derived.Test.YtdlkgpobjacgeaaDoorPackBA

/-
  Contracts of (bloomWords).text, impl.BloomMay and impl.BloomOf.
-/
namespace Go.Proofs.YtdlkgpobjacgeaaDoor
open Go.ChangeShapes Go.WideShapes Go.ChangeAt Go.RowKit

theorem byte_wrap (x r : Nat) : IntKind.u8.wrap ((x : Int) / 2 ^ r) = ((UInt8.ofNat (x / 2 ^ r)).toNat : Int) := by
  rw [shr_nat, IntKind.wrap_u8', UInt8.toNat_ofNat']
  omega
theorem eight {W : List Nat} (h : W.length = 8) : ∃ a0 a1 a2 a3 a4 a5 a6 a7, W = [a0, a1, a2, a3, a4, a5, a6, a7] := by
  match W, h with
  | [a0, a1, a2, a3, a4, a5, a6, a7], _ => exact ⟨a0, a1, a2, a3, a4, a5, a6, a7, rfl⟩
set_option maxHeartbeats 1000000 in
theorem wtext_any (a0 a1 a2 a3 a4 a5 a6 a7 z : Nat) (F : List UInt8) (w : World) (hS : Same [a0, a1, a2, a3, a4, a5, a6, a7] F) (hz : F.length = z) (h2 : z ≤ 64) :
    Calls Tryd.prog 66 #[.agg #[.int .u64 a0, .int .u64 a1, .int .u64 a2, .int .u64 a3, .int .u64 a4, .int .u64 a5, .int .u64 a6, .int .u64 a7], .int .i64 z] w (StrPost w F) := by
  have HS := hide hS
  have HZ := hide hz
  have hnew : WordsIn (w.alloc (.cells #[.int .u64 a0, .int .u64 a1, .int .u64 a2, .int .u64 a3, .int .u64 a4, .int .u64 a5, .int .u64 a6, .int .u64 a7] 93)) w.heap.size [a0, a1, a2, a3, a4, a5, a6, a7] := BoxV.new _ w _
  have hb0 := (Below.refl w.heap.size w).alloc (Nat.le_refl _) (.cells #[.int .u64 a0, .int .u64 a1, .int .u64 a2, .int .u64 a3, .int .u64 a4, .int .u64 a5, .int .u64 a6, .int .u64 a7] 93)
  have hlen : ([a0, a1, a2, a3, a4, a5, a6, a7] : List Nat).length = 8 := rfl
  obtain ⟨W1, hW1⟩ : ∃ W1, W1 = w.alloc (.cells #[.int .u64 a0, .int .u64 a1, .int .u64 a2, .int .u64 a3, .int .u64 a4, .int .u64 a5, .int .u64 a6, .int .u64 a7] 93) := ⟨_, rfl⟩
  rw [← hW1] at hnew hb0
  have hs1 : W1.heap.size = w.heap.size + 1 := by rw [hW1]; simp
  obtain ⟨WS, hWS⟩ : ∃ WS : List Nat, WS = [a0, a1, a2, a3, a4, a5, a6, a7] := ⟨_, rfl⟩
  rw [← hWS] at HS hnew hlen
  have HN := hide hnew
  have HB0 := hide hb0
  have HLE := hide hlen
  have hmk8 := run_make8 z (by omega) W1
  rw [hs1, hW1] at hmk8
  clear hS hz hnew hb0 hWS hlen
  go_enter Tryd.func66, Tryd.ntmps66
  go_wp2_with fail
  rw [← hW1]
  clear hmk8
  obtain ⟨W2, hW2⟩ : ∃ W2, W2 = W1.alloc (.cells (byteVals (List.replicate z 0)).toArray 5) := ⟨_, rfl⟩
  have HN2 := hide (show WordsIn W2 w.heap.size WS from hW2 ▸ BoxV.alloc HN.out _)
  have HB2 := hide (show Below w.heap.size w W2 from hW2 ▸ HB0.out.alloc (by omega) _)
  have HH2 := hide (show Holds8 5 W2 (w.heap.size + 1) (rowOf F 0) by
    rw [rowOf_zero, HZ.out, hW2, ← hs1]
    exact Holds8.new _ _ _)
  have hs2 : w.heap.size + 1 < W2.heap.size := by rw [hW2]; simp; omega
  rw [← hW2]
  clear hW1 hW2 HN HB0 hs1
  go_loopw [6, 7, 12] (fun _ _ i wr => ∃ j : Nat, i = .int .i64 j ∧ j ≤ z ∧ Hid (Holds8 5 wr (w.heap.size + 1) (rowOf F j)) ∧ Hid (WordsIn wr w.heap.size WS) ∧ Hid (Below w.heap.size w wr)) (fun _ _ i _ => z - (intOf i).toNat)
  case atStart => exact ⟨0, rfl, by omega, HH2.out, HN2.out, HB2.out⟩
  case round =>
    clear HH2 HN2 HB2 hs2
    obtain ⟨j, rfl, hj, HH, HW, HB⟩ := hrel
    by_cases hlt : j < z
    · have hjF : j < F.length := by rw [HZ.out]; exact hlt
      obtain ⟨q, hq⟩ : ∃ q, q = j * 8 := ⟨_, rfl⟩
      obtain ⟨p, hp⟩ : ∃ p, p = q / 64 := ⟨_, rfl⟩
      obtain ⟨r, hr⟩ : ∃ r, r = q % 64 := ⟨_, rfl⟩
      have hpW : p < WS.length := by rw [HLE.out]; omega
      have hr64 : r < 64 := by omega
      have c0 := HW.out.cell p hpW
      have hjr : j < (rowOf F j).length := by rw [length_rowOf F j (by omega)]; exact hjF
      have c1 := HH.out.cell j hjr
      have f1 := HH.out.frozen j
      have e0 : IntKind.i64.wrap ((j : Int) * 8) = (q : Int) := by rw [IntKind.wrap_i64]; omega
      have e1 : IntKind.i64.wrap ((q : Int) / 64) = (p : Int) := by rw [IntKind.wrap_i64]; omega
      have e2 : (q : Int).tmod 64 = (r : Int) := by rw [Int.tmod_eq_emod_of_nonneg (by omega)]; omega
      have e3 := byte_wrap WS[p] r
      have hby : UInt8.ofNat (WS[p] / 2 ^ r) = F[j] := by
        rw [← byteW_same HS.out j hjF]
        unfold byteW
        subst hp hr hq
        rw [show 8 * j / 64 = j * 8 / 64 by omega, show 8 * j % 64 = j * 8 % 64 by omega, List.getElem?_eq_getElem hpW]
        rfl
      rw [hby] at e3
      have hH2 := HH.out.set j F[j] _ rfl
      rw [rowOf_set F j hjF] at hH2
      have HH2 := hide hH2
      have HW2 := hide (BoxV.set_other HW.out (p := ⟨w.heap.size + 1, j, none⟩) (by simp) (.int .u8 (F[j].toNat : Int)))
      have HB2 := hide (HB.out.setCell (p := ⟨w.heap.size + 1, j, none⟩) (by simp) (.int .u8 (F[j].toNat : Int)))
      generalize (rowOf F j)[j] = y at *
      generalize F[j] = x at *
      generalize WS[p] = v at *
      have i1 : (p : Int) < 8 := by have := HLE.out; omega
      clear hq hp hr hby hH2 hpW hjr hjF
      go_wp2_with fail
      go_roundw
      case rel => exact ⟨j + 1, by go_num, by omega, HH2.out, HW2.out, HB2.out⟩
      case measure => simp [intOf]; omega
    · have HJ := hide (show rowOf F j = F by rw [show j = F.length by rw [HZ.out]; omega, rowOf_all])
      have hh := HH.out
      rw [HJ.out] at hh
      have hcv := run_convTake (w.heap.size + 1) z z F F wr hh HZ.out (by rw [← HZ.out, List.take_length])
      clear hh
      go_wp2_with fail
      go_ret
      exact ⟨rfl, HB.out⟩

end Go.Proofs.YtdlkgpobjacgeaaDoor

/-
  Contract of impl.BloomOf.
-/
namespace Go.Proofs.YtdlkgpobjacgeaaDoor
open Go.ChangeShapes Go.WideShapes Go.ChangeAt Go.RowKit

theorem bloomV_yes' {K : List (List UInt8)} {size : Nat} (h : 1 ≤ size ∧ size ≤ 64 ∧ K.length ≤ 60) : bloomV K (size : Int) = bloomL (8 * size) (List.replicate size 0) K := by
  unfold bloomV
  rw [if_pos (by omega), Int.toNat_natCast]
theorem bloomV_no' {K : List (List UInt8)} {size : Int} (h : ¬ (1 ≤ size ∧ size ≤ 64 ∧ K.length ≤ 60)) : bloomV K size = [] := if_neg h
/-- what goes from bit to bit in BloomOf -/
def OfP (g : Nat) (w : World) (F k : List UInt8) (n i : Nat) (W : World) : Prop := ∃ Ws, Same Ws (partK n F k i) ∧ WordsIn W g Ws ∧ Only (some g) w W
theorem OfP.step {g z n i : Nat} {w W : World} {F k : List UInt8} (h : OfP g w F k n i W) (hF : F.length = z) (h1 : 1 ≤ z) (h2 : z ≤ 64) (hn : 8 * z = n) : Calls Tryd.prog 65 #[.int .i64 (kbit k n i : Nat), .pointer (some ⟨g, 0, none⟩)] W (EndPost (OfP g w F k n (i + 1))) := by
  obtain ⟨Ws, hs, hw, ho⟩ := h
  have hk := kbit_lt k n i (by omega)
  refine (setBit_any g (kbit k n i) Ws W hw hs.1 hs.2.1 (by omega)).mono ?_
  rintro e w' ⟨rfl, k1, k2⟩
  exact ⟨rfl, _, hs.set (by rw [length_partK, hF]; omega) (by rw [length_partK, hF]; exact h2), k1, ho.trans k2⟩
theorem WordsIn.all {w : World} {g a0 a1 a2 a3 a4 a5 a6 a7 : Nat} (h : WordsIn w g [a0, a1, a2, a3, a4, a5, a6, a7]) : w.cell? ⟨g, 0, none⟩ = some (.int .u64 a0) ∧ w.cell? ⟨g, 1, none⟩ = some (.int .u64 a1) ∧ w.cell? ⟨g, 2, none⟩ = some (.int .u64 a2) ∧ w.cell? ⟨g, 3, none⟩ = some (.int .u64 a3) ∧ w.cell? ⟨g, 4, none⟩ = some (.int .u64 a4) ∧ w.cell? ⟨g, 5, none⟩ = some (.int .u64 a5) ∧ w.cell? ⟨g, 6, none⟩ = some (.int .u64 a6) ∧ w.cell? ⟨g, 7, none⟩ = some (.int .u64 a7) :=
  ⟨h.cell 0 (by simp), h.cell 1 (by simp), h.cell 2 (by simp), h.cell 3 (by simp), h.cell 4 (by simp), h.cell 5 (by simp), h.cell 6 (by simp), h.cell 7 (by simp)⟩

set_option maxHeartbeats 4000000 in
set_option maxRecDepth 20000 in
theorem iBloom_any (a : Option Addr) (cap : Nat) (L : List ByteArray) (size : Int) (w : World) (hr : elStr.Rd w w.heap.size a L) (hl : L.length ≤ maxLen) (hk : ∀ x ∈ L, x.size ≤ 1048576) (h0 : 0 < w.heap.size) (hT : Hid (CrcTabIn w)) :
    Calls Tryd.prog 32 #[.slice a L.length cap, .int .i64 size] w (StrPost w (bloomV (L.map bl) size)) := by
  obtain ⟨V, hV⟩ : ∃ V, V = bloomV (L.map bl) size := ⟨_, rfl⟩
  have HV := hide hV
  rw [← hV]
  clear hV
  have HR := hide hr
  have HK := hide hk
  have HLL := hide (show (L.map bl).length = L.length by rw [List.length_map])
  clear hr hk
  unfold maxLen at hl
  obtain ⟨m, hm⟩ : ∃ m, m = L.length := ⟨_, rfl⟩
  have HM := hide hm
  rw [← hm] at hl ⊢
  clear hm
  by_cases hin : 1 ≤ size ∧ size ≤ 64
  · obtain ⟨h1, h2⟩ := hin
    obtain ⟨z, rfl⟩ : ∃ z : Nat, size = z := ⟨size.toNat, by omega⟩
    by_cases hmk : m ≤ 60
    · have HV2 := hide (show V = bloomL (8 * z) (List.replicate z 0) (L.map bl) by
        rw [HV.out]
        exact bloomV_yes' ⟨by omega, by omega, by rw [HLL.out, ← HM.out]; exact hmk⟩)
      obtain ⟨n, hn⟩ : ∃ n, 8 * z = n := ⟨_, rfl⟩
      rw [hn] at HV2
      have HN := hide hn
      have HE := hide (fun W F k (hF : F.length = z) (Ws : List Nat) (hs : Same Ws F) (hw : WordsIn W w.heap.size Ws) (hk : k.size ≤ 1048576) (hb : Below w.heap.size w W) (hlt : w.heap.size < W.heap.size) =>
        each1_any (.pointer (some ⟨w.heap.size, 0, none⟩)) (OfP w.heap.size W F (bl k) n) k z n W hk (by omega) (by omega) hn (by omega) (hide (hT.out.below hb h0))
          (fun W' hb' => ⟨Ws, hs, BoxV.below hw hb' hlt, ⟨hb'.os, hb'.tape, hb'.output, hb'.size, fun i hi _ => hb'.block i hi⟩⟩)
          (fun i W' _ h => h.step hF (by omega) (by omega) hn))
      clear hn
      go_enter Tryd.func32, Tryd.ntmps32
      go_wp2_with fail
      refine (sizeOk_yes _ _ (by omega)).mono ?_
      rintro e w1 ⟨rfl, rfl⟩
      go_wp2_with fail
      go_loopw [7, 18] (fun _ i wr => ∃ j : Nat, i = .int .i64 j ∧ j ≤ m ∧ Hid (∃ Ws, Same Ws (bloomL n (List.replicate z 0) ((L.take j).map bl)) ∧ WordsIn wr w.heap.size Ws) ∧ Hid (Below w.heap.size w wr) ∧ w.heap.size < wr.heap.size) (fun _ i _ => m - (intOf i).toNat)
      case atStart => exact ⟨0, rfl, by omega, ⟨_, Same.zero z, BoxV.new _ _ _⟩, (Below.refl _ _).alloc (Nat.le_refl _) _, by simp⟩
      case round =>
        obtain ⟨j, rfl, hj, HH, HB, hsz⟩ := hrel
        by_cases hlt : j < m
        · have hjL : j < L.length := by rw [← HM.out]; exact hlt
          obtain ⟨b, off, rfl, hb, hcell⟩ := HR.out.str (by omega)
          have d0 := (HB.out.cell (p := ⟨b, off + j, none⟩) hb).trans (hcell j hjL)
          have hkj := HK.out L[j] (List.getElem_mem hjL)
          obtain ⟨Ws, hs, hw⟩ := HH.out
          obtain ⟨F, hF⟩ : ∃ F, F = bloomL n (List.replicate z 0) ((L.take j).map bl) := ⟨_, rfl⟩
          have hFl : F.length = z := by rw [hF, length_bloomL, List.length_replicate]
          have HF' := hide (show addK n F (bl L[j]) = bloomL n (List.replicate z 0) ((L.take (j + 1)).map bl) by
            rw [hF, List.take_succ_eq_append_getElem hjL, List.map_append, List.map_singleton, bloomL_snoc])
          rw [← hF] at hs
          have HEj := hide (HE.out wr F L[j] hFl Ws hs hw hkj HB.out hsz)
          generalize L[j] = k at *
          clear hcell hF hjL hs hw hFl
          go_wp2_with fail
          refine HEj.out.mono ?_
          rintro e w1 ⟨rfl, Ws1, hs1, hw1, ho1⟩
          have HH1 := hide (show ∃ Ws, Same Ws (bloomL n (List.replicate z 0) ((L.take (j + 1)).map bl)) ∧ WordsIn w1 w.heap.size Ws from ⟨Ws1, by rw [← HF'.out, ← partK_three]; exact hs1, hw1⟩)
          have HB1 := hide (HB.out.trans (ho1.below (fun g e => by have := Option.some.inj e; omega) HB.out.size))
          have hsz1 : w.heap.size < w1.heap.size := by have := ho1.size; omega
          clear hs1 hw1 ho1 HB HH hsz d0
          go_wp2_with fail
          go_roundw
          case rel => exact ⟨j + 1, by go_num, by omega, HH1.out, HB1.out, hsz1⟩
          case measure => simp [intOf]; omega
        · have HJ := hide (show j = L.length by rw [← HM.out]; omega)
          have HVj := hide (show bloomL n (List.replicate z 0) ((L.take j).map bl) = V by rw [HV2.out, HJ.out, List.take_length])
          obtain ⟨Ws, hs, hw⟩ := HH.out
          rw [HVj.out] at hs
          obtain ⟨a0, a1, a2, a3, a4, a5, a6, a7, rfl⟩ := eight hs.1
          obtain ⟨c0, c1, c2, c3, c4, c5, c6, c7⟩ := hw.all
          have HVl := hide (show V.length = z by rw [HV2.out, length_bloomL, List.length_replicate])
          have HT := hide (wtext_any a0 a1 a2 a3 a4 a5 a6 a7 z V wr hs HVl.out (by omega))
          clear hs hw
          go_wp2_with fail
          refine HT.out.mono ?_
          rintro e w1 ⟨rfl, hb1⟩
          have HB1 := hide (HB.out.trans (hb1.mono HB.out.size))
          clear hb1
          go_wp2_with fail
          go_ret
          exact ⟨rfl, HB1.out⟩
    · have HVn := hide (show V = [] by
        rw [HV.out]
        exact bloomV_no' (fun h => hmk (by have := h.2.2; rw [HLL.out, ← HM.out] at this; exact this)))
      go_enter Tryd.func32, Tryd.ntmps32
      go_wp2_with fail
      refine (sizeOk_yes _ _ (by omega)).mono ?_
      rintro e w1 ⟨rfl, rfl⟩
      go_wp2_with fail
      go_ret
      exact ⟨by rw [HVn.out]; rfl, Below.refl _ _⟩
  · have HVn := hide (show V = [] by
      rw [HV.out]
      exact bloomV_no' (fun h => hin ⟨h.1, h.2.1⟩))
    go_enter Tryd.func32, Tryd.ntmps32
    go_wp2_with fail
    refine (sizeOk_no _ _ hin).mono ?_
    rintro e w1 ⟨rfl, rfl⟩
    go_wp2_with fail
    go_ret
    exact ⟨by rw [HVn.out]; rfl, Below.refl _ _⟩
end Go.Proofs.YtdlkgpobjacgeaaDoor
