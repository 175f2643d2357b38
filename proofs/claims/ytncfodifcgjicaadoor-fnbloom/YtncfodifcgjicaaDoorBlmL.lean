/-
  Contract of impl.BloomOf.
-/
import Derived.Test.YtncfodifcgjicaaDoorBlmK
namespace Go.Proofs.YtncfodifcgjicaaDoor
open Go.ChangeShapes Go.WideShapes Go.ChangeAt Go.RowKit

theorem bloomV_yes' {K : List (List UInt8)} {size : Nat} (h : 1 ≤ size ∧ size ≤ 64 ∧ K.length ≤ 60) : bloomV K (size : Int) = bloomL (8 * size) (List.replicate size 0) K := by
  unfold bloomV
  rw [if_pos (by omega), Int.toNat_natCast]
theorem bloomV_no' {K : List (List UInt8)} {size : Int} (h : ¬ (1 ≤ size ∧ size ≤ 64 ∧ K.length ≤ 60)) : bloomV K size = [] := if_neg h
/-- what goes from bit to bit in BloomOf -/
def OfP (g : Nat) (w : World) (F k : List UInt8) (n i : Nat) (W : World) : Prop := ∃ Ws, Same Ws (partK n F k i) ∧ WordsIn W g Ws ∧ Only (some g) w W
theorem OfP.step {g z n i : Nat} {w W : World} {F k : List UInt8} (h : OfP g w F k n i W) (hF : F.length = z) (h1 : 1 ≤ z) (h2 : z ≤ 64) (hn : 8 * z = n) : Calls Tryd.prog 21 #[.int .i64 (kbit k n i : Nat), .pointer (some ⟨g, 0, none⟩)] W (EndPost (OfP g w F k n (i + 1))) := by
  obtain ⟨Ws, hs, hw, ho⟩ := h
  have hk := kbit_lt k n i (by omega)
  refine (setBit_any g (kbit k n i) Ws W hw hs.1 hs.2.1 (by omega)).mono ?_
  rintro e w' ⟨rfl, k1, k2⟩
  exact ⟨rfl, _, hs.set (by rw [length_partK, hF]; omega) (by rw [length_partK, hF]; exact h2), k1, ho.trans k2⟩
theorem WordsIn.all {w : World} {g a0 a1 a2 a3 a4 a5 a6 a7 : Nat} (h : WordsIn w g [a0, a1, a2, a3, a4, a5, a6, a7]) : w.cell? ⟨g, 0, none⟩ = some (.int .u64 a0) ∧ w.cell? ⟨g, 1, none⟩ = some (.int .u64 a1) ∧ w.cell? ⟨g, 2, none⟩ = some (.int .u64 a2) ∧ w.cell? ⟨g, 3, none⟩ = some (.int .u64 a3) ∧ w.cell? ⟨g, 4, none⟩ = some (.int .u64 a4) ∧ w.cell? ⟨g, 5, none⟩ = some (.int .u64 a5) ∧ w.cell? ⟨g, 6, none⟩ = some (.int .u64 a6) ∧ w.cell? ⟨g, 7, none⟩ = some (.int .u64 a7) :=
  ⟨h.cell 0 (by simp), h.cell 1 (by simp), h.cell 2 (by simp), h.cell 3 (by simp), h.cell 4 (by simp), h.cell 5 (by simp), h.cell 6 (by simp), h.cell 7 (by simp)⟩

set_option maxHeartbeats 4000000 in
set_option maxRecDepth 20000 in
theorem iBloom_any (a : Option Addr) (cap : Nat) (L : List ByteArray) (size : Int) (w : World) (hr : elStr.Rd w w.heap.size a L) (hl : L.length ≤ maxLen) (hk : ∀ x ∈ L, x.size ≤ 1048576) (h0 : 0 < w.heap.size) (hT : Hid (CrcTabIn w)) :
    Calls Tryd.prog 8 #[.slice a L.length cap, .int .i64 size] w (StrPost w (bloomV (L.map bl) size)) := by
  obtain ⟨V, hV⟩ : ∃ V, V = bloomV (L.map bl) size := ⟨_, rfl⟩
  have HV := hide hV
  rw [← hV]
  clear hV
  have HR := hide hr
  have HK := hide hk
  have HLL := hide (show (L.map bl).length = L.length by rw [List.length_map])
  clear hr hk
  unfold maxLen at hl
  obtain ⟨m, hm⟩ : ∃ m, m = L.length := ⟨_, rfl⟩
  have HM := hide hm
  rw [← hm] at hl ⊢
  clear hm
  by_cases hin : 1 ≤ size ∧ size ≤ 64
  · obtain ⟨h1, h2⟩ := hin
    obtain ⟨z, rfl⟩ : ∃ z : Nat, size = z := ⟨size.toNat, by omega⟩
    by_cases hmk : m ≤ 60
    · have HV2 := hide (show V = bloomL (8 * z) (List.replicate z 0) (L.map bl) by
        rw [HV.out]
        exact bloomV_yes' ⟨by omega, by omega, by rw [HLL.out, ← HM.out]; exact hmk⟩)
      obtain ⟨n, hn⟩ : ∃ n, 8 * z = n := ⟨_, rfl⟩
      rw [hn] at HV2
      have HN := hide hn
      have HE := hide (fun W F k (hF : F.length = z) (Ws : List Nat) (hs : Same Ws F) (hw : WordsIn W w.heap.size Ws) (hk : k.size ≤ 1048576) (hb : Below w.heap.size w W) (hlt : w.heap.size < W.heap.size) =>
        each1_any (.pointer (some ⟨w.heap.size, 0, none⟩)) (OfP w.heap.size W F (bl k) n) k z n W hk (by omega) (by omega) hn (by omega) (hide (hT.out.below hb h0))
          (fun W' hb' => ⟨Ws, hs, BoxV.below hw hb' hlt, ⟨hb'.os, hb'.tape, hb'.output, hb'.size, fun i hi _ => hb'.block i hi⟩⟩)
          (fun i W' _ h => h.step hF (by omega) (by omega) hn))
      clear hn
      go_enter Tryd.func8, Tryd.ntmps8
      go_wp2_with fail
      refine (sizeOk_yes _ _ (by omega)).mono ?_
      rintro e w1 ⟨rfl, rfl⟩
      go_wp2_with fail
      go_loopw [7, 18] (fun _ i wr => ∃ j : Nat, i = .int .i64 j ∧ j ≤ m ∧ Hid (∃ Ws, Same Ws (bloomL n (List.replicate z 0) ((L.take j).map bl)) ∧ WordsIn wr w.heap.size Ws) ∧ Hid (Below w.heap.size w wr) ∧ w.heap.size < wr.heap.size) (fun _ i _ => m - (intOf i).toNat)
      case atStart => exact ⟨0, rfl, by omega, ⟨_, Same.zero z, BoxV.new _ _ _⟩, (Below.refl _ _).alloc (Nat.le_refl _) _, by simp⟩
      case round =>
        obtain ⟨j, rfl, hj, HH, HB, hsz⟩ := hrel
        by_cases hlt : j < m
        · have hjL : j < L.length := by rw [← HM.out]; exact hlt
          obtain ⟨b, off, rfl, hb, hcell⟩ := HR.out.str (by omega)
          have d0 := (HB.out.cell (p := ⟨b, off + j, none⟩) hb).trans (hcell j hjL)
          have hkj := HK.out L[j] (List.getElem_mem hjL)
          obtain ⟨Ws, hs, hw⟩ := HH.out
          obtain ⟨F, hF⟩ : ∃ F, F = bloomL n (List.replicate z 0) ((L.take j).map bl) := ⟨_, rfl⟩
          have hFl : F.length = z := by rw [hF, length_bloomL, List.length_replicate]
          have HF' := hide (show addK n F (bl L[j]) = bloomL n (List.replicate z 0) ((L.take (j + 1)).map bl) by
            rw [hF, List.take_succ_eq_append_getElem hjL, List.map_append, List.map_singleton, bloomL_snoc])
          rw [← hF] at hs
          have HEj := hide (HE.out wr F L[j] hFl Ws hs hw hkj HB.out hsz)
          generalize L[j] = k at *
          clear hcell hF hjL hs hw hFl
          go_wp2_with fail
          refine HEj.out.mono ?_
          rintro e w1 ⟨rfl, Ws1, hs1, hw1, ho1⟩
          have HH1 := hide (show ∃ Ws, Same Ws (bloomL n (List.replicate z 0) ((L.take (j + 1)).map bl)) ∧ WordsIn w1 w.heap.size Ws from ⟨Ws1, by rw [← HF'.out, ← partK_three]; exact hs1, hw1⟩)
          have HB1 := hide (HB.out.trans (ho1.below (fun g e => by have := Option.some.inj e; omega) HB.out.size))
          have hsz1 : w.heap.size < w1.heap.size := by have := ho1.size; omega
          clear hs1 hw1 ho1 HB HH hsz d0
          go_wp2_with fail
          go_roundw
          case rel => exact ⟨j + 1, by go_num, by omega, HH1.out, HB1.out, hsz1⟩
          case measure => simp [intOf]; omega
        · have HJ := hide (show j = L.length by rw [← HM.out]; omega)
          have HVj := hide (show bloomL n (List.replicate z 0) ((L.take j).map bl) = V by rw [HV2.out, HJ.out, List.take_length])
          obtain ⟨Ws, hs, hw⟩ := HH.out
          rw [HVj.out] at hs
          obtain ⟨a0, a1, a2, a3, a4, a5, a6, a7, rfl⟩ := eight hs.1
          obtain ⟨c0, c1, c2, c3, c4, c5, c6, c7⟩ := hw.all
          have HVl := hide (show V.length = z by rw [HV2.out, length_bloomL, List.length_replicate])
          have HT := hide (text_any a0 a1 a2 a3 a4 a5 a6 a7 z V wr hs HVl.out (by omega))
          clear hs hw
          go_wp2_with fail
          refine HT.out.mono ?_
          rintro e w1 ⟨rfl, hb1⟩
          have HB1 := hide (HB.out.trans (hb1.mono HB.out.size))
          clear hb1
          go_wp2_with fail
          go_ret
          exact ⟨rfl, HB1.out⟩
    · have HVn := hide (show V = [] by
        rw [HV.out]
        exact bloomV_no' (fun h => hmk (by have := h.2.2; rw [HLL.out, ← HM.out] at this; exact this)))
      go_enter Tryd.func8, Tryd.ntmps8
      go_wp2_with fail
      refine (sizeOk_yes _ _ (by omega)).mono ?_
      rintro e w1 ⟨rfl, rfl⟩
      go_wp2_with fail
      go_ret
      exact ⟨by rw [HVn.out]; rfl, Below.refl _ _⟩
  · have HVn := hide (show V = [] by
      rw [HV.out]
      exact bloomV_no' (fun h => hin ⟨h.1, h.2.1⟩))
    go_enter Tryd.func8, Tryd.ntmps8
    go_wp2_with fail
    refine (sizeOk_no _ _ hin).mono ?_
    rintro e w1 ⟨rfl, rfl⟩
    go_wp2_with fail
    go_ret
    exact ⟨by rw [HVn.out]; rfl, Below.refl _ _⟩
end Go.Proofs.YtncfodifcgjicaaDoor
