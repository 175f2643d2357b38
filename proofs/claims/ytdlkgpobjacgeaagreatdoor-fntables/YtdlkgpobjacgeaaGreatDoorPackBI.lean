/-
  Texts of this proof, put together: BlmU.
-/
import Derived.Test.YtdlkgpobjacgeaaGreatDoorPackBF
import Derived.Test.YtdlkgpobjacgeaaGreatDoorPackBH
import Derived.Test.YtdlkgpobjacgeaaGreatDoorPackAC

/-
  Contract of spec.BloomOf.
-/
namespace Go.Proofs.YtdlkgpobjacgeaaGreatDoor
open Go.ChangeShapes Go.WideShapes Go.ChangeAt Go.RowKit

theorem bloomV_yes {K : List (List UInt8)} {size : Nat} (h : 1 ≤ size ∧ size ≤ 64 ∧ K.length ≤ 60) : bloomV K (size : Int) = bloomL (8 * size) (List.replicate size 0) K := by
  unfold bloomV
  rw [if_pos (by omega), Int.toNat_natCast]
theorem bloomV_no {K : List (List UInt8)} {size : Int} (h : ¬ (1 ≤ size ∧ size ≤ 64 ∧ K.length ≤ 60)) : bloomV K size = [] := if_neg h

set_option maxHeartbeats 4000000 in
set_option maxRecDepth 20000 in
theorem sBloom_any (a : Option Addr) (cap : Nat) (L : List ByteArray) (size : Int) (w : World) (hr : elStr.Rd w w.heap.size a L) (hl : L.length ≤ maxLen) (hk : ∀ x ∈ L, x.size ≤ 1048576) :
    Calls Tryz.prog 69 #[.slice a L.length cap, .int .i64 size] w (StrPost w (bloomV (L.map bl) size)) := by
  obtain ⟨V, hV⟩ : ∃ V, V = bloomV (L.map bl) size := ⟨_, rfl⟩
  have HV := hide hV
  rw [← hV]
  clear hV
  have HR := hide hr
  have HK := hide hk
  have HLL := hide (show (L.map bl).length = L.length by rw [List.length_map])
  clear hr hk
  unfold maxLen at hl
  obtain ⟨m, hm⟩ : ∃ m, m = L.length := ⟨_, rfl⟩
  have HM := hide hm
  rw [← hm] at hl ⊢
  clear hm
  by_cases hin : 1 ≤ size ∧ size ≤ 64
  · obtain ⟨h1, h2⟩ := hin
    obtain ⟨z, rfl⟩ : ∃ z : Nat, size = z := ⟨size.toNat, by omega⟩
    by_cases hmk : m ≤ 60
    · have HV2 := hide (show V = bloomL (8 * z) (List.replicate z 0) (L.map bl) by
        rw [HV.out]
        exact bloomV_yes ⟨by omega, by omega, by rw [HLL.out, ← HM.out]; exact hmk⟩)
      obtain ⟨n, hn⟩ : ∃ n, 8 * z = n := ⟨_, rfl⟩
      rw [hn] at HV2
      have HN := hide hn
      have HB3 := hide (fun W k (hk : k.size ≤ 1048576) => l10Bits_any k z n W hk (by omega) (by omega) hn)
      have hmk8 := run_make8 z (by omega) w
      clear hn
      go_enter Tryz.func69, Tryz.ntmps69
      go_wp2_with fail
      refine (in_yes _ _ _ _ (by omega) (by omega)).mono ?_
      rintro e w1 ⟨rfl, rfl⟩
      go_wp2_with fail
      clear hmk8
      go_loopw [6, 7, 8] (fun i _ _ wr => ∃ j : Nat, i = .int .i64 j ∧ j ≤ m ∧ Hid (Holds8 5 wr w.heap.size (bloomL n (List.replicate z 0) ((L.take j).map bl))) ∧ Hid (Below w.heap.size w wr) ∧ w.heap.size < wr.heap.size) (fun i _ _ _ => m - (intOf i).toNat)
      case atStart => exact ⟨0, rfl, by omega, Holds8.new _ _ _, (Below.refl _ _).alloc (Nat.le_refl _) _, by simp⟩
      case round =>
        obtain ⟨j, rfl, hj, HH, HB, hsz⟩ := hrel
        by_cases hlt : j < m
        · have hjL : j < L.length := by rw [← HM.out]; exact hlt
          obtain ⟨b, off, rfl, hb, hcell⟩ := HR.out.str (by omega)
          have d0 := (HB.out.cell (p := ⟨b, off + j, none⟩) hb).trans (hcell j hjL)
          have hkj := HK.out L[j] (List.getElem_mem hjL)
          obtain ⟨F, hF⟩ : ∃ F, F = bloomL n (List.replicate z 0) ((L.take j).map bl) := ⟨_, rfl⟩
          have HFl := hide (show F.length = z by rw [hF, length_bloomL, List.length_replicate])
          have HF' := hide (show addK n F (bl L[j]) = bloomL n (List.replicate z 0) ((L.take (j + 1)).map bl) by
            rw [hF, List.take_succ_eq_append_getElem hjL, List.map_append, List.map_singleton, bloomL_snoc])
          rw [← hF] at HH
          generalize L[j] = k at *
          clear hcell hF hjL
          go_wp2_with fail
          refine (HB3.out _ k hkj).mono ?_
          rintro e w1 ⟨g, rfl, hg0, hg1, hcell, hb1⟩
          have HC := hide hcell
          have HH1 := hide (HH.out.below hb1 hsz)
          have HB1 := hide (HB.out.trans (hb1.mono HB.out.size))
          have hs1 := hb1.size
          clear hcell hb1 HH HB d0
          go_wp2_with fail
          go_loopw [8] (fun i wx => ∃ q : Nat, i = .int .i64 q ∧ q ≤ 3 ∧ Hid (Holds8 5 wx w.heap.size (partK n F (bl k) q)) ∧ Hid (Only (some w.heap.size) w1 wx)) (fun i _ => 3 - (intOf i).toNat)
          case atStart => exact ⟨0, rfl, by omega, HH1.out, Only.refl _ _⟩
          case round =>
            obtain ⟨t, rfl, ht, HH2, HO⟩ := hrel
            by_cases hlt3 : t < 3
            · have c0 := World.grownBy.cell HO.out (HC.out t hlt3) (by simp; omega)
              obtain ⟨q, hq⟩ : ∃ q, q = kbit (bl k) n t := ⟨_, rfl⟩
              have hqn : q < n := by rw [hq]; exact kbit_lt _ _ _ (by have := HN.out; omega)
              rw [← hq] at c0
              have HS := hide (show setOn (partK n F (bl k) t) q = partK n F (bl k) (t + 1) by rw [hq]; rfl)
              have hGl : (partK n F (bl k) t).length = z := by rw [length_partK, HFl.out]
              generalize partK n F (bl k) t = G at *
              have HQ := hide hq
              clear hq
              have hn := HN.out
              obtain ⟨p, hp⟩ : ∃ p, p = q / 8 := ⟨_, rfl⟩
              obtain ⟨r, hr⟩ : ∃ r, r = q % 8 := ⟨_, rfl⟩
              have hpb : p < z := by omega
              have hr8 : r < 8 := by omega
              have hpG : p < G.length := by rw [hGl]; exact hpb
              have e1 : IntKind.i64.wrap ((q : Int) / 8) = (p : Int) := by rw [IntKind.wrap_i64]; omega
              have e2 : (q : Int).tmod 8 = (r : Int) := by rw [Int.tmod_eq_emod_of_nonneg (by omega)]; omega
              have e3 : IntKind.u64.wrap (r : Int) = (r : Int) := by simp [IntKind.wrap, IntKind.bits, IntKind.signed]; omega
              have c1 := HH2.out.cell p hpG
              have f1 := HH2.out.frozen p
              have hp2 := pow8 r hr8
              have e4 : IntKind.u8.wrap (2 ^ r : Int) = ((2 ^ r : Nat) : Int) := by
                have h2 : ((2 : Int) ^ r) = ((2 ^ r : Nat) : Int) := by rw [Int.natCast_pow]; rfl
                rw [IntKind.wrap_u8', h2]
                generalize 2 ^ r = pw at *
                omega
              have e5 := or_byte G[p] r hr8
              rw [show ((2 ^ r : Nat) : Int) = 2 ^ r by rw [Int.natCast_pow]; rfl] at e4 e5
              have hset : setOn G q = G.set p (G[p] ||| UInt8.ofNat (2 ^ r)) := by
                subst hp hr
                exact setOn_at hpG
              have hH3 := HH2.out.set p (G[p] ||| UInt8.ofNat (2 ^ r)) _ rfl
              rw [← hset, HS.out] at hH3
              have HH3 := hide hH3
              have HO3 := hide (HO.out.trans (Only.set w.heap.size p wr (.int .u8 ((G[p] ||| UInt8.ofNat (2 ^ r)).toNat : Int))))
              generalize G[p] ||| UInt8.ofNat (2 ^ r) = y at *
              generalize G[p] = x at *
              have i1 : (p : Int) < (z : Int) := by omega
              clear hp hr hn hset hH3 hpG
              go_wp2_with fail
              go_still_tail 23, (by kernel_rfl)
              change wpList _ _ _ _ _ wr.drew
              go_wp2_with fail
              go_roundw
              case rel => exact ⟨t + 1, by go_num, by omega, HH3.out, HO3.out.drew⟩
              case measure => simp [intOf]; omega
            · have HT := hide (show t = 3 by omega)
              go_wp2_with fail
              go_roundw
              case rel =>
                refine ⟨j + 1, by go_num, by omega, ?_, HB1.out.trans (HO.out.below (fun g e => by injection e with e; omega) (by omega)), by have := HO.out.size; omega⟩
                show Holds8 _ _ _ _
                rw [← HF'.out, ← partK_three, ← HT.out]
                exact HH2.out
              case measure => simp [intOf]; omega
        · have HJ := hide (show j = L.length by rw [← HM.out]; omega)
          have HVj := hide (show bloomL n (List.replicate z 0) ((L.take j).map bl) = V by rw [HV2.out, HJ.out, List.take_length])
          rw [HVj.out] at HH
          have hVl : V.length = z := by rw [HV2.out, length_bloomL, List.length_replicate]
          have hcv := run_convTake w.heap.size z z V V wr HH.out hVl (by rw [← hVl, List.take_length])
          clear hVl
          go_wp2_with fail
          go_ret
          exact ⟨rfl, HB.out⟩
    · have HVn := hide (show V = [] by
        rw [HV.out]
        exact bloomV_no (fun h => hmk (by have := h.2.2; rw [HLL.out, ← HM.out] at this; exact this)))
      go_enter Tryz.func69, Tryz.ntmps69
      go_wp2_with fail
      refine (in_yes _ _ _ _ (by omega) (by omega)).mono ?_
      rintro e w1 ⟨rfl, rfl⟩
      go_wp2_with fail
      go_ret
      exact ⟨by rw [HVn.out]; rfl, Below.refl _ _⟩
  · have HVn := hide (show V = [] by
      rw [HV.out]
      exact bloomV_no (fun h => hin ⟨h.1, h.2.1⟩))
    go_enter Tryz.func69, Tryz.ntmps69
    go_wp2_with fail
    refine (in_no _ _ _ _ (by omega)).mono ?_
    rintro e w1 ⟨rfl, rfl⟩
    go_wp2_with fail
    go_ret
    exact ⟨by rw [HVn.out]; rfl, Below.refl _ _⟩
end Go.Proofs.YtdlkgpobjacgeaaGreatDoor
