/-
  Texts of this proof, put together: ChaV.
-/
import Derived.Test.YtakjjfbocokpaaaDoorPackAD
import Derived.Test.YtakjjfbocokpaaaDoorPackAN
import Derived.StillTailTactics
import Derived.Deep.DeepCutAuto

/-
  Contract of impl.ChaStream.
-/
namespace Go.Proofs.YtakjjfbocokpaaaDoor
open Go.ChangeShapes Go.WideShapes Go.ChangeAt Go.RowKit
set_option maxRecDepth 100000

set_option maxHeartbeats 4000000 in
theorem iStream (k n t : ByteArray) (c : Int) (w : World) (hc : -9223372036854775808 ≤ c ∧ c ≤ 9223372036854775807) (hm : t.size ≤ 1048576) :
    Calls Tryd.prog 50 #[.string k, .int .i64 c, .string n, .string t] w (StrPost w (streamV (bl k) c (bl n) (bl t))) := by
  have hmk := run_make8 t.size (by omega) w
  obtain ⟨V, hV⟩ : ∃ V, V = streamV (bl k) c (bl n) (bl t) := ⟨_, rfl⟩
  obtain ⟨S, hS⟩ : ∃ S, S = strL (bl k) c (bl n) (bl t) := ⟨_, rfl⟩
  have HS := hide hS
  have HL := hide (show S.length = t.size by rw [hS, length_strL, bl_len])
  have HY := hide (show StrOk (bl k) c (bl n) (bl t) → V = S from fun h => by rw [hV, streamV, if_pos h, hS])
  have HN := hide (show ¬ StrOk (bl k) c (bl n) (bl t) → V = [] from fun h => by rw [hV, streamV, if_neg h])
  rw [← hV]
  clear hV hS
  go_enter Tryd.func50, Tryd.ntmps50
  go_upto_region 2 with (fail)
  clear hmk
  go_cut [22, 23] from 17 (fun s22 s23 wc => ∃ N : Nat, 0 < N ∧ t.size ≤ 64 * N ∧ (N = 1 ∨ 64 * (N - 1) < t.size) ∧ s22 = .int .i64 N ∧ s23 = .int .i64 0 ∧ wc = w.alloc (.cells (byteVals (List.replicate t.size 0)).toArray 5))
  case first =>
    go_wp2_with fail
    all_goals go_meet
    all_goals first
      | exact ⟨(t.size + 63) / 64, by omega, by omega, by omega, by congr 1; omega, rfl, rfl⟩
      | exact ⟨1, by omega, by omega, by omega, rfl, rfl, rfl⟩
  case rest =>
    obtain ⟨N, hN0, hN1, hN2, rfl, rfl, rfl⟩ := hcut
    go_wp2_with fail
    go_loopw [10, 11, 12, 13, 23] (fun _ _ _ _ i wr => ∃ j : Nat, j ≤ N ∧ i = .int .i64 j ∧ Hid (∀ i', i' < j → BlockOk (bl k) (c + (i' : Nat)) (bl n)) ∧ Hid (Holds8 5 wr w.heap.size (rowOf S (min (64 * j) t.size))) ∧ Hid (Below w.heap.size w wr) ∧ w.heap.size < wr.heap.size)
      (fun _ _ _ _ i _ => N - (intOf i).toNat)
    case atStart =>
      refine ⟨0, Nat.zero_le _, rfl, fun i' h => by omega, ?_, (Below.refl _ _).alloc (Nat.le_refl _) _, by simp⟩
      show Holds8 _ _ _ _
      rw [Nat.mul_zero, Nat.zero_min, rowOf_zero, HL.out]
      exact Holds8.new _ _ _
    case round =>
      obtain ⟨j, hj, rfl, HA, HR, HB, hsz⟩ := hrel
      by_cases hlt : j < N
      · have hj0 : j = 0 ∨ (0 ≤ c ∧ c ≤ 4294967295) := by
          rcases Nat.eq_zero_or_pos j with h | h
          · exact Or.inl h
          · have := HA.out 0 h
            rw [show c + ((0 : Nat) : Int) = c by omega] at this
            exact Or.inr this.2.2
        have hw1 : -9223372036854775808 ≤ c + (j : Int) := by omega
        have hw2 : c + (j : Int) ≤ 9223372036854775807 := by omega
        clear hj0
        go_wp2_with fail
        refine (iBlock_any k n (c + j) _).mono ?_
        rintro e w1 ⟨rfl, hb1⟩
        have HR1 := hide (HR.out.below hb1 hsz)
        have HB1 := hide (HB.out.trans (hb1.mono (by omega)))
        have hs1 : w.heap.size < w1.heap.size := by have := hb1.size; omega
        clear hb1 HR HB hsz
        by_cases hok : BlockOk (bl k) (c + (j : Nat)) (bl n)
        · have HA1 := hide (show ∀ i', i' < j + 1 → BlockOk (bl k) (c + (i' : Nat)) (bl n) from fun i' hi' => by
            rcases Nat.lt_or_ge i' j with h | h
            · exact HA.out i' h
            · rw [show i' = j by omega]; exact hok)
          have hB0 : 0 ≤ c := by
            have := HA1.out 0 (by omega)
            rw [show c + ((0 : Nat) : Int) = c by omega] at this
            exact this.2.2.1
          obtain ⟨B, hB⟩ : ∃ B, B = blockV (bl k) (c + (j : Nat)) (bl n) := ⟨_, rfl⟩
          rw [← hB]
          rw [blockV, if_pos hok, show (c + (j : Nat)).toNat = c.toNat + j by omega] at hB
          have HBl := hide (show B.length = 64 by rw [hB, length_chaB])
          have HBe := hide hB
          clear hB hok hB0 HA
          have hBn : B.isEmpty = false := by
            have := HBl.out
            cases B
            · cases this
            · rfl
          obtain ⟨M, hM0, hM1⟩ : ∃ M : Nat, 64 * j + M = min (64 * (j + 1)) t.size ∧ (((M : Int) = 64 ∧ (64 : Int) * j + 64 ≤ t.size) ∨ ((M : Int) = t.size - 64 * j ∧ (t.size : Int) < 64 * j + 64)) := by
            rcases Nat.lt_or_ge t.size (64 * j + 64) with h | h
            · exact ⟨t.size - 64 * j, by omega, Or.inr ⟨by omega, by omega⟩⟩
            · exact ⟨64, by omega, Or.inl ⟨rfl, by omega⟩⟩
          have hM2 : M ≤ 64 := by omega
          have hM3 : 64 * j + M ≤ t.size := by omega
          have HM0 := hide hM0
          have HR2 : Hid (Holds8 5 w1 w.heap.size (rowOf S (64 * j + 0))) := by
            have := HR1.out
            rwa [show min (64 * j) t.size = 64 * j + 0 by omega] at this
          clear hM0 HR1
          rcases hM1 with ⟨hM1, hM4⟩ | ⟨hM1, hM4⟩
          all_goals
            go_wp2_with fail
            go_loopw [13, 41] (fun _ i wq => ∃ q : Nat, q ≤ M ∧ i = .int .i64 q ∧ Hid (Holds8 5 wq w.heap.size (rowOf S (64 * j + q))) ∧ Hid (Below w.heap.size w wq) ∧ w.heap.size < wq.heap.size) (fun _ i _ => M - (intOf i).toNat)
            case atStart => exact ⟨0, Nat.zero_le _, rfl, HR2, HB1, hs1⟩
            case round =>
              obtain ⟨q, hq, rfl, HR, HB, hsz⟩ := hrel
              by_cases hqlt : q < M
              · go_wp2_with fail
                obtain ⟨p, hp⟩ : ∃ p, p = 64 * j + q := ⟨_, rfl⟩
                have e1 : IntKind.i64.wrap (64 * (j : Int) + (q : Int)) = (p : Int) := by rw [IntKind.wrap_i64]; omega
                have hpt : p < t.size := by omega
                have hqB : q < B.length := by rw [HBl.out]; omega
                have i1 : (p : Int) < (t.size : Int) := by omega
                have i2 : (q : Int) < (B.length : Int) := by omega
                have HC1 := hide (show p < (rowOf S (64 * j + q)).length by rw [length_rowOf _ _ (by rw [HL.out]; omega), HL.out]; exact hpt)
                obtain ⟨v1, c1⟩ : ∃ v, wr.cell? ⟨w.heap.size, p, none⟩ = some v := ⟨_, HR.out.cell p HC1.out⟩
                have f1 := HR.out.frozen p
                have x1 := u8_xor_byte (t[p]'hpt) (B[q]'hqB)
                have Hp := hide hp
                clear hp
                refine wp_region_still_tail 14 (by kernel_rfl) (by kernel_rfl) ?_
                simp only [List.take_succ_cons, List.take_zero, List.drop_succ_cons, List.drop_zero]
                iterate 14 still_step
                refine wpStill_nil ?_
                go_wp2_with fail
                go_roundw
                case rel =>
                  refine ⟨q + 1, by omega, by go_num, ?_, (HB.out.setCell (Nat.le_refl _) _).drew, by show w.heap.size < (World.setCell _ _ _).heap.size; rw [size_setCell]; exact hsz⟩
                  have hpS : p < S.length := by rw [HL.out]; exact hpt
                  have hb : S[p] = (t[p]'hpt) ^^^ (B[q]'hqB) := by
                    have h1 := Hp.out
                    have h2 : S[p] = (strL (bl k) c (bl n) (bl t))[p]'(by rw [length_strL, bl_len]; exact hpt) := by congr 1
                    rw [h2, strL_at, strB, show p / 64 = j by omega, show p % 64 = q by omega, ← HBe.out]
                    rw [show (bl t).getD p 0 = t[p]'hpt by simp [List.getD, bl_len, hpt, bl_at t p hpt], show B.getD q 0 = B[q]'hqB by simp [List.getD, hqB]]
                  have h3 := HR.out.set p S[p] (bits .xor .u8 ((t[p]'hpt).toNat : Int) ((B[q]'hqB).toNat : Int)) (by rw [x1, hb])
                  have h4 : Hid (64 * j + q = p) := Hp.out.symm
                  rw [h4.out, rowOf_set S p hpS] at h3
                  rw [show 64 * j + (q + 1) = p + 1 by have := h4.out; omega]
                  exact h3
                case measure => simp [intOf]; omega
              · rw [show 64 * j + q = min (64 * (j + 1)) t.size by have := HM0.out; omega] at HR
                go_wp2_with fail
                go_roundw
                case rel => exact ⟨j + 1, by omega, by go_num, HA1, HR, HB, hsz⟩
                case measure => simp [intOf]; omega
        · rw [(blockV_nil _ _ _).2 hok]
          have HK := hide (HN.out fun h => hok (strOk_blocks h j (by rw [bl_len]; omega)))
          clear hok
          go_wp2_with fail
          go_ret
          exact ⟨by rw [HK.out]; rfl, HB1.out⟩
      · have eN : j = N := by omega
        rw [eN] at HA HR
        have HK := hide (HY.out (strOk_of N HA.out hN0 (by rw [bl_len]; exact hN1)))
        rw [show min (64 * N) t.size = S.length by rw [HL.out]; omega, rowOf_all] at HR
        have hcv := run_convTake w.heap.size t.size t.size _ S wr HR.out HL.out (by rw [← HL.out, List.take_length])
        clear eN
        go_wp2_with fail
        go_ret
        exact ⟨by rw [HK.out]; rfl, HB.out⟩
end Go.Proofs.YtakjjfbocokpaaaDoor
