/-
  Texts of this proof, put together: ChaX.
-/
import Derived.Test.YtakjjfbocokpaaaDoorPackAD
import Derived.Test.YtakjjfbocokpaaaDoorPackAN
import Derived.Test.YtakjjfbocokpaaaDoorPackAE
import Derived.Deep.RegionLaw
import Derived.Deep.DeepMust

/-
  Contract of spec.ChaStream.
-/
namespace Go.Proofs.YtakjjfbocokpaaaDoor
open Go.ChangeShapes Go.WideShapes Go.ChangeAt Go.RowKit
set_option maxRecDepth 100000

theorem Owns8.keep {B : Nat} {w w' : World} {v : Value} {l : List UInt8} (h : Owns8 B w v l) (hb : Below w.heap.size w w') : Owns8 B w' v l := by
  obtain ⟨hl, ⟨rfl, h0⟩ | ⟨g, cap, cur, rfl, hg, hh, r⟩⟩ := h
  · exact ⟨hl, Or.inl ⟨rfl, h0⟩⟩
  · refine ⟨hl, Or.inr ⟨g, cap, cur, rfl, hg, ?_, r⟩⟩
    rw [hb.block g (Array.getElem?_eq_some_iff.1 hh).1]; exact hh
theorem isEmpty64 (B : List UInt8) (h : B.length = 64) : B.isEmpty = false := by
  cases B
  · cases h
  · rfl

set_option maxHeartbeats 4000000 in
theorem sStream (k n t : ByteArray) (c : Int) (w : World) (hc : -9223372036854775808 ≤ c ∧ c ≤ 9223372036854775807) (hm : t.size ≤ 1048576) :
    Calls Tryd.prog 53 #[.string k, .int .i64 c, .string n, .string t] w (StrPost w (streamV (bl k) c (bl n) (bl t))) := by
  obtain ⟨V, hV⟩ : ∃ V, V = streamV (bl k) c (bl n) (bl t) := ⟨_, rfl⟩
  obtain ⟨S, hS⟩ : ∃ S, S = strL (bl k) c (bl n) (bl t) := ⟨_, rfl⟩
  have HS := hide hS
  have HL := hide (show S.length = t.size by rw [hS, length_strL, bl_len])
  have HY := hide (show StrOk (bl k) c (bl n) (bl t) → V = S from fun h => by rw [hV, streamV, if_pos h, hS])
  have HN := hide (show ¬ StrOk (bl k) c (bl n) (bl t) → V = [] from fun h => by rw [hV, streamV, if_neg h])
  rw [← hV]
  clear hV hS
  go_enter Tryd.func53, Tryd.ntmps53
  go_wp2_with fail
  refine (sBlock_any k n c _).mono ?_
  rintro e w1 ⟨rfl, hb1⟩
  have HO1 := hide ((Owns8.lit w.heap.size w [] (Nat.le_refl _) (by decide)).keep hb1)
  have HB1 := hide (((Below.refl _ w).alloc (Nat.le_refl _) _).trans (hb1.mono (by rw [Go.Deep.nblk_alloc]; omega)))
  have hs1 : w.heap.size ≤ w1.heap.size := HB1.out.size
  clear hb1
  by_cases hok : BlockOk (bl k) c (bl n)
  · obtain ⟨hc0, hc1⟩ := hok.2.2
    obtain ⟨B, hB⟩ : ∃ B, B = blockV (bl k) c (bl n) := ⟨_, rfl⟩
    rw [← hB]
    rw [blockV, if_pos hok] at hB
    have hBn := isEmpty64 B (by rw [hB, length_chaB])
    have HO0 := hide hok
    clear hB hok
    go_wp2_with fail
    go_loopw [9, 10, 11, 12] (fun v a _ _ wr => ∃ j : Nat, 64 * j < t.size + 64 ∧ a = .int .i64 (64 * (j : Int)) ∧ Hid (∀ i', i' < j → BlockOk (bl k) (c + (i' : Nat)) (bl n)) ∧ Hid (Owns8 w.heap.size wr v (S.take (64 * j))) ∧ Hid (Below w.heap.size w wr) ∧ w.heap.size ≤ wr.heap.size)
      (fun _ a _ _ _ => t.size + 64 - (intOf a).toNat)
    case atStart => exact ⟨0, by omega, rfl, fun i' h => by omega, HO1, HB1, hs1⟩
    case round =>
      obtain ⟨j, hj, rfl, HA, HO, HB, hsz⟩ := hrel
      by_cases hlt : (64 : Int) * j < t.size
      · go_wp2_with fail
        refine (sBlock_any k n (c + j) _).mono ?_
        rintro e w2 ⟨rfl, hb2⟩
        have HO2 := hide (HO.out.keep hb2)
        have HB2 := hide (HB.out.trans (hb2.mono hsz))
        have hs2 : w.heap.size ≤ w2.heap.size := HB2.out.size
        clear hb2 HO HB hsz
        by_cases hok : BlockOk (bl k) (c + (j : Nat)) (bl n)
        · have HA1 := hide (show ∀ i', i' < j + 1 → BlockOk (bl k) (c + (i' : Nat)) (bl n) from fun i' hi' => by
            rcases Nat.lt_or_ge i' j with h | h
            · exact HA.out i' h
            · rw [show i' = j by omega]; exact hok)
          obtain ⟨B2, hB⟩ : ∃ B, B = blockV (bl k) (c + (j : Nat)) (bl n) := ⟨_, rfl⟩
          rw [← hB]
          rw [blockV, if_pos hok, show (c + (j : Nat)).toNat = c.toNat + j by omega] at hB
          have HBl := hide (show B2.length = 64 by rw [hB, length_chaB])
          have hBn2 := isEmpty64 B2 HBl.out
          have HBe := hide hB
          clear hB hok HA
          go_wp2_with fail
          go_loopw [9, 12] (fun v i wr => ∃ p q : Nat, Hid (p = 64 * j + q) ∧ q ≤ 64 ∧ p ≤ t.size ∧ i = .int .i64 (p : Int) ∧ Hid (Owns8 w.heap.size wr v (S.take p)) ∧ Hid (Below w.heap.size w wr) ∧ w.heap.size ≤ wr.heap.size)
            (fun _ i _ => t.size - (intOf i).toNat)
          case atStart => exact ⟨64 * j, 0, rfl, by omega, by omega, by go_num, HO2, HB2, hs2⟩
          case round =>
            obtain ⟨p, q, HP, hq, hqt, rfl, HO, HB, hsz⟩ := hrel
            by_cases hin : p < t.size ∧ q < 64
            · obtain ⟨hin1, hin2⟩ := hin
              have i1 : (p : Int) < (t.size : Int) := by omega
              have i2 : (p : Int) < 64 * (j : Int) + 64 := by have := HP.out; omega
              go_wp2_with fail
              have es : IntKind.i64.wrap ((p : Int) - 64 * (j : Int)) = (q : Int) := by have := HP.out; rw [IntKind.wrap_i64]; omega
              have hqB : q < B2.length := by rw [HBl.out]; omega
              have i3 : (q : Int) < (B2.length : Int) := by omega
              have hpS : p < S.length := by rw [HL.out]; exact hin1
              have hb : S[p] = (t[p]'hin1) ^^^ (B2[q]'hqB) := by
                have h1 := HP.out
                have h2 : S[p] = (strL (bl k) c (bl n) (bl t))[p]'(by rw [length_strL, bl_len]; exact hin1) := by congr 1
                rw [h2, strL_at, strB, show p / 64 = j by omega, show p % 64 = q by omega, ← HBe.out]
                rw [show (bl t).getD p 0 = t[p]'hin1 by simp [List.getD, bl_len, hin1, bl_at t p hin1], show B2.getD q 0 = B2[q]'hqB by simp [List.getD, hqB]]
              have C1 : Hid (#[Value.int .u8 (bits .xor .u8 ((t[p]'hin1).toNat : Int) (((ByteArray.mk B2.toArray)[q]'hqB).toNat : Int))] = (byteVals [S[p]]).toArray) := by
                show _ = _
                rw [hb, byteVals, show (ByteArray.mk B2.toArray)[q]'hqB = B2[q]'hqB from rfl, u8_xor_byte]
                rfl
              have hl : (S.take p).length + 1 ≤ 1099511627776 := by rw [List.length_take]; omega
              have HT := hide (show S.take (p + 1) = S.take p ++ [S[p]] from List.take_succ_eq_append_getElem hpS)
              generalize S[p] = sb at C1 HT
              clear hb hpS
              go_region_law (refine step_append8 rfl (.tmp 47) (.tmp 57) rfl w.heap.size w wr _ (S.take p) [sb] 1 _ rfl rfl HO HB hsz C1.out rfl hl ?_; intro v' w' HO' HB' hsz')
              all_goals
                go_wp2_with fail
                go_roundw
                case rel => exact ⟨p + 1, q + 1, by show _ = _; rw [HP.out]; rfl, by omega, by omega, by go_num, by rw [HT.out]; exact HO', HB', by omega⟩
                case measure => simp [intOf]; omega
            · have HTk := hide (show S.take p = S.take (64 * (j + 1)) by
                have h1 := HP.out
                have h2 := HL.out
                rcases Nat.lt_or_ge p t.size with h | h
                · rw [show p = 64 * (j + 1) by omega]
                · rw [List.take_of_length_le (by omega), List.take_of_length_le (by omega)])
              rw [HTk.out] at HO
              by_cases hpt : p < t.size
              · have i1 : (p : Int) < (t.size : Int) := by omega
                have i2 : decide ((p : Int) < 64 * (j : Int) + 64) = false := by have := HP.out; simp; omega
                clear hin HTk
                go_wp2_with fail
                go_roundw
                case rel => exact ⟨j + 1, by omega, by go_num, HA1, HO, HB, hsz⟩
                case measure => simp [intOf]; omega
              · have i1 : decide ((p : Int) < (t.size : Int)) = false := by simp; omega
                clear hin HTk
                go_wp2_with fail
                go_roundw
                case rel => exact ⟨j + 1, by omega, by go_num, HA1, HO, HB, hsz⟩
                case measure => simp [intOf]; omega
        · rw [(blockV_nil _ _ _).2 hok]
          have HK := hide (HN.out fun h => hok (strOk_blocks h j (by rw [bl_len]; omega)))
          clear hok
          go_wp2_with fail
          go_ret
          exact ⟨by rw [HK.out]; rfl, HB2.out⟩
      · rw [List.take_of_length_le (by rw [HL.out]; omega)] at HO
        have HK := hide (HY.out (by
          rcases Nat.eq_zero_or_pos j with h | h
          · refine ⟨HO0.out, ?_⟩
            rw [bl_len, show (t.size - 1) / 64 = 0 by omega, show c + ((0 : Nat) : Int) = c by omega]
            exact HO0.out
          · exact strOk_of j HA.out h (by rw [bl_len]; omega)))
        have hcv := run_convOwn w.heap.size wr _ _ HO.out
        go_wp2_with fail
        go_ret
        exact ⟨by rw [HK.out]; rfl, HB.out⟩
  · rw [(blockV_nil _ _ _).2 hok]
    have HK := hide (HN.out fun h => hok h.1)
    clear hok
    go_wp2_with fail
    go_ret
    exact ⟨by rw [HK.out]; rfl, HB1.out⟩
end Go.Proofs.YtakjjfbocokpaaaDoor
