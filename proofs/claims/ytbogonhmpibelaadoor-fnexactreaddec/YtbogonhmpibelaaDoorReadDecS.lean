/-
  Contract of spec.ReadDec.
-/
import Derived.Test.YtbogonhmpibelaaDoorReadDecI
namespace Go.Proofs.YtbogonhmpibelaaDoor
open Go.ChangeShapes Go.WideShapes Go.ChangeAt Go.RowKit

theorem dcnt_take_le (l : List UInt8) (k : Nat) (h : k ≤ 11) : dcnt (l.take k) ≤ 11 := by
  have h1 := dcnt_le (l.take k)
  have h2 : (l.take k).length ≤ 11 := by rw [List.length_take]; omega
  omega
theorem dval_take_lt11 (l : List UInt8) : dval (l.take 11) 0 < 100000000000 := by
  have h1 := dval_lt (l.take 11) 0
  have h4 : 10 ^ dcnt (l.take 11) ≤ 10 ^ 11 := Nat.pow_le_pow_right (by omega) (dcnt_take_le l 11 (by omega))
  omega
theorem bl_head (s : ByteArray) (h : 0 < s.size) : (bl s).head? = some (s[0]'h) := by
  have hb : 0 < (bl s).length := by rw [bl_len]; exact h
  rw [List.head?_eq_getElem?, List.getElem?_eq_getElem hb, bl_at s 0 h hb]

set_option maxHeartbeats 8000000 in
set_option maxRecDepth 20000 in
theorem sReadDec_any (s : ByteArray) (w : World) (hs : s.size ≤ 281474976710656) :
    Calls Tryd.prog 19 #[.string s] w (RdPost w s) := by
  have HM := hide (RD.model (l := bl s))
  go_enter Tryd.func19, Tryd.ntmps19
  go_wp2
  go_loop [4, 5, 6] (fun n k i => ∃ j : Nat, j ≤ 11 ∧ j ≤ s.size ∧ i = .int .i64 j ∧ n = .int .i64 ((dval ((bl s).take j) 0 : Nat) : Int) ∧ k = .int .i64 ((dcnt ((bl s).take j) : Nat) : Int)) (fun _ _ i => 11 - (intOf i).toNat)
  case atStart => exact ⟨0, by omega, by omega, rfl, rfl, rfl⟩
  case round =>
    obtain ⟨j, hj, hjs, rfl, rfl, rfl⟩ := hrel
    by_cases hlt : j < s.size ∧ j < 11
    · obtain ⟨hl, hl11⟩ := hlt
      have hc : (s[j]'hl).toNat < 256 := (s[j]'hl).toNat_lt
      have hv := dval_take_lt (bl s) j (by omega)
      have hk := dcnt_take_le (bl s) j (by omega)
      have HV := hide (dval_snoc (s[j]'hl) ((bl s).take j) 0)
      have HC := hide (dcnt_snoc (s[j]'hl) ((bl s).take j))
      have HT := hide (bl_take s j hl)
      have d11 : decide ((j : Int) < 11) = true := decide_eq_true (by omega)
      by_cases hd : 48 ≤ (s[j]'hl).toNat ∧ (s[j]'hl).toNat ≤ 57
      · have hi : isDig (s[j]'hl) = true := by simpa [isDig] using hd
        rw [hi, if_pos rfl] at HV HC
        obtain ⟨hd1, hd2⟩ := hd
        clear hi
        go_wp2
        go_round
        case rel => exact ⟨j + 1, by omega, by omega, by go_num, by rw [HT.out, HV.out]; go_num, by rw [HT.out, HC.out]; go_num⟩
        case measure => simp [intOf]; omega
      · have hi : isDig (s[j]'hl) = false := by simpa [isDig] using hd
        rw [hi] at HV HC
        simp only [Bool.false_eq_true, if_false, Nat.add_zero] at HV HC
        clear hi
        by_cases hd1 : 48 ≤ (s[j]'hl).toNat
        · have hd2 : 57 < (s[j]'hl).toNat := by omega
          clear hd
          go_wp2
          go_round
          case rel => exact ⟨j + 1, by omega, by omega, by go_num, by rw [HT.out, HV.out], by rw [HT.out, HC.out]⟩
          case measure => simp [intOf]; omega
        · clear hd
          go_wp2
          go_round
          case rel => exact ⟨j + 1, by omega, by omega, by go_num, by rw [HT.out, HV.out], by rw [HT.out, HC.out]⟩
          case measure => simp [intOf]; omega
    · have HT := hide (show (bl s).take j = (bl s).take 11 by
        by_cases h : j = 11
        · rw [h]
        · rw [List.take_of_length_le (by rw [bl_len]; omega), List.take_of_length_le (by rw [bl_len]; omega)])
      rw [HT.out]
      have hv := dval_take_lt11 (bl s)
      have hk := dcnt_take_le (bl s) 11 (by omega)
      have HB := hide (dnum_bd (bl s))
      have HN : Hid (dnum (bl s) = if (bl s).head? = some 45 then -((dval ((bl s).take 11) 0 : Nat) : Int) else ((dval ((bl s).take 11) 0 : Nat) : Int)) := rfl
      obtain ⟨V, hV⟩ : ∃ V, V = dval ((bl s).take 11) 0 := ⟨_, rfl⟩
      obtain ⟨K, hK⟩ : ∃ K, K = dcnt ((bl s).take 11) := ⟨_, rfl⟩
      rw [← hV] at hv HN ⊢
      rw [← hK] at hk HM HB ⊢
      clear hV hK
      have hlt1 : ¬ ((j : Int) < (s.size : Int) ∧ (j : Int) < 11) := by omega
      have HLT := hide hlt1
      clear hlt hlt1
      have hjj : j = s.size ∨ j = 11 := by have := HLT.out; omega
      have dj : (decide ((j : Int) < (s.size : Int)) && decide ((j : Int) < 11)) = false := by simp; omega
      by_cases h0 : s.size = 0
      · rw [if_neg (by rw [show bl s = [] from List.eq_nil_of_length_eq_zero (by rw [bl_len]; exact h0)]; simp)] at HN
        have d0 : decide (0 < (s.size : Int)) = false := decide_eq_false (by omega)
        have hz : s.size ≤ 0 := by omega
        clear h0 hjj dj
        by_cases hK9 : 9 < K
        · have d9 : decide (9 < (K : Int)) = true := decide_eq_true (by omega)
          have HR := hide (HM.out.2 (by omega))
          clear hK9
          go_wp2
          go_ret2
          exact ⟨0, false, HR.out, rfl, Below.refl _ _⟩
        · have d9 : decide (9 < (K : Int)) = false := decide_eq_false (by omega)
          have hb9 := HB.out (by omega)
          rw [HN.out] at hb9
          have H0 := hide (show -9223372036854775808 ≤ (V : Int) by omega)
          have H1 := hide (show (V : Int) ≤ 9223372036854775807 by omega)
          clear hb9
          by_cases hL : 10 < s.size
          · have d10 : decide (10 < (s.size : Int)) = true := decide_eq_true (by omega)
            have HR := hide (HM.out.2 (by rw [bl_len]; omega))
            clear hK9 hL
            go_wp2
            go_ret2
            exact ⟨0, false, HR.out, rfl, Below.refl _ _⟩
          · have d10 : decide (10 < (s.size : Int)) = false := decide_eq_false (by omega)
            by_cases h3 : Lib.itoa ((V : Int)) = bl s
            · have HR := hide (HM.out.1 ⟨by omega, by rw [bl_len]; omega, by rw [HN.out]; exact h3⟩)
              rw [HN.out] at HR
              have hn : (Lib.itoa ((V : Int)) == s.toList) = true := by rw [ByteArray.toList_eq, beq_iff_eq]; exact h3
              clear hK9 hL h3
              go_wp2_with (go_at_call 18; refine (sDec_any ((V : Int)) H0.out H1.out _).mono ?_; rintro e w1 ⟨rfl, hb1⟩; have HB1 := hide hb1; clear hb1)
              go_ret2
              exact ⟨_, true, HR.out, rfl, HB1.out⟩
            · have HR := hide (HM.out.2 (fun h => h3 (by have := h.2.2; rw [HN.out] at this; exact this)))
              have hn : (Lib.itoa ((V : Int)) == s.toList) = false := by rw [ByteArray.toList_eq, beq_eq_false_iff_ne]; exact h3
              clear hK9 hL h3
              go_wp2_with (go_at_call 18; refine (sDec_any ((V : Int)) H0.out H1.out _).mono ?_; rintro e w1 ⟨rfl, hb1⟩; have HB1 := hide hb1; clear hb1)
              go_ret2
              exact ⟨0, false, HR.out, rfl, HB1.out⟩
      · have hp : 0 < s.size := by omega
        have d0 : decide (0 < (s.size : Int)) = true := decide_eq_true (by omega)
        clear h0
        by_cases hq : j < s.size
        · have dq : decide ((j : Int) < 11) = false := decide_eq_false (by omega)
          clear hjj dj
          by_cases hm : (s[0]'hp) = 45
          · rw [if_pos (by rw [bl_head s hp, hm])] at HN
            have he : (((s[0]'hp).toNat : Int) == 45) = true := by rw [hm]; rfl
            clear hm
            by_cases hK9 : 9 < K
            · have d9 : decide (9 < (K : Int)) = true := decide_eq_true (by omega)
              have HR := hide (HM.out.2 (by omega))
              clear hK9
              go_wp2
              go_ret2
              exact ⟨0, false, HR.out, rfl, Below.refl _ _⟩
            · have d9 : decide (9 < (K : Int)) = false := decide_eq_false (by omega)
              have hb9 := HB.out (by omega)
              rw [HN.out] at hb9
              have H0 := hide (show -9223372036854775808 ≤ -(V : Int) by omega)
              have H1 := hide (show -(V : Int) ≤ 9223372036854775807 by omega)
              clear hb9
              by_cases hL : 10 < s.size
              · have d10 : decide (10 < (s.size : Int)) = true := decide_eq_true (by omega)
                have HR := hide (HM.out.2 (by rw [bl_len]; omega))
                clear hK9 hL
                go_wp2
                go_ret2
                exact ⟨0, false, HR.out, rfl, Below.refl _ _⟩
              · have d10 : decide (10 < (s.size : Int)) = false := decide_eq_false (by omega)
                by_cases h3 : Lib.itoa (-(V : Int)) = bl s
                · have HR := hide (HM.out.1 ⟨by omega, by rw [bl_len]; omega, by rw [HN.out]; exact h3⟩)
                  rw [HN.out] at HR
                  have hn : (Lib.itoa (-(V : Int)) == s.toList) = true := by rw [ByteArray.toList_eq, beq_iff_eq]; exact h3
                  clear hK9 hL h3
                  go_wp2_with (go_at_call 18; refine (sDec_any (-(V : Int)) H0.out H1.out _).mono ?_; rintro e w1 ⟨rfl, hb1⟩; have HB1 := hide hb1; clear hb1)
                  go_ret2
                  exact ⟨_, true, HR.out, rfl, HB1.out⟩
                · have HR := hide (HM.out.2 (fun h => h3 (by have := h.2.2; rw [HN.out] at this; exact this)))
                  have hn : (Lib.itoa (-(V : Int)) == s.toList) = false := by rw [ByteArray.toList_eq, beq_eq_false_iff_ne]; exact h3
                  clear hK9 hL h3
                  go_wp2_with (go_at_call 18; refine (sDec_any (-(V : Int)) H0.out H1.out _).mono ?_; rintro e w1 ⟨rfl, hb1⟩; have HB1 := hide hb1; clear hb1)
                  go_ret2
                  exact ⟨0, false, HR.out, rfl, HB1.out⟩
          · rw [if_neg (by rw [bl_head s hp]; simpa using hm)] at HN
            have he : (((s[0]'hp).toNat : Int) == 45) = false := by
              rw [beq_eq_false_iff_ne]
              intro h
              exact hm (UInt8.toNat_inj.1 (by show _ = 45; omega))
            clear hm
            by_cases hK9 : 9 < K
            · have d9 : decide (9 < (K : Int)) = true := decide_eq_true (by omega)
              have HR := hide (HM.out.2 (by omega))
              clear hK9
              go_wp2
              go_ret2
              exact ⟨0, false, HR.out, rfl, Below.refl _ _⟩
            · have d9 : decide (9 < (K : Int)) = false := decide_eq_false (by omega)
              have hb9 := HB.out (by omega)
              rw [HN.out] at hb9
              have H0 := hide (show -9223372036854775808 ≤ (V : Int) by omega)
              have H1 := hide (show (V : Int) ≤ 9223372036854775807 by omega)
              clear hb9
              by_cases hL : 10 < s.size
              · have d10 : decide (10 < (s.size : Int)) = true := decide_eq_true (by omega)
                have HR := hide (HM.out.2 (by rw [bl_len]; omega))
                clear hK9 hL
                go_wp2
                go_ret2
                exact ⟨0, false, HR.out, rfl, Below.refl _ _⟩
              · have d10 : decide (10 < (s.size : Int)) = false := decide_eq_false (by omega)
                by_cases h3 : Lib.itoa ((V : Int)) = bl s
                · have HR := hide (HM.out.1 ⟨by omega, by rw [bl_len]; omega, by rw [HN.out]; exact h3⟩)
                  rw [HN.out] at HR
                  have hn : (Lib.itoa ((V : Int)) == s.toList) = true := by rw [ByteArray.toList_eq, beq_iff_eq]; exact h3
                  clear hK9 hL h3
                  go_wp2_with (go_at_call 18; refine (sDec_any ((V : Int)) H0.out H1.out _).mono ?_; rintro e w1 ⟨rfl, hb1⟩; have HB1 := hide hb1; clear hb1)
                  go_ret2
                  exact ⟨_, true, HR.out, rfl, HB1.out⟩
                · have HR := hide (HM.out.2 (fun h => h3 (by have := h.2.2; rw [HN.out] at this; exact this)))
                  have hn : (Lib.itoa ((V : Int)) == s.toList) = false := by rw [ByteArray.toList_eq, beq_eq_false_iff_ne]; exact h3
                  clear hK9 hL h3
                  go_wp2_with (go_at_call 18; refine (sDec_any ((V : Int)) H0.out H1.out _).mono ?_; rintro e w1 ⟨rfl, hb1⟩; have HB1 := hide hb1; clear hb1)
                  go_ret2
                  exact ⟨0, false, HR.out, rfl, HB1.out⟩
        · have dq : decide ((j : Int) < (s.size : Int)) = false := decide_eq_false (by omega)
          clear hjj dj
          by_cases hm : (s[0]'hp) = 45
          · rw [if_pos (by rw [bl_head s hp, hm])] at HN
            have he : (((s[0]'hp).toNat : Int) == 45) = true := by rw [hm]; rfl
            clear hm
            by_cases hK9 : 9 < K
            · have d9 : decide (9 < (K : Int)) = true := decide_eq_true (by omega)
              have HR := hide (HM.out.2 (by omega))
              clear hK9
              go_wp2
              go_ret2
              exact ⟨0, false, HR.out, rfl, Below.refl _ _⟩
            · have d9 : decide (9 < (K : Int)) = false := decide_eq_false (by omega)
              have hb9 := HB.out (by omega)
              rw [HN.out] at hb9
              have H0 := hide (show -9223372036854775808 ≤ -(V : Int) by omega)
              have H1 := hide (show -(V : Int) ≤ 9223372036854775807 by omega)
              clear hb9
              by_cases hL : 10 < s.size
              · have d10 : decide (10 < (s.size : Int)) = true := decide_eq_true (by omega)
                have HR := hide (HM.out.2 (by rw [bl_len]; omega))
                clear hK9 hL
                go_wp2
                go_ret2
                exact ⟨0, false, HR.out, rfl, Below.refl _ _⟩
              · have d10 : decide (10 < (s.size : Int)) = false := decide_eq_false (by omega)
                by_cases h3 : Lib.itoa (-(V : Int)) = bl s
                · have HR := hide (HM.out.1 ⟨by omega, by rw [bl_len]; omega, by rw [HN.out]; exact h3⟩)
                  rw [HN.out] at HR
                  have hn : (Lib.itoa (-(V : Int)) == s.toList) = true := by rw [ByteArray.toList_eq, beq_iff_eq]; exact h3
                  clear hK9 hL h3
                  go_wp2_with (go_at_call 18; refine (sDec_any (-(V : Int)) H0.out H1.out _).mono ?_; rintro e w1 ⟨rfl, hb1⟩; have HB1 := hide hb1; clear hb1)
                  go_ret2
                  exact ⟨_, true, HR.out, rfl, HB1.out⟩
                · have HR := hide (HM.out.2 (fun h => h3 (by have := h.2.2; rw [HN.out] at this; exact this)))
                  have hn : (Lib.itoa (-(V : Int)) == s.toList) = false := by rw [ByteArray.toList_eq, beq_eq_false_iff_ne]; exact h3
                  clear hK9 hL h3
                  go_wp2_with (go_at_call 18; refine (sDec_any (-(V : Int)) H0.out H1.out _).mono ?_; rintro e w1 ⟨rfl, hb1⟩; have HB1 := hide hb1; clear hb1)
                  go_ret2
                  exact ⟨0, false, HR.out, rfl, HB1.out⟩
          · rw [if_neg (by rw [bl_head s hp]; simpa using hm)] at HN
            have he : (((s[0]'hp).toNat : Int) == 45) = false := by
              rw [beq_eq_false_iff_ne]
              intro h
              exact hm (UInt8.toNat_inj.1 (by show _ = 45; omega))
            clear hm
            by_cases hK9 : 9 < K
            · have d9 : decide (9 < (K : Int)) = true := decide_eq_true (by omega)
              have HR := hide (HM.out.2 (by omega))
              clear hK9
              go_wp2
              go_ret2
              exact ⟨0, false, HR.out, rfl, Below.refl _ _⟩
            · have d9 : decide (9 < (K : Int)) = false := decide_eq_false (by omega)
              have hb9 := HB.out (by omega)
              rw [HN.out] at hb9
              have H0 := hide (show -9223372036854775808 ≤ (V : Int) by omega)
              have H1 := hide (show (V : Int) ≤ 9223372036854775807 by omega)
              clear hb9
              by_cases hL : 10 < s.size
              · have d10 : decide (10 < (s.size : Int)) = true := decide_eq_true (by omega)
                have HR := hide (HM.out.2 (by rw [bl_len]; omega))
                clear hK9 hL
                go_wp2
                go_ret2
                exact ⟨0, false, HR.out, rfl, Below.refl _ _⟩
              · have d10 : decide (10 < (s.size : Int)) = false := decide_eq_false (by omega)
                by_cases h3 : Lib.itoa ((V : Int)) = bl s
                · have HR := hide (HM.out.1 ⟨by omega, by rw [bl_len]; omega, by rw [HN.out]; exact h3⟩)
                  rw [HN.out] at HR
                  have hn : (Lib.itoa ((V : Int)) == s.toList) = true := by rw [ByteArray.toList_eq, beq_iff_eq]; exact h3
                  clear hK9 hL h3
                  go_wp2_with (go_at_call 18; refine (sDec_any ((V : Int)) H0.out H1.out _).mono ?_; rintro e w1 ⟨rfl, hb1⟩; have HB1 := hide hb1; clear hb1)
                  go_ret2
                  exact ⟨_, true, HR.out, rfl, HB1.out⟩
                · have HR := hide (HM.out.2 (fun h => h3 (by have := h.2.2; rw [HN.out] at this; exact this)))
                  have hn : (Lib.itoa ((V : Int)) == s.toList) = false := by rw [ByteArray.toList_eq, beq_eq_false_iff_ne]; exact h3
                  clear hK9 hL h3
                  go_wp2_with (go_at_call 18; refine (sDec_any ((V : Int)) H0.out H1.out _).mono ?_; rintro e w1 ⟨rfl, hb1⟩; have HB1 := hide hb1; clear hb1)
                  go_ret2
                  exact ⟨0, false, HR.out, rfl, HB1.out⟩
end Go.Proofs.YtbogonhmpibelaaDoor
