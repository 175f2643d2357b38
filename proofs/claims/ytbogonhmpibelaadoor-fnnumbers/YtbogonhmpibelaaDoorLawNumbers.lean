/-
  The walk of laws.FnNumbers: it returns true, where the library's table and errors lie as the program lays them.
-/
import Derived.Test.YtbogonhmpibelaaDoorMathN
import Derived.Test.YtbogonhmpibelaaDoorDrawR
import Derived.Test.YtbogonhmpibelaaDoorFixedI
import Derived.Test.YtbogonhmpibelaaDoorReadFixedI
import Derived.Test.YtbogonhmpibelaaDoorReadVarI
import Derived.Test.YtbogonhmpibelaaDoorHexI
import Derived.Test.YtbogonhmpibelaaDoorUnhexI
import Derived.Test.YtbogonhmpibelaaDoorReadDecI
import Derived.Deep.DeepCutAuto
namespace Go.Proofs.YtbogonhmpibelaaDoor
open Go.ChangeShapes Go.WideShapes Go.ChangeAt Go.RowKit

theorem fixedV_len (n : Int) : (fixedV n 7).length ≤ 7 := by
  unfold fixedV fixedL
  split
  · split
    · rw [length_lowB]; exact Nat.le_refl _
    · simp
  · simp
theorem itoa_len (n : Int) (h0 : -9223372036854775808 ≤ n) (h1 : n ≤ 9223372036854775807) : (Lib.itoa n).length ≤ 20 := by
  unfold Lib.itoa
  split
  · have := dd_len20 n.natAbs (by omega); rw [List.length_cons]; omega
  · have := dd_len20 n.toNat (by omega); omega
theorem big_any (a : Option Addr) (n cap : Nat) (w : World) : Calls Tryd.prog 6 #[.slice a n cap] w fun e w' => e = .returned (.bool (decide ((1048576 : Int) < (n : Int)))) ∧ w = w' := by
  go_enter Tryd.func6, Tryd.ntmps6
  go_wp2
  go_ret
  exact ⟨rfl, rfl⟩

theorem iReadFixed_some (s : ByteArray) (k : Nat) (w : World) (hm : s.size ≤ maxLen) : Calls Tryd.prog 12 #[.string s, .int .i64 k] w fun e w' => ∃ y b, (1 ≤ k → k ≤ 7 → k ≤ s.size → y = be ((bl s).take k) ∧ b = true) ∧ e = .returned (.tuple #[.int .i64 y, .bool b]) ∧ w = w' := by
  by_cases h : 1 ≤ k ∧ k ≤ 7 ∧ k ≤ s.size
  · refine (iReadFixed_yes s k w h.1 h.2.1 h.2.2 hm).mono ?_
    rintro e w' ⟨rfl, rfl⟩
    exact ⟨_, true, fun _ _ _ => ⟨rfl, rfl⟩, rfl, rfl⟩
  · refine (iReadFixed_no s k w (by omega)).mono ?_
    rintro e w' ⟨rfl, rfl⟩
    exact ⟨0, false, fun h1 h2 h3 => (h ⟨h1, h2, h3⟩).elim, rfl, rfl⟩

set_option maxHeartbeats 4000000 in
set_option maxRecDepth 100000 in
theorem numbers_core (a : Option Addr) (cap : Nat) (bs : List Int) (w : World) (hc : CodeAt w.heap.size w a bs) (ht : Pow w) (hE : Errs w) :
    Calls Tryd.prog 3 #[.slice a bs.length cap] w fun e w' => e = .returned (.bool true) ∧ Below w.heap.size w w' := by
  have HC := hide hc
  have HP := hide ht
  have HE := hide hE
  clear hc ht hE
  by_cases hbig : 1048576 < bs.length
  · have d0 : decide ((1048576 : Int) < (bs.length : Int)) = true := decide_eq_true (by omega)
    go_enter Tryd.func3, Tryd.ntmps3
    go_wp2_with (go_at_call 6; refine (big_any _ _ _ _).mono ?_; rw [d0]; rintro e w' ⟨rfl, rfl⟩)
    go_ret
    exact ⟨rfl, Below.refl _ _⟩
  · have d0 : decide ((1048576 : Int) < (bs.length : Int)) = false := decide_eq_false (by omega)
    have hm : bs.length ≤ 1048576 := by omega
    clear hbig
    have HN := hide (cNum_bd bs (newC bs))
    obtain ⟨n, hn⟩ : ∃ n, n = cNum bs (newC bs) := ⟨_, rfl⟩
    have Hn := hide hn
    rw [← hn] at HN
    clear hn
    obtain ⟨T, hT⟩ : ∃ T, T = cText bs 40 (newC bs) := ⟨_, rfl⟩
    have hTl : T.length ≤ 40 := by have := cText_len bs 40 (newC bs) (by omega); rw [← hT] at this; omega
    have HT := hide hT
    clear hT
    have hVl := varV_len n
    obtain ⟨V, hV⟩ : ∃ V, V = varV n := ⟨_, rfl⟩
    rw [← hV] at hVl
    have HV := hide hV
    clear hV
    have hadd1 : ∀ W, (Op.stringOp .add ⟨V.toArray⟩ ⟨T.toArray⟩).run Tryd.prog W = .ok (.string ⟨(V ++ T).toArray⟩) W := fun W => by
      rw [run_string_add_sum (P := Tryd.prog) (w := W) _ _ (by rw [size_of_list, size_of_list]; omega), ByteArray.mk_append_mk]
    go_enter Tryd.func3, Tryd.ntmps3
    go_wp2_with fail
    refine (big_any _ _ _ _).mono ?_
    rw [d0]
    rintro e w' ⟨rfl, rfl⟩
    clear d0
    go_wp2_with fail
    refine (drawVar_any a cap bs w (Nat.le_refl _) HC.out hm).mono ?_
    rintro e w1 ⟨he, hb1⟩
    rw [← Hn.out] at he
    subst he
    have HB1 := hide hb1
    clear hb1
    go_wp2_with fail
    refine (drawHex_any a cap bs w1 HB1.out.size (HC.out.below HB1.out) hm).mono ?_
    rintro e w2 ⟨he, hb2⟩
    rw [← HT.out] at he
    subst he
    have HB2 := hide (HB1.out.trans (hb2.mono HB1.out.size))
    clear hb2
    go_wp2_with fail
    refine (iVar_any n w2).mono ?_
    rintro e w3 ⟨he, hb3⟩
    rw [← HV.out] at he
    subst he
    have HB3 := hide (HB2.out.trans (hb3.mono HB2.out.size))
    clear hb3
    go_wp2_with fail
    refine (iReadVar_any ⟨(V ++ T).toArray⟩ w3 (by rw [size_of_list, List.length_append]; unfold maxLen; omega)).mono ?_
    rintro e w4 ⟨he, hb4⟩
    rw [bl_mk] at he
    obtain ⟨X, hX⟩ : ∃ X, X = (readVarL (V ++ T)).1 := ⟨_, rfl⟩
    obtain ⟨J, hJ⟩ : ∃ J, J = (readVarL (V ++ T)).2 := ⟨_, rfl⟩
    rw [← hX, ← hJ] at he
    subst he
    have HX := hide hX
    have HJ := hide hJ
    clear hX hJ
    have HB4 := hide (HB3.out.trans (hb4.mono HB3.out.size))
    clear hb4 hadd1
    go_upto_region 7 with (fail)
    go_cut [55] from 17 (fun s55 wc => s55 = .bool false ∧ w4 = wc)
    case first =>
      by_cases h0 : 0 ≤ n
      · have d1 : decide (0 ≤ n) = true := decide_eq_true h0
        by_cases h1 : n ≤ 562949953421311
        · have d2 : decide (n ≤ 562949953421311) = true := decide_eq_true h1
          have e1 := HV.out
          rw [varV, if_pos ⟨h0, h1⟩] at e1
          have e2 := readVarL_var n.toNat (by omega) T
          rw [← e1] at e2
          have vE : V.isEmpty = false := by
            rw [List.isEmpty_eq_false_iff, e1]
            intro hc
            have := varL_pos n.toNat
            rw [hc] at this
            simp at this
          have x1 : ((X : Int) != n) = false := by rw [HX.out, e2, bne_eq_false_iff_eq]; omega
          have x2 : ((J : Int) != (V.length : Int)) = false := by rw [HJ.out, e2, bne_self_eq_false]
          have x3 : (J != V.length) = false := by rw [HJ.out, e2, bne_self_eq_false]
          clear e1 e2
          go_wp2
          go_meet
          case rel => exact ⟨rfl, rfl⟩
        · have d2 : decide (n ≤ 562949953421311) = false := decide_eq_false h1
          have vE : V.isEmpty = true := by rw [HV.out, varV, if_neg (by omega)]; rfl
          go_wp2
          go_meet
          case rel => exact ⟨rfl, rfl⟩
      · have d1 : decide (0 ≤ n) = false := decide_eq_false h0
        have vE : V.isEmpty = true := by rw [HV.out, varV, if_neg (by omega)]; rfl
        go_wp2
        go_meet
        case rel => exact ⟨rfl, rfl⟩
    case rest =>
      obtain ⟨rfl, rfl⟩ := hcut
      clear HX HJ HV hVl
      have hFl := fixedV_len n
      obtain ⟨F, hF⟩ : ∃ F, F = fixedV n 7 := ⟨_, rfl⟩
      rw [← hF] at hFl
      have HF := hide hF
      clear hF
      have hadd2 : ∀ W, (Op.stringOp .add ⟨F.toArray⟩ ⟨T.toArray⟩).run Tryd.prog W = .ok (.string ⟨(F ++ T).toArray⟩) W := fun W => by
        rw [run_string_add_sum (P := Tryd.prog) (w := W) _ _ (by rw [size_of_list, size_of_list]; omega), ByteArray.mk_append_mk]
      go_wp2_with fail
      refine (iFixed_any n 7 w4 (by have := HN.out; omega)).mono ?_
      rintro e w5 ⟨he, hb5⟩
      rw [← HF.out] at he
      subst he
      have HB5 := hide (HB4.out.trans (hb5.mono HB4.out.size))
      clear hb5
      go_wp2_with fail
      refine (iReadFixed_some ⟨(F ++ T).toArray⟩ 7 w5 (by rw [size_of_list, List.length_append]; unfold maxLen; omega)).mono ?_
      rintro e w' ⟨y, b, hy, rfl, rfl⟩
      rw [size_of_list, bl_mk] at hy
      have HY := hide hy
      clear hy hadd2
      go_upto_region 11 with (fail)
      go_cut [91] from 17 (fun s91 wc => s91 = .bool false ∧ w5 = wc)
      case first =>
        by_cases h0 : n < 0
        · have d1 : decide (n < 0) = true := decide_eq_true h0
          have vE : F.isEmpty = true := by rw [HF.out, fixedV, if_neg (by omega)]; rfl
          clear h0
          go_wp2
          go_meet
          case rel => exact ⟨rfl, rfl⟩
        · have d1 : decide (n < 0) = false := decide_eq_false h0
          by_cases h1 : 72057594037927936 ≤ n
          · have d2 : decide (72057594037927936 ≤ n) = true := decide_eq_true h1
            have vE : F.isEmpty = true := by
              have h5 : 0 < n.toNat / 256 ^ (7 : Int).toNat := Nat.div_pos (by show 256 ^ 7 ≤ _; omega) (by decide)
              rw [HF.out, fixedV, if_pos ⟨by omega, by omega, by omega⟩, fixedL, if_neg (by omega)]; rfl
            clear h0 h1
            go_wp2
            go_meet
            case rel => exact ⟨rfl, rfl⟩
          · have d2 : decide (72057594037927936 ≤ n) = false := decide_eq_false h1
            have e1 : F = lowB n.toNat 7 := by
              rw [HF.out, fixedV, if_pos ⟨by omega, by omega, by omega⟩, fixedL, if_pos (Nat.div_eq_of_lt (by show _ < 256 ^ 7; omega))]; rfl
            have e2 : F.length = 7 := by rw [e1, length_lowB]
            obtain ⟨e3, e4⟩ := HY.out (by omega) (by omega) (by rw [List.length_append]; omega)
            have e5 : y = n := by
              rw [e3, List.take_append_of_le_length (by omega), List.take_of_length_le (by omega), e1, be_lowB, Nat.mod_eq_of_lt (by show _ < 256 ^ 7; omega)]
              omega
            have vE : F.isEmpty = false := by
              rw [List.isEmpty_eq_false_iff]
              intro hc
              rw [hc] at e2
              simp at e2
            have x2 : ((F.length : Int) != 7) = false := by rw [e2]; rfl
            subst e4
            have x1 : (y != n) = false := by rw [e5, bne_self_eq_false]
            clear e1 e2 e3 e5 h0 h1 HY
            go_wp2
            go_meet
            case rel => exact ⟨rfl, rfl⟩
      case rest =>
        obtain ⟨rfl, rfl⟩ := hcut
        clear HF HY hFl
        go_wp2_with fail
        refine (iDec_any n HN.out.1 HN.out.2 w5 (HP.out.below HB5.out)).mono ?_
        rintro e w6 ⟨rfl, hb6⟩
        have HB6 := hide (HB5.out.trans (hb6.mono HB5.out.size))
        clear hb6
        go_wp2_with fail
        refine (iReadDec_any ⟨(Lib.itoa n).toArray⟩ w6 (by have := itoa_len n HN.out.1 HN.out.2; rw [size_of_list]; omega) (HP.out.below HB6.out) (HE.out.below HB6.out)).mono ?_
        rintro e w7 ⟨x, d, hrd, rfl, hb7⟩
        rw [bl_mk] at hrd
        have HR := hide hrd
        have HB7 := hide (HB6.out.trans (hb7.mono HB6.out.size))
        clear hrd hb7
        go_upto_region 14 with (fail)
        go_cut [113] from 17 (fun s113 wc => s113 = .bool false ∧ w7 = wc)
        case first =>
          by_cases h0 : -1000000000 < n
          · have d1 : decide (-1000000000 < n) = true := decide_eq_true h0
            by_cases h1 : n < 1000000000
            · have d2 : decide (n < 1000000000) = true := decide_eq_true h1
              obtain ⟨e1, e2⟩ := rd_small (by omega) (by omega) HR.out
              subst e2
              have x1 : (x != n) = false := by rw [e1, bne_self_eq_false]
              clear e1 h0 h1 HR
              go_wp2
              go_meet
              case rel => exact ⟨rfl, rfl⟩
            · have d2 : decide (n < 1000000000) = false := decide_eq_false h1
              obtain ⟨e1, e2⟩ := rd_big HN.out.1 HN.out.2 (by omega) HR.out
              subst e2
              clear e1 h0 h1 HR
              go_wp2
              go_meet
              case rel => exact ⟨rfl, rfl⟩
          · have d1 : decide (-1000000000 < n) = false := decide_eq_false h0
            obtain ⟨e1, e2⟩ := rd_big HN.out.1 HN.out.2 (by omega) HR.out
            subst e2
            clear e1 h0 HR
            go_wp2
            go_meet
            case rel => exact ⟨rfl, rfl⟩
        case rest =>
          obtain ⟨rfl, rfl⟩ := hcut
          clear HR
          go_wp2_with fail
          refine (iHex_any ⟨T.toArray⟩ w7 (by rw [size_of_list]; omega)).mono ?_
          rintro e w8 ⟨rfl, hb8⟩
          rw [bl_mk]
          have HB8 := hide (HB7.out.trans (hb8.mono HB7.out.size))
          clear hb8
          go_wp2_with fail
          refine (iUnhex_any ⟨(hexL T).toArray⟩ w8 (by rw [size_of_list, length_hexL]; omega)).mono ?_
          rintro e w9 ⟨he, hb9⟩
          rw [bl_mk, unhexV_hexL] at he
          subst he
          have HB9 := hide (HB8.out.trans (hb9.mono HB8.out.size))
          clear hb9
          have hDl := dReadVar_len bs
          obtain ⟨D, hD⟩ : ∃ D, D = dReadVar bs := ⟨_, rfl⟩
          rw [← hD] at hDl
          have HD := hide hD
          clear hD
          go_wp2_with fail
          refine (drawReadVar_any a cap bs w9 HB9.out.size (HC.out.below HB9.out) hm).mono ?_
          rintro e w10 ⟨he, hb10⟩
          rw [← HD.out] at he
          subst he
          have HB10 := hide (HB9.out.trans (hb10.mono HB9.out.size))
          clear hb10
          go_wp2_with fail
          refine (iReadVar_any ⟨D.toArray⟩ w10 (by rw [size_of_list]; unfold maxLen; omega)).mono ?_
          rintro e w11 ⟨he, hb11⟩
          rw [bl_mk] at he
          have HRB := hide (readVarL_back (D := D))
          have hRL := readVarL_le D
          obtain ⟨Z, hZ⟩ : ∃ Z, Z = (readVarL D).1 := ⟨_, rfl⟩
          obtain ⟨J', hJ'⟩ : ∃ J', J' = (readVarL D).2 := ⟨_, rfl⟩
          rw [← hZ, ← hJ'] at he hRL HRB
          subst he
          clear hZ hJ'
          have HB11 := hide (HB10.out.trans (hb11.mono HB10.out.size))
          have hJl : J' ≤ D.length := hRL.2
          have HZ := hide hRL.1
          clear hb11 hRL
          by_cases hj0 : J' = 0
          · have t0 : ((J' : Int) == 0) = true := by rw [beq_iff_eq]; omega
            clear hj0
            go_wp2
            go_ret
            exact ⟨rfl, HB11.out⟩
          · have t0 : ((J' : Int) == 0) = false := by rw [beq_eq_false_iff_ne]; omega
            have e1 := HRB.out hj0
            have HVZ := hide (show varV (Z : Int) = D.take J' by rw [varV, if_pos ⟨by omega, by have := HZ.out; omega⟩, Int.toNat_natCast]; exact e1.1)
            clear e1 hj0
            go_wp2_with fail
            refine (iVar_any (Z : Int) w11).mono ?_
            rintro e w12 ⟨he, hb12⟩
            rw [HVZ.out] at he
            subst he
            have HB12 := hide (HB11.out.trans (hb12.mono HB11.out.size))
            clear hb12
            go_wp2_with fail
            refine (drawReadVar_any a cap bs w12 HB12.out.size (HC.out.below HB12.out) hm).mono ?_
            rintro e w13 ⟨he, hb13⟩
            rw [← HD.out] at he
            subst he
            have HB13 := hide (HB12.out.trans (hb13.mono HB12.out.size))
            clear hb13
            have q : (List.take J' D == ((ByteArray.mk D.toArray).extract 0 J').toList) = true := by rw [bl_extract, bl_mk, beq_self_eq_true]
            go_wp2
            go_ret
            exact ⟨rfl, HB13.out⟩

/-- What the walk is told of a slice of integers that came in. -/
def IsRow (k : IntKind) (w : World) (a : Option Addr) (len cap : Nat) (zs : List Int) : Prop :=
  (a = none ∧ len = 0 ∧ cap = 0 ∧ zs = []) ∨
  ∃ x, a = some x ∧ len ≤ cap ∧ cap ≤ maxLen ∧ zs.length = cap ∧ (∀ i, i < zs.length → w.cell? (x.add i) = some (.int k (zs.getD i 0))) ∧ ∀ n ∈ zs, (Lit.int k n).wf = true

theorem IsRow.code {w : World} {a : Option Addr} {len cap : Nat} {zs : List Int} (h : IsRow .u8 w a len cap zs) : (zs.take len).length = len ∧ CodeAt w.heap.size w a (zs.take len) := by
  rcases h with ⟨rfl, rfl, rfl, rfl⟩ | ⟨x, rfl, hl, hm, hz, hcell, hwz⟩
  · exact ⟨rfl, fun z hz => by simp at hz, fun hp => by simp at hp⟩
  · have hlen : (zs.take len).length = len := by rw [List.length_take]; omega
    refine ⟨hlen, fun z hz' => ?_, fun hp => ?_⟩
    · have := hwz z (List.mem_of_mem_take hz')
      simpa [Lit.wf, IntKind.min, IntKind.max, IntKind.signed, IntKind.bits] using this
    · obtain ⟨b, off, spot⟩ := x
      have hc := hcell 0 (by omega)
      have hspot : spot = none := by simpa [Addr.add] using World.cell?_spot hc
      subst hspot
      refine ⟨b, off, rfl, ?_, fun j hj => ?_⟩
      · refine Nat.lt_of_not_le fun hge => ?_
        rw [addr_add] at hc
        simp [World.cell?, Array.getElem?_eq_none hge] at hc
      · have h1 := hcell j (by omega)
        rw [addr_add] at h1
        rw [h1, List.getElem?_take, if_pos (by omega)]
        rfl

theorem law_numbers (a0 : Option Addr) (len0 cap0 : Nat) (z0 : List Int) (w : World) (w0 : IsRow .u8 w a0 len0 cap0 z0) (ht : Pow w) (hE : Errs w) :
    Calls Tryd.prog 3 #[.slice a0 len0 cap0] w fun e w' => e = .returned (.bool true) ∧ Below w.heap.size w w' := by
  obtain ⟨h1, h2⟩ := w0.code
  have := numbers_core a0 cap0 (z0.take len0) w h2 ht hE
  rwa [h1] at this
end Go.Proofs.YtbogonhmpibelaaDoor
