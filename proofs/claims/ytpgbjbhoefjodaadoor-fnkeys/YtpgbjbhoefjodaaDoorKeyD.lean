/-
  Contract of spec.KeyAdd.
-/
import Derived.Test.YtpgbjbhoefjodaaDoorKeyV
import Derived.Test.YtpgbjbhoefjodaaDoorKeyA
namespace Go.Proofs.YtpgbjbhoefjodaaDoor
open Go.ChangeShapes Go.WideShapes Go.ChangeAt Go.RowKit

/-- what is written behind j slots of the device -/
def outL (L : List Slot) (t : Int) (key : ByteArray) (j : Nat) : List Slot := if posL L t < j then L.take (posL L t) ++ (t, key) :: (L.take j).drop (posL L t) else L.take j
theorem outL_zero (L : List Slot) (t : Int) (key : ByteArray) : outL L t key 0 = [] := by unfold outL; rw [if_neg (by omega)]; rfl
theorem take_pair (L : List Slot) (j : Nat) (h : j < L.length) : L.take (j + 1) = L.take j ++ [(tn L j, ky L j)] := by rw [List.take_succ_eq_append_getElem h, pair_at L j h]
theorem outL_before (L : List Slot) (t : Int) (key : ByteArray) (j : Nat) (h : j < L.length) (hp : j < posL L t) : outL L t key j ++ [(tn L j, ky L j)] = outL L t key (j + 1) := by
  unfold outL
  rw [if_neg (by omega), if_neg (by omega), take_pair L j h]
theorem outL_here (L : List Slot) (t : Int) (key : ByteArray) (j : Nat) (h : j < L.length) (hp : posL L t = j) : outL L t key j ++ [(t, key)] ++ [(tn L j, ky L j)] = outL L t key (j + 1) := by
  unfold outL
  rw [hp, if_neg (by omega), if_pos (by omega), take_pair L j h, List.drop_left' (by rw [List.length_take]; omega)]
  simp
theorem outL_after (L : List Slot) (t : Int) (key : ByteArray) (j : Nat) (h : j < L.length) (hp : posL L t < j) : outL L t key j ++ [(tn L j, ky L j)] = outL L t key (j + 1) := by
  unfold outL
  rw [if_pos hp, if_pos (by omega), take_pair L j h, List.drop_append_of_le_length (by rw [List.length_take]; omega)]
  simp
theorem outL_end (L : List Slot) (t : Int) (key : ByteArray) (hp : posL L t < L.length) : outL L t key L.length = insL L t key := by
  unfold outL insL
  rw [if_pos hp, List.take_length]
theorem outL_last (L : List Slot) (t : Int) (key : ByteArray) (hp : posL L t = L.length) : outL L t key L.length ++ [(t, key)] = insL L t key := by
  unfold outL insL
  rw [hp, if_neg (by omega), List.take_length, List.drop_length]
theorem length_outL (L : List Slot) (t : Int) (key : ByteArray) (j : Nat) (h : j ≤ L.length) : (outL L t key j).length = if posL L t < j then j + 1 else j := by
  have := posL_le L t
  unfold outL
  split
  · simp; omega
  · simp; omega

theorem sKeyOk_own {B : Nat} (m : ByteArray) (v : Value) (E : List Slot) (x : Int) (W : World) (h : OwnsS B W v E) (hl : E.length ≤ 2097152) :
    Calls Tryd.prog 19 #[.agg #[.string m, v, .int .i64 x]] W (BoolPost W (devOkB m E x)) := by
  obtain ⟨a, c, rfl, hr, _⟩ := h.form
  exact sKeyOk_any m a c E x W hr hl

set_option maxHeartbeats 4000000 in
theorem sKeyAdd_any (B : Nat) (m : ByteArray) (v : Value) (L : List Slot) (x t : Int) (key : ByteArray) (w : World) (hO : OwnsS B w v L) (hl : L.length ≤ 2097151) :
    Calls Tryd.prog 16 #[.agg #[.string m, v, .int .i64 x], .int .i64 t, .string key] w (DevBPost w (addV m L x t key)) := by
  obtain ⟨a, cap, rfl, hrd, _⟩ := hO.form
  have HO := hide hO
  have HL := hide hl
  have HR := hide hrd
  obtain ⟨R, hR⟩ : ∃ R, R = addV m L x t key := ⟨_, rfl⟩
  have HRR := hide hR
  rw [← hR]
  have HC := hide (fun W hr => sKeyOk_any m a cap L x W hr (by have := HL.out; omega))
  have HK := hide (fun W' (h : OwnsS B W' (.slice a L.length cap) L) => l4Copy_any B m (.slice a L.length cap) L x W' h (by have := HL.out; omega))
  obtain ⟨n, hn⟩ : ∃ n, L.length = n := ⟨_, rfl⟩
  have HN := hide hn
  rw [hn] at HO HC HK hl ⊢
  have HKd := hide (show ∀ k, (Value.slice a n cap).ownBlock = some k → k < w.heap.size from fun k e => (HO.out.lt k e).2)
  clear hO hn hrd hR
  obtain ⟨W, hW, hWs, hWb, hX, hY⟩ := two_boxes w (.string m) (.slice a n cap) (.int .i64 x)
  go_enter Tryd.func16, Tryd.ntmps16
  go_wp2_with fail
  rw [← hW]
  have HX := hide hX
  have HY := hide hY
  have HWb := hide hWb
  have HO1 := hide (HO.out.below hWb (Nat.le_refl _))
  have HR1 := hide ((HR.out.below hWb (Nat.le_refl _)).mono hWb.size)
  clear hW hX hY hWb hWs HO
  refine (HC.out _ HR1.out).mono ?_
  rintro e w1 ⟨rfl, hb1⟩
  have HX1 := hide (HX.out.below hb1 HX.out.lt)
  have HY1 := hide (HY.out.below hb1 HY.out.lt)
  have HO2 := hide (HO1.out.below hb1 (Nat.le_refl _))
  have HB1 := hide (HWb.out.trans (hb1.mono HWb.out.size))
  clear hb1 HC HX HY HO1 HR1 HWb
  obtain ⟨c0, c1, c2⟩ := HX1.out.cells
  obtain ⟨y0, y1, y2⟩ := HY1.out.cells
  obtain ⟨z0, z1, z2⟩ := HY1.out.frozen
  cases hd : devOkB m L x with
  | false =>
    have HV := hide (HRR.out.trans (addV_bad hd))
    clear hd
    go_wp2_with fail
    refine bodyPost_ret (res_dev_tmp rfl _ _ (w.heap.size + 1) rfl (((HY1.out.set0 _).set1 _).set2 _)) rfl ?_
    rw [HV.out]
    exact ⟨_, rfl, OwnsS.nil _ _, ((HB1.out.setCell (by simp) _).setCell (by simp) _).setCell (by simp) _⟩
  | true =>
    have HD := hide hd
    clear hd
    go_wp2_with fail
    refine (HK.out _ HO2.out).mono ?_
    rintro e w2 ⟨vc, rfl, hoc, hb2⟩
    obtain ⟨ac, capc, rfl, _⟩ := hoc.form
    rw [HN.out] at hoc ⊢
    have HX2 := hide (HX1.out.below hb2 HX1.out.lt)
    have HY2 := hide (HY1.out.below hb2 HY1.out.lt)
    have HB2 := hide (HB1.out.trans (hb2.mono HB1.out.size))
    have HOc := hide hoc
    have hly1 := HY1.out.lt
    have hw1 := HB1.out.size
    have HOd := hide (HO2.out.below hb2 (Nat.le_refl _))
    clear hb2 hoc HX1 HY1 HB1 HO2 c0 c1 c2 y0 y1 y2 z0 z1 z2
    have hlx := HX2.out.lt
    have hly := HY2.out.lt
    obtain ⟨W3, hW3⟩ : ∃ W3, W3 = w2.alloc (.cells #[.string m, .slice ac n capc, .int .i64 x] 31) := ⟨_, rfl⟩
    have HX3 := hide (show BoxB 31 W3 w.heap.size _ _ _ from hW3 ▸ HX2.out.alloc _)
    have HY3 := hide (show BoxB 31 W3 (w.heap.size + 1) _ _ _ from hW3 ▸ HY2.out.alloc _)
    have H63 := hide (show BoxB 31 W3 w2.heap.size (.string m) (.slice ac n capc) (.int .i64 x) from hW3 ▸ BoxB.new _ w2 _ _ _)
    have HB3 := hide (show Below w.heap.size w W3 from hW3 ▸ HB2.out.alloc HB2.out.size _)
    have HOc3 := hide (show OwnsS w1.heap.size W3 (.slice ac n capc) L from hW3 ▸ HOc.out.alloc _)
    have HS3 := hide (show W3.heap.size = w2.heap.size + 1 by rw [hW3]; simp)
    have HOd3 := hide (show OwnsS B W3 (.slice a n cap) L from hW3 ▸ HOd.out.alloc _)
    go_wp2_with fail
    rw [← hW3]
    have hs3 : w2.heap.size + 1 ≤ W3.heap.size := by rw [HS3.out]; exact Nat.le_refl _
    have hP0 := OwnsS.lit0 (w2.heap.size + 1) W3 hs3
    rw [HS3.out] at hP0
    have HP0 := hide hP0
    have hs3' : W3.heap.size ≤ w2.heap.size + 1 := by rw [HS3.out]; exact Nat.le_refl _
    clear hP0 hW3 HX2 HY2 HB2 HOc HOd
    obtain ⟨p, hp⟩ : ∃ p, posL L t = p := ⟨_, rfl⟩
    have hpn : p ≤ n := by have := posL_le L t; rw [hp, HN.out] at this; exact this
    have HPp := hide hp
    clear hp
    go_loopw [9, 10, 11] (fun o q i wr => ∃ (j n' c' : Nat) (a' : Option Addr), i = .int .i64 j ∧ o = .slice a' n' c' ∧ j ≤ n ∧ n' ≤ j + 1 ∧ (q = .bool true ∧ p < j ∨ q = .bool false ∧ j ≤ p) ∧ Hid ((outL L t key j).length = n') ∧ Hid (OwnsS (w2.heap.size + 1) wr (.slice a' n' c') (outL L t key j)) ∧ Hid (Below (w2.heap.size + 1) W3 wr) ∧ w2.heap.size + 1 ≤ wr.heap.size) (fun _ _ i _ => n - (intOf i).toNat)
    case atStart => exact ⟨0, 0, 0, _, rfl, rfl, Nat.zero_le _, by omega, .inr ⟨rfl, Nat.zero_le _⟩, by rw [outL_zero]; rfl, by rw [outL_zero]; exact HP0, (Below.refl _ _).alloc hs3 _, by simp; omega⟩
    case round =>
      obtain ⟨j, n', c', a', rfl, rfl, hj, hn', hq, HF, HOF, HBF, hsF⟩ := hrel
      have HXF := hide (HX3.out.below HBF.out (by omega))
      obtain ⟨c0, c1, c2⟩ := HXF.out.cells
      by_cases hlt : j < n
      · have hjL : j < L.length := by rw [HN.out]; exact hlt
        obtain ⟨b, o, rfl, hb, hc⟩ := HR.out (by omega)
        obtain ⟨p0, p1⟩ := hc j hjL
        have HD0 := hide ((HB3.out.cell (p := ⟨b, o + j * 2, none⟩) hb).trans p0)
        have HD1 := hide ((HB3.out.cell (p := ⟨b, o + j * 2 + 1, none⟩) hb).trans p1)
        have d0 := ((HBF.out.mono (by omega : w.heap.size ≤ w2.heap.size + 1)).cell (p := ⟨b, o + j * 2, none⟩) hb).trans HD0.out
        have d1 := ((HBF.out.mono (by omega : w.heap.size ≤ w2.heap.size + 1)).cell (p := ⟨b, o + j * 2 + 1, none⟩) hb).trans HD1.out
        have HJ := hide hjL
        clear hc p0 p1 hjL
        have HS2 : Hid (OwnsS 0 (wr.alloc (.cells #[.int .i64 (tn L j), .string (ky L j)] 58)) (.slice (some ⟨wr.heap.size, 0, none⟩) 1 1) [(tn L j, ky L j)]) := OwnsS.lit1 0 wr _ _ (Nat.zero_le _)
        have HO2 : ∀ o, Hid (OwnsS (w2.heap.size + 1) (wr.alloc o) (.slice a' n' c') (outL L t key j)) := fun o => HOF.out.alloc o
        have HB2 : ∀ o, Hid (Below (w2.heap.size + 1) W3 (wr.alloc o)) := fun o => HBF.out.alloc hsF o
        have hs2 : ∀ o, w2.heap.size + 1 ≤ (wr.alloc o).heap.size := fun o => by simp; omega
        rcases hq with ⟨rfl, hpj⟩ | ⟨rfl, hpj⟩
        · have HSn := hide (outL_after L t key j HJ.out (by rw [HPp.out]; exact hpj))
          have HF2 := hide (show (outL L t key (j + 1)).length = n' + 1 by rw [← HSn.out, List.length_append, HF.out]; rfl)
          go_wp2_with (at_builtin; go_loud (refine appendS rfl (.tmp 44) (.tmp 50) rfl (w2.heap.size + 1) 0 W3 _ _ _ (outL L t key j) [(tn L j, ky L j)] rfl rfl (HO2 _) HS2 (HB2 _) (hs2 _) (outL L t key (j + 1)) (n' + 1) HSn.out HF2.out (by omega) ?_); intro a2 c2' w4 HO' HB' hsz')
          go_roundw
          case rel => exact ⟨j + 1, n' + 1, c2', a2, by go_num, rfl, by omega, by omega, .inl ⟨rfl, by omega⟩, HF2, HO', HB', by have := hs2 (.cells #[.int .i64 (tn L j), .string (ky L j)] 58); omega⟩
          case measure => simp [intOf]; omega
        · by_cases hpe : p = j
          · have t0 : t ≤ tn L j := by
              have h1 := posL_at L t (by rw [HPp.out, hpe]; exact HJ.out)
              rw [HPp.out, hpe] at h1
              exact h1
            have HSn := hide (outL_here L t key j HJ.out (by rw [HPp.out]; exact hpe))
            have HF1 := hide (show (outL L t key j ++ [(t, key)]).length = n' + 1 by rw [List.length_append, HF.out]; rfl)
            have HF2 := hide (show (outL L t key (j + 1)).length = n' + 1 + 1 by rw [← HSn.out, List.length_append, HF1.out]; rfl)
            have hpj1 : p < j + 1 := by omega
            have hn5 : n' + 1 + 1 ≤ j + 1 + 1 := by
              have h1 := HF.out
              rw [length_outL L t key j (by rw [HN.out]; omega), HPp.out, if_neg (by omega)] at h1
              omega
            have HK2 : Hid (OwnsS 0 (wr.alloc (.cells #[.int .i64 t, .string key] 58)) (.slice (some ⟨wr.heap.size, 0, none⟩) 1 1) [(t, key)]) := OwnsS.lit1 0 wr _ _ (Nat.zero_le _)
            clear hpe HS2
            go_upto_region 12 with (at_builtin; go_loud (refine appendS rfl (.tmp 38) (.tmp 42) rfl (w2.heap.size + 1) 0 W3 _ _ _ (outL L t key j) [(t, key)] rfl rfl (HO2 _) HK2 (HB2 _) (hs2 _) (outL L t key j ++ [(t, key)]) (n' + 1) rfl HF1.out (by omega) ?_); intro a2 c2' w4 HO' HB' hsz')
            have hs4 : w2.heap.size + 1 ≤ w4.heap.size := by have := hs2 (.cells #[.int .i64 t, .string key] 58); omega
            clear HO2 HB2 hs2 HK2 c0 c1 c2 d0 d1 HXF
            have HX4 := hide (HX3.out.below HB'.out (by omega))
            obtain ⟨c0, c1, c2⟩ := HX4.out.cells
            have d0 := ((HB'.out.mono (by omega : w.heap.size ≤ w2.heap.size + 1)).cell (p := ⟨b, o + j * 2, none⟩) hb).trans HD0.out
            have d1 := ((HB'.out.mono (by omega : w.heap.size ≤ w2.heap.size + 1)).cell (p := ⟨b, o + j * 2 + 1, none⟩) hb).trans HD1.out
            have HS4 : Hid (OwnsS 0 (w4.alloc (.cells #[.int .i64 (tn L j), .string (ky L j)] 58)) (.slice (some ⟨w4.heap.size, 0, none⟩) 1 1) [(tn L j, ky L j)]) := OwnsS.lit1 0 w4 _ _ (Nat.zero_le _)
            have HO4 : ∀ o, Hid (OwnsS (w2.heap.size + 1) (w4.alloc o) (.slice a2 (n' + 1) c2') (outL L t key j ++ [(t, key)])) := fun o => HO'.out.alloc o
            have HB4 : ∀ o, Hid (Below (w2.heap.size + 1) W3 (w4.alloc o)) := fun o => HB'.out.alloc hs4 o
            have hs5 : ∀ o, w2.heap.size + 1 ≤ (w4.alloc o).heap.size := fun o => by simp; omega
            go_wp2_with (at_builtin; go_loud (refine appendS rfl (.tmp 44) (.tmp 50) rfl (w2.heap.size + 1) 0 W3 _ _ _ (outL L t key j ++ [(t, key)]) [(tn L j, ky L j)] rfl rfl (HO4 _) HS4 (HB4 _) (hs5 _) (outL L t key (j + 1)) (n' + 1 + 1) HSn.out HF2.out (by omega) ?_); intro a5 c5' w5 HO5 HB5 hsz5)
            go_roundw
            case rel => exact ⟨j + 1, n' + 1 + 1, c5', a5, by go_num, rfl, by omega, hn5, .inl ⟨rfl, hpj1⟩, HF2, HO5, HB5, by have := hs5 (.cells #[.int .i64 (tn L j), .string (ky L j)] 58); omega⟩
            case measure => simp [intOf]; omega
          · have hpj2 : j < p := by omega
            have t0 : tn L j < t := posL_lt L t j (by rw [HPp.out]; exact hpj2)
            have HSn := hide (outL_before L t key j HJ.out (by rw [HPp.out]; exact hpj2))
            have HF2 := hide (show (outL L t key (j + 1)).length = n' + 1 by rw [← HSn.out, List.length_append, HF.out]; rfl)
            clear hpe
            go_wp2_with (at_builtin; go_loud (refine appendS rfl (.tmp 44) (.tmp 50) rfl (w2.heap.size + 1) 0 W3 _ _ _ (outL L t key j) [(tn L j, ky L j)] rfl rfl (HO2 _) HS2 (HB2 _) (hs2 _) (outL L t key (j + 1)) (n' + 1) HSn.out HF2.out (by omega) ?_); intro a2 c2' w4 HO' HB' hsz')
            go_roundw
            case rel => exact ⟨j + 1, n' + 1, c2', a2, by go_num, rfl, by omega, by omega, .inr ⟨rfl, by omega⟩, HF2, HO', HB', by have := hs2 (.cells #[.int .i64 (tn L j), .string (ky L j)] 58); omega⟩
            case measure => simp [intOf]; omega
      · have hjn : j = n := by omega
        have HL2 := hide (show j = L.length by rw [hjn, HN.out])
        obtain ⟨E, hE⟩ : ∃ E, E = insL L t key := ⟨_, rfl⟩
        have HEl := hide (show E.length = n + 1 by rw [hE, length_insL, HN.out])
        have HE := hide hE
        clear hE
        rcases hq with ⟨rfl, hpj⟩ | ⟨rfl, hpj⟩
        case' inl =>
          have HOE : Hid (OwnsS (w2.heap.size + 1) wr (.slice a' n' c') E) := by
            have := HOF.out
            rw [HL2.out, outL_end L t key (by rw [HPp.out, ← HL2.out]; exact hpj), ← HE.out] at this
            exact hide this
          have HBE := HBF
          have hsE := hsF
          clear HOF HBF hsF
          obtain ⟨w4, rfl⟩ : ∃ w4, wr = w4 := ⟨_, rfl⟩
          go_upto_region 15 with (fail)
        case' inr =>
          have HSn := hide (show outL L t key j ++ [(t, key)] = E by rw [HL2.out, outL_last L t key (by rw [HPp.out, ← HL2.out]; omega), HE.out])
          have HF2 := hide (show E.length = n' + 1 by rw [← HSn.out, List.length_append, HF.out]; rfl)
          have HK2 : Hid (OwnsS 0 (wr.alloc (.cells #[.int .i64 t, .string key] 58)) (.slice (some ⟨wr.heap.size, 0, none⟩) 1 1) [(t, key)]) := OwnsS.lit1 0 wr _ _ (Nat.zero_le _)
          have HO2 : ∀ o, Hid (OwnsS (w2.heap.size + 1) (wr.alloc o) (.slice a' n' c') (outL L t key j)) := fun o => HOF.out.alloc o
          have HB2 : ∀ o, Hid (Below (w2.heap.size + 1) W3 (wr.alloc o)) := fun o => HBF.out.alloc hsF o
          have hs2 : ∀ o, w2.heap.size + 1 ≤ (wr.alloc o).heap.size := fun o => by simp; omega
          go_upto_region 15 with (at_builtin; go_loud (refine appendS rfl (.tmp 54) (.tmp 58) rfl (w2.heap.size + 1) 0 W3 _ _ _ (outL L t key j) [(t, key)] rfl rfl (HO2 _) HK2 (HB2 _) (hs2 _) E (n' + 1) HSn.out HF2.out (by omega) ?_); intro a2 c2' w4 HOE HBE hsz')
          have hsE : w2.heap.size + 1 ≤ w4.heap.size := by have := hs2 (.cells #[.int .i64 t, .string key] 58); omega
          clear HO2 HB2 hs2 HK2 HOF HBF hsF
        all_goals
          clear c0 c1 c2 HXF
          have HXE := hide (HX3.out.below HBE.out (by omega))
          have HYE := hide (HY3.out.below HBE.out (by omega))
          have HZE := hide (H63.out.below HBE.out (by omega))
          have HOE2 := hide (HOd3.out.below HBE.out hs3')
          have HBw := hide (HB3.out.trans (HBE.out.mono (by omega)))
          obtain ⟨q0, q1, q2⟩ := HZE.out.cells
          obtain ⟨r0, r1, r2⟩ := HZE.out.frozen
          have hl6 : w2.heap.size < w2.heap.size + 1 := by omega
          have hlr : w.heap.size + 1 < w2.heap.size + 1 := by omega
          have hne : w2.heap.size ≠ w.heap.size + 1 := by omega
          have hnx : w2.heap.size ≠ w.heap.size := by omega
        all_goals go_wp2_with fail
        all_goals
          have HOq := hide (fun u => HOE.out.set_other (p := ⟨w2.heap.size, 1, none⟩) hl6 u)
          have HXq := hide (fun u => HXE.out.set_other (p := ⟨w2.heap.size, 1, none⟩) hnx u)
          have HYq := hide (fun u => HYE.out.set_other (p := ⟨w2.heap.size, 1, none⟩) hne u)
          have HZq := hide (fun u => HZE.out.set1 u)
          have HOd := hide (fun u => HOE2.out.set_ne (p := ⟨w2.heap.size, 1, none⟩) (fun k e => by have := HKd.out k e; show k ≠ w2.heap.size; omega) u)
          have HBq := hide (fun u => HBw.out.setCell (p := ⟨w2.heap.size, 1, none⟩) (by show w.heap.size ≤ w2.heap.size; omega) u)
        all_goals refine (sKeyOk_own m _ E x _ (HOq.out _) (by rw [HEl.out]; omega)).mono ?_
        all_goals
          rintro e w5 ⟨rfl, hb5⟩
          have HX5 := hide ((HXq.out _).below hb5 (HXq.out _).lt)
          have HY5 := hide ((HYq.out _).below hb5 (HYq.out _).lt)
          have HZ5 := hide ((HZq.out _).below hb5 (HZq.out _).lt)
          have HO5 := hide ((HOq.out _).below hb5 (Nat.le_refl _))
          have HOd5 := hide ((HOd.out _).below hb5 (Nat.le_refl _))
          have HB5 := hide ((HBq.out _).trans (hb5.mono (HBq.out _).size))
          clear hb5 HOq HXq HYq HZq HOd HBq q0 q1 q2 r0 r1 r2
          obtain ⟨c0, c1, c2⟩ := HX5.out.cells
          obtain ⟨y0, y1, y2⟩ := HY5.out.cells
          obtain ⟨z0, z1, z2⟩ := HY5.out.frozen
          obtain ⟨q0, q1, q2⟩ := HZ5.out.cells
        all_goals
          cases hd2 : devOkB m E x with
          | false =>
            have HV := hide (HRR.out.trans (addV_no HD.out (by rw [← HE.out]; exact hd2)))
            clear hd2
            go_wp2_with fail
            refine (HK.out _ HOd5.out).mono ?_
            rintro e w6 ⟨v6, rfl, ho6, hb6⟩
            obtain ⟨a6, cap6, rfl, _⟩ := ho6.form
            have HY6 := hide (HY5.out.below hb6 HY5.out.lt)
            have HB6 := hide (HB5.out.trans (hb6.mono HB5.out.size))
            have HO6 := hide ho6
            have hlt6 := HY5.out.lt
            have hw5 := HB5.out.size
            clear ho6 hb6 HX5 HY5 c0 c1 c2 y0 y1 y2 z0 z1 z2 q0 q1 q2
            obtain ⟨y0, y1, y2⟩ := HY6.out.cells
            obtain ⟨z0, z1, z2⟩ := HY6.out.frozen
            go_wp2_with fail
            refine bodyPost_ret (res_dev_tmp rfl _ _ (w.heap.size + 1) rfl (((HY6.out.set0 _).set1 _).set2 _)) rfl ?_
            rw [HV.out]
            refine ⟨_, rfl, ?_, ((HB6.out.setCell (by simp) _).setCell (by simp) _).setCell (by simp) _⟩
            exact (((HO6.out.set_other hlt6 _).set_other hlt6 _).set_other hlt6 _).mono hw5
          | true =>
            have HV := hide (HRR.out.trans (addV_yes HD.out (by rw [← HE.out]; exact hd2)))
            clear hd2
            go_wp2_with fail
            refine bodyPost_ret (res_dev_tmp rfl _ _ (w.heap.size + 1) rfl (((HY5.out.set0 _).set1 _).set2 _)) rfl ?_
            rw [HV.out]
            refine ⟨_, rfl, ?_, ((HB5.out.setCell (by simp) _).setCell (by simp) _).setCell (by simp) _⟩
            rw [← HE.out]
            exact (((HO5.out.set_other hlr _).set_other hlr _).set_other hlr _).mono (by omega)
end Go.Proofs.YtpgbjbhoefjodaaDoor
