/-
  Contracts of impl.slotOf, impl.KeyOf and spec.KeyOf.
-/
import Derived.Test.YtpgbjbhoefjodaaDoorMathI
import Derived.Test.YtpgbjbhoefjodaaDoorKeyP
import Derived.Test.YtpgbjbhoefjodaaDoorBox
namespace Go.Proofs.YtpgbjbhoefjodaaDoor
open Go.ChangeShapes Go.WideShapes Go.ChangeAt Go.RowKit

theorem slotOf_any (a : Option Addr) (cap : Nat) (L : List Slot) (t : Int) (w : World) (hr : SlotRd w w.heap.size a L) (hl : L.length ≤ 2097152) :
    Calls Tryd.prog 35 #[.slice a L.length cap, .int .i64 t] w (IntPost w (ixI (slotIx L t))) := by
  have HR := hide hr
  clear hr
  obtain ⟨V, hV⟩ : ∃ V, V = ixI (slotIx L t) := ⟨_, rfl⟩
  have HV := hide hV
  rw [← hV]
  obtain ⟨n, hn⟩ : ∃ n, n = L.length := ⟨_, rfl⟩
  have HN := hide hn
  rw [← hn] at hl
  rw [← hn]
  clear hn hV
  go_enter Tryd.func35, Tryd.ntmps35
  go_wp2_with fail
  go_loopw [5, 6, 9] (fun _ _ i wr => ∃ j : Nat, i = .int .i64 j ∧ j ≤ n ∧ Hid (∀ i, i < j → tn L i ≠ t) ∧ Hid (Below w.heap.size w wr)) (fun _ _ i _ => n - (intOf i).toNat)
  case atStart => exact ⟨0, rfl, by omega, fun i hi => by omega, Below.refl _ _⟩
  case round =>
    obtain ⟨j, rfl, hj, HO, HB⟩ := hrel
    by_cases hlt : j < n
    · have hjL : j < L.length := by rw [← HN.out]; exact hlt
      obtain ⟨b, o, rfl, hb, hc⟩ := HR.out (by omega)
      obtain ⟨p0, p1⟩ := hc j hjL
      have d0 := (HB.out.cell (p := ⟨b, o + j * 2, none⟩) hb).trans p0
      have d1 := (HB.out.cell (p := ⟨b, o + j * 2 + 1, none⟩) hb).trans p1
      have HJ := hide hjL
      have hs := HB.out.size
      clear hc p0 p1 hjL
      by_cases ht : tn L j = t
      · have t0 : (tn L j == t) = true := by rw [beq_iff_eq]; exact ht
        have HV1 := hide (show V = (j : Int) from HV.out.trans (by rw [slotIx_some j HJ.out ht HO.out]; rfl))
        clear ht
        go_wp2_with fail
        go_ret
        exact ⟨by rw [HV1.out]; rfl, HB.out.alloc hs _⟩
      · have t0 : (tn L j == t) = false := by rw [beq_eq_false_iff_ne]; exact ht
        have HO1 := hide (show ∀ i, i < j + 1 → tn L i ≠ t from fun i hi => by
          rcases Nat.lt_or_ge i j with h | h
          · exact HO.out i h
          · rw [show i = j by omega]; exact ht)
        clear ht
        go_wp2_with fail
        go_roundw
        case rel => exact ⟨j + 1, by go_num, by omega, HO1, HB.out.alloc hs _⟩
        case measure => simp [intOf]; omega
    · have HV1 := hide (show V = -1 from HV.out.trans (by rw [slotIx_none fun i hi => HO.out i (by rw [← HN.out] at hi; omega)]; rfl))
      go_wp2_with fail
      go_ret
      exact ⟨by rw [HV1.out]; rfl, HB.out⟩

theorem iKeyOf_any (m : ByteArray) (a : Option Addr) (cap : Nat) (L : List Slot) (x t : Int) (w : World) (hr : SlotRd w w.heap.size a L) (hl : L.length ≤ 2097152) :
    Calls Tryd.prog 17 #[.agg #[.string m, .slice a L.length cap, .int .i64 x], .int .i64 t] w (StringPost w (keyOfV m L x t)) := by
  have HR := hide hr
  have HL := hide hl
  clear hr hl
  obtain ⟨V, hV⟩ : ∃ V, V = keyOfV m L x t := ⟨_, rfl⟩
  have HV := hide hV
  rw [← hV]
  clear hV
  have hB := fun o => (Below.refl w.heap.size w).alloc (Nat.le_refl _) o
  go_enter Tryd.func17, Tryd.ntmps17
  go_wp2_with fail
  refine (iKeyOk_any m a cap L x _ ((HR.out.below (hB _) (Nat.le_refl _)).mono (by simp)) HL.out).mono ?_
  rintro e w1 ⟨rfl, hb1⟩
  have HX1 := hide ((Box3.new w (.string m) (.slice a L.length cap) (.int .i64 x) 31).below hb1 (by simp))
  have HB1 := hide ((hB _).trans (hb1.mono (by simp)))
  clear hb1 hB
  obtain ⟨x1, c10, c11, c12⟩ := HX1.out
  cases hd : devOkB m L x with
  | false =>
    have HV1 := hide (show V = noKey from HV.out.trans (keyOfV_no hd))
    clear hd
    go_wp2_with fail
    go_ret
    exact ⟨by rw [HV1.out]; rfl, HB1.out⟩
  | true =>
    have HV1 := hide (show V = ixK L (slotIx L t) from HV.out.trans (keyOfV_yes hd))
    clear hd
    go_wp2_with fail
    refine (slotOf_any a cap L t _ ((HR.out.below HB1.out (Nat.le_refl _)).mono HB1.out.size) HL.out).mono ?_
    rintro e w2 ⟨rfl, hb2⟩
    have HX2 := hide (HX1.out.below hb2 x1)
    have HB2 := hide (HB1.out.trans (hb2.mono HB1.out.size))
    clear hb2 HX1 HB1 c10 c11 c12
    obtain ⟨x2, c20, c21, c22⟩ := HX2.out
    cases hi : slotIx L t with
    | none =>
      rw [hi] at HV1
      have e : ixI none = -1 := rfl
      rw [e]
      clear hi e
      go_wp2_with fail
      go_ret
      exact ⟨by rw [HV1.out]; rfl, HB2.out⟩
    | some i =>
      rw [hi] at HV1
      have e : ixI (some i) = (i : Int) := rfl
      rw [e]
      obtain ⟨hiL, _, _⟩ := slotIx_of_some hi
      obtain ⟨b, o, rfl, hb, hc⟩ := HR.out (by omega)
      obtain ⟨_, p1⟩ := hc i hiL
      have d1 := (HB2.out.cell (p := ⟨b, o + i * 2 + 1, none⟩) hb).trans p1
      clear hi e hc p1
      go_wp2_with fail
      go_ret
      exact ⟨by rw [HV1.out]; rfl, HB2.out⟩

theorem sKeyOf_any (m : ByteArray) (a : Option Addr) (cap : Nat) (L : List Slot) (x t : Int) (w : World) (hr : SlotRd w w.heap.size a L) (hl : L.length ≤ 2097152) :
    Calls Tryd.prog 18 #[.agg #[.string m, .slice a L.length cap, .int .i64 x], .int .i64 t] w (StringPost w (keyOfV m L x t)) := by
  have HR := hide hr
  have HL := hide hl
  clear hr
  obtain ⟨V, hV⟩ : ∃ V, V = keyOfV m L x t := ⟨_, rfl⟩
  have HV := hide hV
  rw [← hV]
  have HC := hide (fun W hr => sKeyOk_any m a cap L x W hr HL.out)
  obtain ⟨n, hn⟩ : ∃ n, n = L.length := ⟨_, rfl⟩
  have HN := hide hn
  rw [← hn] at hl HC
  rw [← hn]
  clear hn hV
  have hB := fun o => (Below.refl w.heap.size w).alloc (Nat.le_refl _) o
  go_enter Tryd.func18, Tryd.ntmps18
  go_wp2_with fail
  go_loopw [5] (fun i wr => ∃ j : Nat, i = .int .i64 j ∧ j ≤ n ∧ Hid (∀ i, i < j → tn L i ≠ t) ∧ Hid (0 < j → devOkB m L x = true) ∧ Hid (Below w.heap.size w wr) ∧ Hid (Box3 wr w.heap.size (.string m) (.slice a n cap) (.int .i64 x))) (fun i _ => n - (intOf i).toNat)
  case atStart => exact ⟨0, rfl, by omega, fun i hi => by omega, fun h => by omega, hB _, Box3.new w _ _ _ _⟩
  case round =>
    obtain ⟨j, rfl, hj, HO, HD, HB, HX⟩ := hrel
    clear hB
    obtain ⟨x1, c10, c11, c12⟩ := HX.out
    by_cases hlt : j < n
    · go_wp2_with fail
      refine (HC.out _ ((HR.out.below HB.out (Nat.le_refl _)).mono HB.out.size)).mono ?_
      rintro e w2 ⟨rfl, hb2⟩
      have HX2 := hide (HX.out.below hb2 x1)
      have HB2 := hide (HB.out.trans (hb2.mono HB.out.size))
      clear hb2 HX HB c10 c11 c12
      obtain ⟨x2, c20, c21, c22⟩ := HX2.out
      cases hd : devOkB m L x with
      | false =>
        have HV1 := hide (show V = noKey from HV.out.trans (keyOfV_no hd))
        clear hd
        go_wp2_with fail
        go_ret
        exact ⟨by rw [HV1.out]; rfl, HB2.out⟩
      | true =>
        have HV1 := hide (show V = ixK L (slotIx L t) from HV.out.trans (keyOfV_yes hd))
        have HD1 := hide hd
        clear hd
        have hjL : j < L.length := by rw [← HN.out]; exact hlt
        obtain ⟨b, o, rfl, hb, hc⟩ := HR.out (by omega)
        obtain ⟨p0, p1⟩ := hc j hjL
        have d0 := (HB2.out.cell (p := ⟨b, o + j * 2, none⟩) hb).trans p0
        have d1 := (HB2.out.cell (p := ⟨b, o + j * 2 + 1, none⟩) hb).trans p1
        have HJ := hide hjL
        clear hc p0 p1 hjL
        by_cases ht : tn L j = t
        · have t0 : (tn L j == t) = true := by rw [beq_iff_eq]; exact ht
          have HV2 := hide (show V = ky L j from HV1.out.trans (by rw [slotIx_some j HJ.out ht HO.out]; rfl))
          clear ht
          go_wp2_with fail
          go_ret
          exact ⟨by rw [HV2.out]; rfl, HB2.out⟩
        · have t0 : (tn L j == t) = false := by rw [beq_eq_false_iff_ne]; exact ht
          have HO1 := hide (show ∀ i, i < j + 1 → tn L i ≠ t from fun i hi => by
            rcases Nat.lt_or_ge i j with h | h
            · exact HO.out i h
            · rw [show i = j by omega]; exact ht)
          clear ht
          go_wp2_with fail
          go_roundw
          case rel => exact ⟨j + 1, by go_num, by omega, HO1, fun _ => HD1.out, HB2, HX2⟩
          case measure => simp [intOf]; omega
    · have HV1 := hide (show V = noKey from HV.out.trans (by
        cases hd : devOkB m L x with
        | false => exact keyOfV_no hd
        | true => rw [keyOfV_yes hd, slotIx_none fun i hi => HO.out i (by rw [← HN.out] at hi; omega)]; rfl))
      go_wp2_with fail
      go_ret
      exact ⟨by rw [HV1.out]; rfl, HB.out⟩
end Go.Proofs.YtpgbjbhoefjodaaDoor
