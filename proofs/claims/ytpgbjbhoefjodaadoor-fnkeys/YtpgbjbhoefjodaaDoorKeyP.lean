/-
  Contract of spec.KeyOk.
-/
import Derived.Test.YtpgbjbhoefjodaaDoorOwnS
import Derived.Test.YtpgbjbhoefjodaaDoorMathO
import Derived.Test.YtpgbjbhoefjodaaDoorKeyO
import Derived.Deep.QuietTactic
import Derived.BigQuiet
namespace Go.Proofs.YtpgbjbhoefjodaaDoor
open Go.ChangeShapes Go.WideShapes Go.ChangeAt Go.RowKit

theorem below_drewN {B : Nat} {a b : World} (h : Below B a b) (n : Nat) : Below B a (b.drewN n) := ⟨h.os, h.tape, h.output, h.size, h.block⟩
theorem l1In_yes (x a b : Int) (w : World) (h0 : a ≤ x) (h1 : x ≤ b) :
    Calls Tryd.prog 28 #[.int .i64 x, .int .i64 a, .int .i64 b] w fun e w' => e = .returned (.bool true) ∧ w' = w :=
  (l1In_any x a b w).mono fun e w' ⟨he, hw⟩ => ⟨by rw [he, decide_eq_true h0, decide_eq_true h1]; rfl, hw.symm⟩
theorem l1In_no (x a b : Int) (w : World) (h : x < a ∨ b < x) :
    Calls Tryd.prog 28 #[.int .i64 x, .int .i64 a, .int .i64 b] w fun e w' => e = .returned (.bool false) ∧ w' = w :=
  (l1In_any x a b w).mono fun e w' ⟨he, hw⟩ => ⟨by
    rw [he]
    rcases h with h | h
    · rw [decide_eq_false (by omega : ¬ a ≤ x)]; rfl
    · rw [decide_eq_false (by omega : ¬ x ≤ b), Bool.and_false], hw.symm⟩

set_option maxHeartbeats 1000000 in
theorem sKeyOk_any (m : ByteArray) (a : Option Addr) (cap : Nat) (L : List Slot) (x : Int) (w : World) (hr : SlotRd w w.heap.size a L) (hl : L.length ≤ 2097152) :
    Calls Tryd.prog 19 #[.agg #[.string m, .slice a L.length cap, .int .i64 x]] w (BoolPost w (devOkB m L x)) := by
  have HR := hide hr
  clear hr
  obtain ⟨V, hV⟩ : ∃ V, V = devOkB m L x := ⟨_, rfl⟩
  have HV := hide hV
  rw [← hV]
  obtain ⟨n, hn⟩ : ∃ n, n = L.length := ⟨_, rfl⟩
  have HN := hide hn
  rw [← hn] at hl
  rw [← hn]
  clear hV hn
  have hB := fun o => (Below.refl w.heap.size w).alloc (Nat.le_refl _) o
  by_cases hm : m.size = 32
  · have hm1 : ((m.size : Int) != 32) = false := by rw [bne_eq_false_iff_eq]; omega
    have HM := hide hm
    clear hm
    by_cases h4 : 4 < n
    · have HV1 := hide (HV.out.trans (devOkB_false (.inr (.inl (slotsOkB_false (.inl (by rw [← HN.out]; exact h4)))))))
      go_enter Tryd.func19, Tryd.ntmps19
      go_wp2_with fail
      go_ret
      exact ⟨by rw [HV1.out]; rfl, hB _⟩
    · by_cases hx : 0 ≤ x ∧ x ≤ 1000000
      · obtain ⟨hx0, hx1⟩ := hx
        go_enter Tryd.func19, Tryd.ntmps19
        go_wp2_with fail
        refine (l1In_yes x 0 1000000 _ hx0 hx1).mono ?_
        rintro e w1 ⟨rfl, rfl⟩
        go_wp2_with fail
        go_loopw [3, 4] (fun i _ wr => ∃ j : Nat, i = .int .i64 j ∧ j ≤ n ∧ Hid (∀ i, i < j → slotOkB (tn L i) (ky L i) = true ∧ (0 < i → tn L (i - 1) < tn L i)) ∧ Hid (Below w.heap.size w wr) ∧ wr.cell? ⟨w.heap.size, 1, none⟩ = some (.slice a n cap) ∧ w.heap.size < wr.heap.size) (fun i _ _ => n - (intOf i).toNat)
        case atStart => exact ⟨0, rfl, by omega, fun i hi => by omega, hB _, by simp, by simp⟩
        case round =>
          obtain ⟨j, rfl, hj, HO, HB, hd, hsz⟩ := hrel
          by_cases hlt : j < n
          · have hjL : j < L.length := by rw [← HN.out]; exact hlt
            obtain ⟨b, o, rfl, hb, hc⟩ := HR.out (by omega)
            obtain ⟨p0, p1⟩ := hc j hjL
            have d0 := (HB.out.cell (p := ⟨b, o + j * 2, none⟩) hb).trans p0
            have d1 := (HB.out.cell (p := ⟨b, o + j * 2 + 1, none⟩) hb).trans p1
            have HJ := hide hjL
            have HC := hide hc
            clear hc p0 p1 hjL
            have hbw : b < wr.heap.size := by omega
            by_cases ht : 1 ≤ tn L j ∧ tn L j ≤ 99
            · obtain ⟨ht0, ht1⟩ := ht
              by_cases hk : (ky L j).size = 32
              · have k1 : (((ky L j).size : Int) != 32) = false := by rw [bne_eq_false_iff_eq]; omega
                have HK := hide (slotOkB_true ht0 ht1 hk)
                clear hk
                by_cases hp0 : j = 0
                · have z1 : decide (0 < j) = false := decide_eq_false (by omega)
                  have HO1 := hide (show ∀ i, i < j + 1 → slotOkB (tn L i) (ky L i) = true ∧ (0 < i → tn L (i - 1) < tn L i) from fun i hi => by
                    have e : i = j := by omega
                    rw [e]
                    exact ⟨HK.out, fun h => by omega⟩)
                  clear hp0
                  go_wp2_with fail
                  go_quiet ((go_at_call 28; exact Calls.quiet_of_same (l1In_yes _ _ _ _ ht0 ht1)))
                  go_wp2_with fail
                  go_roundw
                  case rel => exact ⟨j + 1, by go_num, by omega, HO1, below_drewN (HB.out.alloc HB.out.size _) _, (World.cell?_alloc_lt wr _ ⟨w.heap.size, 1, none⟩ hsz).trans hd, by simp <;> omega⟩
                  case measure => simp [intOf]; omega
                · obtain ⟨p, hp⟩ : ∃ p, j = p + 1 := ⟨j - 1, by omega⟩
                  have HP := hide hp
                  have hpn : p < n := by omega
                  have z1 : decide (0 < j) = true := decide_eq_true (by omega)
                  have wp1 : IntKind.i64.wrap ((j : Int) - 1) = (p : Int) := by rw [IntKind.wrap_i64]; omega
                  obtain ⟨q0, _⟩ := HC.out p (by have := HJ.out; omega)
                  have e0 := (HB.out.cell (p := ⟨b, o + p * 2, none⟩) hb).trans q0
                  clear q0 hp hp0
                  by_cases hlt2 : tn L p < tn L j
                  · have z2 : decide (tn L j ≤ tn L p) = false := decide_eq_false (by omega)
                    have HO1 := hide (show ∀ i, i < j + 1 → slotOkB (tn L i) (ky L i) = true ∧ (0 < i → tn L (i - 1) < tn L i) from fun i hi => by
                      rcases Nat.lt_or_ge i j with h | h
                      · exact HO.out i h
                      · have e : i = j := by omega
                        rw [e]
                        exact ⟨HK.out, fun _ => by have := HP.out; rw [show j - 1 = p by omega]; exact hlt2⟩)
                    clear hlt2
                    go_wp2_with fail
                    go_quiet ((go_at_call 28; exact Calls.quiet_of_same (l1In_yes _ _ _ _ ht0 ht1)))
                    go_wp2_with fail
                    go_roundw
                    case rel => exact ⟨j + 1, by go_num, by omega, HO1, below_drewN (HB.out.alloc HB.out.size _) _, (World.cell?_alloc_lt wr _ ⟨w.heap.size, 1, none⟩ hsz).trans hd, by simp <;> omega⟩
                    case measure => simp [intOf]; omega
                  · have z2 : decide (tn L j ≤ tn L p) = true := decide_eq_true (by omega)
                    have HV1 := hide (show V = false from HV.out.trans (devOkB_false (.inr (.inl (slotsOkB_false (.inr (.inl (ascB_false p (by have := HP.out; have := HJ.out; omega) (by rw [← HP.out]; omega)))))))))
                    clear hlt2
                    go_wp2_with fail
                    go_quiet ((go_at_call 28; exact Calls.quiet_of_same (l1In_yes _ _ _ _ ht0 ht1)))
                    go_wp2_with fail
                    go_ret
                    exact ⟨by rw [HV1.out]; rfl, below_drewN (HB.out.alloc HB.out.size _) _⟩
              · have k1 : (((ky L j).size : Int) != 32) = true := by rw [bne_iff_ne]; omega
                have HV1 := hide (show V = false from HV.out.trans (devOkB_false (.inr (.inl (slotsOkB_false (.inr (.inr ⟨j, HJ.out, slotOkB_false (.inr (.inr hk))⟩)))))))
                clear hk
                go_wp2_with fail
                go_quiet ((go_at_call 28; exact Calls.quiet_of_same (l1In_yes _ _ _ _ ht0 ht1)))
                go_wp2_with fail
                go_ret
                exact ⟨by rw [HV1.out]; rfl, below_drewN (HB.out.alloc HB.out.size _) _⟩
            · have hno : tn L j < 1 ∨ 99 < tn L j := by omega
              have HV1 := hide (show V = false from HV.out.trans (devOkB_false (.inr (.inl (slotsOkB_false (.inr (.inr ⟨j, HJ.out, slotOkB_false (by omega)⟩)))))))
              have HNO := hide hno
              clear ht hno
              go_wp2_with fail
              go_quiet ((go_at_call 28; exact Calls.quiet_of_same (l1In_no _ _ _ _ HNO.out)))
              go_wp2_with fail
              go_ret
              exact ⟨by rw [HV1.out]; rfl, below_drewN (HB.out.alloc HB.out.size _) _⟩
          · have HV1 := hide (show V = true from HV.out.trans (devOkB_true HM.out (slotsOkB_true (by rw [← HN.out]; omega) (decide_eq_true fun i hi => (HO.out (i + 1) (by rw [← HN.out] at hi; omega)).2 (by omega)) fun i hi => (HO.out i (by rw [← HN.out] at hi; omega)).1) hx0 hx1))
            go_wp2_with fail
            go_ret
            exact ⟨by rw [HV1.out]; rfl, HB.out⟩
      · have HV1 := hide (HV.out.trans (devOkB_false (.inr (.inr (by omega)))))
        go_enter Tryd.func19, Tryd.ntmps19
        go_wp2_with fail
        refine (l1In_no x 0 1000000 _ (by omega)).mono ?_
        rintro e w1 ⟨rfl, rfl⟩
        go_wp2_with fail
        go_ret
        exact ⟨by rw [HV1.out]; rfl, hB _⟩
  · have HV1 := hide (HV.out.trans (devOkB_false (.inl hm)))
    have hm1 : ((m.size : Int) != 32) = true := by rw [bne_iff_ne]; omega
    go_enter Tryd.func19, Tryd.ntmps19
    go_wp2_with fail
    go_ret
    exact ⟨by rw [HV1.out]; rfl, hB _⟩
end Go.Proofs.YtpgbjbhoefjodaaDoor
