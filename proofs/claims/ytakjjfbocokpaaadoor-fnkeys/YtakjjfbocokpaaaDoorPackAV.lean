/-
  Texts of this proof, put together: KeyO, KeyP, KeyF.
-/
import Derived.Test.YtakjjfbocokpaaaDoorPackAU
import Derived.Test.YtakjjfbocokpaaaDoorPackAA
import Derived.StillTailTactics
import Derived.Deep.QuietTactic
import Derived.BigQuiet

/-
  Contracts of impl.KeyOk and what it calls: compareSlots, ascends, slotOk, slotsOk.
-/
namespace Go.Proofs.YtakjjfbocokpaaaDoor
open Go.ChangeShapes Go.WideShapes Go.ChangeAt Go.RowKit
set_option maxRecDepth 20000

theorem compare_any (a b : Int) (w : World) :
    Calls Tryd.prog 96 #[.int .i64 a, .int .i64 b] w fun e w' => e = .returned (.int .i64 (cmpI a b)) ∧ w = w' := by
  unfold cmpI
  by_cases h : a < b
  · rw [if_pos h]
    go_enter Tryd.func96, Tryd.ntmps96
    go_wp2
    go_ret
    exact ⟨rfl, rfl⟩
  · rw [if_neg h]
    by_cases h2 : b < a
    · rw [if_pos h2]
      go_enter Tryd.func96, Tryd.ntmps96
      go_wp2
      go_ret
      exact ⟨rfl, rfl⟩
    · rw [if_neg h2]
      go_enter Tryd.func96, Tryd.ntmps96
      go_wp2
      go_ret
      exact ⟨rfl, rfl⟩


theorem compareSlots_any (t1 t2 : Int) (k1 k2 : ByteArray) (w : World) :
    Calls Tryd.prog 65 #[.agg #[.int .i64 t1, .string k1], .agg #[.int .i64 t2, .string k2]] w (IntPost w (cmpI t1 t2)) := by
  go_enter Tryd.func65, Tryd.ntmps65
  go_wp2_with fail
  refine (compare_any t1 t2 _).mono ?_
  rintro e w1 ⟨rfl, rfl⟩
  go_wp2_with fail
  go_ret
  exact ⟨rfl, ((Below.refl _ _).alloc (Nat.le_refl _) _).alloc (by simp) _⟩

theorem slotOk_any (t : Int) (k : ByteArray) (w : World) :
    Calls Tryd.prog 114 #[.agg #[.int .i64 t, .string k]] w (BoolPost w (slotOkB t k)) := by
  have hB := fun o => (Below.refl w.heap.size w).alloc (Nat.le_refl _) o
  by_cases h0 : 1 ≤ t
  · by_cases h1 : t ≤ 99
    · by_cases h2 : k.size = 32
      · rw [slotOkB_true h0 h1 h2]
        go_enter Tryd.func114, Tryd.ntmps114
        go_wp2
        go_ret
        exact ⟨rfl, hB _⟩
      · rw [slotOkB_false (.inr (.inr h2))]
        have h3 : ((k.size : Int) == 32) = false := by rw [beq_eq_false_iff_ne]; omega
        go_enter Tryd.func114, Tryd.ntmps114
        go_wp2
        go_ret
        exact ⟨rfl, hB _⟩
    · rw [slotOkB_false (.inr (.inl (by omega)))]
      go_enter Tryd.func114, Tryd.ntmps114
      go_wp2
      go_ret
      exact ⟨rfl, hB _⟩
  · rw [slotOkB_false (.inl (by omega))]
    go_enter Tryd.func114, Tryd.ntmps114
    go_wp2
    go_ret
    exact ⟨rfl, hB _⟩

set_option maxRecDepth 20000 in
theorem ascends_any (a : Option Addr) (cap : Nat) (L : List Slot) (w : World) (hr : SlotRd w w.heap.size a L) (hl : L.length ≤ 2097152) :
    Calls Tryd.prog 113 #[.slice a L.length cap, .func (.func 65) #[] #[]] w (BoolPost w (ascB L)) := by
  have HR := hide hr
  clear hr
  obtain ⟨V, hV⟩ : ∃ V, V = ascB L := ⟨_, rfl⟩
  have HV := hide hV
  rw [← hV]
  obtain ⟨n, hn⟩ : ∃ n, n = L.length := ⟨_, rfl⟩
  have HN := hide hn
  rw [← hn] at hl
  rw [← hn]
  clear hn hV
  go_enter Tryd.func113, Tryd.ntmps113
  go_wp2_with fail
  go_loopw [5] (fun i wr => ∃ j : Nat, i = .int .i64 j ∧ 1 ≤ j ∧ (j = 1 ∨ j ≤ n) ∧ Hid (∀ i, i + 1 < j → tn L i < tn L (i + 1)) ∧ Hid (Below w.heap.size w wr)) (fun i _ => n - (intOf i).toNat)
  case atStart => exact ⟨1, rfl, by omega, .inl rfl, fun i hi => by omega, Below.refl _ _⟩
  case round =>
    obtain ⟨j, rfl, hj0, hj, HA, HB⟩ := hrel
    by_cases hlt : j < n
    · have hjL : j < L.length := by rw [← HN.out]; exact hlt
      obtain ⟨p, hp⟩ : ∃ p, j = p + 1 := ⟨j - 1, by omega⟩
      have HP := hide hp
      have hpn : p < n := by omega
      have wp1 : IntKind.i64.wrap ((j : Int) - 1) = (p : Int) := by rw [IntKind.wrap_i64]; omega
      obtain ⟨b, o, rfl, hb, hc⟩ := HR.out (by omega)
      obtain ⟨p0, p1⟩ := hc p (by omega)
      obtain ⟨q0, q1⟩ := hc j hjL
      have d0 := (HB.out.cell (p := ⟨b, o + p * 2, none⟩) hb).trans p0
      have d1 := (HB.out.cell (p := ⟨b, o + p * 2 + 1, none⟩) hb).trans p1
      have e0 := (HB.out.cell (p := ⟨b, o + j * 2, none⟩) hb).trans q0
      have e1 := (HB.out.cell (p := ⟨b, o + j * 2 + 1, none⟩) hb).trans q1
      have HJ := hide hjL
      clear hc p0 p1 q0 q1 hp hjL
      go_wp2_with fail
      go_still_tail 10, (by kernel_rfl)
      change wpList _ _ _ _ _ wr.drew
      go_wp2_with fail
      refine (compareSlots_any (tn L p) (tn L j) (ky L p) (ky L j) _).mono ?_
      rintro e w1 ⟨rfl, hb1⟩
      have HB1 := hide (HB.out.drew.trans (hb1.mono HB.out.size))
      clear hb1 HB d0 d1 e0 e1 wp1
      by_cases hc : tn L p < tn L j
      · have t0 : decide (0 ≤ cmpI (tn L p) (tn L j)) = false := decide_eq_false (by have := cmpI_lt.2 hc; omega)
        have HA1 := hide (show ∀ i, i + 1 < j + 1 → tn L i < tn L (i + 1) from fun i hi => by
          rcases Nat.lt_or_ge (i + 1) j with h | h
          · exact HA.out i h
          · have e := HP.out
            rw [show i = p by omega, ← e]; exact hc)
        clear hc
        go_wp2_with fail
        go_roundw
        case rel => exact ⟨j + 1, by go_num, by omega, .inr (by omega), HA1, HB1⟩
        case measure => simp [intOf]; omega
      · have t0 : decide (0 ≤ cmpI (tn L p) (tn L j)) = true := decide_eq_true (Int.not_lt.1 fun h => hc (cmpI_lt.1 h))
        have HV1 := hide (show V = false from HV.out.trans (ascB_false p (by have := HP.out; have := HJ.out; omega) (by rw [← HP.out]; omega)))
        clear hc
        go_wp2_with fail
        go_ret
        exact ⟨by rw [HV1.out]; rfl, HB1.out⟩
    · have HV1 := hide (show V = true from HV.out.trans (decide_eq_true fun i hi => HA.out i (by rw [← HN.out] at hi; omega)))
      go_wp2_with fail
      go_ret
      exact ⟨by rw [HV1.out]; rfl, HB.out⟩

theorem slotsOk_any (a : Option Addr) (cap : Nat) (L : List Slot) (w : World) (hr : SlotRd w w.heap.size a L) (hl : L.length ≤ 2097152) :
    Calls Tryd.prog 92 #[.slice a L.length cap] w (BoolPost w (slotsOkB L)) := by
  have HR := hide hr
  have HL := hide hl
  clear hr
  obtain ⟨V, hV⟩ : ∃ V, V = slotsOkB L := ⟨_, rfl⟩
  have HV := hide hV
  rw [← hV]
  have hcall := fun W hr => ascends_any a cap L W hr HL.out
  have HC := hide hcall
  obtain ⟨n, hn⟩ : ∃ n, n = L.length := ⟨_, rfl⟩
  have HN := hide hn
  rw [← hn] at hl HC
  rw [← hn]
  clear hn hV hcall
  by_cases h4 : 4 < n
  · have HV1 := hide (show V = false from HV.out.trans (slotsOkB_false (.inl (by rw [← HN.out]; exact h4))))
    go_enter Tryd.func92, Tryd.ntmps92
    go_wp2_with fail
    go_ret
    exact ⟨by rw [HV1.out]; rfl, Below.refl _ _⟩
  · go_enter Tryd.func92, Tryd.ntmps92
    go_wp2_with fail
    refine (HC.out _ HR.out).mono ?_
    rintro e w1 ⟨rfl, hb1⟩
    have HB1 := hide hb1
    clear hb1
    cases ha : ascB L with
    | false =>
      have HV1 := hide (show V = false from HV.out.trans (slotsOkB_false (.inr (.inl ha))))
      clear ha
      go_wp2_with fail
      go_ret
      exact ⟨by rw [HV1.out]; rfl, HB1.out⟩
    | true =>
      have HA := hide ha
      clear ha
      go_wp2_with fail
      go_loopw [4, 15] (fun _ i wr => ∃ j : Nat, i = .int .i64 j ∧ j ≤ n ∧ Hid (∀ i, i < j → slotOkB (tn L i) (ky L i) = true) ∧ Hid (Below w.heap.size w wr)) (fun _ i _ => n - (intOf i).toNat)
      case atStart => exact ⟨0, rfl, by omega, fun i hi => by omega, HB1⟩
      case round =>
        obtain ⟨j, rfl, hj, HO, HB⟩ := hrel
        by_cases hlt : j < n
        · have hjL : j < L.length := by rw [← HN.out]; exact hlt
          obtain ⟨b, o, rfl, hb, hc⟩ := HR.out (by omega)
          obtain ⟨p0, p1⟩ := hc j hjL
          have d0 := (HB.out.cell (p := ⟨b, o + j * 2, none⟩) hb).trans p0
          have d1 := (HB.out.cell (p := ⟨b, o + j * 2 + 1, none⟩) hb).trans p1
          have HJ := hide hjL
          have hs := HB.out.size
          clear hc p0 p1 hjL
          go_wp2_with fail
          refine (slotOk_any (tn L j) (ky L j) _).mono ?_
          rintro e w2 ⟨rfl, hb2⟩
          have HB2 := hide ((HB.out.alloc hs _).trans (hb2.mono (by simp <;> omega)))
          clear hb2 HB d0 d1
          cases hk : slotOkB (tn L j) (ky L j) with
          | true =>
            have HO1 := hide (show ∀ i, i < j + 1 → slotOkB (tn L i) (ky L i) = true from fun i hi => by
              rcases Nat.lt_or_ge i j with h | h
              · exact HO.out i h
              · rw [show i = j by omega]; exact hk)
            clear hk
            go_wp2_with fail
            go_roundw
            case rel => exact ⟨j + 1, by go_num, by omega, HO1, HB2⟩
            case measure => simp [intOf]; omega
          | false =>
            have HV1 := hide (show V = false from HV.out.trans (slotsOkB_false (.inr (.inr ⟨j, HJ.out, hk⟩))))
            clear hk
            go_wp2_with fail
            go_ret
            exact ⟨by rw [HV1.out]; rfl, HB2.out⟩
        · have HV1 := hide (show V = true from HV.out.trans (slotsOkB_true (by rw [← HN.out]; omega) HA.out fun i hi => HO.out i (by rw [← HN.out] at hi; omega)))
          go_wp2_with fail
          go_ret
          exact ⟨by rw [HV1.out]; rfl, HB.out⟩

theorem iKeyOk_any (m : ByteArray) (a : Option Addr) (cap : Nat) (L : List Slot) (x : Int) (w : World) (hr : SlotRd w w.heap.size a L) (hl : L.length ≤ 2097152) :
    Calls Tryd.prog 57 #[.agg #[.string m, .slice a L.length cap, .int .i64 x]] w (BoolPost w (devOkB m L x)) := by
  have HR := hide hr
  have HL := hide hl
  clear hr hl
  obtain ⟨V, hV⟩ : ∃ V, V = devOkB m L x := ⟨_, rfl⟩
  have HV := hide hV
  rw [← hV]
  clear hV
  have hB := fun o => (Below.refl w.heap.size w).alloc (Nat.le_refl _) o
  by_cases hm : m.size = 32
  · have hm1 : ((m.size : Int) == 32) = true := by rw [beq_iff_eq]; omega
    go_enter Tryd.func57, Tryd.ntmps57
    go_wp2_with fail
    refine (slotsOk_any a cap L _ ((HR.out.below (hB _) (Nat.le_refl _)).mono (by simp)) HL.out).mono ?_
    rintro e w1 ⟨rfl, hb1⟩
    have HB1 := hide ((hB _).trans (hb1.mono (by simp)))
    obtain ⟨oc, _⟩ := oldCells hb1
    simp only [Go.Deep.nblk_alloc] at oc
    clear hb1 hB
    have HM := hide hm
    clear hm
    cases hs : slotsOkB L with
    | false =>
      have HV1 := hide (HV.out.trans (devOkB_false (.inr (.inl hs))))
      clear hs
      go_wp2_with fail
      go_ret
      exact ⟨by rw [HV1.out]; rfl, HB1.out⟩
    | true =>
      by_cases h0 : 0 ≤ x
      · by_cases h1 : x ≤ 1000000
        · have HV1 := hide (HV.out.trans (devOkB_true HM.out hs h0 h1))
          clear hs
          go_wp2_with fail
          go_ret
          exact ⟨by rw [HV1.out]; rfl, HB1.out⟩
        · have HV1 := hide (HV.out.trans (devOkB_false (.inr (.inr (.inr (by omega))))))
          have d1 : decide (x ≤ 1000000) = false := decide_eq_false h1
          clear hs
          go_wp2_with fail
          go_ret
          exact ⟨by rw [HV1.out]; rfl, HB1.out⟩
      · have HV1 := hide (HV.out.trans (devOkB_false (.inr (.inr (.inl (by omega))))))
        clear hs
        go_wp2_with fail
        go_ret
        exact ⟨by rw [HV1.out]; rfl, HB1.out⟩
  · have HV1 := hide (HV.out.trans (devOkB_false (.inl hm)))
    have hm1 : ((m.size : Int) == 32) = false := by rw [beq_eq_false_iff_ne]; omega
    go_enter Tryd.func57, Tryd.ntmps57
    go_wp2_with fail
    go_ret
    exact ⟨by rw [HV1.out]; rfl, hB _⟩
end Go.Proofs.YtakjjfbocokpaaaDoor

/-
  Contract of spec.KeyOk.
-/
namespace Go.Proofs.YtakjjfbocokpaaaDoor
open Go.ChangeShapes Go.WideShapes Go.ChangeAt Go.RowKit
set_option maxRecDepth 20000

theorem below_drewN {B : Nat} {a b : World} (h : Below B a b) (n : Nat) : Below B a (b.drewN n) := ⟨h.os, h.tape, h.output, h.size, h.block⟩
theorem l1In_yes (x a b : Int) (w : World) (h0 : a ≤ x) (h1 : x ≤ b) :
    Calls Tryd.prog 52 #[.int .i64 x, .int .i64 a, .int .i64 b] w fun e w' => e = .returned (.bool true) ∧ w' = w :=
  (l1In_any x a b w).mono fun e w' ⟨he, hw⟩ => ⟨by rw [he, decide_eq_true h0, decide_eq_true h1]; rfl, hw.symm⟩
theorem l1In_no (x a b : Int) (w : World) (h : x < a ∨ b < x) :
    Calls Tryd.prog 52 #[.int .i64 x, .int .i64 a, .int .i64 b] w fun e w' => e = .returned (.bool false) ∧ w' = w :=
  (l1In_any x a b w).mono fun e w' ⟨he, hw⟩ => ⟨by
    rw [he]
    rcases h with h | h
    · rw [decide_eq_false (by omega : ¬ a ≤ x)]; rfl
    · rw [decide_eq_false (by omega : ¬ x ≤ b), Bool.and_false], hw.symm⟩

set_option maxHeartbeats 1000000 in
theorem sKeyOk_any (m : ByteArray) (a : Option Addr) (cap : Nat) (L : List Slot) (x : Int) (w : World) (hr : SlotRd w w.heap.size a L) (hl : L.length ≤ 2097152) :
    Calls Tryd.prog 25 #[.agg #[.string m, .slice a L.length cap, .int .i64 x]] w (BoolPost w (devOkB m L x)) := by
  have HR := hide hr
  clear hr
  obtain ⟨V, hV⟩ : ∃ V, V = devOkB m L x := ⟨_, rfl⟩
  have HV := hide hV
  rw [← hV]
  obtain ⟨n, hn⟩ : ∃ n, n = L.length := ⟨_, rfl⟩
  have HN := hide hn
  rw [← hn] at hl
  rw [← hn]
  clear hV hn
  have hB := fun o => (Below.refl w.heap.size w).alloc (Nat.le_refl _) o
  by_cases hm : m.size = 32
  · have hm1 : ((m.size : Int) != 32) = false := by rw [bne_eq_false_iff_eq]; omega
    have HM := hide hm
    clear hm
    by_cases h4 : 4 < n
    · have HV1 := hide (HV.out.trans (devOkB_false (.inr (.inl (slotsOkB_false (.inl (by rw [← HN.out]; exact h4)))))))
      go_enter Tryd.func25, Tryd.ntmps25
      go_wp2_with fail
      go_ret
      exact ⟨by rw [HV1.out]; rfl, hB _⟩
    · by_cases hx : 0 ≤ x ∧ x ≤ 1000000
      · obtain ⟨hx0, hx1⟩ := hx
        go_enter Tryd.func25, Tryd.ntmps25
        go_wp2_with fail
        refine (l1In_yes x 0 1000000 _ hx0 hx1).mono ?_
        rintro e w1 ⟨rfl, rfl⟩
        go_wp2_with fail
        go_loopw [3, 4] (fun i _ wr => ∃ j : Nat, i = .int .i64 j ∧ j ≤ n ∧ Hid (∀ i, i < j → slotOkB (tn L i) (ky L i) = true ∧ (0 < i → tn L (i - 1) < tn L i)) ∧ Hid (Below w.heap.size w wr) ∧ wr.cell? ⟨w.heap.size, 1, none⟩ = some (.slice a n cap) ∧ w.heap.size < wr.heap.size) (fun i _ _ => n - (intOf i).toNat)
        case atStart => exact ⟨0, rfl, by omega, fun i hi => by omega, hB _, by simp, by simp⟩
        case round =>
          obtain ⟨j, rfl, hj, HO, HB, hd, hsz⟩ := hrel
          by_cases hlt : j < n
          · have hjL : j < L.length := by rw [← HN.out]; exact hlt
            obtain ⟨b, o, rfl, hb, hc⟩ := HR.out (by omega)
            obtain ⟨p0, p1⟩ := hc j hjL
            have d0 := (HB.out.cell (p := ⟨b, o + j * 2, none⟩) hb).trans p0
            have d1 := (HB.out.cell (p := ⟨b, o + j * 2 + 1, none⟩) hb).trans p1
            have HJ := hide hjL
            have HC := hide hc
            clear hc p0 p1 hjL
            have hbw : b < wr.heap.size := by omega
            by_cases ht : 1 ≤ tn L j ∧ tn L j ≤ 99
            · obtain ⟨ht0, ht1⟩ := ht
              by_cases hk : (ky L j).size = 32
              · have k1 : (((ky L j).size : Int) != 32) = false := by rw [bne_eq_false_iff_eq]; omega
                have HK := hide (slotOkB_true ht0 ht1 hk)
                clear hk
                by_cases hp0 : j = 0
                · have z1 : decide (0 < j) = false := decide_eq_false (by omega)
                  have HO1 := hide (show ∀ i, i < j + 1 → slotOkB (tn L i) (ky L i) = true ∧ (0 < i → tn L (i - 1) < tn L i) from fun i hi => by
                    have e : i = j := by omega
                    rw [e]
                    exact ⟨HK.out, fun h => by omega⟩)
                  clear hp0
                  go_wp2_with fail
                  go_quiet ((go_at_call 52; exact Calls.quiet_of_same (l1In_yes _ _ _ _ ht0 ht1)))
                  go_wp2_with fail
                  go_roundw
                  case rel => exact ⟨j + 1, by go_num, by omega, HO1, below_drewN (HB.out.alloc HB.out.size _) _, (World.cell?_alloc_lt wr _ ⟨w.heap.size, 1, none⟩ hsz).trans hd, by simp <;> omega⟩
                  case measure => simp [intOf]; omega
                · obtain ⟨p, hp⟩ : ∃ p, j = p + 1 := ⟨j - 1, by omega⟩
                  have HP := hide hp
                  have hpn : p < n := by omega
                  have z1 : decide (0 < j) = true := decide_eq_true (by omega)
                  have wp1 : IntKind.i64.wrap ((j : Int) - 1) = (p : Int) := by rw [IntKind.wrap_i64]; omega
                  obtain ⟨q0, _⟩ := HC.out p (by have := HJ.out; omega)
                  have e0 := (HB.out.cell (p := ⟨b, o + p * 2, none⟩) hb).trans q0
                  clear q0 hp hp0
                  by_cases hlt2 : tn L p < tn L j
                  · have z2 : decide (tn L j ≤ tn L p) = false := decide_eq_false (by omega)
                    have HO1 := hide (show ∀ i, i < j + 1 → slotOkB (tn L i) (ky L i) = true ∧ (0 < i → tn L (i - 1) < tn L i) from fun i hi => by
                      rcases Nat.lt_or_ge i j with h | h
                      · exact HO.out i h
                      · have e : i = j := by omega
                        rw [e]
                        exact ⟨HK.out, fun _ => by have := HP.out; rw [show j - 1 = p by omega]; exact hlt2⟩)
                    clear hlt2
                    go_wp2_with fail
                    go_quiet ((go_at_call 52; exact Calls.quiet_of_same (l1In_yes _ _ _ _ ht0 ht1)))
                    go_wp2_with fail
                    go_roundw
                    case rel => exact ⟨j + 1, by go_num, by omega, HO1, below_drewN (HB.out.alloc HB.out.size _) _, (World.cell?_alloc_lt wr _ ⟨w.heap.size, 1, none⟩ hsz).trans hd, by simp <;> omega⟩
                    case measure => simp [intOf]; omega
                  · have z2 : decide (tn L j ≤ tn L p) = true := decide_eq_true (by omega)
                    have HV1 := hide (show V = false from HV.out.trans (devOkB_false (.inr (.inl (slotsOkB_false (.inr (.inl (ascB_false p (by have := HP.out; have := HJ.out; omega) (by rw [← HP.out]; omega)))))))))
                    clear hlt2
                    go_wp2_with fail
                    go_quiet ((go_at_call 52; exact Calls.quiet_of_same (l1In_yes _ _ _ _ ht0 ht1)))
                    go_wp2_with fail
                    go_ret
                    exact ⟨by rw [HV1.out]; rfl, below_drewN (HB.out.alloc HB.out.size _) _⟩
              · have k1 : (((ky L j).size : Int) != 32) = true := by rw [bne_iff_ne]; omega
                have HV1 := hide (show V = false from HV.out.trans (devOkB_false (.inr (.inl (slotsOkB_false (.inr (.inr ⟨j, HJ.out, slotOkB_false (.inr (.inr hk))⟩)))))))
                clear hk
                go_wp2_with fail
                go_quiet ((go_at_call 52; exact Calls.quiet_of_same (l1In_yes _ _ _ _ ht0 ht1)))
                go_wp2_with fail
                go_ret
                exact ⟨by rw [HV1.out]; rfl, below_drewN (HB.out.alloc HB.out.size _) _⟩
            · have hno : tn L j < 1 ∨ 99 < tn L j := by omega
              have HV1 := hide (show V = false from HV.out.trans (devOkB_false (.inr (.inl (slotsOkB_false (.inr (.inr ⟨j, HJ.out, slotOkB_false (by omega)⟩)))))))
              have HNO := hide hno
              clear ht hno
              go_wp2_with fail
              go_quiet ((go_at_call 52; exact Calls.quiet_of_same (l1In_no _ _ _ _ HNO.out)))
              go_wp2_with fail
              go_ret
              exact ⟨by rw [HV1.out]; rfl, below_drewN (HB.out.alloc HB.out.size _) _⟩
          · have HV1 := hide (show V = true from HV.out.trans (devOkB_true HM.out (slotsOkB_true (by rw [← HN.out]; omega) (decide_eq_true fun i hi => (HO.out (i + 1) (by rw [← HN.out] at hi; omega)).2 (by omega)) fun i hi => (HO.out i (by rw [← HN.out] at hi; omega)).1) hx0 hx1))
            go_wp2_with fail
            go_ret
            exact ⟨by rw [HV1.out]; rfl, HB.out⟩
      · have HV1 := hide (HV.out.trans (devOkB_false (.inr (.inr (by omega)))))
        go_enter Tryd.func25, Tryd.ntmps25
        go_wp2_with fail
        refine (l1In_no x 0 1000000 _ (by omega)).mono ?_
        rintro e w1 ⟨rfl, rfl⟩
        go_wp2_with fail
        go_ret
        exact ⟨by rw [HV1.out]; rfl, hB _⟩
  · have HV1 := hide (HV.out.trans (devOkB_false (.inl hm)))
    have hm1 : ((m.size : Int) != 32) = true := by rw [bne_iff_ne]; omega
    go_enter Tryd.func25, Tryd.ntmps25
    go_wp2_with fail
    go_ret
    exact ⟨by rw [HV1.out]; rfl, hB _⟩
end Go.Proofs.YtakjjfbocokpaaaDoor

/-
  Contracts of impl.slotOf, impl.KeyOf and spec.KeyOf.
-/
namespace Go.Proofs.YtakjjfbocokpaaaDoor
open Go.ChangeShapes Go.WideShapes Go.ChangeAt Go.RowKit
set_option maxRecDepth 20000

theorem slotOf_any (a : Option Addr) (cap : Nat) (L : List Slot) (t : Int) (w : World) (hr : SlotRd w w.heap.size a L) (hl : L.length ≤ 2097152) :
    Calls Tryd.prog 58 #[.slice a L.length cap, .int .i64 t] w (IntPost w (ixI (slotIx L t))) := by
  have HR := hide hr
  clear hr
  obtain ⟨V, hV⟩ : ∃ V, V = ixI (slotIx L t) := ⟨_, rfl⟩
  have HV := hide hV
  rw [← hV]
  obtain ⟨n, hn⟩ : ∃ n, n = L.length := ⟨_, rfl⟩
  have HN := hide hn
  rw [← hn] at hl
  rw [← hn]
  clear hn hV
  go_enter Tryd.func58, Tryd.ntmps58
  go_wp2_with fail
  go_loopw [5, 6, 9] (fun _ _ i wr => ∃ j : Nat, i = .int .i64 j ∧ j ≤ n ∧ Hid (∀ i, i < j → tn L i ≠ t) ∧ Hid (Below w.heap.size w wr)) (fun _ _ i _ => n - (intOf i).toNat)
  case atStart => exact ⟨0, rfl, by omega, fun i hi => by omega, Below.refl _ _⟩
  case round =>
    obtain ⟨j, rfl, hj, HO, HB⟩ := hrel
    by_cases hlt : j < n
    · have hjL : j < L.length := by rw [← HN.out]; exact hlt
      obtain ⟨b, o, rfl, hb, hc⟩ := HR.out (by omega)
      obtain ⟨p0, p1⟩ := hc j hjL
      have d0 := (HB.out.cell (p := ⟨b, o + j * 2, none⟩) hb).trans p0
      have d1 := (HB.out.cell (p := ⟨b, o + j * 2 + 1, none⟩) hb).trans p1
      have HJ := hide hjL
      have hs := HB.out.size
      clear hc p0 p1 hjL
      by_cases ht : tn L j = t
      · have t0 : (tn L j == t) = true := by rw [beq_iff_eq]; exact ht
        have HV1 := hide (show V = (j : Int) from HV.out.trans (by rw [slotIx_some j HJ.out ht HO.out]; rfl))
        clear ht
        go_wp2_with fail
        go_ret
        exact ⟨by rw [HV1.out]; rfl, HB.out.alloc hs _⟩
      · have t0 : (tn L j == t) = false := by rw [beq_eq_false_iff_ne]; exact ht
        have HO1 := hide (show ∀ i, i < j + 1 → tn L i ≠ t from fun i hi => by
          rcases Nat.lt_or_ge i j with h | h
          · exact HO.out i h
          · rw [show i = j by omega]; exact ht)
        clear ht
        go_wp2_with fail
        go_roundw
        case rel => exact ⟨j + 1, by go_num, by omega, HO1, HB.out.alloc hs _⟩
        case measure => simp [intOf]; omega
    · have HV1 := hide (show V = -1 from HV.out.trans (by rw [slotIx_none fun i hi => HO.out i (by rw [← HN.out] at hi; omega)]; rfl))
      go_wp2_with fail
      go_ret
      exact ⟨by rw [HV1.out]; rfl, HB.out⟩

theorem iKeyOf_any (m : ByteArray) (a : Option Addr) (cap : Nat) (L : List Slot) (x t : Int) (w : World) (hr : SlotRd w w.heap.size a L) (hl : L.length ≤ 2097152) :
    Calls Tryd.prog 23 #[.agg #[.string m, .slice a L.length cap, .int .i64 x], .int .i64 t] w (StringPost w (keyOfV m L x t)) := by
  have HR := hide hr
  have HL := hide hl
  clear hr hl
  obtain ⟨V, hV⟩ : ∃ V, V = keyOfV m L x t := ⟨_, rfl⟩
  have HV := hide hV
  rw [← hV]
  clear hV
  have hB := fun o => (Below.refl w.heap.size w).alloc (Nat.le_refl _) o
  go_enter Tryd.func23, Tryd.ntmps23
  go_wp2_with fail
  refine (iKeyOk_any m a cap L x _ ((HR.out.below (hB _) (Nat.le_refl _)).mono (by simp)) HL.out).mono ?_
  rintro e w1 ⟨rfl, hb1⟩
  have HX1 := hide ((Box3.new w (.string m) (.slice a L.length cap) (.int .i64 x) 31).below hb1 (by simp))
  have HB1 := hide ((hB _).trans (hb1.mono (by simp)))
  clear hb1 hB
  obtain ⟨x1, c10, c11, c12⟩ := HX1.out
  cases hd : devOkB m L x with
  | false =>
    have HV1 := hide (show V = noKey from HV.out.trans (keyOfV_no hd))
    clear hd
    go_wp2_with fail
    go_ret
    exact ⟨by rw [HV1.out]; rfl, HB1.out⟩
  | true =>
    have HV1 := hide (show V = ixK L (slotIx L t) from HV.out.trans (keyOfV_yes hd))
    clear hd
    go_wp2_with fail
    refine (slotOf_any a cap L t _ ((HR.out.below HB1.out (Nat.le_refl _)).mono HB1.out.size) HL.out).mono ?_
    rintro e w2 ⟨rfl, hb2⟩
    have HX2 := hide (HX1.out.below hb2 x1)
    have HB2 := hide (HB1.out.trans (hb2.mono HB1.out.size))
    clear hb2 HX1 HB1 c10 c11 c12
    obtain ⟨x2, c20, c21, c22⟩ := HX2.out
    cases hi : slotIx L t with
    | none =>
      rw [hi] at HV1
      have e : ixI none = -1 := rfl
      rw [e]
      clear hi e
      go_wp2_with fail
      go_ret
      exact ⟨by rw [HV1.out]; rfl, HB2.out⟩
    | some i =>
      rw [hi] at HV1
      have e : ixI (some i) = (i : Int) := rfl
      rw [e]
      obtain ⟨hiL, _, _⟩ := slotIx_of_some hi
      obtain ⟨b, o, rfl, hb, hc⟩ := HR.out (by omega)
      obtain ⟨_, p1⟩ := hc i hiL
      have d1 := (HB2.out.cell (p := ⟨b, o + i * 2 + 1, none⟩) hb).trans p1
      clear hi e hc p1
      go_wp2_with fail
      go_ret
      exact ⟨by rw [HV1.out]; rfl, HB2.out⟩

theorem sKeyOf_any (m : ByteArray) (a : Option Addr) (cap : Nat) (L : List Slot) (x t : Int) (w : World) (hr : SlotRd w w.heap.size a L) (hl : L.length ≤ 2097152) :
    Calls Tryd.prog 24 #[.agg #[.string m, .slice a L.length cap, .int .i64 x], .int .i64 t] w (StringPost w (keyOfV m L x t)) := by
  have HR := hide hr
  have HL := hide hl
  clear hr
  obtain ⟨V, hV⟩ : ∃ V, V = keyOfV m L x t := ⟨_, rfl⟩
  have HV := hide hV
  rw [← hV]
  have HC := hide (fun W hr => sKeyOk_any m a cap L x W hr HL.out)
  obtain ⟨n, hn⟩ : ∃ n, n = L.length := ⟨_, rfl⟩
  have HN := hide hn
  rw [← hn] at hl HC
  rw [← hn]
  clear hn hV
  have hB := fun o => (Below.refl w.heap.size w).alloc (Nat.le_refl _) o
  go_enter Tryd.func24, Tryd.ntmps24
  go_wp2_with fail
  go_loopw [5] (fun i wr => ∃ j : Nat, i = .int .i64 j ∧ j ≤ n ∧ Hid (∀ i, i < j → tn L i ≠ t) ∧ Hid (0 < j → devOkB m L x = true) ∧ Hid (Below w.heap.size w wr) ∧ Hid (Box3 wr w.heap.size (.string m) (.slice a n cap) (.int .i64 x))) (fun i _ => n - (intOf i).toNat)
  case atStart => exact ⟨0, rfl, by omega, fun i hi => by omega, fun h => by omega, hB _, Box3.new w _ _ _ _⟩
  case round =>
    obtain ⟨j, rfl, hj, HO, HD, HB, HX⟩ := hrel
    clear hB
    obtain ⟨x1, c10, c11, c12⟩ := HX.out
    by_cases hlt : j < n
    · go_wp2_with fail
      refine (HC.out _ ((HR.out.below HB.out (Nat.le_refl _)).mono HB.out.size)).mono ?_
      rintro e w2 ⟨rfl, hb2⟩
      have HX2 := hide (HX.out.below hb2 x1)
      have HB2 := hide (HB.out.trans (hb2.mono HB.out.size))
      clear hb2 HX HB c10 c11 c12
      obtain ⟨x2, c20, c21, c22⟩ := HX2.out
      cases hd : devOkB m L x with
      | false =>
        have HV1 := hide (show V = noKey from HV.out.trans (keyOfV_no hd))
        clear hd
        go_wp2_with fail
        go_ret
        exact ⟨by rw [HV1.out]; rfl, HB2.out⟩
      | true =>
        have HV1 := hide (show V = ixK L (slotIx L t) from HV.out.trans (keyOfV_yes hd))
        have HD1 := hide hd
        clear hd
        have hjL : j < L.length := by rw [← HN.out]; exact hlt
        obtain ⟨b, o, rfl, hb, hc⟩ := HR.out (by omega)
        obtain ⟨p0, p1⟩ := hc j hjL
        have d0 := (HB2.out.cell (p := ⟨b, o + j * 2, none⟩) hb).trans p0
        have d1 := (HB2.out.cell (p := ⟨b, o + j * 2 + 1, none⟩) hb).trans p1
        have HJ := hide hjL
        clear hc p0 p1 hjL
        by_cases ht : tn L j = t
        · have t0 : (tn L j == t) = true := by rw [beq_iff_eq]; exact ht
          have HV2 := hide (show V = ky L j from HV1.out.trans (by rw [slotIx_some j HJ.out ht HO.out]; rfl))
          clear ht
          go_wp2_with fail
          go_ret
          exact ⟨by rw [HV2.out]; rfl, HB2.out⟩
        · have t0 : (tn L j == t) = false := by rw [beq_eq_false_iff_ne]; exact ht
          have HO1 := hide (show ∀ i, i < j + 1 → tn L i ≠ t from fun i hi => by
            rcases Nat.lt_or_ge i j with h | h
            · exact HO.out i h
            · rw [show i = j by omega]; exact ht)
          clear ht
          go_wp2_with fail
          go_roundw
          case rel => exact ⟨j + 1, by go_num, by omega, HO1, fun _ => HD1.out, HB2, HX2⟩
          case measure => simp [intOf]; omega
    · have HV1 := hide (show V = noKey from HV.out.trans (by
        cases hd : devOkB m L x with
        | false => exact keyOfV_no hd
        | true => rw [keyOfV_yes hd, slotIx_none fun i hi => HO.out i (by rw [← HN.out] at hi; omega)]; rfl))
      go_wp2_with fail
      go_ret
      exact ⟨by rw [HV1.out]; rfl, HB.out⟩
end Go.Proofs.YtakjjfbocokpaaaDoor
