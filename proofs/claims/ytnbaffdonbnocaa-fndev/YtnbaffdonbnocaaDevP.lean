/-
  Contract of spec.DevOk.
-/
import Derived.Test.YtnbaffdonbnocaaDevO
namespace Go.Proofs.Ytnbaffdonbnocaa
open Go.ChangeShapes Go.WideShapes Go.ChangeAt Go.RowKit

theorem below_drewN {B : Nat} {a b : World} (h : Below B a b) (n : Nat) : Below B a (b.drewN n) := ⟨h.os, h.tape, h.output, h.size, h.block⟩
theorem l1In_yes (x a b : Int) (w : World) (h0 : a ≤ x) (h1 : x ≤ b) :
    Calls Try.prog 32 #[.int .i64 x, .int .i64 a, .int .i64 b] w fun e w' => e = .returned (.bool true) ∧ w' = w :=
  (l1In_any x a b w).mono fun e w' ⟨he, hw⟩ => ⟨by rw [he, decide_eq_true h0, decide_eq_true h1]; rfl, hw.symm⟩
theorem l1In_no (x a b : Int) (w : World) (h : x < a ∨ b < x) :
    Calls Try.prog 32 #[.int .i64 x, .int .i64 a, .int .i64 b] w fun e w' => e = .returned (.bool false) ∧ w' = w :=
  (l1In_any x a b w).mono fun e w' ⟨he, hw⟩ => ⟨by
    rw [he]
    rcases h with h | h
    · rw [decide_eq_false (by omega : ¬ a ≤ x)]; rfl
    · rw [decide_eq_false (by omega : ¬ x ≤ b), Bool.and_false], hw.symm⟩

set_option maxHeartbeats 1000000 in
theorem sDevOk_any (a a' : Option Addr) (cap cap' : Nat) (S : List ByteArray) (L : List Slot) (x : Int) (w : World) (hs : StrRd w w.heap.size a S) (hsl : S.length ≤ 2097152) (hr : SlotRd w w.heap.size a' L) (hl : L.length ≤ 2097152) :
    Calls Try.prog 12 #[.agg #[.slice a S.length cap, .slice a' L.length cap', .int .i64 x]] w (BoolPost w (devOkB S L x)) := by
  have HS := hide hs
  have HR := hide hr
  clear hr hs
  obtain ⟨V, hV⟩ : ∃ V, V = devOkB S L x := ⟨_, rfl⟩
  have HV := hide hV
  rw [← hV]
  clear hV
  obtain ⟨n, hn⟩ : ∃ n, n = S.length := ⟨_, rfl⟩
  obtain ⟨m, hm⟩ : ∃ m, m = L.length := ⟨_, rfl⟩
  have HN := hide hn
  have HM := hide hm
  rw [← hn] at hsl ⊢
  rw [← hm] at hl ⊢
  clear hn hm
  have hB := fun o => (Below.refl w.heap.size w).alloc (Nat.le_refl _) o
  by_cases h1 : 1 ≤ n ∧ n ≤ 16
  · obtain ⟨h10, h11⟩ := h1
    by_cases h2 : 20 < m
    · have HV1 := hide (show V = false from HV.out.trans (yes_false fun h => by have := h.2.1.1; rw [← HM.out] at this; omega))
      go_enter Try.func12, Try.ntmps12
      go_wp2_with fail
      refine (l1In_yes n 1 16 _ (by omega) (by omega)).mono ?_
      rintro e w1 ⟨rfl, rfl⟩
      go_wp2_with fail
      go_ret
      exact ⟨by rw [HV1.out]; rfl, hB _⟩
    · by_cases h3 : 0 ≤ x ∧ x ≤ 1000000
      · obtain ⟨h30, h31⟩ := h3
        go_enter Try.func12, Try.ntmps12
        go_wp2_with fail
        refine (l1In_yes n 1 16 _ (by omega) (by omega)).mono ?_
        rintro e w1 ⟨rfl, rfl⟩
        go_wp2_with fail
        refine (l1In_yes x 0 1000000 _ h30 h31).mono ?_
        rintro e w1 ⟨rfl, rfl⟩
        go_wp2_with fail
        go_loopw [3] (fun i wr => ∃ j : Nat, i = .int .i64 j ∧ j ≤ n ∧ Hid (∀ i, i < j → (st S i).size ≤ 200) ∧ Hid (Below w.heap.size w wr) ∧ Hid (BoxB 27 wr w.heap.size (.slice a n cap) (.slice a' m cap') (.int .i64 x))) (fun i _ => n - (intOf i).toNat)
        case atStart => exact ⟨0, rfl, by omega, fun i hi => by omega, hB _, BoxB.new _ w _ _ _⟩
        case round =>
          obtain ⟨j, rfl, hj, HO, HB, HX⟩ := hrel
          obtain ⟨x0, x1, x2⟩ := HX.out.cells
          by_cases hlt : j < n
          · have hjL : j < S.length := by rw [← HN.out]; exact hlt
            obtain ⟨b, o, rfl, hb, hc⟩ := HS.out (by omega)
            have d0 := (HB.out.cell (p := ⟨b, o + j, none⟩) hb).trans (hc j hjL)
            have HJ := hide hjL
            clear hc hjL
            by_cases hk : (st S j).size ≤ 200
            · have k1 : decide ((200 : Int) < (st S j).size) = false := decide_eq_false (by omega)
              have HO1 := hide (show ∀ i, i < j + 1 → (st S i).size ≤ 200 from fun i hi => by
                rcases Nat.lt_or_ge i j with h | h
                · exact HO.out i h
                · rw [show i = j by omega]; exact hk)
              clear hk
              go_wp2_with fail
              go_roundw
              case rel => exact ⟨j + 1, by go_num, by omega, HO1, HB, HX⟩
              case measure => simp [intOf]; omega
            · have k1 : decide ((200 : Int) < (st S j).size) = true := decide_eq_true (by omega)
              have HV1 := hide (show V = false from HV.out.trans (yes_false fun h => hk (h.1.2.2 j HJ.out)))
              clear hk
              go_wp2_with fail
              go_ret
              exact ⟨by rw [HV1.out]; rfl, HB.out⟩
          · have HSo := hide (show SecOk S from ⟨by rw [← HN.out]; omega, by rw [← HN.out]; omega, fun i hi => HO.out i (by rw [← HN.out] at hi; omega)⟩)
            clear HO
            go_wp2_with fail
            go_loopw [4, 5] (fun i _ wr => ∃ j : Nat, i = .int .i64 j ∧ j ≤ m ∧ Hid (∀ i, i < j → PutOk n (tn L i) (ky L i)) ∧ Hid (Below w.heap.size w wr) ∧ Hid (BoxB 27 wr w.heap.size (.slice a n cap) (.slice a' m cap') (.int .i64 x))) (fun i _ _ => m - (intOf i).toNat)
            case atStart => exact ⟨0, rfl, by omega, fun i hi => by omega, HB, HX⟩
            case round =>
              clear x0 x1 x2 HB HX
              obtain ⟨j, rfl, hj, HO, HB, HX⟩ := hrel
              obtain ⟨x0, x1, x2⟩ := HX.out.cells
              have hs := HB.out.size
              have hx := HX.out.lt
              by_cases hlt : j < m
              · have hjL : j < L.length := by rw [← HM.out]; exact hlt
                obtain ⟨b, o, rfl, hb, hc⟩ := HR.out (by omega)
                obtain ⟨p0, p1⟩ := hc j hjL
                have d0 := (HB.out.cell (p := ⟨b, o + j * 2, none⟩) hb).trans p0
                have d1 := (HB.out.cell (p := ⟨b, o + j * 2 + 1, none⟩) hb).trans p1
                have HJ := hide hjL
                clear hc p0 p1 hjL
                by_cases ht0 : 0 ≤ tn L j
                · by_cases ht1 : tn L j < n
                  · by_cases hk : (ky L j).size ≤ 200
                    · have k1 : decide ((200 : Int) < (ky L j).size) = false := decide_eq_false (by omega)
                      have HO1 := hide (show ∀ i, i < j + 1 → PutOk n (tn L i) (ky L i) from fun i hi => by
                        rcases Nat.lt_or_ge i j with h | h
                        · exact HO.out i h
                        · rw [show i = j by omega]; exact ⟨ht0, ht1, hk⟩)
                      clear hk
                      go_wp2_with fail
                      go_roundw
                      case rel => exact ⟨j + 1, by go_num, by omega, HO1, HB.out.alloc hs _, HX.out.alloc _⟩
                      case measure => simp [intOf]; omega
                    · have k1 : decide ((200 : Int) < (ky L j).size) = true := decide_eq_true (by omega)
                      have HV1 := hide (show V = false from HV.out.trans (yes_false fun h => hk (h.2.1.2 j HJ.out).2.2))
                      clear hk
                      go_wp2_with fail
                      go_ret
                      exact ⟨by rw [HV1.out]; rfl, HB.out.alloc hs _⟩
                  · have HV1 := hide (show V = false from HV.out.trans (yes_false fun h => ht1 (by rw [HN.out]; exact (h.2.1.2 j HJ.out).2.1)))
                    have k1 : decide ((n : Int) ≤ tn L j) = true := decide_eq_true (by omega)
                    go_wp2_with fail
                    go_ret
                    exact ⟨by rw [HV1.out]; rfl, HB.out.alloc hs _⟩
                · have HV1 := hide (show V = false from HV.out.trans (yes_false fun h => ht0 (h.2.1.2 j HJ.out).1))
                  go_wp2_with fail
                  go_ret
                  exact ⟨by rw [HV1.out]; rfl, HB.out.alloc hs _⟩
              · have HV1 := hide (show V = true from HV.out.trans (yes_true ⟨HSo.out, ⟨by rw [← HM.out]; omega, fun i hi => by rw [← HN.out]; exact HO.out i (by rw [← HM.out] at hi; omega)⟩, h30, h31⟩))
                go_wp2_with fail
                go_ret
                exact ⟨by rw [HV1.out]; rfl, HB.out⟩
      · have HV1 := hide (show V = false from HV.out.trans (yes_false fun h => h3 h.2.2))
        go_enter Try.func12, Try.ntmps12
        go_wp2_with fail
        refine (l1In_yes n 1 16 _ (by omega) (by omega)).mono ?_
        rintro e w1 ⟨rfl, rfl⟩
        go_wp2_with fail
        refine (l1In_no x 0 1000000 _ (by omega)).mono ?_
        rintro e w1 ⟨rfl, rfl⟩
        go_wp2_with fail
        go_ret
        exact ⟨by rw [HV1.out]; rfl, hB _⟩
  · have HV1 := hide (show V = false from HV.out.trans (yes_false fun h => h1 (by rw [HN.out]; exact ⟨h.1.1, h.1.2.1⟩)))
    go_enter Try.func12, Try.ntmps12
    go_wp2_with fail
    refine (l1In_no n 1 16 _ (by omega)).mono ?_
    rintro e w1 ⟨rfl, rfl⟩
    go_wp2_with fail
    go_ret
    exact ⟨by rw [HV1.out]; rfl, hB _⟩
end Go.Proofs.Ytnbaffdonbnocaa
