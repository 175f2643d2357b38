/-
  Contracts of impl.DevRead and spec.DevRead.
-/
import Derived.Test.YtnbaffdonbnocaaDevJ
import Derived.Deep.QuietTactic
import Derived.BigQuiet
namespace Go.Proofs.Ytnbaffdonbnocaa
open Go.ChangeShapes Go.WideShapes Go.ChangeAt Go.RowKit Go.Shelf
attribute [local go_sem] Oper.semAt_some

noncomputable def readS (S : List ByteArray) (L : List Slot) (x t : Int) : ByteArray := if devOkB S L x = true ∧ 0 ≤ t ∧ t < S.length then lastF S L t L.length else ⟨#[]⟩
noncomputable def readB (S : List ByteArray) (L : List Slot) (x t : Int) : Bool := yes (devOkB S L x = true ∧ 0 ≤ t ∧ t < S.length)

set_option maxRecDepth 100000 in
set_option maxHeartbeats 4000000 in
theorem iDevRead_bad (a a' : Option Addr) (cap cap' : Nat) (S : List ByteArray) (L : List Slot) (x t : Int) (w : World) (hs : StrRd w w.heap.size a S) (hsl : S.length ≤ 2097152) (hr : SlotRd w w.heap.size a' L) (hl : L.length ≤ 2097152) (hno : ¬ (devOkB S L x = true ∧ 0 ≤ t ∧ t < S.length)) :
    Calls Try.prog 13 #[.agg #[.slice a S.length cap, .slice a' L.length cap', .int .i64 x], .int .i64 t] w (ReadPost w ⟨#[]⟩ false) := by
  have HS := hide hs
  have HR := hide hr
  have HNo := hide hno
  have HC := hide (fun W h1 h2 => iDevOk_any a a' cap cap' S L x W h1 hsl h2 hl)
  obtain ⟨n, hn⟩ : ∃ n, S.length = n := ⟨_, rfl⟩
  obtain ⟨m, hm⟩ : ∃ m, L.length = m := ⟨_, rfl⟩
  have HN := hide hn
  rw [hn] at HC ⊢
  rw [hm] at HC ⊢
  clear hs hr hn hm hno
  refine (callsIn_wide (n := 6)).1 ?_
  refine callsIn_of_wp_marks Try.func13 rfl trivial ?_ rfl
  simp only [Try.ntmps13, List.size_toArray, List.length_cons, List.length_nil, Nat.reduceAdd, Nat.reduceSub, Array.replicate_succ, Array.replicate_zero, List.push_toArray, List.append_toArray, List.nil_append, List.cons_append]
  obtain ⟨W, hW, hWb, hWs, hX, hA, hC, hD⟩ := read_boxes w (.slice a n cap) (.slice a' m cap') (.int .i64 x) (.int .i64 t)
  gi_wp2
  rw [← hW]
  have HX := hide hX
  have HA := hide hA
  have HRs := hide hC
  have HRb := hide hD
  have HWb := hide hWb
  clear hW hX hA hC hD hWb hWs
  refine ⟨trivial, (callsIn_wide.2 (HC.out _ ((HS.out.below HWb.out (Nat.le_refl _)).mono HWb.out.size) ((HR.out.below HWb.out (Nat.le_refl _)).mono HWb.out.size))).mono ?_⟩
  rintro e w1 ⟨rfl, hb1⟩
  have HX1 := hide (HX.out.below hb1 HX.out.lt)
  have HA1 := hide (boxBel HA.out hb1 HA.out.lt)
  have HRs1 := hide (boxBel HRs.out hb1 HRs.out.lt)
  have HRb1 := hide (boxBel HRb.out hb1 HRb.out.lt)
  have HB1 := hide (HWb.out.trans (hb1.mono HWb.out.size))
  clear hb1 HC HX HA HRs HRb HWb
  cases hd : devOkB S L x with
  | false =>
    clear hd
    have cS := HRs1.out.cell
    have fS := HRs1.out.frozen
    have cB := HRb1.out.cell
    have fB := HRb1.out.frozen
    gi_wp2
    refine ⟨trivial, ?_⟩
    gi_wp2
    have bS2 := (HRs1.out.set (.string ⟨#[]⟩)).other (show w.heap.size + 1 + 1 ≠ w.heap.size + 1 + 1 + 1 by omega) (.bool false)
    have bB2 := (HRb1.out.other (show w.heap.size + 1 + 1 + 1 ≠ w.heap.size + 1 + 1 by omega) (.string ⟨#[]⟩)).set (.bool false)
    have hc5 := bS2.cell
    have hc6 := bB2.cell
    refine ⟨.tuple #[.string ⟨#[]⟩, .bool false], ?_, rfl, (HB1.out.setCell (by simp; omega) _).setCell (by simp; omega) _⟩
    simp [results, Try.f13, go_sem, hc5, hc6]
  | true =>
    have HD := hide hd
    clear hd
    obtain ⟨c0, c1, c2⟩ := HX1.out.cells
    have cA := HA1.out.cell
    gi_wp2
    refine ⟨trivial, (callsIn_wide.2 (hasSector_any _ n cap _ x t _)).mono ?_⟩
    rintro e w2 ⟨rfl, hb2⟩
    have e1 : (decide (0 ≤ t) && decide (t < (n : Int))) = false := by
      have h1 : ¬ (0 ≤ t ∧ t < n) := fun h => HNo.out ⟨HD.out, h.1, by rw [HN.out]; exact h.2⟩
      simp
      omega
    rw [e1]
    have HRs2 := hide (boxBel HRs1.out hb2 HRs1.out.lt)
    have HRb2 := hide (boxBel HRb1.out hb2 HRb1.out.lt)
    have HB2 := hide (HB1.out.trans (hb2.mono HB1.out.size))
    clear hb2 e1 HX1 HA1 HRs1 HRb1 HB1 c0 c1 c2 cA
    have cS := HRs2.out.cell
    have fS := HRs2.out.frozen
    have cB := HRb2.out.cell
    have fB := HRb2.out.frozen
    gi_wp2
    have bS2 := (HRs2.out.set (.string ⟨#[]⟩)).other (show w.heap.size + 1 + 1 ≠ w.heap.size + 1 + 1 + 1 by omega) (.bool false)
    have bB2 := (HRb2.out.other (show w.heap.size + 1 + 1 + 1 ≠ w.heap.size + 1 + 1 by omega) (.string ⟨#[]⟩)).set (.bool false)
    have hc5 := bS2.cell
    have hc6 := bB2.cell
    refine ⟨.tuple #[.string ⟨#[]⟩, .bool false], ?_, rfl, (HB2.out.setCell (by simp; omega) _).setCell (by simp; omega) _⟩
    simp [results, Try.f13, go_sem, hc5, hc6]

theorem iDevRead_any (a a' : Option Addr) (cap cap' : Nat) (S : List ByteArray) (L : List Slot) (x t : Int) (w : World) (hs : StrRd w w.heap.size a S) (hsl : S.length ≤ 2097152) (hr : SlotRd w w.heap.size a' L) (hl : L.length ≤ 2097152) :
    Calls Try.prog 13 #[.agg #[.slice a S.length cap, .slice a' L.length cap', .int .i64 x], .int .i64 t] w (ReadPost w (readS S L x t) (readB S L x t)) := by
  by_cases h : devOkB S L x = true ∧ 0 ≤ t ∧ t < S.length
  · rw [readS, if_pos h, readB, yes_true h]
    obtain ⟨h1, h2, h3⟩ := h
    obtain ⟨q, rfl⟩ : ∃ q : Nat, t = q := ⟨t.toNat, by omega⟩
    exact iDevRead_good a a' cap cap' S L x q w hs hr (yes_iff.1 h1) (by omega)
  · rw [readS, if_neg h, readB, yes_false h]
    exact iDevRead_bad a a' cap cap' S L x t w hs hsl hr hl h

set_option maxHeartbeats 4000000 in
theorem sDevRead_any (a a' : Option Addr) (cap cap' : Nat) (S : List ByteArray) (L : List Slot) (x t : Int) (w : World) (hs : StrRd w w.heap.size a S) (hsl : S.length ≤ 2097152) (hr : SlotRd w w.heap.size a' L) (hl : L.length ≤ 2097152) :
    Calls Try.prog 24 #[.agg #[.slice a S.length cap, .slice a' L.length cap', .int .i64 x], .int .i64 t] w (ReadPost w (readS S L x t) (readB S L x t)) := by
  have HS := hide hs
  have HR := hide hr
  have HC := hide (fun W h1 h2 => sDevOk_any a a' cap cap' S L x W h1 hsl h2 hl)
  obtain ⟨Rs, hRs⟩ : ∃ r, r = readS S L x t := ⟨_, rfl⟩
  obtain ⟨Rb, hRb⟩ : ∃ r, r = readB S L x t := ⟨_, rfl⟩
  have HRs := hide hRs
  have HRb := hide hRb
  rw [← hRs, ← hRb]
  obtain ⟨n, hn⟩ : ∃ n, S.length = n := ⟨_, rfl⟩
  obtain ⟨m, hm⟩ : ∃ m, L.length = m := ⟨_, rfl⟩
  have HN := hide hn
  have HM := hide hm
  rw [hn] at HC hsl ⊢
  rw [hm] at HC hl ⊢
  clear hs hr hn hm hRs hRb
  have hB := fun o => (Below.refl w.heap.size w).alloc (Nat.le_refl _) o
  go_enter Try.func24, Try.ntmps24
  go_wp2_with fail
  refine (HC.out _ ((HS.out.below (hB _) (Nat.le_refl _)).mono (by simp)) ((HR.out.below (hB _) (Nat.le_refl _)).mono (by simp))).mono ?_
  rintro e w1 ⟨rfl, hb1⟩
  have HX1 := hide ((BoxB.new 27 w (.slice a n cap) (.slice a' m cap') (.int .i64 x)).below hb1 (by simp))
  have HB1 := hide ((hB _).trans (hb1.mono (by simp)))
  clear hb1 hB HC
  obtain ⟨c0, c1, c2⟩ := HX1.out.cells
  cases hd : devOkB S L x with
  | false =>
    have HV1 := hide (show Rs = ⟨#[]⟩ from HRs.out.trans (by rw [readS, if_neg (fun h => by rw [hd] at h; cases h.1)]))
    have HV2 := hide (show Rb = false from HRb.out.trans (yes_false (fun h => by rw [hd] at h; cases h.1)))
    clear hd
    go_wp2_with fail
    go_ret2
    exact ⟨by rw [HV1.out, HV2.out]; rfl, HB1.out⟩
  | true =>
    have HD := hide hd
    clear hd
    by_cases h0 : 0 ≤ t
    · by_cases h1 : t < n
      · have HV1 := hide (show Rs = lastF S L t m from HRs.out.trans (by rw [readS, if_pos ⟨HD.out, h0, by rw [HN.out]; exact h1⟩, HM.out]))
        have HV2 := hide (show Rb = true from HRb.out.trans (yes_true ⟨HD.out, h0, by rw [HN.out]; exact h1⟩))
        obtain ⟨q, rfl⟩ : ∃ q : Nat, t = q := ⟨t.toNat, by omega⟩
        have hq : q < n := by omega
        obtain ⟨b, o, rfl, hb, hc⟩ := HS.out (by rw [HN.out]; omega)
        have d0 := (HB1.out.cell (p := ⟨b, o + q, none⟩) hb).trans (hc q (by rw [HN.out]; exact hq))
        have HF0 := hide (show st S q = lastF S L q 0 by simp [lastF])
        rw [HF0.out] at d0
        clear hc HF0
        go_wp2_with fail
        go_loopw [6, 7] (fun u i wr => ∃ j : Nat, i = .int .i64 j ∧ u = .string (lastF S L q j) ∧ j ≤ m ∧ wr = w1) (fun _ i _ => m - (intOf i).toNat)
        case atStart => exact ⟨0, rfl, rfl, Nat.zero_le _, rfl⟩
        case round =>
          obtain ⟨j, rfl, rfl, hj, rfl⟩ := hrel
          by_cases hlt : j < m
          · obtain ⟨b', o', rfl, hb', hc'⟩ := HR.out (by rw [HM.out]; omega)
            obtain ⟨p0, p1⟩ := hc' j (by rw [HM.out]; exact hlt)
            have f0 := (HB1.out.cell (p := ⟨b', o' + j * 2, none⟩) hb').trans p0
            have f1 := (HB1.out.cell (p := ⟨b', o' + j * 2 + 1, none⟩) hb').trans p1
            clear hc' p0 p1
            by_cases ht : tn L j = q
            · have t0 : (tn L j == (q : Int)) = true := by rw [beq_iff_eq]; exact ht
              have HL1 := hide (show ky L j = lastF S L q (j + 1) from (lastF_yes ht).symm)
              rw [HL1.out] at f1
              clear ht
              go_wp2_with fail
              go_roundw
              case rel => exact ⟨j + 1, by go_num, rfl, by omega, by trivial⟩
              case measure => simp [intOf]; omega
            · have t0 : (tn L j == (q : Int)) = false := by rw [beq_eq_false_iff_ne]; exact ht
              have HL1 := hide (show lastF S L q (j + 1) = lastF S L q j from lastF_no ht)
              clear ht
              go_wp2_with fail
              go_roundw
              case rel => exact ⟨j + 1, by go_num, by rw [HL1.out], by omega, by trivial⟩
              case measure => simp [intOf]; omega
          · have hjm : j = m := by omega
            subst hjm
            go_wp2_with fail
            go_ret2
            exact ⟨by rw [HV1.out, HV2.out]; rfl, HB1.out⟩
      · have HV1 := hide (show Rs = ⟨#[]⟩ from HRs.out.trans (by rw [readS, if_neg (fun h => h1 (by have := h.2.2; rw [HN.out] at this; exact this))]))
        have HV2 := hide (show Rb = false from HRb.out.trans (yes_false (fun h => h1 (by have := h.2.2; rw [HN.out] at this; exact this))))
        have k1 : decide ((n : Int) ≤ t) = true := decide_eq_true (by omega)
        go_wp2_with fail
        go_ret2
        exact ⟨by rw [HV1.out, HV2.out]; rfl, HB1.out⟩
    · have HV1 := hide (show Rs = ⟨#[]⟩ from HRs.out.trans (by rw [readS, if_neg (fun h => h0 h.2.1)]))
      have HV2 := hide (show Rb = false from HRb.out.trans (yes_false (fun h => h0 h.2.1)))
      go_wp2_with fail
      go_ret2
      exact ⟨by rw [HV1.out, HV2.out]; rfl, HB1.out⟩
end Go.Proofs.Ytnbaffdonbnocaa
