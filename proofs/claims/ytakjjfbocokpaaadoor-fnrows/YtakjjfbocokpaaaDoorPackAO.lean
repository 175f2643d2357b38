/-
  Texts of this proof, put together: LogB, LogS.
-/
import Derived.Test.YtakjjfbocokpaaaDoorPackAN
import Derived.Test.YtakjjfbocokpaaaDoorPackAI
import Derived.Deep.RegionHeld3
import Derived.Test.YtakjjfbocokpaaaDoorPackAE
import Derived.Test.YtakjjfbocokpaaaDoorPackAM
import Derived.Test.YtakjjfbocokpaaaDoorPackAG

/-
  What both ShowRows share: a row's box of five cells, the sums of its strings.
-/
namespace Go.Proofs.YtakjjfbocokpaaaDoor
open Go.ChangeShapes Go.WideShapes Go.ChangeAt Go.RowKit

def rowV (t b n : Int) (x : ByteArray) (y : Bool) : Value := .agg #[.int .i64 t, .int .i64 b, .int .i64 n, .string x, .bool y]
theorem box5_cells {w w' : World} {v0 v1 v2 v3 v4 : Value} {T : TypeId} (h : Below (w.heap.size + 1) (w.alloc (.cells #[v0, v1, v2, v3, v4] T)) w') :
    w'.cell? ⟨w.heap.size, 0, none⟩ = some v0 ∧ w'.cell? ⟨w.heap.size, 1, none⟩ = some v1 ∧ w'.cell? ⟨w.heap.size, 2, none⟩ = some v2 ∧ w'.cell? ⟨w.heap.size, 3, none⟩ = some v3 ∧ w'.cell? ⟨w.heap.size, 4, none⟩ = some v4 :=
  ⟨(h.cell (p := ⟨w.heap.size, 0, none⟩) (by simp)).trans (by simp), (h.cell (p := ⟨w.heap.size, 1, none⟩) (by simp)).trans (by simp), (h.cell (p := ⟨w.heap.size, 2, none⟩) (by simp)).trans (by simp), (h.cell (p := ⟨w.heap.size, 3, none⟩) (by simp)).trans (by simp), (h.cell (p := ⟨w.heap.size, 4, none⟩) (by simp)).trans (by simp)⟩
theorem ok_bools {t b n : Int} {x : ByteArray} {y : Bool} (h : rowOkL (t, b, n, x, y)) :
    (decide (1 ≤ t) && decide (t ≤ 99)) = true ∧ (decide (0 ≤ b) && decide (b ≤ 1000)) = true ∧ (decide (0 ≤ n) && decide (n < 1000000)) = true ∧ decide ((x.size : Int) ≤ 300) = true := by
  obtain ⟨⟨h1, h2⟩, ⟨h3, h4, h5, h6⟩, h7⟩ := h
  have h7' : x.size ≤ 300 := h7
  simp only at h1 h2 h3 h4 h5 h6
  refine ⟨?_, ?_, ?_, ?_⟩
  · simp; omega
  · simp; omega
  · simp; omega
  · simp; omega
theorem ok_of_bools {t b n : Int} {x : ByteArray} {y : Bool} (h1 : (decide (1 ≤ t) && decide (t ≤ 99)) = true) (h2 : (decide (0 ≤ b) && decide (b ≤ 1000)) = true) (h3 : (decide (0 ≤ n) && decide (n < 1000000)) = true) (h4 : decide ((x.size : Int) ≤ 300) = true) : rowOkL (t, b, n, x, y) := by
  simp at h1 h2 h3 h4
  exact ⟨h1, ⟨h2.1, h2.2, h3.1, by show n ≤ 999999; omega⟩, by show x.size ≤ 300; omega⟩
/-- the four strings of a good row, how long they are, and their sums -/
theorem rest_parts {t b n : Int} {x : ByteArray} {y : Bool} (h : rowOkL (t, b, n, x, y)) : (varV t).length ≤ 7 ∧ (varV b).length ≤ 7 ∧ (varV n).length ≤ 7 ∧ (pieceL (bl x)).length ≤ 307 ∧ x.size ≤ 300 := by
  obtain ⟨_, _, h7⟩ := h
  have h7' : x.size ≤ 300 := h7
  have := piece_len (s := x) (by omega)
  exact ⟨varV_len' _, varV_len' _, varV_len' _, by omega, h7'⟩
end Go.Proofs.YtakjjfbocokpaaaDoor

/-
  Contract of spec.ShowRow.
-/
namespace Go.Proofs.YtakjjfbocokpaaaDoor
open Go.ChangeShapes Go.WideShapes Go.ChangeAt Go.RowKit

set_option maxHeartbeats 2000000 in
set_option maxRecDepth 20000 in
theorem sShowRow_any (t b n : Int) (x : ByteArray) (y : Bool) (w : World) :
    Calls Tryd.prog 40 #[.agg #[.int .i64 t, .int .i64 b, .int .i64 n, .string x, .bool y]] w (StrPost w (showR (t, b, n, x, y))) := by
  have HB0 := hide ((Below.refl _ w).alloc (Nat.le_refl _) (.cells #[.int .i64 t, .int .i64 b, .int .i64 n, .string x, .bool y] 49))
  by_cases hok : rowOkL (t, b, n, x, y)
  · obtain ⟨q1, _, _, _⟩ := ok_bools hok
    have HK := hide (fun W => l8At_yes b n hok.2.1 W)
    have q2 : decide ((300 : Int) < x.size) = false := decide_eq_false (by have := hok.2.2; simp only at this; omega)
    obtain ⟨l1, l2, l3, l4, hx⟩ := rest_parts hok
    have HV0 := hide (show showR (t, b, n, x, y) = sumL (varV t ++ varV b ++ varV n ++ pieceL (bl x)) ++ (varV t ++ varV b ++ varV n ++ pieceL (bl x)) from showR_yes hok)
    have H1 := hide (fun W => sVar_any t W)
    have H2 := hide (fun W => sVar_any b W)
    have H3 := hide (fun W => sVar_any n W)
    have H4 := hide (fun W => l6Piece_any x (by omega) W)
    obtain ⟨V, hV⟩ : ∃ V, V = showR (t, b, n, x, y) := ⟨_, rfl⟩
    rw [← hV] at HV0 ⊢
    obtain ⟨VT, hVT⟩ : ∃ VT, VT = varV t := ⟨_, rfl⟩
    obtain ⟨VB, hVB⟩ : ∃ VB, VB = varV b := ⟨_, rfl⟩
    obtain ⟨VN, hVN⟩ : ∃ VN, VN = varV n := ⟨_, rfl⟩
    obtain ⟨VX, hVX⟩ : ∃ VX, VX = pieceL (bl x) := ⟨_, rfl⟩
    rw [← hVT] at H1 HV0 l1
    rw [← hVB] at H2 HV0 l2
    rw [← hVN] at H3 HV0 l3
    rw [← hVX] at H4 HV0 l4
    obtain ⟨A2, hA2⟩ : ∃ A2, A2 = VT ++ VB := ⟨_, rfl⟩
    obtain ⟨A3, hA3⟩ : ∃ A3, A3 = A2 ++ VN := ⟨_, rfl⟩
    obtain ⟨R, hR⟩ : ∃ R, R = A3 ++ VX := ⟨_, rfl⟩
    have k2 : A2.length ≤ 14 := by rw [hA2, List.length_append]; omega
    have k3 : A3.length ≤ 21 := by rw [hA3, List.length_append]; omega
    have hlR : R.length ≤ 328 := by rw [hR, List.length_append]; omega
    have ha1 := run_cat VT VB (by omega)
    have ha2 := run_cat A2 VN (by omega)
    have ha3 := run_cat A3 VX (by omega)
    rw [← hA2] at ha1 HV0
    rw [← hA3] at ha2 HV0
    rw [← hR] at ha3 HV0
    have HS := hide (sumL_len R)
    have HCR := hide (fun W => sCrc_any ⟨R.toArray⟩ W (by rw [size_of]; unfold maxLen; omega))
    rw [bl_of R] at HCR
    have HF := hide (fun W => sFixed_any (4294967295 - (crcRun 4294967295 R : Int)) 4 W (by omega))
    have hcr : (4294967295 - (crcRun 4294967295 R : Int)) < 4294967296 := by omega
    have hcr0 : 0 ≤ (4294967295 - (crcRun 4294967295 R : Int)) := by have := crcRun_lt R 4294967295 (by decide); omega
    rw [← sumL] at HF
    obtain ⟨F, hF⟩ : ∃ F, F = sumL R := ⟨_, rfl⟩
    rw [← hF] at HF HS HV0
    have ha4 := run_cat F R (by have := HS.out; omega)
    obtain ⟨c, hc⟩ : ∃ c, c = 4294967295 - (crcRun 4294967295 R : Int) := ⟨_, rfl⟩
    rw [← hc] at HCR HF hcr hcr0
    clear hF hR hA2 hA3 k2 k3 hVT hVB hVN hVX hV l1 l2 l3 l4 HS hok hlR hx hc
    have HD := hide (fun (w' : World) (h : Below (w.heap.size + 1) (w.alloc (.cells #[.int .i64 t, .int .i64 b, .int .i64 n, .string x, .bool y] 49)) w') => box5_cells h)
    go_enter Tryd.func40, Tryd.ntmps40
    go_wp2_with (first | (go_at_call 52; refine (l1In_any _ _ _ _).mono ?_; rw [q1]; rintro e w' ⟨rfl, rfl⟩) | (go_at_call 82; refine (HK.out _).mono ?_; rintro e w' ⟨rfl, rfl⟩))
    go_region_held3 (fun w' => w'.cell? ⟨w.heap.size, 0, none⟩ = some (.int .i64 t) ∧ w'.cell? ⟨w.heap.size, 1, none⟩ = some (.int .i64 b) ∧ w'.cell? ⟨w.heap.size, 2, none⟩ = some (.int .i64 n) ∧ w'.cell? ⟨w.heap.size, 3, none⟩ = some (.string x) ∧ w'.cell? ⟨w.heap.size, 4, none⟩ = some (.bool y))
      (first
        | with_reducible exact HD.out _ (Below.refl _ _)
        | with_reducible exact HD.out _ (Below.refl _ _).drew
        | with_reducible exact HD.out _ HW2.out
        | with_reducible exact HD.out _ HW3.out
        | with_reducible exact HD.out _ HW4.out
        | with_reducible exact HD.out _ HW5.out)
      (first
        | (have hq4 := HW4.out
           clear hq4
           go_at_call 84
           refine (H4.out _).mono ?_
           rintro e w5 ⟨rfl, hb5⟩
           have HW5 := hide (HW4.out.trans (hb5.mono (by have := HW4.out.size; rw [Go.Deep.nblk_alloc] at this; exact this)))
           clear hb5)
        | (have hq3 := HW3.out
           clear hq3
           go_at_call 83
           refine (H3.out _).mono ?_
           rintro e w4 ⟨rfl, hb4⟩
           have HW4 := hide (HW3.out.trans (hb4.mono (by have := HW3.out.size; rw [Go.Deep.nblk_alloc] at this; exact this)))
           clear hb4)
        | (have hq2 := HW2.out
           clear hq2
           go_at_call 83
           refine (H2.out _).mono ?_
           rintro e w3 ⟨rfl, hb3⟩
           have HW3 := hide (HW2.out.trans (hb3.mono (by have := HW2.out.size; rw [Go.Deep.nblk_alloc] at this; exact this)))
           clear hb3)
        | (go_at_call 83
           refine (H1.out _).mono ?_
           rintro e w2 ⟨rfl, hb2⟩
           have HW2 : Hid (Below (w.heap.size + 1) (w.alloc (.cells #[.int .i64 t, .int .i64 b, .int .i64 n, .string x, .bool y] 49)) w2) := by
             have h := below_of_drew' hb2
             rw [Go.Deep.nblk_alloc] at h
             exact h
           clear hb2))
    all_goals
      have HB5 := hide (HB0.out.trans (HW5.out.mono (by omega)))
      go_wp2_with fail
      refine (HCR.out _).mono ?_
      rintro e w6 ⟨rfl, rfl⟩
      go_wp2_with fail
      refine (HF.out _).mono ?_
      rintro e w7 ⟨rfl, hb7⟩
      have HB7 := hide (HB5.out.trans (hb7.mono HB5.out.size))
      clear hb7
      go_wp2_with fail
      go_ret
      exact ⟨by rw [HV0.out]; rfl, HB7.out⟩
  · rw [showR_no hok]
    by_cases q1 : (decide (1 ≤ t) && decide (t ≤ 99)) = true
    · by_cases ha : atOk b n
      · have HK := hide (fun W => l8At_yes b n ha W)
        have q2 : decide ((300 : Int) < x.size) = true := decide_eq_true (by
          refine Int.not_le.mp fun hle => hok ⟨?_, ha, ?_⟩
          · simp at q1; exact q1
          · show x.size ≤ 300; omega)
        clear hok ha
        go_enter Tryd.func40, Tryd.ntmps40
        go_wp2_with (first | (go_at_call 52; refine (l1In_any _ _ _ _).mono ?_; rw [q1]; rintro e w' ⟨rfl, rfl⟩) | (go_at_call 82; refine (HK.out _).mono ?_; rintro e w' ⟨rfl, rfl⟩))
        go_ret
        exact ⟨rfl, HB0.out⟩
      · have HK := hide (fun W => l8At_no b n ha W)
        clear hok ha
        go_enter Tryd.func40, Tryd.ntmps40
        go_wp2_with (first | (go_at_call 52; refine (l1In_any _ _ _ _).mono ?_; rw [q1]; rintro e w' ⟨rfl, rfl⟩) | (go_at_call 82; refine (HK.out _).mono ?_; rintro e w' ⟨rfl, rfl⟩))
        go_ret
        exact ⟨rfl, HB0.out⟩
    · rw [Bool.not_eq_true] at q1
      have HK := hide True.intro
      clear hok
      go_enter Tryd.func40, Tryd.ntmps40
      go_wp2_with (first | (go_at_call 52; refine (l1In_any _ _ _ _).mono ?_; rw [q1]; rintro e w' ⟨rfl, rfl⟩) | (go_at_call 82; refine (HK.out _).mono ?_; rintro e w' ⟨rfl, rfl⟩))
      go_ret
      exact ⟨rfl, HB0.out⟩
end Go.Proofs.YtakjjfbocokpaaaDoor
