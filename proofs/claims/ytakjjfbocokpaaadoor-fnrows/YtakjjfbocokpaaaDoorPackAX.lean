/-
  Texts of this proof, put together: LogI.
-/
import Derived.Test.YtakjjfbocokpaaaDoorPackAO
import Derived.Test.YtakjjfbocokpaaaDoorPackAE
import Derived.Test.YtakjjfbocokpaaaDoorPackAW

/-
  Contracts of impl.tenantOk, rowOk and ShowRow, where the table of the program holds its sixteen words.
-/
namespace Go.Proofs.YtakjjfbocokpaaaDoor
open Go.ChangeShapes Go.WideShapes Go.ChangeAt Go.RowKit

theorem rowTen_any (t : Int) (w : World) : Calls Tryd.prog 101 #[.int .i64 t] w fun e w' => e = .returned (.bool (decide (1 ≤ t) && decide (t ≤ 99))) ∧ w = w' := by
  go_enter Tryd.func101, Tryd.ntmps101
  go_wp2
  all_goals go_ret
  all_goals (refine ⟨?_, rfl⟩; simp [*] <;> omega)
def RowOkPost (w : World) (b : Bool) (e : Ending) (w' : World) : Prop := e = .returned (.bool b) ∧ Below w.heap.size w w'
set_option maxHeartbeats 1000000 in
theorem rowOk_any (t b n : Int) (x : ByteArray) (y : Bool) (w : World) :
    Calls Tryd.prog 72 #[.agg #[.int .i64 t, .int .i64 b, .int .i64 n, .string x, .bool y]] w (RowOkPost w ((decide (1 ≤ t) && decide (t ≤ 99)) && (decide (0 ≤ b) && decide (b ≤ 1000)) && (decide (0 ≤ n) && decide (n < 1000000)) && decide ((x.size : Int) ≤ 300))) := by
  cases d1 : (decide (1 ≤ t) && decide (t ≤ 99)) <;> cases d2 : (decide (0 ≤ b) && decide (b ≤ 1000)) <;> cases d3 : (decide (0 ≤ n) && decide (n < 1000000)) <;> cases d4 : decide ((x.size : Int) ≤ 300)
  all_goals
    go_enter Tryd.func72, Tryd.ntmps72
    go_wp2_with (first | (go_at_call 101; refine (rowTen_any _ _).mono ?_; rw [d1]; rintro e w' ⟨rfl, rfl⟩) | (go_at_call 102; refine (bootOk_any _ _).mono ?_; rw [d2]; rintro e w' ⟨rfl, rfl⟩) | (go_at_call 103; refine (rowSeqOk_any _ _).mono ?_; rw [d3]; rintro e w' ⟨rfl, rfl⟩))
    go_ret
    exact ⟨rfl, (Below.refl _ _).alloc (Nat.le_refl _) _⟩
theorem rowOk_yes (t b n : Int) (x : ByteArray) (y : Bool) (h : rowOkL (t, b, n, x, y)) (w : World) :
    Calls Tryd.prog 72 #[.agg #[.int .i64 t, .int .i64 b, .int .i64 n, .string x, .bool y]] w (RowOkPost w true) := by
  have := rowOk_any t b n x y w
  obtain ⟨h1, h2, h3, h4⟩ := ok_bools h
  rwa [h1, h2, h3, h4] at this
theorem rowOk_no (t b n : Int) (x : ByteArray) (y : Bool) (h : ¬ rowOkL (t, b, n, x, y)) (w : World) :
    Calls Tryd.prog 72 #[.agg #[.int .i64 t, .int .i64 b, .int .i64 n, .string x, .bool y]] w (RowOkPost w false) := by
  have := rowOk_any t b n x y w
  have e : ((decide (1 ≤ t) && decide (t ≤ 99)) && (decide (0 ≤ b) && decide (b ≤ 1000)) && (decide (0 ≤ n) && decide (n < 1000000)) && decide ((x.size : Int) ≤ 300)) = false := by
    rw [← Bool.not_eq_true]
    intro hh
    rw [Bool.and_eq_true, Bool.and_eq_true, Bool.and_eq_true] at hh
    exact h (ok_of_bools hh.1.1.1 hh.1.1.2 hh.1.2 hh.2)
  rwa [e] at this

set_option maxHeartbeats 2000000 in
set_option maxRecDepth 20000 in
theorem iShowRow_any (t b n : Int) (x : ByteArray) (y : Bool) (w : World) (h0 : 1 < w.heap.size) (hT : Hid (CrcTabIn w)) :
    Calls Tryd.prog 31 #[.agg #[.int .i64 t, .int .i64 b, .int .i64 n, .string x, .bool y]] w (StrPost w (showR (t, b, n, x, y))) := by
  have HB0 := hide ((Below.refl _ w).alloc (Nat.le_refl _) (.cells #[.int .i64 t, .int .i64 b, .int .i64 n, .string x, .bool y] 49))
  by_cases hok : rowOkL (t, b, n, x, y)
  · have HK := hide (fun W => rowOk_yes t b n x y hok W)
    obtain ⟨l1, l2, l3, l4, hx⟩ := rest_parts hok
    have HV0 := hide (show showR (t, b, n, x, y) = sumL (varV t ++ varV b ++ varV n ++ pieceL (bl x)) ++ (varV t ++ varV b ++ varV n ++ pieceL (bl x)) from showR_yes hok)
    have H1 := hide (fun W => iVar_any t W)
    have H2 := hide (fun W => iVar_any b W)
    have H3 := hide (fun W => iVar_any n W)
    have H4 := hide (fun W => sizedText_any x (by omega) W)
    obtain ⟨V, hV⟩ : ∃ V, V = showR (t, b, n, x, y) := ⟨_, rfl⟩
    rw [← hV] at HV0 ⊢
    obtain ⟨VT, hVT⟩ : ∃ VT, VT = varV t := ⟨_, rfl⟩
    obtain ⟨VB, hVB⟩ : ∃ VB, VB = varV b := ⟨_, rfl⟩
    obtain ⟨VN, hVN⟩ : ∃ VN, VN = varV n := ⟨_, rfl⟩
    obtain ⟨VX, hVX⟩ : ∃ VX, VX = pieceL (bl x) := ⟨_, rfl⟩
    rw [← hVT] at H1 HV0 l1
    rw [← hVB] at H2 HV0 l2
    rw [← hVN] at H3 HV0 l3
    rw [← hVX] at H4 HV0 l4
    obtain ⟨A2, hA2⟩ : ∃ A2, A2 = VT ++ VB := ⟨_, rfl⟩
    obtain ⟨A3, hA3⟩ : ∃ A3, A3 = A2 ++ VN := ⟨_, rfl⟩
    obtain ⟨R, hR⟩ : ∃ R, R = A3 ++ VX := ⟨_, rfl⟩
    have k2 : A2.length ≤ 14 := by rw [hA2, List.length_append]; omega
    have k3 : A3.length ≤ 21 := by rw [hA3, List.length_append]; omega
    have hlR : R.length ≤ 328 := by rw [hR, List.length_append]; omega
    have ha1 := run_cat VT VB (by omega)
    have ha2 := run_cat A2 VN (by omega)
    have ha3 := run_cat A3 VX (by omega)
    rw [← hA2] at ha1 HV0
    rw [← hA3] at ha2 HV0
    rw [← hR] at ha3 HV0
    have HSM := hide (fun W (hb : Below w.heap.size w W) => iSummed_any R W (by omega) (Nat.lt_of_lt_of_le h0 hb.size) (hide (hT.out.below hb h0)))
    rw [show fixedV (crcI R) 4 = sumL R from rfl] at HSM
    clear hR hA2 hA3 k2 k3 hVT hVB hVN hVX hV l1 l2 l3 l4 hok hlR hx
    have HD := hide (fun (w' : World) (h : Below (w.heap.size + 1) (w.alloc (.cells #[.int .i64 t, .int .i64 b, .int .i64 n, .string x, .bool y] 49)) w') => box5_cells h)
    go_enter Tryd.func31, Tryd.ntmps31
    go_wp2_with fail
    refine (HK.out _).mono ?_
    rintro e w1 ⟨rfl, hb1⟩
    have HW1 : Hid (Below (w.heap.size + 1) (w.alloc (.cells #[.int .i64 t, .int .i64 b, .int .i64 n, .string x, .bool y] 49)) w1) := by
      rw [Go.Deep.nblk_alloc] at hb1
      exact hb1
    clear hb1
    have hs1 := HW1.out.size
    rw [Go.Deep.nblk_alloc] at hs1
    go_wp2_with fail
    go_region_held3 (fun w' => w'.cell? ⟨w.heap.size, 0, none⟩ = some (.int .i64 t) ∧ w'.cell? ⟨w.heap.size, 1, none⟩ = some (.int .i64 b) ∧ w'.cell? ⟨w.heap.size, 2, none⟩ = some (.int .i64 n) ∧ w'.cell? ⟨w.heap.size, 3, none⟩ = some (.string x) ∧ w'.cell? ⟨w.heap.size, 4, none⟩ = some (.bool y))
      (first
        | with_reducible exact HD.out _ HW1.out
        | with_reducible exact HD.out _ HW1.out.drew
        | with_reducible exact HD.out _ HW2.out
        | with_reducible exact HD.out _ HW3.out
        | with_reducible exact HD.out _ HW4.out
        | with_reducible exact HD.out _ HW5.out
        | with_reducible exact HD.out _ HW6.out)
      (first
        | (have hq5 := HW5.out
           clear hq5
           go_at_call 55
           refine (HSM.out _ (HB0.out.trans (HW5.out.mono (by omega)))).mono ?_
           rintro e w6 ⟨rfl, hb6⟩
           have HW6 := hide (HW5.out.trans (hb6.mono (by have := HW5.out.size; rw [Go.Deep.nblk_alloc] at this; exact this)))
           clear hb6)
        | (have hq4 := HW4.out
           clear hq4
           go_at_call 74
           refine (H4.out _).mono ?_
           rintro e w5 ⟨rfl, hb5⟩
           have HW5 := hide (HW4.out.trans (hb5.mono (by have := HW4.out.size; rw [Go.Deep.nblk_alloc] at this; exact this)))
           clear hb5)
        | (have hq3 := HW3.out
           clear hq3
           go_at_call 73
           refine (H3.out _).mono ?_
           rintro e w4 ⟨rfl, hb4⟩
           have HW4 := hide (HW3.out.trans (hb4.mono (by have := HW3.out.size; rw [Go.Deep.nblk_alloc] at this; exact this)))
           clear hb4)
        | (have hq2 := HW2.out
           clear hq2
           go_at_call 73
           refine (H2.out _).mono ?_
           rintro e w3 ⟨rfl, hb3⟩
           have HW3 := hide (HW2.out.trans (hb3.mono (by have := HW2.out.size; rw [Go.Deep.nblk_alloc] at this; exact this)))
           clear hb3)
        | (go_at_call 73
           refine (H1.out _).mono ?_
           rintro e w2 ⟨rfl, hb2⟩
           have HW2 := hide (HW1.out.trans ((below_of_drew' hb2).mono hs1))
           clear hb2))
    all_goals
      have HB6 := hide (HB0.out.trans (HW6.out.mono (by omega)))
      go_wp2_with fail
      go_ret
      exact ⟨by rw [HV0.out]; rfl, HB6.out⟩
  · have HK := hide (fun W => rowOk_no t b n x y hok W)
    rw [showR_no hok]
    clear hok
    go_enter Tryd.func31, Tryd.ntmps31
    go_wp2_with fail
    refine (HK.out _).mono ?_
    rintro e w1 ⟨rfl, hb1⟩
    have HB1 := hide (HB0.out.trans (hb1.mono HB0.out.size))
    clear hb1
    go_wp2_with fail
    go_ret
    exact ⟨rfl, HB1.out⟩
end Go.Proofs.YtakjjfbocokpaaaDoor
