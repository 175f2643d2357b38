/-
  Texts of this proof, put together: LawRows, LawRowz.
-/
import Derived.Test.YtakjjfbocokpaaaDoorPackAT
import Derived.Test.YtakjjfbocokpaaaDoorPackAZ
import Derived.Test.YtakjjfbocokpaaaDoorPackAF
import Derived.StillTailTactics
import Derived.Laws.StructEq

/-
  The walk of laws.FnRows: it returns true.
-/
namespace Go.Proofs.YtakjjfbocokpaaaDoor
open Go.ChangeShapes Go.WideShapes Go.ChangeAt Go.RowKit

set_option maxHeartbeats 1000000 in
set_option maxRecDepth 40000 in
theorem sameRows_same (a1 a2 : Option Addr) (c1 c2 : Nat) (L : List LogRowE) (w : World) (h1 : elLogRow.Rd w w.heap.size a1 L) (h2 : elLogRow.Rd w w.heap.size a2 L) (hl : L.length ≤ 2097152) :
    Calls Tryd.prog 30 #[.slice a1 L.length c1, .slice a2 L.length c2] w (BoolPost w true) := by
  have H1 := hide h1
  have H2 := hide h2
  clear h1 h2
  obtain ⟨n, hn⟩ : ∃ n, n = L.length := ⟨_, rfl⟩
  have HN := hide hn
  rw [← hn] at hl ⊢
  clear hn
  go_enter Tryd.func30, Tryd.ntmps30
  go_wp2_with fail
  go_loopw [5] (fun i wr => ∃ j : Nat, i = .int .i64 j ∧ j ≤ n ∧ Hid (Below w.heap.size w wr)) (fun i _ => n - (intOf i).toNat)
  case atStart => exact ⟨0, rfl, by omega, Below.refl _ _⟩
  case round =>
    obtain ⟨j, rfl, hj, HB⟩ := hrel
    by_cases hlt : j < n
    · have hjL : j < L.length := by rw [← HN.out]; exact hlt
      obtain ⟨b1, o1, rfl, hb1, hc1⟩ := H1.out (by omega)
      obtain ⟨b2, o2, rfl, hb2, hc2⟩ := H2.out (by omega)
      obtain ⟨f0, f1, f2, f3, f4, hx⟩ := partsLogRow L[j]
      obtain ⟨p0, p1, p2, p3, p4⟩ := cellsLogRow hx (hc1 j hjL)
      obtain ⟨q0, q1, q2, q3, q4⟩ := cellsLogRow hx (hc2 j hjL)
      have d0 := (HB.out.cell (p := ⟨b1, o1 + j * 5, none⟩) hb1).trans p0
      have d1 := (HB.out.cell (p := ⟨b1, o1 + j * 5 + 1, none⟩) hb1).trans p1
      have d2 := (HB.out.cell (p := ⟨b1, o1 + j * 5 + 2, none⟩) hb1).trans p2
      have d3 := (HB.out.cell (p := ⟨b1, o1 + j * 5 + 3, none⟩) hb1).trans p3
      have d4 := (HB.out.cell (p := ⟨b1, o1 + j * 5 + 4, none⟩) hb1).trans p4
      have e0 := (HB.out.cell (p := ⟨b2, o2 + j * 5, none⟩) hb2).trans q0
      have e1 := (HB.out.cell (p := ⟨b2, o2 + j * 5 + 1, none⟩) hb2).trans q1
      have e2 := (HB.out.cell (p := ⟨b2, o2 + j * 5 + 2, none⟩) hb2).trans q2
      have e3 := (HB.out.cell (p := ⟨b2, o2 + j * 5 + 3, none⟩) hb2).trans q3
      have e4 := (HB.out.cell (p := ⟨b2, o2 + j * 5 + 4, none⟩) hb2).trans q4
      clear hc1 hc2 p0 p1 p2 p3 p4 q0 q1 q2 q3 q4 hjL hx
      go_wp2_with fail
      go_still_tail 8, (by kernel_rfl)
      change wpList _ _ _ _ _ wr.drew
      go_wp2_with fail
      go_roundw
      case rel => exact ⟨j + 1, by go_num, by omega, hide HB.out.drew⟩
      case measure => simp [intOf]; omega
    · go_wp2_with fail
      go_ret
      exact ⟨rfl, HB.out⟩

theorem rowsS_next {X : List Lg} {j : Nat} {r : Lg} (h : X[j]? = some r) : rowsS (X.take (j + 1)) = rowsS (X.take j) ++ showR r := by
  rw [List.take_add_one, h, rowsS_append]
  simp [rowsS]
theorem rowsS_take_le (X : List Lg) (j : Nat) : (rowsS (X.take j)).length ≤ (rowsS X).length := by
  have : rowsS X = rowsS (X.take j) ++ rowsS (X.drop j) := by rw [← rowsS_append, List.take_append_drop]
  rw [this, List.length_append]
  omega
theorem own_cases {B : Nat} {W : World} {a : Option Addr} {n c : Nat} {X : List Lg} (h : elLogRow.Owns B W (.slice a n c) X) : (a = none ∧ n = 0 ∧ c = 0) ∨ ∃ g, a = some ⟨g, 0, none⟩ := by
  obtain ⟨_, ⟨e, _⟩ | ⟨g, cap, cur, e, _⟩⟩ := h
  · injection e with e1 e2 e3
    exact .inl ⟨e1, e2, e3⟩
  · injection e with e1 _ _
    exact .inr ⟨g, e1⟩
theorem rd_take {W : World} {B : Nat} {a : Option Addr} {X : List Lg} (h : elLogRow.Rd W B a X) (k : Nat) : elLogRow.Rd W B a (X.take k) := fun hp => by
  have hl : (X.take k).length ≤ X.length := by rw [List.length_take]; omega
  obtain ⟨b, o, e, hb, hc⟩ := h (by omega)
  refine ⟨b, o, e, hb, fun j hj i hi => ?_⟩
  rw [List.getElem_take]
  exact hc j (by omega) i hi
end Go.Proofs.YtakjjfbocokpaaaDoor

/-
  The walk of laws.FnRows: it returns true.
-/
namespace Go.Proofs.YtakjjfbocokpaaaDoor
open Go.ChangeShapes Go.WideShapes Go.ChangeAt Go.RowKit

set_option maxHeartbeats 4000000 in
set_option maxRecDepth 40000 in
theorem rows_core (a : Option Addr) (cap : Nat) (bs : List Int) (w : World) (hc : CodeAt w.heap.size w a bs) (h0 : 1 < w.heap.size) (hT : Hid (CrcTabIn w)) :
    Calls Tryd.prog 4 #[.slice a bs.length cap] w fun e w' => e = .returned (.bool true) ∧ Below w.heap.size w w' := by
  have HC := hide hc
  obtain ⟨n, hn⟩ : ∃ n, n = bs.length := ⟨_, rfl⟩
  by_cases hbig : 1048576 < n
  · have hd : decide ((1048576 : Int) < (n : Int)) = true := decide_eq_true (by omega)
    rw [← hn]
    clear hn hc
    go_enter Tryd.func4, Tryd.ntmps4
    go_wp2_with fail
    refine (big_any a n cap _).mono ?_
    rintro e w1 ⟨rfl, rfl⟩
    rw [hd]
    go_wp2_with fail
    go_ret
    exact ⟨rfl, Below.refl _ _⟩
  have hd : decide ((1048576 : Int) < (n : Int)) = false := decide_eq_false (by omega)
  have hm : bs.length ≤ 1048576 := by omega
  have HAD := hide (drawScan_any (B := w.heap.size) a cap bs w (Nat.le_refl _) hc hm)
  have HAT := hide (fun W (h : Below w.heap.size w W) => at_any (B := w.heap.size) a cap bs 0 (by omega) W (HC.out.below h) hm)
  have HIS := hide (fun (s : ByteArray) (hs : s.size ≤ 1048576) W (h : Below w.heap.size w W) => iScan_any s hs W (Nat.lt_of_lt_of_le h0 h.size) (hide (hT.out.below h h0)))
  have HSR := hide (fun (t b n : Int) (x : ByteArray) (y : Bool) W (h : Below w.heap.size w W) => iShowRow_any t b n x y W (Nat.lt_of_lt_of_le h0 h.size) (hide (hT.out.below h h0)))
  unfold ScanPost at HIS
  rw [← hn] at HAD HAT ⊢
  clear hn hc hbig HC hm
  go_enter Tryd.func4, Tryd.ntmps4
  go_wp2_with fail
  refine (big_any a n cap _).mono ?_
  rintro e wb ⟨rfl, rfl⟩
  rw [hd]
  go_wp2_with fail
  refine HAD.out.mono ?_
  rintro e w1 ⟨l, rfl, hl, hb1⟩
  have HB1 := hide hb1
  obtain ⟨s, hse⟩ : ∃ s : ByteArray, s = ⟨l.toArray⟩ := ⟨_, rfl⟩
  have hsz : s.size ≤ 5000 := by rw [hse, size_of]; exact hl
  rw [← hse]
  clear hb1 hse hl HAD hd
  have HI1 := hide (fun W h => HIS.out s (by omega) W h)
  have HS1 := hide (fun W => sScan_any s (by omega) W)
  unfold ScanPost at HS1
  have HEL := hide (end_le (bl s))
  have HRE := hide (rows_end (bl s))
  have HCUT := hide (fun K => scan_cut (bl s) K)
  have HXL := hide (scan_len (bl s))
  obtain ⟨X, hX⟩ : ∃ X, X = scanV (bl s) := ⟨_, rfl⟩
  obtain ⟨E, hE⟩ : ∃ E, E = endV (bl s) := ⟨_, rfl⟩
  rw [← hX, ← hE] at HI1 HS1
  rw [← hE] at HEL
  rw [← hX, ← hE] at HRE
  rw [← hX] at HCUT HXL
  rw [bl_len] at HEL HXL
  have HRL := hide (show (rowsS X).length = E by rw [HRE.out, List.length_take, bl_len]; have := HEL.out; omega)
  have hE5 : E ≤ s.size := HEL.out
  have HXn := hide HXL.out
  obtain ⟨m, hmm⟩ : ∃ m, m = X.length := ⟨_, rfl⟩
  have HM := hide hmm
  have hm5 : m ≤ 5000 := by rw [hmm]; exact Nat.le_trans HXL.out hsz
  clear hX hE HEL HXL hmm HXn
  have hee : ((E : Int) != (E : Int)) = false := by simp
  go_wp2_with fail
  refine (HI1.out _ HB1.out).mono ?_
  rintro e w2 ⟨v, rfl, ho, hb2⟩
  obtain ⟨a2, c2, rfl, hr2, hc2, _⟩ := ho.form
  have hcs := own_cases ho
  have HB2 := hide (HB1.out.trans (hb2.mono HB1.out.size))
  have HR2 := hide hr2
  have hmc : m ≤ c2 := by rw [HM.out]; exact hc2
  rw [← HM.out] at hcs ⊢
  clear ho hb2 hr2 hc2 HI1
  go_wp2_with fail
  refine (HS1.out _).mono ?_
  rintro e w3 ⟨v, rfl, ho, hb3⟩
  obtain ⟨a3, c3, rfl, hr3, _⟩ := ho.form
  have HB3 := hide (HB2.out.trans (hb3.mono HB2.out.size))
  have HR3 := hide hr3
  have HR2' := hide ((HR2.out.below hb3 (Nat.le_refl _)).mono hb3.size)
  have HSM := hide (sameRows_same a2 a3 c2 c3 X w3 HR2'.out HR3.out (by rw [← HM.out]; omega))
  rw [← HM.out] at HSM ⊢
  clear ho hb3 hr3 HS1 HR2
  go_wp2_with fail
  refine HSM.out.mono ?_
  rintro e w4 ⟨rfl, hb4⟩
  have HB4 := hide (HB3.out.trans (hb4.mono HB3.out.size))
  have HR4 := hide ((HR2'.out.below hb4 (Nat.le_refl _)).mono hb4.size)
  clear hb4 HSM HR3 HR2'
  go_wp2_with fail
  go_loopw [8, 9] (fun t i wr => ∃ j : Nat, t = .string ⟨(rowsS (X.take j)).toArray⟩ ∧ i = .int .i64 j ∧ j ≤ m ∧ Hid (Below w4.heap.size w4 wr)) (fun _ i _ => m - (intOf i).toNat)
  case atStart => exact ⟨0, rfl, rfl, by omega, Below.refl _ _⟩
  case round =>
    obtain ⟨j, rfl, rfl, hj, HBj⟩ := hrel
    by_cases hlt : j < m
    · have hjL : j < X.length := by rw [← HM.out]; exact hlt
      obtain ⟨b1, o1, rfl, hb1, hc1⟩ := HR4.out (by omega)
      obtain ⟨f0, f1, f2, f3, f4, hx⟩ := partsLogRow X[j]
      obtain ⟨p0, p1, p2, p3, p4⟩ := cellsLogRow hx (hc1 j hjL)
      have d0 := (HBj.out.cell (p := ⟨b1, o1 + j * 5, none⟩) hb1).trans p0
      have d1 := (HBj.out.cell (p := ⟨b1, o1 + j * 5 + 1, none⟩) hb1).trans p1
      have d2 := (HBj.out.cell (p := ⟨b1, o1 + j * 5 + 2, none⟩) hb1).trans p2
      have d3 := (HBj.out.cell (p := ⟨b1, o1 + j * 5 + 3, none⟩) hb1).trans p3
      have d4 := (HBj.out.cell (p := ⟨b1, o1 + j * 5 + 4, none⟩) hb1).trans p4
      have HNX := hide (rowsS_next (X := X) (j := j) (r := (f0, f1, f2, f3, f4)) (by rw [List.getElem?_eq_getElem hjL, hx]))
      have hle := rowsS_take_le X j
      rw [HRL.out] at hle
      have HSJ := hide (HSR.out f0 f1 f2 f3 f4 wr (HB4.out.trans (HBj.out.mono HB4.out.size)))
      have hFl := showR_len (f0, f1, f2, f3, f4)
      obtain ⟨F, hF⟩ : ∃ F, F = showR (f0, f1, f2, f3, f4) := ⟨_, rfl⟩
      obtain ⟨Tj, hTj⟩ : ∃ Tj, Tj = rowsS (X.take j) := ⟨_, rfl⟩
      rw [← hF] at HSJ HNX hFl
      rw [← hTj] at HNX hle ⊢
      have hcat := run_cat Tj F (by omega)
      rw [← HNX.out] at hcat
      obtain ⟨Tk, hTk⟩ : ∃ Tk, Tk = rowsS (X.take (j + 1)) := ⟨_, rfl⟩
      have HTk := hide hTk
      rw [← hTk] at hcat
      clear hc1 hx p0 p1 p2 p3 p4 hF hTj hTk HNX hle hFl hjL
      go_wp2_with fail
      refine HSJ.out.mono ?_
      rintro e w5 ⟨rfl, hb5⟩
      have HB5 := hide (HBj.out.trans (hb5.mono HBj.out.size))
      clear hb5 d0 d1 d2 d3 d4
      go_wp2_with fail
      go_roundw
      case rel => exact ⟨j + 1, by rw [HTk.out], by go_num, by omega, HB5⟩
      case measure => simp [intOf]; omega
    · obtain rfl : j = m := by omega
      have htk : X.take j = X := List.take_of_length_le (by rw [HM.out]; exact Nat.le_refl _)
      rw [htk]
      have HB5 := hide (HB4.out.trans (HBj.out.mono HB4.out.size))
      have HR5 := hide ((HR4.out.below HBj.out (Nat.le_refl _)).mono HBj.out.size)
      have HET := hide (show s.extract 0 E = ⟨(rowsS X).toArray⟩ by rw [HRE.out]; exact ext_take s E)
      obtain ⟨RX, hRX⟩ : ∃ RX, RX = rowsS X := ⟨_, rfl⟩
      rw [← hRX] at HET ⊢
      have het := HET.out
      have hEi : (E : Int) ≤ (s.size : Int) := by omega
      have hE0 : (0 : Int) ≤ (E : Int) := by omega
      clear htk hRX HBj HR4 HB4 hlt hj
      go_wp2_with fail
      refine (HAT.out _ HB5.out).mono ?_
      rintro e w6 ⟨x, rfl, hx, rfl⟩
      obtain ⟨K, hK⟩ : ∃ K : Nat, K = x % (E + 1) := ⟨_, rfl⟩
      have hKE : K ≤ E := by have := Nat.mod_lt x (show 0 < E + 1 by omega); omega
      have hk1 : (x : Int).tmod ((E : Int) + 1) = (K : Int) := by rw [hK]; exact (Int.ofNat_tmod x (E + 1)).symm
      have hk2 : (x : Int) % ((E : Int) + 1) = (K : Int) := by rw [hK]; rfl
      have hk3 : ((E : Int) + 1 == 0) = false := by rw [beq_eq_false_iff_ne]; omega
      have hKs : (K : Int) ≤ (s.size : Int) := by omega
      have hK0 : (0 : Int) ≤ (K : Int) := by omega
      have hkt := ext_take s K
      obtain ⟨q1, q2⟩ := HCUT.out K
      have HI2 := hide (fun W h => HIS.out ⟨((bl s).take K).toArray⟩ (by rw [size_of, List.length_take, bl_len]; omega) W h)
      rw [bl_of ((bl s).take K)] at HI2
      obtain ⟨P, hP⟩ : ∃ P, P = scanV ((bl s).take K) := ⟨_, rfl⟩
      obtain ⟨C, hC⟩ : ∃ C, C = endV ((bl s).take K) := ⟨_, rfl⟩
      rw [← hP, ← hC] at HI2
      rw [← hP] at q1
      rw [← hC] at q2
      obtain ⟨U, hU⟩ : ∃ U, U = (bl s).take K := ⟨_, rfl⟩
      rw [← hU] at HI2 hkt
      have hCK : (C : Int) ≤ (K : Int) := by omega
      obtain ⟨np, hnp⟩ : ∃ np, np = P.length := ⟨_, rfl⟩
      have HP := hide hnp
      rw [← hnp] at q1
      have hnm : np ≤ j := by
        have := congrArg List.length q1
        rw [List.length_take, ← HM.out, ← hnp] at this
        omega
      have HTK := hide q1
      have HS1 := hide (HSR.out 1 0 0 ⟨#[]⟩ false)
      have hne := show_one
      obtain ⟨ON, hON⟩ : ∃ ON, ON = showR (1, 0, 0, ⟨#[]⟩, false) := ⟨_, rfl⟩
      rw [← hON] at HS1 hne
      have hone : ON.isEmpty = false := List.isEmpty_eq_false_iff.mpr hne
      clear hK hP hC hU hnp q1 q2 HCUT hON hne HAT HIS HSR het hx
      go_wp2_with fail
      refine (HI2.out _ HB5.out).mono ?_
      rintro e w7 ⟨v, rfl, ho, hb7⟩
      obtain ⟨a7, c7, rfl, hr7, _⟩ := ho.form
      have HB7 := hide (HB5.out.trans (hb7.mono HB5.out.size))
      have HR7 := hide ((HR5.out.below hb7 (Nat.le_refl _)).mono hb7.size)
      have HRT := hide (rd_take HR7.out np)
      rw [← HTK.out] at HRT
      have HSM := hide (sameRows_same a7 a2 c7 c2 P w7 hr7 HRT.out (by rw [← HP.out]; omega))
      rw [← HP.out] at HSM ⊢
      clear ho hb7 hr7 HI2 HR5 HRT
      rcases hcs with ⟨rfl, rfl, rfl⟩ | ⟨g, rfl⟩
      · obtain rfl : np = 0 := by omega
        go_wp2_with fail
        refine HSM.out.mono ?_
        rintro e w8 ⟨rfl, hb8⟩
        have HB8 := hide (HB7.out.trans (hb8.mono HB7.out.size))
        clear hb8
        go_wp2_with fail
        refine (HS1.out _ HB8.out).mono ?_
        rintro e w9 ⟨rfl, hb9⟩
        have HB9 := hide (HB8.out.trans (hb9.mono HB8.out.size))
        clear hb9
        go_wp2_with fail
        go_ret
        exact ⟨rfl, HB9.out⟩
      · have hnc : (np : Int) ≤ (c2 : Int) := by omega
        have hn0 : (0 : Int) ≤ (np : Int) := by omega
        go_wp2_with fail
        refine HSM.out.mono ?_
        rintro e w8 ⟨rfl, hb8⟩
        have HB8 := hide (HB7.out.trans (hb8.mono HB7.out.size))
        clear hb8
        go_wp2_with fail
        refine (HS1.out _ HB8.out).mono ?_
        rintro e w9 ⟨rfl, hb9⟩
        have HB9 := hide (HB8.out.trans (hb9.mono HB8.out.size))
        clear hb9
        go_wp2_with fail
        go_ret
        exact ⟨rfl, HB9.out⟩

theorem law_rows (a0 : Option Addr) (len0 cap0 : Nat) (z0 : List Int) (w : World) (w0 : IsRow .u8 w a0 len0 cap0 z0) (h0 : 1 < w.heap.size) (hT : Hid (CrcTabIn w)) :
    Calls Tryd.prog 4 #[.slice a0 len0 cap0] w fun e w' => e = .returned (.bool true) ∧ Below w.heap.size w w' := by
  obtain ⟨h1, h2⟩ := w0.code
  have := rows_core a0 cap0 (z0.take len0) w h2 h0 hT
  rwa [h1] at this
end Go.Proofs.YtakjjfbocokpaaaDoor
