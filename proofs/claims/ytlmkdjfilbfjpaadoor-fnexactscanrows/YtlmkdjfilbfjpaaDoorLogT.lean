/-
  Contract of spec.ScanRows.
-/
import Derived.Test.YtlmkdjfilbfjpaaDoorLogG
import Derived.Test.YtlmkdjfilbfjpaaDoorLogH
import Derived.Test.YtlmkdjfilbfjpaaDoorLogS
import Derived.Test.YtlmkdjfilbfjpaaDoorRowH
import Derived.Deep.DeepCutAuto
namespace Go.Proofs.YtlmkdjfilbfjpaaDoor
open Go.ChangeShapes Go.WideShapes Go.ChangeAt Go.RowKit

/-- no row more at place p -/
theorem scan_end {S : List UInt8} {pre : List Lg} {p : Nat} (h : scanV S = pre ++ scanV (S.drop p)) (hp : p = (rowsS pre).length) (hn : ¬ goodU (S.drop p)) : scanV S = pre ∧ endV S = p := by
  rw [scan_stop hn, List.append_nil] at h
  exact ⟨h, by rw [endV, h, hp]⟩
/-- one row more -/
theorem scan_more {S : List UInt8} {pre : List Lg} {p e : Nat} {r : Lg} (h : scanV S = pre ++ scanV (S.drop p)) (hp : p = (rowsS pre).length) (hg : goodU (S.drop p)) (hr : rowU (S.drop p) = r) (he : e = p + (showR r).length) :
    scanV S = (pre ++ [r]) ++ scanV (S.drop e) ∧ e = (rowsS (pre ++ [r])).length := by
  refine ⟨?_, by rw [rowsS_append, rowsS_one, List.length_append, ← hp, he]⟩
  rw [h, scan_step hg, hr, List.drop_drop, ← he]
  simp
theorem litRow (B : Nat) (w : World) (hB : B ≤ w.heap.size) : elLogRow.Owns B (w.alloc (.cells #[] 31)) (.slice (some ⟨w.heap.size, 0, none⟩) 0 0) [] :=
  El.Owns.lit B w [] #[] 0 rfl rfl hB (by decide)

set_option maxHeartbeats 1000000 in
set_option maxRecDepth 20000 in
theorem sScan_any (s : ByteArray) (hm : s.size ≤ 1048576) (w : World) :
    Calls Tryd.prog 9 #[.string s] w (ScanPost w (bl s)) := by
  have hm' : s.size ≤ 1099511627775 := by omega
  have HL0 := hide (litRow w.heap.size w (Nat.le_refl _))
  have HB0 := hide ((Below.refl w.heap.size w).alloc (Nat.le_refl _) (.cells #[] 31))
  go_enter Tryd.func9, Tryd.ntmps9
  go_wp2_with fail
  go_loopw [4, 5] (fun o i wr => ∃ (p j : Nat) (a' : Option Addr) (c' : Nat) (pre : List Lg), o = .slice a' j c' ∧ i = .int .i64 p ∧ p ≤ s.size ∧ pre.length = j ∧ Hid (scanV (bl s) = pre ++ scanV ((bl s).drop p)) ∧ Hid (p = (rowsS pre).length) ∧ Hid (elLogRow.Owns w.heap.size wr (.slice a' j c') pre) ∧ Hid (Below w.heap.size w wr)) (fun _ i _ => s.size - (intOf i).toNat)
  case atStart => exact ⟨0, 0, _, _, [], rfl, rfl, by omega, rfl, by simp [Hid], by simp [Hid, rowsS], HL0, HB0⟩
  case round =>
    obtain ⟨p, j, a', c', pre, rfl, rfl, hp, hpre, HX, HPL, HO, HB⟩ := hrel
    have hs := HB.out.size
    have hjs : j ≤ 1048576 := by
      have h1 := scan_len (bl s)
      have h2 := congrArg List.length HX.out
      rw [List.length_append] at h2
      rw [bl_len] at h1
      omega
    have HV := hide (fun W => l6Vars_any s hm' ((p + 4 : Nat) : Int) 3 (by omega) W)
    rw [show (3 : Int).toNat = 3 from rfl] at HV
    have HSC := hide (scan_at (bl s) p (by rw [bl_len]; exact hp))
    unfold rowAt at HSC
    obtain ⟨Q, hQ⟩ : ∃ Q, Q = (varsF (bl s) 3 ((p + 4 : Nat) : Int)).2 := ⟨_, rfl⟩
    obtain ⟨L, hL⟩ : ∃ L, L = (varsF (bl s) 3 ((p + 4 : Nat) : Int)).1 := ⟨_, rfl⟩
    rw [← hQ, ← hL] at HV HSC
    have hcast : (((p + 4 : Nat) : Int)) = (p : Int) + 4 := by omega
    rw [hcast] at HV
    have HT := hide (fun W => l6Take_any s hm' Q W)
    obtain ⟨TB, hTB⟩ : ∃ TB, TB = takeB (bl s) Q := ⟨_, rfl⟩
    obtain ⟨TE, hTE⟩ : ∃ TE, TE = takeE (bl s) Q := ⟨_, rfl⟩
    rw [← hTB, ← hTE] at HT HSC
    clear hQ hL hTB hTE hcast
    unfold VarsPost at HV
    rcases HSC.out with ⟨h1, hng⟩ | ⟨a, b, c, e, hL, hTE, hpe, heS, hcase⟩
    · obtain ⟨e1, e2⟩ := scan_end HX.out HPL.out hng
      have hd : decide (TE < 0) = true := decide_eq_true (by omega)
      have HE1 := hide e1
      have HE2 := hide e2
      clear hng e1 e2 h1 HSC
      go_wp2_with fail
      refine (HV.out _).mono ?_
      rintro e w1 ⟨v, rfl, ho, hb1⟩
      have HB1 := hide (HB.out.trans (hb1.mono HB.out.size))
      have HO1 := hide (HO.out.below hb1 (Nat.le_refl _))
      clear hb1 ho
      go_wp2_with fail
      refine (HT.out _).mono ?_
      rintro e w2 ⟨rfl, hb2⟩
      have HB2 := hide (HB1.out.trans (hb2.mono HB1.out.size))
      have HO2 := hide (HO1.out.below hb2 (Nat.le_refl _))
      clear hb2
      go_wp2_with fail
      go_ret2
      exact ⟨_, by rw [HE2.out]; rfl, by rw [HE1.out]; exact HO2.out, HB2.out⟩
    · rw [bl_len] at heS
      subst hL
      subst hTE
      have hd : decide ((e : Int) < 0) = false := decide_eq_false (by omega)
      have HSR := hide (fun W => sShowRow_any (a : Int) (b : Int) (c : Int) ⟨TB.toArray⟩ false W)
      have HEX := hide (show s.extract p e = ⟨(((bl s).drop p).take (e - p)).toArray⟩ by have := ext_mid s p (e - p); rwa [show p + (e - p) = e by omega] at this)
      obtain ⟨SH, hSH⟩ : ∃ SH, SH = showR ((a : Int), (b : Int), (c : Int), ⟨TB.toArray⟩, false) := ⟨_, rfl⟩
      obtain ⟨CU, hCU⟩ : ∃ CU, CU = ((bl s).drop p).take (e - p) := ⟨_, rfl⟩
      rw [← hSH, ← hCU] at hcase
      rw [← hSH] at HSR
      rw [← hCU] at HEX
      have hex := HEX.out
      have HCASE := hide hcase
      have hshl := showR_len ((a : Int), (b : Int), (c : Int), ⟨TB.toArray⟩, false)
      rw [← hSH] at hshl
      have HSH := hide hSH
      clear HSC hSH hCU hcase HEX
      go_wp2_with fail
      refine (HV.out _).mono ?_
      rintro e' w1 ⟨v, rfl, ho, hb1⟩
      obtain ⟨g, cap, tl, rfl, hgb, hglt, hW⟩ := ho.words (by simp)
      have c0 : w1.cell? ⟨g, 0, none⟩ = some (.int .i64 (a : Int)) := hW.cell 0 (by simp)
      have c1 : w1.cell? ⟨g, 1, none⟩ = some (.int .i64 (b : Int)) := hW.cell 1 (by simp)
      have c2 : w1.cell? ⟨g, 2, none⟩ = some (.int .i64 (c : Int)) := hW.cell 2 (by simp)
      have HB1 := hide (HB.out.trans (hb1.mono HB.out.size))
      have HO1 := hide (HO.out.below hb1 (Nat.le_refl _))
      clear hb1 ho hW
      go_wp2_with fail
      refine (HT.out _).mono ?_
      rintro e' w3 ⟨rfl, hb2⟩
      have hgl3 : g < w3.heap.size := Nat.lt_of_lt_of_le hglt hb2.size
      have d0 := (hb2.cell (p := ⟨g, 0, none⟩) hglt).trans c0
      have d1 := (hb2.cell (p := ⟨g, 1, none⟩) hglt).trans c1
      have d2 := (hb2.cell (p := ⟨g, 2, none⟩) hglt).trans c2
      have HB2 := hide (HB1.out.trans (hb2.mono HB1.out.size))
      have HO2 := hide (HO1.out.below hb2 (Nat.le_refl _))
      clear hb2 c0 c1 c2
      go_upto_region 7 with (fail)
      go_cut [9] (fun r wc => ∃ W4, W4 = wc ∧ r = .pointer (some ⟨w3.heap.size, 0, none⟩) ∧ Hid (BoxV 31 wc w3.heap.size #[.int .i64 (a : Int), .int .i64 (b : Int), .int .i64 (c : Int), .string ⟨TB.toArray⟩, .bool false]) ∧ Hid (Below w3.heap.size w3 wc))
      case first =>
        go_wp2_with fail
        go_region
        all_goals go_wp2_with fail
        all_goals go_meet
        all_goals exact ⟨_, rfl, rfl, BoxV.new _ w3.drew _, (Below.refl _ w3).drew.alloc (Nat.le_refl _) _⟩
      case rest =>
      obtain ⟨W4, rfl, rfl, HBX, HB3⟩ := hcut
      have HB4 := hide (HB2.out.trans (HB3.out.mono HB2.out.size))
      have HO4 := hide (HO2.out.below HB3.out (Nat.le_refl _))
      have HD := hide (fun (w' : World) (h : Below W4.heap.size W4 w') => (HBX.out.below h HBX.out.lt).five)
      have hz4 := HBX.out.lt
      obtain ⟨k0, k1, k2, k3, k4⟩ := HBX.out.five
      clear d0 d1 d2 HB3 HB2 HO2 HB1 HO1 hglt hgb hgl3
      rcases HCASE.out with ⟨⟨n1, n2⟩, hg, hr, hee⟩ | ⟨hbad, hng⟩
      · rw [HSH.out] at hee
        obtain ⟨m1, m2⟩ := scan_more HX.out HPL.out hg hr hee
        have hsp : 0 < SH.length := List.length_pos_iff.2 n1
        rw [← HSH.out] at hee
        have HX1 := hide m1
        have HPL1 := hide m2
        have hse : SH.isEmpty = false := List.isEmpty_eq_false_iff.mpr n1
        have hlt : p < e := by omega
        subst n2
        clear m1 m2 hg hr hee n1 HCASE hsp
        go_wp2_with fail
        go_region_held3 (fun w' => w'.cell? ⟨w3.heap.size, 0, none⟩ = some (.int .i64 (a : Int)) ∧ w'.cell? ⟨w3.heap.size, 1, none⟩ = some (.int .i64 (b : Int)) ∧ w'.cell? ⟨w3.heap.size, 2, none⟩ = some (.int .i64 (c : Int)) ∧ w'.cell? ⟨w3.heap.size, 3, none⟩ = some (.string ⟨TB.toArray⟩) ∧ w'.cell? ⟨w3.heap.size, 4, none⟩ = some (.bool false))
          (first
            | with_reducible exact HD.out _ (Below.refl _ _)
            | with_reducible exact HD.out _ (Below.refl _ _).drew
            | with_reducible exact HD.out _ HW5.out
            | with_reducible exact HD.out _ HW6.out)
          (first
            | (have hq5 := HW5.out
               clear hq5
               go_at_call 14
               refine (HSR.out _).mono ?_
               rintro e' w6 ⟨rfl, hb6⟩
               have HW6 := hide (HW5.out.trans (hb6.mono HW5.out.size))
               clear hb6)
            | (go_at_call 14
               refine (HSR.out _).mono ?_
               rintro e' w5 ⟨rfl, hb5⟩
               have HW5 := hide (below_of_drew' hb5)
               clear hb5))
        all_goals
          have HB6 := hide (HB4.out.trans (HW6.out.mono HB4.out.size))
          have HO6 := hide (HO4.out.below HW6.out (Nat.le_refl _))
          have HOa := hide (HO6.out.alloc (.cells #[.int .i64 (a : Int), .int .i64 (b : Int), .int .i64 (c : Int), .string ⟨TB.toArray⟩, .bool false] 31))
          have HSa : Hid (elLogRow.Rd (w6.alloc (.cells #[.int .i64 (a : Int), .int .i64 (b : Int), .int .i64 (c : Int), .string ⟨TB.toArray⟩, .bool false] 31)) (w6.alloc (.cells #[.int .i64 (a : Int), .int .i64 (b : Int), .int .i64 (c : Int), .string ⟨TB.toArray⟩, .bool false] 31)).heap.size (some ⟨w6.heap.size, 0, none⟩) [((a : Int), (b : Int), (c : Int), ⟨TB.toArray⟩, false)]) := El.Holds.rd (El.Holds.new (e := elLogRow) w6 [((a : Int), (b : Int), (c : Int), ⟨TB.toArray⟩, false)])
          have HBa := hide (HB6.out.alloc HB6.out.size (.cells #[.int .i64 (a : Int), .int .i64 (b : Int), .int .i64 (c : Int), .string ⟨TB.toArray⟩, .bool false] 31))
          have hBa : w.heap.size ≤ (w6.alloc (.cells #[.int .i64 (a : Int), .int .i64 (b : Int), .int .i64 (c : Int), .string ⟨TB.toArray⟩, .bool false] 31)).heap.size := HBa.out.size
          have hjl : (pre ++ [(((a : Int), (b : Int), (c : Int), ⟨TB.toArray⟩, false) : Lg)]).length = j + 1 := by rw [List.length_append, hpre]; rfl
          obtain ⟨f0, f1, f2, f3, f4⟩ := HD.out _ HW6.out
          go_wp2_with (at_builtin; refine El.append rfl (.tmp 53) (.tmp 55) 25 rfl Tryd.underlying25 _ _ infoLogRow rfl (by decide) (by decide) w.heap.size w _ _ (some ⟨w6.heap.size, 0, none⟩) 1 1 pre [((a : Int), (b : Int), (c : Int), ⟨TB.toArray⟩, false)] rfl rfl rfl (fun h => by cases h) HOa HSa (fun p hp => ⟨_, _, (Option.some.inj hp).symm⟩) HBa hBa _ (j + 1) rfl hjl (by omega) ?_; intro a5 c5 w8 HO8 HB8 HG8 hz8)
          go_wp2_with fail
          go_roundw
        all_goals first
          | exact ⟨e, j + 1, a5, c5, _, rfl, rfl, heS, hjl, HX1, HPL1, HO8, HB8⟩
          | (simp [intOf]; omega)
      · obtain ⟨e1, e2⟩ := scan_end HX.out HPL.out hng
        have HE1 := hide e1
        have HE2 := hide e2
        clear e1 e2 hng HCASE
        by_cases h0 : SH = []
        · subst h0
          clear hbad
          go_wp2_with fail
          refine wp_region_held_drew (S := (fun w' => w'.cell? ⟨w3.heap.size, 0, none⟩ = some (.int .i64 (a : Int)) ∧ w'.cell? ⟨w3.heap.size, 1, none⟩ = some (.int .i64 (b : Int)) ∧ w'.cell? ⟨w3.heap.size, 2, none⟩ = some (.int .i64 (c : Int)) ∧ w'.cell? ⟨w3.heap.size, 3, none⟩ = some (.string ⟨TB.toArray⟩) ∧ w'.cell? ⟨w3.heap.size, 4, none⟩ = some (.bool false))) (by kernel_rfl) (HD.out _ (Below.refl _ _).drew) (fun hHeld => ?_)
          refine wpAnyH_take (i := 0) (v := ?_) rfl (by kernel_rfl) (by kernel_rfl) (by kernel_rfl) (fun _ _ _ h => h) (Or.inl ⟨by rfl, ?_⟩) (by assumption) ?_
          rotate_left 1
          · intro w hSw
            (try dsimp only at hSw)
            go_simp
            try with_reducible rfl
          go_simp
          refine wpAnyH_ready (rs := [1]) (by kernel_rfl) (by simp) ?_
          refine AllReadyH.cons rfl (fun K hK => ?_) AllReadyH.nil
          go_simp
          go_at_call 14
          refine (HSR.out _).mono ?_
          rintro e' w5 ⟨rfl, hb5⟩
          have HW5 := hide (below_of_drew' hb5)
          clear hb5 hHeld
          refine hK.out _ _ (HD.out _ HW5.out) (fun hHeld => ?_)
          clear hK K
          go_simp
          refine wpAnyH_take (i := 2) (v := ?_) rfl (by kernel_rfl) (by kernel_rfl) (by kernel_rfl) (fun _ _ _ h => h) (Or.inl ⟨by rfl, ?_⟩) (by assumption) ?_
          rotate_left 1
          · intro w hSw
            (try dsimp only at hSw)
            go_simp
            try with_reducible rfl
          go_simp
          refine wpAnyH_take (i := 3) (v := ?_) rfl (by kernel_rfl) (by kernel_rfl) (by kernel_rfl) (fun _ _ _ h => h) (Or.inl ⟨by rfl, ?_⟩) (by assumption) ?_
          rotate_left 1
          · intro w hSw
            (try dsimp only at hSw)
            go_simp
            try with_reducible rfl
          go_simp
          refine wpAnyH_take (i := 4) rfl (by kernel_rfl) (by kernel_rfl) (by kernel_rfl) (fun _ _ _ h => h) (Or.inr ⟨by rfl, rfl⟩) (by assumption) ?_
          go_simp
          refine wpAnyH_take (i := 5) rfl (by kernel_rfl) (by kernel_rfl) (by kernel_rfl) (fun _ _ _ h => h) (Or.inr ⟨by rfl, rfl⟩) (by assumption) ?_
          go_simp
          refine wpAnyH_take (i := 6) rfl (by kernel_rfl) (by kernel_rfl) (by kernel_rfl) (fun _ _ _ h => h) (Or.inr ⟨by rfl, rfl⟩) (by assumption) ?_
          go_simp
          refine wpAnyH_take (i := 7) rfl (by kernel_rfl) (by kernel_rfl) (by kernel_rfl) (fun _ _ _ h => h) (Or.inr ⟨by rfl, rfl⟩) (by assumption) ?_
          go_simp
          refine wpAnyH_take (i := 8) rfl (by kernel_rfl) (by kernel_rfl) (by kernel_rfl) (fun _ _ _ h => h) (Or.inr ⟨by rfl, rfl⟩) (by assumption) ?_
          go_simp
          refine wpAnyH_take (i := 9) rfl (by kernel_rfl) (by kernel_rfl) (by kernel_rfl) (fun _ _ _ h => h) (Or.inr ⟨by rfl, rfl⟩) (by assumption) ?_
          go_simp
          refine wpAnyH_take (i := 10) rfl (by kernel_rfl) (by kernel_rfl) (by kernel_rfl) (fun _ _ _ h => h) (Or.inr ⟨by rfl, rfl⟩) (by assumption) ?_
          go_simp
          refine wpAnyH_take (i := 11) (v := ?_) rfl (by kernel_rfl) (by kernel_rfl) (by kernel_rfl) (fun _ _ _ h => h) (Or.inl ⟨by rfl, ?_⟩) (by assumption) ?_
          rotate_left 1
          · intro w hSw
            (try dsimp only at hSw)
            go_simp
            try with_reducible rfl
          go_simp
          refine wpAnyH_done (by kernel_rfl) ?_ _
          clear hHeld
          go_wp2_with fail
          go_ret2
          exact ⟨_, by rw [HE2.out]; rfl, by rw [HE1.out]; exact HO4.out.below HW5.out (Nat.le_refl _), HB4.out.trans (HW5.out.mono HB4.out.size)⟩
        · have hse : SH.isEmpty = false := List.isEmpty_eq_false_iff.mpr h0
          have hne : (SH == CU) = false := by
            rw [beq_eq_false_iff_ne]
            rcases hbad with h | h
            · exact absurd h h0
            · exact h
          clear hbad h0
          go_wp2_with fail
          go_region_held3 (fun w' => w'.cell? ⟨w3.heap.size, 0, none⟩ = some (.int .i64 (a : Int)) ∧ w'.cell? ⟨w3.heap.size, 1, none⟩ = some (.int .i64 (b : Int)) ∧ w'.cell? ⟨w3.heap.size, 2, none⟩ = some (.int .i64 (c : Int)) ∧ w'.cell? ⟨w3.heap.size, 3, none⟩ = some (.string ⟨TB.toArray⟩) ∧ w'.cell? ⟨w3.heap.size, 4, none⟩ = some (.bool false))
            (first
              | with_reducible exact HD.out _ (Below.refl _ _)
              | with_reducible exact HD.out _ (Below.refl _ _).drew
              | with_reducible exact HD.out _ HW5.out
              | with_reducible exact HD.out _ HW6.out)
            (first
              | (have hq5 := HW5.out
                 clear hq5
                 go_at_call 14
                 refine (HSR.out _).mono ?_
                 rintro e' w6 ⟨rfl, hb6⟩
                 have HW6 := hide (HW5.out.trans (hb6.mono HW5.out.size))
                 clear hb6)
              | (go_at_call 14
                 refine (HSR.out _).mono ?_
                 rintro e' w5 ⟨rfl, hb5⟩
                 have HW5 := hide (below_of_drew' hb5)
                 clear hb5))
          all_goals go_wp2_with fail
          all_goals go_ret2
          all_goals exact ⟨_, by rw [HE2.out]; rfl, by rw [HE1.out]; exact HO4.out.below HW6.out (Nat.le_refl _), HB4.out.trans (HW6.out.mono HB4.out.size)⟩
end Go.Proofs.YtlmkdjfilbfjpaaDoor
