/-
  Texts of this proof, put together: OrdEntA, MemI.
-/
import Derived.Test.YtphfakdbgohhgaaPackAT
import Derived.Test.YtphfakdbgohhgaaPackAL
import Derived.Test.YtphfakdbgohhgaaPackAK
import Derived.Test.YtphfakdbgohhgaaPackAI
import Derived.StillTailTactics
import Derived.Deep.DeepCutAuto
import Derived.Deep.RegionHeld3
import Derived.Deep.QuietTactic
import Derived.BigQuiet
import Derived.Test.YtphfakdbgohhgaaPackAQ
import Derived.WalkLawsBesides

/-
  Contract of slices.BinarySearchFunc over rows of impl.Ent. (Written by mkord.py.)
-/
namespace Go.Proofs.Ytphfakdbgohhgaa
open Go.ChangeShapes Go.WideShapes Go.ChangeAt Go.RowKit

def FoundEnt (w : World) (p : Nat) (e : Ending) (w' : World) : Prop := ∃ b : Bool, e = .returned (.tuple #[.int .i64 (p : Int), .bool b]) ∧ Below w.heap.size w w'

set_option maxHeartbeats 2000000 in
set_option maxRecDepth 20000 in
theorem searchEnt_any (a : Option Addr) (cap : Nat) (L : List EntE) (x0 : ByteArray) (x1 : Int) (x2 : Bool) (x3 : ByteArray) (p : Nat) (w : World) (hr : elEnt.Rd w w.heap.size a L) (hp : p ≤ L.length)
    (h1 : ∀ i (h : i < L.length), i < p → cmpE L[i] (x0, x1, x2, x3) < 0) (h2 : ∀ i (h : i < L.length), p ≤ i → 0 ≤ cmpE L[i] (x0, x1, x2, x3)) (hl : L.length ≤ 2097152) :
    Calls Try.prog 91 #[.slice a L.length cap, .agg #[.string x0, .int .i64 x1, .bool x2, .string x3], .func (.func 87) #[.agg #[]] #[]] w (FoundEnt w p) := by
  have HR := hide hr
  have H1 := hide h1
  have H2 := hide h2
  clear hr h1 h2
  obtain ⟨n, hn⟩ : ∃ n, n = L.length := ⟨_, rfl⟩
  have HN := hide hn
  rw [← hn] at hl hp
  rw [← hn]
  clear hn
  go_enter Try.func91, Try.ntmps91
  go_wp2_with fail
  go_loopw [9, 10, 11] (fun i j _ wr => ∃ (u v : Nat), i = .int .i64 u ∧ j = .int .i64 v ∧ u ≤ p ∧ p ≤ v ∧ v ≤ n ∧ Hid (Below w.heap.size w wr) ∧ Hid (BoxV 26 wr w.heap.size #[.string x0, .int .i64 x1, .bool x2, .string x3])) (fun i j _ _ => (intOf j).toNat - (intOf i).toNat)
  case atStart => exact ⟨0, n, rfl, rfl, by omega, by omega, by omega, (Below.refl _ _).alloc (Nat.le_refl _) _, BoxV.new _ w _⟩
  case round =>
    obtain ⟨u, v, rfl, rfl, hup, hpv, hvn, HB, HX⟩ := hrel
    obtain ⟨b0, b1, b2, b3⟩ := (show wr.cell? ⟨w.heap.size, 0, none⟩ = some (.string x0) ∧ wr.cell? ⟨w.heap.size, 1, none⟩ = some (.int .i64 x1) ∧ wr.cell? ⟨w.heap.size, 2, none⟩ = some (.bool x2) ∧ wr.cell? ⟨w.heap.size, 3, none⟩ = some (.string x3) from ⟨HX.out.cell 0 _ rfl, HX.out.cell 1 _ rfl, HX.out.cell 2 _ rfl, HX.out.cell 3 _ rfl⟩)
    by_cases hlt : u < v
    · obtain ⟨h, hh⟩ : ∃ h, h = (u + v) / 2 := ⟨_, rfl⟩
      have hu : u ≤ h := by omega
      have hv : h < v := by omega
      have HH := hide hh
      have hhn : h < n := by omega
      have hjL : h < L.length := by rw [← HN.out]; omega
      obtain ⟨b, o, rfl, hb, hc⟩ := HR.out (by omega)
      obtain ⟨y0, y1, y2, y3, hy⟩ := partsEnt L[h]
      obtain ⟨p0, p1, p2, p3⟩ := cellsEnt hy (hc h hjL)
      have d0 := (HB.out.cell (p := ⟨b, o + h * 4, none⟩) hb).trans p0
      have d1 := (HB.out.cell (p := ⟨b, o + h * 4 + 1, none⟩) hb).trans p1
      have d2 := (HB.out.cell (p := ⟨b, o + h * 4 + 2, none⟩) hb).trans p2
      have d3 := (HB.out.cell (p := ⟨b, o + h * 4 + 3, none⟩) hb).trans p3
      have HO1 := hide (show h < p → cmpE (y0, y1, y2, y3) (x0, x1, x2, x3) < 0 from fun hp => hy ▸ H1.out h hjL hp)
      have HO2 := hide (show p ≤ h → 0 ≤ cmpE (y0, y1, y2, y3) (x0, x1, x2, x3) from fun hp => hy ▸ H2.out h hjL hp)
      obtain ⟨z, hz⟩ : ∃ z, z = cmpE (y0, y1, y2, y3) (x0, x1, x2, x3) := ⟨_, rfl⟩
      have HC := hide (fun W => compareE_any y0 y1 y2 y3 x0 x1 x2 x3 W)
      rw [← hz] at HO1 HO2 HC
      clear hc p0 p1 p2 p3 hz hy
      go_upto_region 5 with (fail)
      rw [show ((u : Int) + (v : Int)) / 2 = (h : Int) by omega]
      have hi1 : (h : Int) < (n : Int) := by omega
      clear hjL hh
      go_still_tail 6, (by kernel_rfl)
      change wpList _ _ _ _ _ wr.drew
      go_wp2_with fail
      refine (HC.out _).mono ?_
      rintro e w1 ⟨rfl, hb1⟩
      have HB1 := hide (HB.out.drew.trans (hb1.mono HB.out.size))
      have HX1 := hide (HX.out.below (below_drew' hb1) HX.out.lt)
      clear hb1 HB HX d0 d1 d2 d3 b0 b1 b2 b3
      by_cases hc : z < 0
      · have hlp : h < p := Nat.lt_of_not_le fun hq => by have := HO2.out hq; omega
        go_wp2_with fail
        go_roundw
        case rel => exact ⟨h + 1, v, by go_num, rfl, by omega, hpv, hvn, HB1, HX1⟩
        case measure => simp [intOf]; omega
      · have hlp : p ≤ h := Nat.le_of_not_lt fun hq => hc (HO1.out hq)
        go_wp2_with fail
        go_roundw
        case rel => exact ⟨u, h, rfl, rfl, hup, hlp, by omega, HB1, HX1⟩
        case measure => simp [intOf]; omega
    · have huv2 : v = p := by omega
      have huv3 : u = p := by omega
      subst huv2 huv3
      by_cases hvn2 : u < n
      · have hjL : u < L.length := by rw [← HN.out]; exact hvn2
        obtain ⟨b, o, rfl, hb, hc⟩ := HR.out (by omega)
        obtain ⟨y0, y1, y2, y3, hy⟩ := partsEnt L[u]
        obtain ⟨p0, p1, p2, p3⟩ := cellsEnt hy (hc u hjL)
        have d0 := (HB.out.cell (p := ⟨b, o + u * 4, none⟩) hb).trans p0
        have d1 := (HB.out.cell (p := ⟨b, o + u * 4 + 1, none⟩) hb).trans p1
        have d2 := (HB.out.cell (p := ⟨b, o + u * 4 + 2, none⟩) hb).trans p2
        have d3 := (HB.out.cell (p := ⟨b, o + u * 4 + 3, none⟩) hb).trans p3
        have g1 : decide ((u : Int) < (n : Int)) = true := decide_eq_true (by omega)
        have g2 : decide (u < n) = true := decide_eq_true hvn2
        have hi1 : (u : Int) < (n : Int) := by omega
        have hwb := HB.out.size
        clear hc p0 p1 p2 p3 hjL hy
        go_wp2_with fail
        go_region_held3 (fun w' => (w'.cell? ⟨w.heap.size, 0, none⟩ = some (.string x0) ∧ w'.cell? ⟨w.heap.size, 1, none⟩ = some (.int .i64 x1) ∧ w'.cell? ⟨w.heap.size, 2, none⟩ = some (.bool x2) ∧ w'.cell? ⟨w.heap.size, 3, none⟩ = some (.string x3)) ∧ w'.cell? ⟨b, o + u * 4, none⟩ = some (.string y0) ∧ w'.cell? ⟨b, o + u * 4 + 1, none⟩ = some (.int .i64 y1) ∧ w'.cell? ⟨b, o + u * 4 + 2, none⟩ = some (.bool y2) ∧ w'.cell? ⟨b, o + u * 4 + 3, none⟩ = some (.string y3))
          (first
            | exact ⟨⟨b0, b1, b2, b3⟩, d0, d1, d2, d3⟩
            | exact ⟨⟨e0, e1, e2, e3⟩, f0, f1, f2, f3⟩)
          (first
            | (go_at_call 87
               refine (compareE_any y0 y1 y2 y3 x0 x1 x2 x3 _).mono ?_
               rintro e w1 ⟨rfl, hb1⟩
               have HB1 := hide (HB.out.drew.trans (hb1.mono HB.out.size))
               have HX1 := hide (HX.out.below (below_drew' hb1) HX.out.lt)
               obtain ⟨e0, e1, e2, e3⟩ := (show w1.cell? ⟨w.heap.size, 0, none⟩ = some (.string x0) ∧ w1.cell? ⟨w.heap.size, 1, none⟩ = some (.int .i64 x1) ∧ w1.cell? ⟨w.heap.size, 2, none⟩ = some (.bool x2) ∧ w1.cell? ⟨w.heap.size, 3, none⟩ = some (.string x3) from ⟨HX1.out.cell 0 _ rfl, HX1.out.cell 1 _ rfl, HX1.out.cell 2 _ rfl, HX1.out.cell 3 _ rfl⟩)
               have f0 := ((below_drew' hb1).cell (p := ⟨b, o + u * 4, none⟩) (Nat.lt_of_lt_of_le hb hwb)).trans d0
               have f1 := ((below_drew' hb1).cell (p := ⟨b, o + u * 4 + 1, none⟩) (Nat.lt_of_lt_of_le hb hwb)).trans d1
               have f2 := ((below_drew' hb1).cell (p := ⟨b, o + u * 4 + 2, none⟩) (Nat.lt_of_lt_of_le hb hwb)).trans d2
               have f3 := ((below_drew' hb1).cell (p := ⟨b, o + u * 4 + 3, none⟩) (Nat.lt_of_lt_of_le hb hwb)).trans d3
               clear hb1))
        all_goals go_wp2_with fail
        all_goals go_ret2
        all_goals exact ⟨_, rfl, HB1.out⟩
      · have g1 : decide ((u : Int) < (n : Int)) = false := decide_eq_false (by omega)
        have g2 : decide (u < n) = false := decide_eq_false hvn2
        go_wp2_with fail
        go_quiet (fail)
        go_wp2_with fail
        go_ret2
        exact ⟨_, rfl, ⟨HB.out.os, HB.out.tape, HB.out.output, HB.out.size, HB.out.block⟩⟩
end Go.Proofs.Ytphfakdbgohhgaa

/-
  Contracts of spec.MemMap, l9Within and MemRange.
-/
namespace Go.Proofs.Ytphfakdbgohhgaa
open Go.ChangeShapes Go.WideShapes Go.ChangeAt Go.RowKit

theorem rangeE_len (f t : ByteArray) (M : List KV) : (rangeE f t M).length ≤ M.length := by
  unfold rangeE
  exact List.length_filter_le _ _
theorem sMemMap_any (a : Option Addr) (cap : Nat) (L : List En) (q : Int) (w : World) (hr : elEnt.Rd w w.heap.size a L) (hl : L.length ≤ 2097152) :
    Calls Try.prog 21 #[.slice a L.length cap, .int .i64 q] w (KVPost' w (mapM L q)) := by
  have HR := hide hr
  have HC := hide (fun W h => sMemOk_any a cap L W h hl)
  by_cases hm : memOkL L
  · rw [show mapM L q = mapE q L from if_pos hm]
    rw [decide_eq_true hm] at HC
    have HV := hide (fun W h => l9Map_any a cap L q W h hm.2.2 hl)
    obtain ⟨M, hM⟩ : ∃ M, M = mapE q L := ⟨_, rfl⟩
    obtain ⟨n, hn⟩ : ∃ n, n = L.length := ⟨_, rfl⟩
    rw [← hn, ← hM] at HV
    rw [← hn] at HC
    rw [← hn, ← hM]
    clear hm hn hM hr hl
    go_enter Try.func21, Try.ntmps21
    go_wp2_with fail
    refine (HC.out _ HR.out).mono ?_
    rintro e w1 ⟨rfl, hb1⟩
    have HB1 := hide hb1
    clear hb1
    go_wp2_with fail
    refine (HV.out _ ((HR.out.below HB1.out (Nat.le_refl _)).mono HB1.out.size)).mono ?_
    rintro e w2 ⟨v, rfl, ho, hb2⟩
    have HO := hide (ho.mono HB1.out.size)
    have HB2 := hide (HB1.out.trans (hb2.mono HB1.out.size))
    clear ho hb2
    go_wp2_with fail
    go_ret
    exact ⟨_, rfl, HO.out, HB2.out⟩
  · rw [show mapM L q = [] from if_neg hm]
    rw [decide_eq_false hm] at HC
    obtain ⟨n, hn⟩ : ∃ n, n = L.length := ⟨_, rfl⟩
    rw [← hn] at HC ⊢
    clear hm hn hr hl
    go_enter Try.func21, Try.ntmps21
    go_wp2_with fail
    refine (HC.out _ HR.out).mono ?_
    rintro e w1 ⟨rfl, hb1⟩
    have HB1 := hide hb1
    have hw1 := HB1.out.size
    clear hb1
    go_wp2_with fail
    go_ret
    exact ⟨_, rfl, nil_kv w1 hw1, HB1.out.alloc hw1 _⟩

theorem kless_of' {k f : ByteArray} (b : Bool) (h : kless k f = b) : Op.bytesLess k.toList f.toList = b := h
theorem l9Within_any (k f t : ByteArray) (w : World) :
    Calls Try.prog 68 #[.string k, .string f, .string t] w fun e w' => e = .returned (.bool (decide (withinK k f t))) ∧ w' = w := by
  obtain ⟨V, hV⟩ : ∃ V, V = decide (withinK k f t) := ⟨_, rfl⟩
  rw [← hV]
  cases h1 : kless k f with
  | true =>
    have z1 := kless_of' true h1
    have HV := hide (show V = false from hV.trans (decide_eq_false fun h => by rw [h.1] at h1; cases h1))
    clear hV h1
    go_enter Try.func68, Try.ntmps68
    go_wp2_with fail
    go_ret
    exact ⟨by rw [HV.out]; rfl, rfl⟩
  | false =>
    have z1 := kless_of' false h1
    by_cases h2 : t.size = 0
    · have z2 : t.toList.isEmpty = true := by rw [empty_mk h2, ByteArray.toList_eq]; rfl
      have HV := hide (show V = true from hV.trans (decide_eq_true ⟨h1, .inl h2⟩))
      clear hV h1 h2
      go_enter Try.func68, Try.ntmps68
      go_wp2_with fail
      go_ret
      exact ⟨by rw [HV.out]; rfl, rfl⟩
    · have z2 := empty_not h2
      cases h3 : kless k t with
      | true =>
        have z3 := kless_of' true h3
        have HV := hide (show V = true from hV.trans (decide_eq_true ⟨h1, .inr h3⟩))
        clear hV h1 h2 h3
        go_enter Try.func68, Try.ntmps68
        go_wp2_with fail
        go_ret
        exact ⟨by rw [HV.out]; rfl, rfl⟩
      | false =>
        have z3 := kless_of' false h3
        have HV := hide (show V = false from hV.trans (decide_eq_false fun h => h.2.elim h2 (fun h => by rw [h] at h3; cases h3)))
        clear hV h1 h2 h3
        go_enter Try.func68, Try.ntmps68
        go_wp2_with fail
        go_ret
        exact ⟨by rw [HV.out]; rfl, rfl⟩

set_option maxHeartbeats 2000000 in
set_option maxRecDepth 20000 in
theorem sMemRange_any (a : Option Addr) (cap : Nat) (L : List En) (f t : ByteArray) (q : Int) (w : World) (hr : elEnt.Rd w w.heap.size a L) (hl : L.length ≤ 2097152) :
    Calls Try.prog 24 #[.slice a L.length cap, .string f, .string t, .int .i64 q] w (KVPost' w (rangeE f t (mapM L q))) := by
  have HC := hide (sMemMap_any a cap L q w hr hl)
  have hlm := Nat.le_trans (mapM_len L q) hl
  obtain ⟨M, hM⟩ : ∃ M, M = mapM L q := ⟨_, rfl⟩
  obtain ⟨n, hn⟩ : ∃ n, n = L.length := ⟨_, rfl⟩
  rw [← hM] at HC hlm ⊢
  rw [← hn] at HC ⊢
  have HALL := hide (rangP_all f t M)
  clear hM hn hr hl
  go_enter Try.func24, Try.ntmps24
  go_wp2_with fail
  refine HC.out.mono ?_
  rintro e w1 ⟨v, rfl, ho, hb1⟩
  obtain ⟨a1, cap1, rfl, hrd, _⟩ := ho.form
  have HM := hide hrd
  have HB1 := hide hb1
  have HO0 := hide (nil_kv w1 (Nat.le_refl w1.heap.size))
  have HB0 := hide ((Below.refl w1.heap.size w1).alloc (Nat.le_refl _) (.cells #[] 41))
  obtain ⟨m, hm⟩ : ∃ m, m = M.length := ⟨_, rfl⟩
  have HN := hide hm
  rw [← hm] at hlm HALL ⊢
  clear ho hrd hb1 hm HC
  go_wp2_with fail
  go_loopw [10, 11] (fun o i wr => ∃ (j y : Nat) (a5 : Option Addr) (c5 : Nat), o = .slice a5 y c5 ∧ i = .int .i64 j ∧ j ≤ m ∧ y ≤ j ∧ Hid ((rangP f t M j).length = y) ∧ Hid (elKV.Owns w1.heap.size wr (.slice a5 y c5) (rangP f t M j)) ∧ Hid (Below w1.heap.size w1 wr)) (fun _ i _ => m - (intOf i).toNat)
  case atStart => exact ⟨0, 0, _, _, rfl, rfl, by omega, by omega, hide (by rw [rangP_zero]; rfl), by rw [rangP_zero]; exact HO0, HB0⟩
  case round =>
    obtain ⟨j, y, a5, c5, rfl, rfl, hj, hyj, HY, HO, HB⟩ := hrel
    by_cases hlt : j < m
    · have hjL : j < M.length := by rw [← HN.out]; exact hlt
      obtain ⟨b, off, rfl, hb, hcell⟩ := HM.out (by omega)
      obtain ⟨f0, f1, hx⟩ := partsKV M[j]
      obtain ⟨c0, c1⟩ := cellsKV hx (hcell j hjL)
      have d0 := (HB.out.cell (p := ⟨b, off + j * 2, none⟩) hb).trans c0
      have d1 := (HB.out.cell (p := ⟨b, off + j * 2 + 1, none⟩) hb).trans c1
      have HX := hide (show M[j]? = some (f0, f1) by rw [List.getElem?_eq_getElem hjL, hx])
      have hs := HB.out.size
      have HW := hide (fun W => l9Within_any f0 f t W)
      clear hcell c0 c1 hx hjL
      by_cases hv : withinK f0 f t
      · have HMM := hide (rangP_yes HX.out hv)
        have HM' := hide (show (rangP f t M j ++ [(f0, f1)]).length = y + 1 by rw [List.length_append, HY.out]; rfl)
        have HOa := hide (HO.out.alloc (.cells #[.string f0, .string f1] 41))
        have HSa := hide (src_kv wr f0 f1)
        have HBa := hide (HB.out.alloc hs (.cells #[.string f0, .string f1] 41))
        have hba := HBa.out.size
        rw [decide_eq_true hv] at HW
        clear hv
        go_wp2_with fail
        refine (HW.out _).mono ?_
        rintro e w2 ⟨rfl, rfl⟩
        go_wp2_with (at_builtin; go_loud (refine El.appendSrc (e := elKV) rfl (.tmp 30) (.tmp 35) 37 rfl Try.underlying37 _ _ infoKV rfl (by decide) (by decide) w1.heap.size w1 _ _ _ (rangP f t M j) [(f0, f1)] rfl rfl HOa HSa HBa hba (rangP f t M j ++ [(f0, f1)]) (y + 1) rfl HM'.out (by omega) ?_); intro a6 c6 w6 HO6 HB6 hz6 _)
        go_roundw
        case rel => exact ⟨j + 1, y + 1, a6, c6, rfl, by go_num, by omega, by omega, by rw [HMM.out]; exact HM', by rw [HMM.out]; exact HO6, HB6⟩
        case measure => simp [intOf]; omega
      · have HMM := hide (rangP_no HX.out hv)
        rw [decide_eq_false hv] at HW
        clear hv
        go_wp2_with fail
        refine (HW.out _).mono ?_
        rintro e w2 ⟨rfl, rfl⟩
        go_wp2_with fail
        go_roundw
        case rel => exact ⟨j + 1, y, a5, c5, rfl, by go_num, by omega, by omega, by rw [HMM.out]; exact HY, by rw [HMM.out]; exact HO, HB⟩
        case measure => simp [intOf]; omega
    · have hjn : j = m := by omega
      subst hjn
      go_wp2_with fail
      go_ret
      exact ⟨_, rfl, by rw [← HALL.out]; exact HO.out.mono HB1.out.size, HB1.out.trans (HB.out.mono HB1.out.size)⟩
end Go.Proofs.Ytphfakdbgohhgaa
