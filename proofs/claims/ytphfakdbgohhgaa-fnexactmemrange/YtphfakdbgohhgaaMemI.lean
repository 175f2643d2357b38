/-
  Contracts of spec.MemMap, l9Within and MemRange.
-/
import Derived.Test.YtphfakdbgohhgaaMemH
import Derived.WalkLawsBesides
namespace Go.Proofs.Ytphfakdbgohhgaa
open Go.ChangeShapes Go.WideShapes Go.ChangeAt Go.RowKit

theorem rangeE_len (f t : ByteArray) (M : List KV) : (rangeE f t M).length ≤ M.length := by
  unfold rangeE
  exact List.length_filter_le _ _
theorem sMemMap_any (a : Option Addr) (cap : Nat) (L : List En) (q : Int) (w : World) (hr : elEnt.Rd w w.heap.size a L) (hl : L.length ≤ 2097152) :
    Calls Try.prog 21 #[.slice a L.length cap, .int .i64 q] w (KVPost' w (mapM L q)) := by
  have HR := hide hr
  have HC := hide (fun W h => sMemOk_any a cap L W h hl)
  by_cases hm : memOkL L
  · rw [show mapM L q = mapE q L from if_pos hm]
    rw [decide_eq_true hm] at HC
    have HV := hide (fun W h => l9Map_any a cap L q W h hm.2.2 hl)
    obtain ⟨M, hM⟩ : ∃ M, M = mapE q L := ⟨_, rfl⟩
    obtain ⟨n, hn⟩ : ∃ n, n = L.length := ⟨_, rfl⟩
    rw [← hn, ← hM] at HV
    rw [← hn] at HC
    rw [← hn, ← hM]
    clear hm hn hM hr hl
    go_enter Try.func21, Try.ntmps21
    go_wp2_with fail
    refine (HC.out _ HR.out).mono ?_
    rintro e w1 ⟨rfl, hb1⟩
    have HB1 := hide hb1
    clear hb1
    go_wp2_with fail
    refine (HV.out _ ((HR.out.below HB1.out (Nat.le_refl _)).mono HB1.out.size)).mono ?_
    rintro e w2 ⟨v, rfl, ho, hb2⟩
    have HO := hide (ho.mono HB1.out.size)
    have HB2 := hide (HB1.out.trans (hb2.mono HB1.out.size))
    clear ho hb2
    go_wp2_with fail
    go_ret
    exact ⟨_, rfl, HO.out, HB2.out⟩
  · rw [show mapM L q = [] from if_neg hm]
    rw [decide_eq_false hm] at HC
    obtain ⟨n, hn⟩ : ∃ n, n = L.length := ⟨_, rfl⟩
    rw [← hn] at HC ⊢
    clear hm hn hr hl
    go_enter Try.func21, Try.ntmps21
    go_wp2_with fail
    refine (HC.out _ HR.out).mono ?_
    rintro e w1 ⟨rfl, hb1⟩
    have HB1 := hide hb1
    have hw1 := HB1.out.size
    clear hb1
    go_wp2_with fail
    go_ret
    exact ⟨_, rfl, nil_kv w1 hw1, HB1.out.alloc hw1 _⟩

theorem kless_of' {k f : ByteArray} (b : Bool) (h : kless k f = b) : Op.bytesLess k.toList f.toList = b := h
theorem l9Within_any (k f t : ByteArray) (w : World) :
    Calls Try.prog 68 #[.string k, .string f, .string t] w fun e w' => e = .returned (.bool (decide (withinK k f t))) ∧ w' = w := by
  obtain ⟨V, hV⟩ : ∃ V, V = decide (withinK k f t) := ⟨_, rfl⟩
  rw [← hV]
  cases h1 : kless k f with
  | true =>
    have z1 := kless_of' true h1
    have HV := hide (show V = false from hV.trans (decide_eq_false fun h => by rw [h.1] at h1; cases h1))
    clear hV h1
    go_enter Try.func68, Try.ntmps68
    go_wp2_with fail
    go_ret
    exact ⟨by rw [HV.out]; rfl, rfl⟩
  | false =>
    have z1 := kless_of' false h1
    by_cases h2 : t.size = 0
    · have z2 : t.toList.isEmpty = true := by rw [empty_mk h2, ByteArray.toList_eq]; rfl
      have HV := hide (show V = true from hV.trans (decide_eq_true ⟨h1, .inl h2⟩))
      clear hV h1 h2
      go_enter Try.func68, Try.ntmps68
      go_wp2_with fail
      go_ret
      exact ⟨by rw [HV.out]; rfl, rfl⟩
    · have z2 := empty_not h2
      cases h3 : kless k t with
      | true =>
        have z3 := kless_of' true h3
        have HV := hide (show V = true from hV.trans (decide_eq_true ⟨h1, .inr h3⟩))
        clear hV h1 h2 h3
        go_enter Try.func68, Try.ntmps68
        go_wp2_with fail
        go_ret
        exact ⟨by rw [HV.out]; rfl, rfl⟩
      | false =>
        have z3 := kless_of' false h3
        have HV := hide (show V = false from hV.trans (decide_eq_false fun h => h.2.elim h2 (fun h => by rw [h] at h3; cases h3)))
        clear hV h1 h2 h3
        go_enter Try.func68, Try.ntmps68
        go_wp2_with fail
        go_ret
        exact ⟨by rw [HV.out]; rfl, rfl⟩

set_option maxHeartbeats 2000000 in
set_option maxRecDepth 20000 in
theorem sMemRange_any (a : Option Addr) (cap : Nat) (L : List En) (f t : ByteArray) (q : Int) (w : World) (hr : elEnt.Rd w w.heap.size a L) (hl : L.length ≤ 2097152) :
    Calls Try.prog 24 #[.slice a L.length cap, .string f, .string t, .int .i64 q] w (KVPost' w (rangeE f t (mapM L q))) := by
  have HC := hide (sMemMap_any a cap L q w hr hl)
  have hlm := Nat.le_trans (mapM_len L q) hl
  obtain ⟨M, hM⟩ : ∃ M, M = mapM L q := ⟨_, rfl⟩
  obtain ⟨n, hn⟩ : ∃ n, n = L.length := ⟨_, rfl⟩
  rw [← hM] at HC hlm ⊢
  rw [← hn] at HC ⊢
  have HALL := hide (rangP_all f t M)
  clear hM hn hr hl
  go_enter Try.func24, Try.ntmps24
  go_wp2_with fail
  refine HC.out.mono ?_
  rintro e w1 ⟨v, rfl, ho, hb1⟩
  obtain ⟨a1, cap1, rfl, hrd, _⟩ := ho.form
  have HM := hide hrd
  have HB1 := hide hb1
  have HO0 := hide (nil_kv w1 (Nat.le_refl w1.heap.size))
  have HB0 := hide ((Below.refl w1.heap.size w1).alloc (Nat.le_refl _) (.cells #[] 41))
  obtain ⟨m, hm⟩ : ∃ m, m = M.length := ⟨_, rfl⟩
  have HN := hide hm
  rw [← hm] at hlm HALL ⊢
  clear ho hrd hb1 hm HC
  go_wp2_with fail
  go_loopw [10, 11] (fun o i wr => ∃ (j y : Nat) (a5 : Option Addr) (c5 : Nat), o = .slice a5 y c5 ∧ i = .int .i64 j ∧ j ≤ m ∧ y ≤ j ∧ Hid ((rangP f t M j).length = y) ∧ Hid (elKV.Owns w1.heap.size wr (.slice a5 y c5) (rangP f t M j)) ∧ Hid (Below w1.heap.size w1 wr)) (fun _ i _ => m - (intOf i).toNat)
  case atStart => exact ⟨0, 0, _, _, rfl, rfl, by omega, by omega, hide (by rw [rangP_zero]; rfl), by rw [rangP_zero]; exact HO0, HB0⟩
  case round =>
    obtain ⟨j, y, a5, c5, rfl, rfl, hj, hyj, HY, HO, HB⟩ := hrel
    by_cases hlt : j < m
    · have hjL : j < M.length := by rw [← HN.out]; exact hlt
      obtain ⟨b, off, rfl, hb, hcell⟩ := HM.out (by omega)
      obtain ⟨f0, f1, hx⟩ := partsKV M[j]
      obtain ⟨c0, c1⟩ := cellsKV hx (hcell j hjL)
      have d0 := (HB.out.cell (p := ⟨b, off + j * 2, none⟩) hb).trans c0
      have d1 := (HB.out.cell (p := ⟨b, off + j * 2 + 1, none⟩) hb).trans c1
      have HX := hide (show M[j]? = some (f0, f1) by rw [List.getElem?_eq_getElem hjL, hx])
      have hs := HB.out.size
      have HW := hide (fun W => l9Within_any f0 f t W)
      clear hcell c0 c1 hx hjL
      by_cases hv : withinK f0 f t
      · have HMM := hide (rangP_yes HX.out hv)
        have HM' := hide (show (rangP f t M j ++ [(f0, f1)]).length = y + 1 by rw [List.length_append, HY.out]; rfl)
        have HOa := hide (HO.out.alloc (.cells #[.string f0, .string f1] 41))
        have HSa := hide (src_kv wr f0 f1)
        have HBa := hide (HB.out.alloc hs (.cells #[.string f0, .string f1] 41))
        have hba := HBa.out.size
        rw [decide_eq_true hv] at HW
        clear hv
        go_wp2_with fail
        refine (HW.out _).mono ?_
        rintro e w2 ⟨rfl, rfl⟩
        go_wp2_with (at_builtin; go_loud (refine El.appendSrc (e := elKV) rfl (.tmp 30) (.tmp 35) 37 rfl Try.underlying37 _ _ infoKV rfl (by decide) (by decide) w1.heap.size w1 _ _ _ (rangP f t M j) [(f0, f1)] rfl rfl HOa HSa HBa hba (rangP f t M j ++ [(f0, f1)]) (y + 1) rfl HM'.out (by omega) ?_); intro a6 c6 w6 HO6 HB6 hz6 _)
        go_roundw
        case rel => exact ⟨j + 1, y + 1, a6, c6, rfl, by go_num, by omega, by omega, by rw [HMM.out]; exact HM', by rw [HMM.out]; exact HO6, HB6⟩
        case measure => simp [intOf]; omega
      · have HMM := hide (rangP_no HX.out hv)
        rw [decide_eq_false hv] at HW
        clear hv
        go_wp2_with fail
        refine (HW.out _).mono ?_
        rintro e w2 ⟨rfl, rfl⟩
        go_wp2_with fail
        go_roundw
        case rel => exact ⟨j + 1, y, a5, c5, rfl, by go_num, by omega, by omega, by rw [HMM.out]; exact HY, by rw [HMM.out]; exact HO, HB⟩
        case measure => simp [intOf]; omega
    · have hjn : j = m := by omega
      subst hjn
      go_wp2_with fail
      go_ret
      exact ⟨_, rfl, by rw [← HALL.out]; exact HO.out.mono HB1.out.size, HB1.out.trans (HB.out.mono HB1.out.size)⟩
end Go.Proofs.Ytphfakdbgohhgaa
