/-
  Contracts of impl.visibleMap, impl.MemMap and impl.MemRange.
-/
import Derived.Test.YtphfakdbgohhgaaMemA
import Derived.Test.YtphfakdbgohhgaaRowKV
import Derived.Test.YtphfakdbgohhgaaOpkP
import Derived.Test.YtphfakdbgohhgaaWithI
namespace Go.Proofs.Ytphfakdbgohhgaa
open Go.ChangeShapes Go.WideShapes Go.ChangeAt Go.RowKit

def KVPost (w : World) (M : List KV) (e : Ending) (w' : World) : Prop := ∃ v, e = .returned v ∧ elKV.Owns w.heap.size w' v M ∧ Below w.heap.size w w'
/-- a row of one pair, behind a box -/
theorem src_pair (wr : World) (o : Obj) (k v : ByteArray) : elKV.Src ((wr.alloc o).alloc (.cells #[.string k, .string v] 41)) (.slice (some ⟨wr.heap.size + 1, 0, none⟩) 1 1) [(k, v)] := by
  have h := (El.Owns.lit (e := elKV) 0 (wr.alloc o) [(k, v)] #[.string k, .string v] 1 rfl rfl (Nat.zero_le _) (by simp [maxLen])).src
  rwa [Go.Deep.nblk_alloc] at h

set_option maxHeartbeats 2000000 in
set_option maxRecDepth 20000 in
theorem visibleMap_any (a : Option Addr) (cap : Nat) (L : List En) (q : Int) (w : World) (hr : elEnt.Rd w w.heap.size a L) (hk : entsOk L) (hl : L.length ≤ 2097152) :
    Calls Try.prog 64 #[.slice a L.length cap, .int .i64 q] w (KVPost w (mapE q L)) := by
  have HR := hide hr
  have HS := hide hk.2
  have HE := hide hk.1
  have HALL := hide (mapP_all q L)
  obtain ⟨n, hn⟩ : ∃ n, n = L.length := ⟨_, rfl⟩
  have HN := hide hn
  rw [← hn] at hl HALL ⊢
  clear hr hk hn
  go_enter Try.func64, Try.ntmps64
  go_wp2_with fail
  go_loopw [5, 6, 8, 11] (fun m z _ i wr => ∃ (j y : Nat) (a5 : Option Addr) (c5 : Nat) (last : ByteArray), m = .slice a5 y c5 ∧ z = .string last ∧ i = .int .i64 j ∧ j ≤ n ∧ y ≤ j ∧ Hid ((mapP q L j).length = y) ∧ Hid (elKV.Owns w.heap.size wr (.slice a5 y c5) (mapP q L j)) ∧ Hid (LastOk q L j last) ∧ Hid (Below w.heap.size w wr)) (fun _ _ _ i _ => n - (intOf i).toNat)
  case atStart => exact ⟨0, 0, none, 0, ⟨#[]⟩, rfl, rfl, rfl, by omega, by omega, hide (by rw [mapP_zero]; rfl), by rw [mapP_zero]; exact El.Owns.nil _ _, last_zero q L, Below.refl _ _⟩
  case round =>
    obtain ⟨j, y, a5, c5, last, rfl, rfl, rfl, hj, hyj, HY, HO, HLA, HB⟩ := hrel
    by_cases hlt : j < n
    · have hjL : j < L.length := by rw [← HN.out]; exact hlt
      obtain ⟨b, off, rfl, hb, hcell⟩ := HR.out (by omega)
      obtain ⟨f0, f1, f2, f3, hx⟩ := partsEnt L[j]
      obtain ⟨c0, c1, c2, c3⟩ := cellsEnt hx (hcell j hjL)
      have d0 := (HB.out.cell (p := ⟨b, off + j * 4, none⟩) hb).trans c0
      have d1 := (HB.out.cell (p := ⟨b, off + j * 4 + 1, none⟩) hb).trans c1
      have d2 := (HB.out.cell (p := ⟨b, off + j * 4 + 2, none⟩) hb).trans c2
      have d3 := (HB.out.cell (p := ⟨b, off + j * 4 + 3, none⟩) hb).trans c3
      have HX := hide (show L[j]? = some (f0, f1, f2, f3) by rw [List.getElem?_eq_getElem hjL, hx])
      have hs := HB.out.size
      have HVI := hide (vis_iff HS.out HE.out HLA.out hjL)
      have HSK := hide (last_skip HLA.out hjL)
      have HNW := hide (last_new HS.out HLA.out hjL)
      rw [hx] at HVI HSK HNW
      clear hcell c0 c1 c2 c3 hx hjL
      by_cases h1 : q < f1
      · have HM := hide (mapP_no HX.out (fun h => (HVI.out.1 h).1 (.inl h1)))
        have HL1 := hide (HSK.out (.inl h1))
        go_wp2_with fail
        go_roundw
        case rel => exact ⟨j + 1, y, a5, c5, last, rfl, rfl, by go_num, by omega, by omega, by rw [HM.out]; exact HY, by rw [HM.out]; exact HO.out.alloc _, HL1, HB.out.alloc hs _⟩
        case measure => simp [intOf]; omega
      · by_cases h2 : f0 = last
        · have HM := hide (mapP_no HX.out (fun h => (HVI.out.1 h).1 (.inr h2)))
          have HL1 := hide (HSK.out (.inr h2))
          have he : (f0.toList == last.toList) = true := (keq_iff f0 last).2 h2
          clear h2
          go_wp2_with fail
          go_roundw
          case rel => exact ⟨j + 1, y, a5, c5, last, rfl, rfl, by go_num, by omega, by omega, by rw [HM.out]; exact HY, by rw [HM.out]; exact HO.out.alloc _, HL1, HB.out.alloc hs _⟩
          case measure => simp [intOf]; omega
        · have he : (f0.toList == last.toList) = false := keq_false h2
          have HL1 := hide (HNW.out (Int.not_lt.1 h1))
          cases f2 with
          | true =>
            have HM := hide (mapP_no HX.out (fun h => by have := (HVI.out.1 h).2; cases this))
            clear h2
            go_wp2_with fail
            go_roundw
            case rel => exact ⟨j + 1, y, a5, c5, f0, rfl, rfl, by go_num, by omega, by omega, by rw [HM.out]; exact HY, by rw [HM.out]; exact HO.out.alloc _, HL1, HB.out.alloc hs _⟩
            case measure => simp [intOf]; omega
          | false =>
            have HM := hide (mapP_yes HX.out (HVI.out.2 ⟨fun h => h.elim (fun h => h1 h) h2, rfl⟩))
            have hM' : (mapP q L j ++ [(f0, f3)]).length = y + 1 := by rw [List.length_append, HY.out]; rfl
            have HM' := hide hM'
            have HOa := hide ((HO.out.alloc (.cells #[.string f0, .int .i64 f1, .bool false, .string f3] 26)).alloc (.cells #[.string f0, .string f3] 41))
            have HSa := hide (src_pair wr (.cells #[.string f0, .int .i64 f1, .bool false, .string f3] 26) f0 f3)
            have HBa := hide ((HB.out.alloc hs (.cells #[.string f0, .int .i64 f1, .bool false, .string f3] 26)).alloc (by simp; omega) (.cells #[.string f0, .string f3] 41))
            have hba := HBa.out.size
            clear h2 hM'
            go_wp2_with (at_builtin; go_loud (refine El.appendSrc (e := elKV) rfl (.tmp 30) (.tmp 36) 37 rfl Try.underlying37 _ _ infoKV rfl (by decide) (by decide) w.heap.size w _ _ _ (mapP q L j) [(f0, f3)] rfl rfl HOa HSa HBa hba (mapP q L j ++ [(f0, f3)]) (y + 1) rfl HM'.out (by omega) ?_); intro a6 c6 w6 HO6 HB6 hz6 _)
            go_roundw
            case rel => exact ⟨j + 1, y + 1, a6, c6, f0, rfl, rfl, by go_num, by omega, by omega, by rw [HM.out]; exact HM', by rw [HM.out]; exact HO6, HL1, HB6⟩
            case measure => simp [intOf]; omega
    · have hjn : j = n := by omega
      subst hjn
      go_wp2_with fail
      go_ret
      exact ⟨_, rfl, by rw [← HALL.out]; exact HO.out, HB.out⟩

theorem iMemMap_any (a : Option Addr) (cap : Nat) (L : List En) (q : Int) (w : World) (hr : elEnt.Rd w w.heap.size a L) (hl : L.length ≤ 2097152) :
    Calls Try.prog 19 #[.slice a L.length cap, .int .i64 q] w (KVPost w (mapM L q)) := by
  have HR := hide hr
  have HC := hide (fun W h => iMemOk_any a cap L W h hl)
  by_cases hm : memOkL L
  · rw [show mapM L q = mapE q L from if_pos hm]
    rw [decide_eq_true hm] at HC
    have HV := hide (fun W h => visibleMap_any a cap L q W h hm.2 hl)
    obtain ⟨M, hM⟩ : ∃ M, M = mapE q L := ⟨_, rfl⟩
    obtain ⟨n, hn⟩ : ∃ n, n = L.length := ⟨_, rfl⟩
    rw [← hn, ← hM] at HV
    rw [← hn] at HC
    rw [← hn, ← hM]
    clear hm hn hM hr hl
    go_enter Try.func19, Try.ntmps19
    go_wp2_with fail
    refine (HC.out _ HR.out).mono ?_
    rintro e w1 ⟨rfl, hb1⟩
    have HB1 := hide hb1
    clear hb1
    go_wp2_with fail
    refine (HV.out _ ((HR.out.below HB1.out (Nat.le_refl _)).mono HB1.out.size)).mono ?_
    rintro e w2 ⟨v, rfl, ho, hb2⟩
    have HO := hide (ho.mono HB1.out.size)
    have HB2 := hide (HB1.out.trans (hb2.mono HB1.out.size))
    clear ho hb2
    go_wp2_with fail
    go_ret
    exact ⟨_, rfl, HO.out, HB2.out⟩
  · rw [show mapM L q = [] from if_neg hm]
    rw [decide_eq_false hm] at HC
    obtain ⟨n, hn⟩ : ∃ n, n = L.length := ⟨_, rfl⟩
    rw [← hn] at HC ⊢
    clear hm hn hr hl
    go_enter Try.func19, Try.ntmps19
    go_wp2_with fail
    refine (HC.out _ HR.out).mono ?_
    rintro e w1 ⟨rfl, hb1⟩
    have HB1 := hide hb1
    clear hb1
    go_wp2_with fail
    go_ret
    exact ⟨_, rfl, El.Owns.nil _ _, HB1.out⟩

theorem kless_of {k f : ByteArray} (b : Bool) (h : kless k f = b) : Op.bytesLess k.toList f.toList = b := h

set_option maxHeartbeats 2000000 in
set_option maxRecDepth 20000 in
theorem iMemRange_any (a : Option Addr) (cap : Nat) (L : List En) (f t : ByteArray) (q : Int) (w : World) (hr : elEnt.Rd w w.heap.size a L) (hl : L.length ≤ 2097152) :
    Calls Try.prog 18 #[.slice a L.length cap, .string f, .string t, .int .i64 q] w (KVPost w (rangeE f t (mapM L q))) := by
  have HR := hide hr
  have HC := hide (iMemMap_any a cap L q w hr hl)
  have hlm := Nat.le_trans (mapM_len L q) hl
  obtain ⟨M, hM⟩ : ∃ M, M = mapM L q := ⟨_, rfl⟩
  obtain ⟨n, hn⟩ : ∃ n, n = L.length := ⟨_, rfl⟩
  rw [← hM] at HC hlm ⊢
  rw [← hn] at HC ⊢
  have HALL := hide (rangP_all f t M)
  clear hM hn hr hl
  go_enter Try.func18, Try.ntmps18
  go_wp2_with fail
  refine HC.out.mono ?_
  rintro e w1 ⟨v, rfl, ho, hb1⟩
  obtain ⟨a1, cap1, rfl, hrd, _⟩ := ho.form
  have HM := hide hrd
  have HB1 := hide hb1
  obtain ⟨m, hm⟩ : ∃ m, m = M.length := ⟨_, rfl⟩
  have HN := hide hm
  rw [← hm] at hlm HALL ⊢
  clear ho hrd hb1 hm HC
  go_wp2_with fail
  go_loopw [9, 11, 16] (fun o _ i wr => ∃ (j y : Nat) (a5 : Option Addr) (c5 : Nat), o = .slice a5 y c5 ∧ i = .int .i64 j ∧ j ≤ m ∧ y ≤ j ∧ Hid ((rangP f t M j).length = y) ∧ Hid (elKV.Owns w1.heap.size wr (.slice a5 y c5) (rangP f t M j)) ∧ Hid (Below w1.heap.size w1 wr)) (fun _ _ i _ => m - (intOf i).toNat)
  case atStart => exact ⟨0, 0, none, 0, rfl, rfl, by omega, by omega, hide (by rw [rangP_zero]; rfl), by rw [rangP_zero]; exact El.Owns.nil _ _, Below.refl _ _⟩
  case round =>
    obtain ⟨j, y, a5, c5, rfl, rfl, hj, hyj, HY, HO, HB⟩ := hrel
    by_cases hlt : j < m
    · have hjL : j < M.length := by rw [← HN.out]; exact hlt
      obtain ⟨b, off, rfl, hb, hcell⟩ := HM.out (by omega)
      obtain ⟨f0, f1, hx⟩ := partsKV M[j]
      obtain ⟨c0, c1⟩ := cellsKV hx (hcell j hjL)
      have d0 := (HB.out.cell (p := ⟨b, off + j * 2, none⟩) hb).trans c0
      have d1 := (HB.out.cell (p := ⟨b, off + j * 2 + 1, none⟩) hb).trans c1
      have HX := hide (show M[j]? = some (f0, f1) by rw [List.getElem?_eq_getElem hjL, hx])
      have hs := HB.out.size
      have HW := hide (fun W => within_any f0 f t W)
      clear hcell c0 c1 hx hjL
      by_cases hv : withinK f0 f t
      · have HMM := hide (rangP_yes HX.out hv)
        have HM' := hide (show (rangP f t M j ++ [(f0, f1)]).length = y + 1 by rw [List.length_append, HY.out]; rfl)
        have HOa := hide ((HO.out.alloc (.cells #[.string f0, .string f1] 41)).alloc (.cells #[.string f0, .string f1] 41))
        have HSa := hide (src_pair wr (.cells #[.string f0, .string f1] 41) f0 f1)
        have HBa := hide ((HB.out.alloc hs (.cells #[.string f0, .string f1] 41)).alloc (by simp; omega) (.cells #[.string f0, .string f1] 41))
        have hba := HBa.out.size
        rw [decide_eq_true hv] at HW
        clear hv
        go_wp2_with fail
        refine (HW.out _).mono ?_
        rintro e w2 ⟨rfl, rfl⟩
        go_wp2_with (at_builtin; go_loud (refine El.appendSrc (e := elKV) rfl (.tmp 25) (.tmp 27) 37 rfl Try.underlying37 _ _ infoKV rfl (by decide) (by decide) w1.heap.size w1 _ _ _ (rangP f t M j) [(f0, f1)] rfl rfl HOa HSa HBa hba (rangP f t M j ++ [(f0, f1)]) (y + 1) rfl HM'.out (by omega) ?_); intro a6 c6 w6 HO6 HB6 hz6 _)
        go_roundw
        case rel => exact ⟨j + 1, y + 1, a6, c6, rfl, by go_num, by omega, by omega, by rw [HMM.out]; exact HM', by rw [HMM.out]; exact HO6, HB6⟩
        case measure => simp [intOf]; omega
      · have HMM := hide (rangP_no HX.out hv)
        rw [decide_eq_false hv] at HW
        clear hv
        go_wp2_with fail
        refine (HW.out _).mono ?_
        rintro e w2 ⟨rfl, rfl⟩
        go_wp2_with fail
        go_roundw
        case rel => exact ⟨j + 1, y, a5, c5, rfl, by go_num, by omega, by omega, by rw [HMM.out]; exact HY, by rw [HMM.out]; exact HO.out.alloc _, HB.out.alloc hs _⟩
        case measure => simp [intOf]; omega
    · have hjn : j = m := by omega
      subst hjn
      go_wp2_with fail
      go_ret
      exact ⟨_, rfl, by rw [← HALL.out]; exact HO.out.mono HB1.out.size, HB1.out.trans (HB.out.mono HB1.out.size)⟩
end Go.Proofs.Ytphfakdbgohhgaa
