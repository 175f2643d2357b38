/-
  Contract of impl.ShowBlock.
-/
import Derived.Test.YtegamnpdhiohmaaWriE
import Derived.Test.YtegamnpdhiohmaaEntA
namespace Go.Proofs.Ytegamnpdhiohmaa
open Go.ChangeShapes Go.WideShapes Go.ChangeAt Go.RowKit

theorem lastK_len : ∀ (L : List En) (last : List UInt8), (∀ e ∈ L, entOk e) → last.length ≤ 10 → (lastK last L).length ≤ 10
  | [], _, _, h => h
  | e :: L, _, h, _ => lastK_len L (bl e.1) (fun x hx => h x (by simp [hx])) (entOk_bd (h e (by simp))).1
theorem plcL_le {L : List En} (h : ∀ e ∈ L, entOk e) (hl : L.length ≤ 16) (j : Nat) : ∀ x ∈ plcL L j, x ≤ 60000 := by
  intro x hx
  unfold plcL at hx
  obtain ⟨i, _, rfl⟩ := List.mem_map.mp hx
  have h1 := entsL_len (L.take i) 0 [] (fun e he => h e (List.mem_of_mem_take he))
  have h2 : (L.take i).length ≤ 16 := by rw [List.length_take]; omega
  omega
theorem take_next {L : List En} {j : Nat} {x : En} (h : L[j]? = some x) : L.take (j + 1) = L.take j ++ [x] := by rw [List.take_add_one, h]; rfl
theorem entsL_next {L : List En} {j : Nat} {x : En} (h : L[j]? = some x) : entsL 0 [] (L.take (j + 1)) = entsL 0 [] (L.take j) ++ entL (shL j (lastK [] (L.take j)) x) x := by
  have hj : j < L.length := (List.getElem?_eq_some_iff.1 h).1
  rw [take_next h, entsL_snoc, List.length_take, Nat.min_eq_left (by omega), Nat.zero_add]
theorem Wri.bent2 {w w' : World} {g b : Nat} {vs : Array Value} (h : Bent2 g w w') (hb : b ≠ g) (hx : BoxV 47 w b vs) : BoxV 47 w' b vs := h.keep b _ _ _ hb (by decide) (by decide) hx

set_option maxHeartbeats 2000000 in
set_option maxRecDepth 20000 in
theorem iShowBlock_any (a : Option Addr) (cap : Nat) (L : List En) (w : World) (hr : elEnt.Rd w w.heap.size a L) (hl : L.length ≤ 2097152) :
    Calls Try.prog 8 #[.slice a L.length cap] w (StrPost w (showK L)) := by
  have HR := hide hr
  clear hr
  have HC := hide (fun W hr => entsInOrder_any a cap L W hr hl)
  obtain ⟨n, hn⟩ : ∃ n, n = L.length := ⟨_, rfl⟩
  have HN := hide hn
  obtain ⟨V, hV⟩ : ∃ V, V = showK L := ⟨_, rfl⟩
  have HV := hide hV
  rw [← hn] at HC hl
  rw [← hn, ← hV]
  clear hV
  by_cases h1 : n < 1
  · have HV1 := hide (HV.out.trans (showK_no fun h => by have := h.1; omega))
    clear hn
    go_enter Try.func8, Try.ntmps8
    go_wp2_with fail
    go_ret
    exact ⟨by rw [HV1.out]; rfl, Below.refl _ _⟩
  by_cases h16 : 16 < n
  · have HV1 := hide (HV.out.trans (showK_no fun h => by have := h.2.1; omega))
    clear hn
    go_enter Try.func8, Try.ntmps8
    go_wp2_with fail
    go_ret
    exact ⟨by rw [HV1.out]; rfl, Below.refl _ _⟩
  by_cases hok : entsOk L
  · have hb : blkOk L := ⟨by omega, by omega, hok⟩
    have HV1 := hide (HV.out.trans (showK_yes hb))
    rw [decide_eq_true hok] at HC
    have HE := hide hb.2.2.1
    have hL16 : L.length ≤ 16 := hb.2.1
    have HPL := hide (fun j => plcL_le hb.2.2.1 hb.2.1 j)
    clear hok hb hn
    go_enter Try.func8, Try.ntmps8
    go_wp2_with fail
    refine (HC.out _ HR.out).mono ?_
    rintro e w1 ⟨rfl, hb1⟩
    have HB1 := hide hb1
    have hs1 := hb1.size
    clear hb1 HC
    have HW1 := hide (Wri.new w1)
    have HB2 := hide (HB1.out.alloc hs1 (.cells #[.slice none 0 0, .string ⟨#[]⟩, .slice none 0 0] 45))
    go_wp2_with fail
    go_loopw [21] (fun i wr => ∃ (j : Nat) (Y k : List UInt8) (P : List Nat), i = .int .i64 j ∧ j ≤ n ∧ Hid (Y = entsL 0 [] (L.take j)) ∧ Hid (k = lastK [] (L.take j)) ∧ Hid (P = plcL L j) ∧ Hid (Wri wr w1.heap.size Y k P) ∧ Hid (Below w.heap.size w wr)) (fun i _ => n - (intOf i).toNat)
    case atStart => exact ⟨0, [], [], [], rfl, by omega, by simp [Hid, entsL], by simp [Hid, lastK], by simp [Hid, plcL], HW1, HB2⟩
    case round =>
      obtain ⟨j, Y, k, P, rfl, hj, HY, HK, HP, HW, HB⟩ := hrel
      have hgl := HW.out.lt
      have hs := HB.out.size
      have hokT : ∀ e ∈ L.take j, entOk e := fun e he => HE.out e (List.mem_of_mem_take he)
      have hYl : Y.length ≤ 960 := by
        have h2 := entsL_len (L.take j) 0 [] hokT
        rw [← HY.out, List.length_take] at h2
        omega
      have hPl : P.length ≤ 16 := by have h2 := plcL_len L j; rw [← HP.out] at h2; omega
      have hkl : k.length ≤ 10 := by rw [HK.out]; exact lastK_len _ _ hokT (by simp)
      clear hokT
      by_cases hlt : j < n
      · have hjL : j < L.length := by rw [← HN.out]; exact hlt
        obtain ⟨b, off, rfl, hb, hcell⟩ := HR.out (by omega)
        obtain ⟨f0, f1, f2, f3, hx⟩ := partsEnt L[j]
        obtain ⟨c0, c1, c2, c3⟩ := cellsEnt hx (hcell j hjL)
        have d0 := (HB.out.cell (p := ⟨b, off + j * 4, none⟩) hb).trans c0
        have d1 := (HB.out.cell (p := ⟨b, off + j * 4 + 1, none⟩) hb).trans c1
        have d2 := (HB.out.cell (p := ⟨b, off + j * 4 + 2, none⟩) hb).trans c2
        have d3 := (HB.out.cell (p := ⟨b, off + j * 4 + 3, none⟩) hb).trans c3
        have HX := hide (show L[j]? = some (f0, f1, f2, f3) by rw [List.getElem?_eq_getElem hjL, hx])
        have ho := HE.out _ (List.mem_of_getElem? HX.out)
        obtain ⟨W, hW⟩ : ∃ W, W = wr.alloc (.cells #[.string f0, .int .i64 f1, .bool f2, .string f3] 47) := ⟨_, rfl⟩
        have hbx : BoxV 47 W wr.heap.size #[.string f0, .int .i64 f1, .bool f2, .string f3] := by rw [hW]; exact BoxV.new _ wr _
        have hwA : Wri W w1.heap.size Y k P := by rw [hW]; exact HW.out.alloc _
        have HBA := hide (show Below w.heap.size w W by rw [hW]; exact HB.out.alloc hs _)
        have HWA := hide hwA
        have HBX := hide hbx
        have hne : wr.heap.size ≠ w1.heap.size := by omega
        have HST := hide (restart_any hwA (by omega))
        have hY1 := hide (show entsL 0 [] (L.take (j + 1)) = Y ++ entL (comL (lastL j k) (bl f0)) (f0, f1, f2, f3) by rw [entsL_next HX.out, ← HY.out, ← HK.out]; rfl)
        have hK1 := hide (show lastK [] (L.take (j + 1)) = bl f0 by rw [take_next HX.out, lastK_snoc])
        have HG := hide (show w1.heap.size < W.heap.size from hwA.lt)
        clear hcell c0 c1 c2 c3 hx hjL hwA hbx
        go_upto_if 28 with (fail)
        rw [← hW]
        clear hW
        go_cut [] from 28 to 32 (fun wc => ∃ (k' : List UInt8) (P' : List Nat), Hid (k' = lastL j k) ∧ Hid (P' = plcL L (j + 1)) ∧ Hid (Wri wc w1.heap.size Y k' P') ∧ Hid (Below w.heap.size w wc) ∧ Hid (BoxV 47 wc wr.heap.size #[.string f0, .int .i64 f1, .bool f2, .string f3]))
        case first =>
          by_cases h4 : j % 4 = 0
          · have hd : ((j : Int) % 4 == 0) = true := by rw [beq_iff_eq]; omega
            have hk' := hide (show ([] : List UInt8) = lastL j k by rw [lastL, if_pos h4])
            have hP' := hide (show P ++ [Y.length] = plcL L (j + 1) by rw [plcL_yes L h4, ← HP.out, ← HY.out])
            clear h4
            go_wp2_with fail
            refine HST.out.mono ?_
            rintro e w2 ⟨rfl, hw2, hb2⟩
            go_wp2_with fail
            go_meet
            exact ⟨[], P ++ [Y.length], hk', hP', hide hw2, hide (HBA.out.trans (hb2.below.mono hs1)), hide (Wri.bent2 hb2 hne HBX.out)⟩
          · have hd : ((j : Int) % 4 == 0) = false := by rw [beq_eq_false_iff_ne]; omega
            have hk' := hide (show k = lastL j k by rw [lastL, if_neg h4])
            have hP' := hide (show P = plcL L (j + 1) by rw [plcL_no L h4, ← HP.out])
            clear h4
            go_wp2_with fail
            go_meet
            exact ⟨k, P, hk', hP', HWA, HBA, HBX⟩
        case rest =>
        obtain ⟨k', P', HK', HP', HW', HB', HX'⟩ := hcut
        have hkl' : k'.length ≤ 10 := by
          rw [HK'.out]
          unfold lastL
          split
          · simp
          · exact hkl
        have HEN := hide (entry_any HW'.out (by omega) (by omega) f0 f1 f2 f3 ho)
        rw [HK'.out, ← hY1.out] at HEN
        obtain ⟨y0, y1, y2, y3⟩ := HX'.out.four'
        clear d0 d1 d2 d3 hkl'
        go_wp2_with fail
        refine HEN.out.mono ?_
        rintro e w2 ⟨rfl, hw2, hb2⟩
        have HW2 := hide hw2
        have HB2' := hide (HB'.out.trans (hb2.mono hs1))
        clear hw2 hb2
        go_wp2_with fail
        go_roundw
        case rel => exact ⟨j + 1, _, _, P', by go_num, by omega, rfl, hK1.out.symm, HP', HW2, HB2'⟩
        case measure => simp [intOf]; omega
      · have hT := hide (show L.take j = L from List.take_of_length_le (by rw [← HN.out]; omega))
        have hPn := hide (show P = plcL L L.length by rw [HP.out, show j = L.length by rw [← HN.out]; omega])
        have hpp := HPL.out j
        rw [← HP.out] at hpp
        have HFI := hide (finish_any HW.out (by omega) (by omega) hpp)
        have HV2 := hide (show V = Y ++ (varL P.length ++ (varsL P ++ lowB Y.length 2)) by
          rw [HV1.out, tailL, ← hPn.out, HY.out, hT.out])
        rw [← HV2.out] at HFI
        clear hpp
        go_wp2_with fail
        refine HFI.out.mono ?_
        rintro e w2 ⟨rfl, hw2, hb2⟩
        have HB3 := hide (HB.out.trans (hb2.mono hs1))
        have HT := hide (text_any hw2)
        clear hb2 hw2
        go_wp2_with fail
        refine HT.out.mono ?_
        rintro e w3 ⟨rfl, rfl⟩
        go_wp2_with fail
        go_ret
        exact ⟨rfl, HB3.out⟩
  · have HV1 := hide (HV.out.trans (showK_no fun h => hok h.2.2))
    rw [decide_eq_false hok] at HC
    clear hn hok
    go_enter Try.func8, Try.ntmps8
    go_wp2_with fail
    refine (HC.out _ HR.out).mono ?_
    rintro e w1 ⟨rfl, hb1⟩
    go_wp2_with fail
    go_ret
    exact ⟨by rw [HV1.out]; rfl, hb1⟩
end Go.Proofs.Ytegamnpdhiohmaa
