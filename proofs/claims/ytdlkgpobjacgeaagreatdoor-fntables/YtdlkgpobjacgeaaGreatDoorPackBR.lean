/-
  Texts of this proof, put together: TabP, BlkI, BlkS, ShoL, BlkR, BlkT.
-/
import Derived.Test.YtdlkgpobjacgeaaGreatDoorPackAK
import Derived.Test.YtdlkgpobjacgeaaGreatDoorPackAJ
import Derived.Test.YtdlkgpobjacgeaaGreatDoorPackAZ
import Derived.Test.YtdlkgpobjacgeaaGreatDoorPackAH
import Derived.Test.YtdlkgpobjacgeaaGreatDoorPackAP
import Derived.Test.YtdlkgpobjacgeaaGreatDoorPackBQ
import Derived.Test.YtdlkgpobjacgeaaGreatDoorPackBD
import Derived.Test.YtdlkgpobjacgeaaGreatDoorPackAE
import Derived.Test.YtdlkgpobjacgeaaGreatDoorPackBK
import Derived.Test.YtdlkgpobjacgeaaGreatDoorPackAV
import Derived.Test.YtdlkgpobjacgeaaGreatDoorPackAC

/-
  Tables in memory: posts, boxes, results; spec.MemOk and impl.MemOk of however many entries.
-/
namespace Go.Proofs.YtdlkgpobjacgeaaGreatDoor
open Go.ChangeShapes Go.WideShapes Go.ChangeAt Go.RowKit

def TabPost (w : World) (t : Tbl) (b : Bool) (e : Ending) (w' : World) : Prop :=
  ∃ v, e = .returned (.tuple #[.agg #[v, .string t.2.1, .int .i64 t.2.2], .bool b]) ∧ elPart.Owns w.heap.size w' v t.1 ∧ Below w.heap.size w w'
/-- a result that is a table in a block of its own, and a bool -/
theorem res_tab {fn : Func} {p u : Tmp} (h : fn.results = #[.cell p 26, .tmp u]) (tmps : Array Value) (w : World) (g : Nat) (ht : tmps.getD p undef = .pointer (some ⟨g, 0, none⟩)) {v0 v1 v2 : Value} (hx : BoxV 26 w g #[v0, v1, v2]) :
    (results fn tmps).run Tryz.prog w = .ok (.tuple #[.agg #[v0, v1, v2], tmps.getD u undef]) w := by
  obtain ⟨c0, c1, c2⟩ := hx.three
  rw [Array.getD_eq_getD_getElem?] at ht
  simp only [results, h]
  simp [ht, go_sem, c0, c1, c2]
section
variable {T : TypeId} {w w' : World} {g B : Nat} {v0 v1 v2 : Value}
theorem BoxV.set30 (h : BoxV T w g #[v0, v1, v2]) (u : Value) : BoxV T (w.setCell ⟨g, 0, none⟩ u) g #[u, v1, v2] := h.set (i := 0) u
theorem BoxV.set31 (h : BoxV T w g #[v0, v1, v2]) (u : Value) : BoxV T (w.setCell ⟨g, 1, none⟩ u) g #[v0, u, v2] := h.set (i := 1) u
theorem BoxV.set32 (h : BoxV T w g #[v0, v1, v2]) (u : Value) : BoxV T (w.setCell ⟨g, 2, none⟩ u) g #[v0, v1, u] := h.set (i := 2) u
theorem BoxV.all3 (h : BoxV T w g #[v0, v1, v2]) (u0 u1 u2 : Value) : BoxV T (((w.setCell ⟨g, 0, none⟩ u0).setCell ⟨g, 1, none⟩ u1).setCell ⟨g, 2, none⟩ u2) g #[u0, u1, u2] := ((h.set30 u0).set31 u1).set32 u2
theorem BoxV.froz3 {vs : Array Value} (h : BoxV T w g vs) : w.frozen? ⟨g, 0, none⟩ = false ∧ w.frozen? ⟨g, 1, none⟩ = false ∧ w.frozen? ⟨g, 2, none⟩ = false := ⟨h.frozen 0, h.frozen 1, h.frozen 2⟩
theorem below_three (h : Below B w w') (hg : B ≤ g) (u0 u1 u2 : Value) : Below B w (((w'.setCell ⟨g, 0, none⟩ u0).setCell ⟨g, 1, none⟩ u1).setCell ⟨g, 2, none⟩ u2) := ((h.setCell hg _).setCell hg _).setCell hg _
end

theorem ownsN {α : Type} {e : El α} {B : Nat} {w : World} {v : Value} {L : List α} (h : e.Owns B w v L) (r : Nat) : e.Owns B (w.drewN r) v L := h
theorem boxN {T : TypeId} {w : World} {g : Nat} {vs : Array Value} (h : BoxV T w g vs) (r : Nat) : BoxV T (w.drewN r) g vs := h
theorem belN {B : Nat} {w w' : World} (h : Below B w w') (r : Nat) : Below B w (w'.drewN r) := ⟨h.os, h.tape, h.output, h.size, h.block⟩
theorem sMemOk_all (a : Option Addr) (cap : Nat) (L : List En) (w : World) (hr : elEnt.Rd w w.heap.size a L) (hl : L.length ≤ maxLen) :
    Calls Tryz.prog 31 #[.slice a L.length cap] w (BoolPost w (decide (memOkL L))) := by
  by_cases h : L.length ≤ 60
  · exact sMemOk_any a cap L w hr (by omega)
  · obtain ⟨V, hV⟩ : ∃ V, V = decide (memOkL L) := ⟨_, rfl⟩
    have HV := hide (show V = false from hV.trans (decide_eq_false fun k => h k.1))
    rw [← hV]
    obtain ⟨n, hn⟩ : ∃ n, n = L.length := ⟨_, rfl⟩
    rw [← hn] at h hl ⊢
    unfold maxLen at hl
    clear hn hV hr
    go_enter Tryz.func31, Tryz.ntmps31
    go_wp2_with fail
    go_ret
    exact ⟨by rw [HV.out]; simp, Below.refl _ _⟩
theorem iMemOk_all (a : Option Addr) (cap : Nat) (L : List En) (w : World) (hr : elEnt.Rd w w.heap.size a L) (hl : L.length ≤ maxLen) :
    Calls Tryz.prog 41 #[.slice a L.length cap] w (BoolPost w (decide (memOkL L))) := by
  by_cases h : L.length ≤ 60
  · exact iMemOk_any a cap L w hr (by omega)
  · obtain ⟨V, hV⟩ : ∃ V, V = decide (memOkL L) := ⟨_, rfl⟩
    have HV := hide (show V = false from hV.trans (decide_eq_false fun k => h k.1))
    rw [← hV]
    obtain ⟨n, hn⟩ : ∃ n, n = L.length := ⟨_, rfl⟩
    rw [← hn] at h hl ⊢
    unfold maxLen at hl
    clear hn hV hr
    go_enter Tryz.func41, Tryz.ntmps41
    go_wp2_with fail
    go_ret
    exact ⟨by rw [HV.out]; rfl, Below.refl _ _⟩
end Go.Proofs.YtdlkgpobjacgeaaGreatDoor

/-
  Contract of impl.ShowBlock.
-/
namespace Go.Proofs.YtdlkgpobjacgeaaGreatDoor
open Go.ChangeShapes Go.WideShapes Go.ChangeAt Go.RowKit

theorem lastK_len : ∀ (L : List En) (last : List UInt8), (∀ e ∈ L, entOk e) → last.length ≤ 10 → (lastK last L).length ≤ 10
  | [], _, _, h => h
  | e :: L, _, h, _ => lastK_len L (bl e.1) (fun x hx => h x (by simp [hx])) (entOk_bd (h e (by simp))).1
theorem plcL_le {L : List En} (h : ∀ e ∈ L, entOk e) (hl : L.length ≤ 16) (j : Nat) : ∀ x ∈ plcL L j, x ≤ 60000 := by
  intro x hx
  unfold plcL at hx
  obtain ⟨i, _, rfl⟩ := List.mem_map.mp hx
  have h1 := entsL_len (L.take i) 0 [] (fun e he => h e (List.mem_of_mem_take he))
  have h2 : (L.take i).length ≤ 16 := by rw [List.length_take]; omega
  omega
theorem take_next {L : List En} {j : Nat} {x : En} (h : L[j]? = some x) : L.take (j + 1) = L.take j ++ [x] := by rw [List.take_add_one, h]; rfl
theorem entsL_next {L : List En} {j : Nat} {x : En} (h : L[j]? = some x) : entsL 0 [] (L.take (j + 1)) = entsL 0 [] (L.take j) ++ entL (shL j (lastK [] (L.take j)) x) x := by
  have hj : j < L.length := (List.getElem?_eq_some_iff.1 h).1
  rw [take_next h, entsL_snoc, List.length_take, Nat.min_eq_left (by omega), Nat.zero_add]
theorem Wri.bent2 {w w' : World} {g b : Nat} {vs : Array Value} (h : Bent2 g w w') (hb : b ≠ g) (hx : BoxV 30 w b vs) : BoxV 30 w' b vs := h.keep b _ _ _ hb (by decide) (by decide) hx

set_option maxHeartbeats 2000000 in
set_option maxRecDepth 20000 in
theorem iShowBlock_any (a : Option Addr) (cap : Nat) (L : List En) (w : World) (hr : elEnt.Rd w w.heap.size a L) (hl : L.length ≤ 2097152) :
    Calls Tryz.prog 75 #[.slice a L.length cap] w (StrPost w (showK L)) := by
  have HR := hide hr
  clear hr
  have HC := hide (fun W hr => entsInOrder_any a cap L W hr hl)
  obtain ⟨n, hn⟩ : ∃ n, n = L.length := ⟨_, rfl⟩
  have HN := hide hn
  obtain ⟨V, hV⟩ : ∃ V, V = showK L := ⟨_, rfl⟩
  have HV := hide hV
  rw [← hn] at HC hl
  rw [← hn, ← hV]
  clear hV
  by_cases h1 : n < 1
  · have HV1 := hide (HV.out.trans (showK_no fun h => by have := h.1; omega))
    clear hn
    go_enter Tryz.func75, Tryz.ntmps75
    go_wp2_with fail
    go_ret
    exact ⟨by rw [HV1.out]; rfl, Below.refl _ _⟩
  by_cases h16 : 16 < n
  · have HV1 := hide (HV.out.trans (showK_no fun h => by have := h.2.1; omega))
    clear hn
    go_enter Tryz.func75, Tryz.ntmps75
    go_wp2_with fail
    go_ret
    exact ⟨by rw [HV1.out]; rfl, Below.refl _ _⟩
  by_cases hok : entsOk L
  · have hb : blkOk L := ⟨by omega, by omega, hok⟩
    have HV1 := hide (HV.out.trans (showK_yes hb))
    rw [decide_eq_true hok] at HC
    have HE := hide hb.2.2.1
    have hL16 : L.length ≤ 16 := hb.2.1
    have HPL := hide (fun j => plcL_le hb.2.2.1 hb.2.1 j)
    clear hok hb hn
    go_enter Tryz.func75, Tryz.ntmps75
    go_wp2_with fail
    refine (HC.out _ HR.out).mono ?_
    rintro e w1 ⟨rfl, hb1⟩
    have HB1 := hide hb1
    have hs1 := hb1.size
    clear hb1 HC
    have HW1 := hide (Wri.new w1)
    have HB2 := hide (HB1.out.alloc hs1 (.cells #[.slice none 0 0, .string ⟨#[]⟩, .slice none 0 0] 135))
    go_wp2_with fail
    go_loopw [21] (fun i wr => ∃ (j : Nat) (Y k : List UInt8) (P : List Nat), i = .int .i64 j ∧ j ≤ n ∧ Hid (Y = entsL 0 [] (L.take j)) ∧ Hid (k = lastK [] (L.take j)) ∧ Hid (P = plcL L j) ∧ Hid (Wri wr w1.heap.size Y k P) ∧ Hid (Below w.heap.size w wr)) (fun i _ => n - (intOf i).toNat)
    case atStart => exact ⟨0, [], [], [], rfl, by omega, by simp [Hid, entsL], by simp [Hid, lastK], by simp [Hid, plcL], HW1, HB2⟩
    case round =>
      obtain ⟨j, Y, k, P, rfl, hj, HY, HK, HP, HW, HB⟩ := hrel
      have hgl := HW.out.lt
      have hs := HB.out.size
      have hokT : ∀ e ∈ L.take j, entOk e := fun e he => HE.out e (List.mem_of_mem_take he)
      have hYl : Y.length ≤ 960 := by
        have h2 := entsL_len (L.take j) 0 [] hokT
        rw [← HY.out, List.length_take] at h2
        omega
      have hPl : P.length ≤ 16 := by have h2 := plcL_len L j; rw [← HP.out] at h2; omega
      have hkl : k.length ≤ 10 := by rw [HK.out]; exact lastK_len _ _ hokT (by simp)
      clear hokT
      by_cases hlt : j < n
      · have hjL : j < L.length := by rw [← HN.out]; exact hlt
        obtain ⟨b, off, rfl, hb, hcell⟩ := HR.out (by omega)
        obtain ⟨f0, f1, f2, f3, hx⟩ := partsEnt L[j]
        obtain ⟨c0, c1, c2, c3⟩ := cellsEnt hx (hcell j hjL)
        have d0 := (HB.out.cell (p := ⟨b, off + j * 4, none⟩) hb).trans c0
        have d1 := (HB.out.cell (p := ⟨b, off + j * 4 + 1, none⟩) hb).trans c1
        have d2 := (HB.out.cell (p := ⟨b, off + j * 4 + 2, none⟩) hb).trans c2
        have d3 := (HB.out.cell (p := ⟨b, off + j * 4 + 3, none⟩) hb).trans c3
        have HX := hide (show L[j]? = some (f0, f1, f2, f3) by rw [List.getElem?_eq_getElem hjL, hx])
        have ho := HE.out _ (List.mem_of_getElem? HX.out)
        obtain ⟨W, hW⟩ : ∃ W, W = wr.alloc (.cells #[.string f0, .int .i64 f1, .bool f2, .string f3] 30) := ⟨_, rfl⟩
        have hbx : BoxV 30 W wr.heap.size #[.string f0, .int .i64 f1, .bool f2, .string f3] := by rw [hW]; exact BoxV.new _ wr _
        have hwA : Wri W w1.heap.size Y k P := by rw [hW]; exact HW.out.alloc _
        have HBA := hide (show Below w.heap.size w W by rw [hW]; exact HB.out.alloc hs _)
        have HWA := hide hwA
        have HBX := hide hbx
        have hne : wr.heap.size ≠ w1.heap.size := by omega
        have HST := hide (restart_any hwA (by omega))
        have hY1 := hide (show entsL 0 [] (L.take (j + 1)) = Y ++ entL (comL (lastL j k) (bl f0)) (f0, f1, f2, f3) by rw [entsL_next HX.out, ← HY.out, ← HK.out]; rfl)
        have hK1 := hide (show lastK [] (L.take (j + 1)) = bl f0 by rw [take_next HX.out, lastK_snoc])
        have HG := hide (show w1.heap.size < W.heap.size from hwA.lt)
        clear hcell c0 c1 c2 c3 hx hjL hwA hbx
        go_upto_if 28 with (fail)
        rw [← hW]
        clear hW
        go_cut [] from 28 to 32 (fun wc => ∃ (k' : List UInt8) (P' : List Nat), Hid (k' = lastL j k) ∧ Hid (P' = plcL L (j + 1)) ∧ Hid (Wri wc w1.heap.size Y k' P') ∧ Hid (Below w.heap.size w wc) ∧ Hid (BoxV 30 wc wr.heap.size #[.string f0, .int .i64 f1, .bool f2, .string f3]))
        case first =>
          by_cases h4 : j % 4 = 0
          · have hd : ((j : Int) % 4 == 0) = true := by rw [beq_iff_eq]; omega
            have hk' := hide (show ([] : List UInt8) = lastL j k by rw [lastL, if_pos h4])
            have hP' := hide (show P ++ [Y.length] = plcL L (j + 1) by rw [plcL_yes L h4, ← HP.out, ← HY.out])
            clear h4
            go_wp2_with fail
            refine HST.out.mono ?_
            rintro e w2 ⟨rfl, hw2, hb2⟩
            go_wp2_with fail
            go_meet
            exact ⟨[], P ++ [Y.length], hk', hP', hide hw2, hide (HBA.out.trans (hb2.below.mono hs1)), hide (Wri.bent2 hb2 hne HBX.out)⟩
          · have hd : ((j : Int) % 4 == 0) = false := by rw [beq_eq_false_iff_ne]; omega
            have hk' := hide (show k = lastL j k by rw [lastL, if_neg h4])
            have hP' := hide (show P = plcL L (j + 1) by rw [plcL_no L h4, ← HP.out])
            clear h4
            go_wp2_with fail
            go_meet
            exact ⟨k, P, hk', hP', HWA, HBA, HBX⟩
        case rest =>
        obtain ⟨k', P', HK', HP', HW', HB', HX'⟩ := hcut
        have hkl' : k'.length ≤ 10 := by
          rw [HK'.out]
          unfold lastL
          split
          · simp
          · exact hkl
        have HEN := hide (entry_any HW'.out (by omega) (by omega) f0 f1 f2 f3 ho)
        rw [HK'.out, ← hY1.out] at HEN
        obtain ⟨y0, y1, y2, y3⟩ := HX'.out.four'
        clear d0 d1 d2 d3 hkl'
        go_wp2_with fail
        refine HEN.out.mono ?_
        rintro e w2 ⟨rfl, hw2, hb2⟩
        have HW2 := hide hw2
        have HB2' := hide (HB'.out.trans (hb2.mono hs1))
        clear hw2 hb2
        go_wp2_with fail
        go_roundw
        case rel => exact ⟨j + 1, _, _, P', by go_num, by omega, rfl, hK1.out.symm, HP', HW2, HB2'⟩
        case measure => simp [intOf]; omega
      · have hT := hide (show L.take j = L from List.take_of_length_le (by rw [← HN.out]; omega))
        have hPn := hide (show P = plcL L L.length by rw [HP.out, show j = L.length by rw [← HN.out]; omega])
        have hpp := HPL.out j
        rw [← HP.out] at hpp
        have HFI := hide (finish_any HW.out (by omega) (by omega) hpp)
        have HV2 := hide (show V = Y ++ (varL P.length ++ (varsL P ++ lowB Y.length 2)) by
          rw [HV1.out, tailL, ← hPn.out, HY.out, hT.out])
        rw [← HV2.out] at HFI
        clear hpp
        go_wp2_with fail
        refine HFI.out.mono ?_
        rintro e w2 ⟨rfl, hw2, hb2⟩
        have HB3 := hide (HB.out.trans (hb2.mono hs1))
        have HT := hide (text_any hw2)
        clear hb2 hw2
        go_wp2_with fail
        refine HT.out.mono ?_
        rintro e w3 ⟨rfl, rfl⟩
        go_wp2_with fail
        go_ret
        exact ⟨rfl, HB3.out⟩
  · have HV1 := hide (HV.out.trans (showK_no fun h => hok h.2.2))
    rw [decide_eq_false hok] at HC
    clear hn hok
    go_enter Tryz.func75, Tryz.ntmps75
    go_wp2_with fail
    refine (HC.out _ HR.out).mono ?_
    rintro e w1 ⟨rfl, hb1⟩
    go_wp2_with fail
    go_ret
    exact ⟨by rw [HV1.out]; rfl, hb1⟩
end Go.Proofs.YtdlkgpobjacgeaaGreatDoor

/-
  Contract of spec.ShowBlock.
-/
namespace Go.Proofs.YtdlkgpobjacgeaaGreatDoor
open Go.ChangeShapes Go.WideShapes Go.ChangeAt Go.RowKit

theorem entbox_cells {w w' : World} {v0 v1 v2 v3 : Value} {T : TypeId} (h : Below (w.heap.size + 1) (w.alloc (.cells #[v0, v1, v2, v3] T)) w') :
    w'.cell? ⟨w.heap.size, 0, none⟩ = some v0 ∧ w'.cell? ⟨w.heap.size, 1, none⟩ = some v1 ∧ w'.cell? ⟨w.heap.size, 2, none⟩ = some v2 ∧ w'.cell? ⟨w.heap.size, 3, none⟩ = some v3 :=
  BoxV.four' ((BoxV.new T w #[v0, v1, v2, v3]).below h (by omega))
theorem fixedL_low {m : Nat} (h : m < 65536) : fixedL m 2 = lowB m 2 := if_pos (by show m / 65536 = 0; omega)
theorem last_prev {L : List En} {j : Nat} {x : En} (h : L[j]? = some x) : lastK [] (L.take (j + 1)) = bl x.1 := by rw [take_next h, lastK_snoc]

set_option maxHeartbeats 4000000 in
set_option maxRecDepth 20000 in
theorem sShowBlock_any (a : Option Addr) (cap : Nat) (L : List En) (w : World) (hr : elEnt.Rd w w.heap.size a L) (hl : L.length ≤ 2097152) :
    Calls Tryz.prog 68 #[.slice a L.length cap] w (StrPost w (showK L)) := by
  have HR := hide hr
  clear hr
  have HC := hide (fun W hr => l9Ents_any a cap L W hr hl)
  obtain ⟨n, hn⟩ : ∃ n, n = L.length := ⟨_, rfl⟩
  have HN := hide hn
  obtain ⟨V, hV⟩ : ∃ V, V = showK L := ⟨_, rfl⟩
  have HV := hide hV
  rw [← hn] at HC hl
  rw [← hn, ← hV]
  clear hV
  by_cases h1 : ¬ (1 ≤ n ∧ n ≤ 16)
  · have HV1 := hide (HV.out.trans (showK_no fun h => h1 ⟨by have := h.1; omega, by have := h.2.1; omega⟩))
    have q1 : (decide ((1 : Int) ≤ (n : Int)) && decide ((n : Int) ≤ 16)) = false := by rw [← Bool.not_eq_true, Bool.and_eq_true, decide_eq_true_eq, decide_eq_true_eq]; omega
    clear hn
    go_enter Tryz.func68, Tryz.ntmps68
    go_wp2_with (first | (go_at_call 83; refine (l1In_any _ _ _ _).mono ?_; rw [q1]; rintro e w' ⟨rfl, rfl⟩))
    go_ret
    exact ⟨by rw [HV1.out]; rfl, Below.refl _ _⟩
  rw [Decidable.not_not] at h1
  have q1 : (decide ((1 : Int) ≤ (n : Int)) && decide ((n : Int) ≤ 16)) = true := by rw [Bool.and_eq_true, decide_eq_true_eq, decide_eq_true_eq]; omega
  by_cases hok : entsOk' L
  · have hb : blkOk L := ⟨by omega, by omega, hok⟩
    have HV1 := hide (HV.out.trans (showK_yes hb))
    rw [decide_eq_true hok] at HC
    have HE := hide hb.2.2.1
    have hL16 : L.length ≤ 16 := hb.2.1
    clear hok hb hn
    go_enter Tryz.func68, Tryz.ntmps68
    go_wp2_with (first | (go_at_call 83; refine (l1In_any _ _ _ _).mono ?_; rw [q1]; rintro e w' ⟨rfl, rfl⟩) | (go_at_call 66; refine (HC.out _ HR.out).mono ?_; rintro e w1 ⟨rfl, hb1⟩; have HB1 := hide hb1; clear hb1))
    clear HC
    go_loopw [3, 4, 5, 6] (fun s z q i wr => ∃ (j m : Nat) (Y Z : List UInt8), s = .string ⟨Y.toArray⟩ ∧ z = .string ⟨Z.toArray⟩ ∧ q = .int .i64 m ∧ i = .int .i64 j ∧ j ≤ n ∧ m ≤ j ∧ Z.length ≤ 7 * j ∧ Hid (Y = entsL 0 [] (L.take j)) ∧ Hid (Z = varsL (plcL L j)) ∧ Hid (m = (plcL L j).length) ∧ Hid (Below w.heap.size w wr)) (fun _ _ _ i _ => n - (intOf i).toNat)
    case atStart => exact ⟨0, 0, [], [], rfl, rfl, rfl, rfl, by omega, by omega, by simp, by simp [Hid, entsL], by simp [Hid, varsL, plcL], by simp [Hid, plcL], HB1⟩
    case round =>
      obtain ⟨j, m, Y, Z, rfl, rfl, rfl, rfl, hj, hmj, hZl, HY, HZ, HM, HB⟩ := hrel
      have hs := HB.out.size
      have hokT : ∀ e ∈ L.take j, entOk e := fun e he => HE.out e (List.mem_of_mem_take he)
      have hYl : Y.length ≤ 960 := by
        have h2 := entsL_len (L.take j) 0 [] hokT
        rw [← HY.out, List.length_take] at h2
        omega
      clear hokT
      by_cases hlt : j < n
      · have hjL : j < L.length := by rw [← HN.out]; exact hlt
        obtain ⟨b, off, rfl, hb, hcell⟩ := HR.out (by omega)
        obtain ⟨f0, f1, f2, f3, hx⟩ := partsEnt L[j]
        obtain ⟨c0, c1, c2, c3⟩ := cellsEnt hx (hcell j hjL)
        have d0 := (HB.out.cell (p := ⟨b, off + j * 4, none⟩) hb).trans c0
        have d1 := (HB.out.cell (p := ⟨b, off + j * 4 + 1, none⟩) hb).trans c1
        have d2 := (HB.out.cell (p := ⟨b, off + j * 4 + 2, none⟩) hb).trans c2
        have d3 := (HB.out.cell (p := ⟨b, off + j * 4 + 3, none⟩) hb).trans c3
        have HX := hide (show L[j]? = some (f0, f1, f2, f3) by rw [List.getElem?_eq_getElem hjL, hx])
        have HCell := hide hcell
        have ho := HE.out _ (List.mem_of_getElem? HX.out)
        obtain ⟨b1, b2, b3, b4⟩ := entOk_bd ho
        simp only at b1 b2 b3 b4
        rw [bl_len] at b1 b2
        have hsl : shL j (lastK [] (L.take j)) (f0, f1, f2, f3) ≤ f0.size := by
          have := (shL_le j (lastK [] (L.take j)) (f0, f1, f2, f3)).2
          rwa [bl_len] at this
        have HYn := hide (entsL_next HX.out)
        rw [← HY.out] at HYn
        obtain ⟨sh, hsh⟩ : ∃ sh, sh = shL j (lastK [] (L.take j)) (f0, f1, f2, f3) := ⟨_, rfl⟩
        rw [← hsh] at hsl HYn
        have HSH := hide hsh
        have HD := hide (fun (w' : World) (h : Below (wr.heap.size + 1) (wr.alloc (.cells #[.string f0, .int .i64 f1, .bool f2, .string f3] 30)) w') => entbox_cells h)
        have HB0 := hide (HB.out.alloc hs (.cells #[.string f0, .int .i64 f1, .bool f2, .string f3] 30))
        clear c0 c1 c2 c3 hx ho hsh hcell
        go_upto_if 31 with (fail)
        go_cut [4, 5, 8] from 31 to 47 (fun z q s wc => ∃ (Z' : List UInt8) (m' : Nat), z = .string ⟨Z'.toArray⟩ ∧ q = .int .i64 m' ∧ s = .int .i64 sh ∧ m' ≤ j + 1 ∧ Z'.length ≤ 7 * (j + 1) ∧ Hid (Z' = varsL (plcL L (j + 1))) ∧ Hid (m' = (plcL L (j + 1)).length) ∧ Hid (Below (wr.heap.size + 1) (wr.alloc (.cells #[.string f0, .int .i64 f1, .bool f2, .string f3] 30)) wc))
        case first =>
          by_cases h4 : j % 4 = 0
          · have hd : ((j : Int) % 4 == 0) = true := by rw [beq_iff_eq]; omega
            have hs0 : sh = 0 := by rw [HSH.out, shL, lastL, if_pos h4, comL_nil]
            have HV0 := hide (fun W => sVar_any (Y.length : Int) W)
            rw [varL_varV (by omega)] at HV0
            have ly := varL_len7 Y.length (by omega)
            have hZ' := hide (show Z ++ varL Y.length = varsL (plcL L (j + 1)) by rw [plcL_yes L h4, varsL_snoc, ← HZ.out, ← HY.out])
            have hm' := hide (show m + 1 = (plcL L (j + 1)).length by rw [plcL_yes L h4, List.length_append, ← HM.out]; rfl)
            obtain ⟨LY, hLY⟩ : ∃ LY, LY = varL Y.length := ⟨_, rfl⟩
            rw [← hLY] at HV0 ly hZ'
            have ha := run_cat Z LY (by omega)
            clear h4 hLY
            go_wp2_with fail
            refine (HV0.out _).mono ?_
            rintro e w2 ⟨rfl, hb2⟩
            have HW2 := hide ((Below.refl (wr.heap.size + 1) (wr.alloc (.cells #[.string f0, .int .i64 f1, .bool f2, .string f3] 30))).trans (hb2.mono (by rw [Go.Deep.nblk_alloc]; omega)))
            clear hb2
            go_wp2_with fail
            go_meet
            exact ⟨Z ++ LY, m + 1, by simp, by simp, by rw [hs0]; rfl, by omega, by rw [List.length_append]; omega, hZ', hm', HW2⟩
          · have hd : ((j : Int) % 4 == 0) = false := by rw [beq_eq_false_iff_ne]; omega
            obtain ⟨i, hij⟩ : ∃ i, j = i + 1 := ⟨j - 1, by omega⟩
            have hiL : i < L.length := by omega
            obtain ⟨p0, p1, p2, p3, hp⟩ := partsEnt L[i]
            obtain ⟨q0, _, _, _⟩ := cellsEnt hp (HCell.out i hiL)
            have HXi := hide (show L[i]? = some (p0, p1, p2, p3) by rw [List.getElem?_eq_getElem hiL, hp])
            have hp10 := (entOk_bd (HE.out _ (List.mem_of_getElem? HXi.out))).1
            simp only at hp10
            rw [bl_len] at hp10
            have HLS := hide (fun W => l11Shared_any p0 f0 (by omega) (by omega) W)
            rw [show comL (bl p0) (bl f0) = sh by rw [HSH.out, shL, lastL, if_neg h4, hij, last_prev HXi.out]] at HLS
            have hZ' := hide (show Z = varsL (plcL L (j + 1)) by rw [plcL_no L h4, ← HZ.out])
            have hm' := hide (show m = (plcL L (j + 1)).length by rw [plcL_no L h4, ← HM.out])
            have hi1 : (j : Int) - 1 = (i : Int) := by omega
            have hi3 : IntKind.i64.wrap ((j : Int) - 1) = (i : Int) := by rw [IntKind.wrap_i64]; omega
            have hi5 : (i : Int) < (n : Int) := by omega
            have hi8 : IntKind.i64.wrap (i : Int) = (i : Int) := by rw [IntKind.wrap_i64]; omega
            have hi6 : i < n := by omega
            have hi7 : (0 : Int) ≤ (i : Int) := by omega
            clear hij
            have hbw : b < wr.heap.size + 1 := by omega
            have HD2 := hide (fun (w' : World) (h : Below (wr.heap.size + 1) (wr.alloc (.cells #[.string f0, .int .i64 f1, .bool f2, .string f3] 30)) w') => show w'.cell? ⟨b, off + i * 4, none⟩ = some (.string p0) ∧ w'.cell? ⟨wr.heap.size, 0, none⟩ = some (.string f0) from ⟨(h.cell (p := ⟨b, off + i * 4, none⟩) hbw).trans ((HB0.out.cell (p := ⟨b, off + i * 4, none⟩) hb).trans q0), (HD.out w' h).1⟩)
            clear h4 hp q0 hiL
            go_upto_region 14 with (fail)
            go_region_held3 (fun w' => w'.cell? ⟨b, off + i * 4, none⟩ = some (.string p0) ∧ w'.cell? ⟨wr.heap.size, 0, none⟩ = some (.string f0))
              (first
                | with_reducible exact HD2.out _ (Below.refl _ _)
                | with_reducible exact HD2.out _ (Below.refl _ _).drew
                | with_reducible exact HD2.out _ HW2.out)
              (first
                | (go_at_call 95
                   refine (HLS.out _).mono ?_
                   rintro e w2 ⟨rfl, hb2⟩
                   have HW2 : Hid (Below (wr.heap.size + 1) (wr.alloc (.cells #[.string f0, .int .i64 f1, .bool f2, .string f3] 30)) w2) := by
                     have h := below_of_drew' hb2
                     rw [Go.Deep.nblk_alloc] at h
                     exact h
                   clear hb2))
            all_goals go_wp2_with fail
            all_goals go_meet
            all_goals exact ⟨Z, m, by simp, by simp, by simp, by omega, by omega, hZ', hm', HW2⟩
        case rest =>
        obtain ⟨Z', m', rfl, rfl, rfl, hm', hZl', HZ', HM', HW1⟩ := hcut
        clear d0 d1 d2 d3
        obtain ⟨y0, y1, y2, y3⟩ := HD.out _ HW1.out
        go_upto_if 49 with (fail)
        go_cut [9] from 48 to 49 (fun d wd => d = .string ⟨(mkB f2).toArray⟩ ∧ wc = wd)
        case first =>
          cases f2 with
          | true =>
            go_wp2_with fail
            go_meet
            exact ⟨rfl, rfl⟩
          | false =>
            go_wp2_with fail
            go_meet
            exact ⟨rfl, rfl⟩
        case rest =>
        obtain ⟨rfl, rfl⟩ := hcut
        clear y0 y1 y2 y3
        obtain ⟨s1, hs1⟩ : ∃ s1 : ByteArray, s1 = ⟨((bl f0).drop sh).toArray⟩ := ⟨_, rfl⟩
        have hex : f0.extract sh f0.size = s1 := by rw [hs1]; exact ext_drop f0 sh
        have hl1 : s1.size ≤ 10 := by rw [hs1, size_of, List.length_drop, bl_len]; omega
        have e1 : bl s1 = (bl f0).drop sh := by rw [hs1]; rfl
        have H1 := hide (fun W => sVar_any (sh : Int) W)
        have H2 := hide (fun W => l6Piece_any s1 (by omega) W)
        have H3 := hide (fun W => sVar_any f1 W)
        have H4 := hide (fun W => l6Piece_any f3 (by omega) W)
        have q1' := varV_len' (sh : Int)
        have q2 := piece_len (s := s1) (by omega)
        have q3 := varV_len' f1
        have q4 := piece_len (s := f3) (by omega)
        have v1 : varV (sh : Int) = varL sh := varL_varV (by omega)
        have v2 : varV f1 = varL f1.toNat := by rw [varV, if_pos (by omega)]
        have HEq := hide (show entL sh (f0, f1, f2, f3) = varV (sh : Int) ++ (pieceL (bl s1) ++ (varV f1 ++ (mkB f2 ++ pieceL (bl f3)))) by
          rw [v1, v2, e1, entL]
          cases f2 <;> rfl)
        obtain ⟨L1, hL1⟩ : ∃ L1, L1 = varV (sh : Int) := ⟨_, rfl⟩
        obtain ⟨L2, hL2⟩ : ∃ L2, L2 = pieceL (bl s1) := ⟨_, rfl⟩
        obtain ⟨L3, hL3⟩ : ∃ L3, L3 = varV f1 := ⟨_, rfl⟩
        obtain ⟨L4, hL4⟩ : ∃ L4, L4 = mkB f2 := ⟨_, rfl⟩
        obtain ⟨L5, hL5⟩ : ∃ L5, L5 = pieceL (bl f3) := ⟨_, rfl⟩
        have q5 : L4.length ≤ 1 := by rw [hL4]; cases f2 <;> decide
        rw [← hL1] at H1 HEq q1'
        rw [← hL2] at H2 HEq q2
        rw [← hL3] at H3 HEq q3
        rw [← hL4] at HEq
        rw [← hL5] at H4 HEq q4
        obtain ⟨A1, hA1⟩ : ∃ A1, A1 = Y ++ L1 := ⟨_, rfl⟩
        obtain ⟨A2, hA2⟩ : ∃ A2, A2 = A1 ++ L2 := ⟨_, rfl⟩
        obtain ⟨A3, hA3⟩ : ∃ A3, A3 = A2 ++ L3 := ⟨_, rfl⟩
        obtain ⟨A4, hA4⟩ : ∃ A4, A4 = A3 ++ L4 := ⟨_, rfl⟩
        obtain ⟨A5, hA5⟩ : ∃ A5, A5 = A4 ++ L5 := ⟨_, rfl⟩
        have k1 : A1.length ≤ 970 := by rw [hA1, List.length_append]; omega
        have k2 : A2.length ≤ 1000 := by rw [hA2, List.length_append]; omega
        have k3 : A3.length ≤ 1010 := by rw [hA3, List.length_append]; omega
        have k4 : A4.length ≤ 1011 := by rw [hA4, List.length_append]; omega
        have HAll := hide (show A5 = entsL 0 [] (L.take (j + 1)) by rw [HYn.out, HEq.out, hA5, hA4, hA3, hA2, hA1]; simp only [List.append_assoc])
        have ha1 := run_cat Y L1 (by omega)
        have ha2 := run_cat A1 L2 (by omega)
        have ha3 := run_cat A2 L3 (by omega)
        have ha4 := run_cat A3 L4 (by omega)
        have ha5 := run_cat A4 L5 (by omega)
        rw [← hA1] at ha1
        rw [← hA2] at ha2
        rw [← hA3] at ha3
        rw [← hA4] at ha4
        rw [← hA5] at ha5
        have i1 : (sh : Int) ≤ (f0.size : Int) := by omega
        clear hs1 e1 hL1 hL2 hL3 hL5 q1' q2 q3 q4 q5 v1 v2 hA1 hA2 hA3 hA4 hA5 k1 k2 k3 k4 HEq
        rw [← hL4]
        clear hL4
        go_upto_region 18 with (fail)
        go_region_held3 (fun w' => w'.cell? ⟨wr.heap.size, 0, none⟩ = some (.string f0) ∧ w'.cell? ⟨wr.heap.size, 1, none⟩ = some (.int .i64 f1) ∧ w'.cell? ⟨wr.heap.size, 2, none⟩ = some (.bool f2) ∧ w'.cell? ⟨wr.heap.size, 3, none⟩ = some (.string f3))
          (first
            | with_reducible exact HD.out _ HW1.out
            | with_reducible exact HD.out _ HW1.out.drew
            | with_reducible exact HD.out _ HW2.out
            | with_reducible exact HD.out _ HW3.out
            | with_reducible exact HD.out _ HW4.out
            | with_reducible exact HD.out _ HW5.out)
          (first
            | (have hq4 := HW4.out
               clear hq4
               go_at_call 79
               refine (H4.out _).mono ?_
               rintro e w5 ⟨rfl, hb5⟩
               have HW5 := hide (HW4.out.trans (hb5.mono (by have := HW4.out.size; rw [Go.Deep.nblk_alloc] at this; exact this)))
               clear hb5)
            | (have hq3 := HW3.out
               clear hq3
               go_at_call 78
               refine (H3.out _).mono ?_
               rintro e w4 ⟨rfl, hb4⟩
               have HW4 := hide (HW3.out.trans (hb4.mono (by have := HW3.out.size; rw [Go.Deep.nblk_alloc] at this; exact this)))
               clear hb4)
            | (have hq2 := HW2.out
               clear hq2
               go_at_call 79
               refine (H2.out _).mono ?_
               rintro e w3 ⟨rfl, hb3⟩
               have HW3 := hide (HW2.out.trans (hb3.mono (by have := HW2.out.size; rw [Go.Deep.nblk_alloc] at this; exact this)))
               clear hb3)
            | (go_at_call 78
               refine (H1.out _).mono ?_
               rintro e w2 ⟨rfl, hb2⟩
               have HW2 := hide (HW1.out.trans ((below_of_drew' hb2).mono (by have := HW1.out.size; rw [Go.Deep.nblk_alloc] at this; exact this)))
               clear hb2))
        all_goals
          have HB5 := hide (HB0.out.trans (HW5.out.mono (by omega)))
          go_wp2_with fail
          go_roundw
        all_goals first
          | (simp [intOf]; omega)
          | exact ⟨j + 1, m', A5, Z', rfl, rfl, rfl, by go_num, by omega, hm', hZl', HAll, HZ', HM', HB5⟩
      · have hT := hide (show L.take j = L from List.take_of_length_le (by rw [← HN.out]; omega))
        have hjn : j = L.length := by rw [← HN.out]; omega
        have HV0 := hide (fun W => sVar_any (m : Int) W)
        rw [varL_varV (by omega)] at HV0
        have lm := varL_len7 m (by omega)
        have HF := hide (fun W => sFixed_yes Y.length 2 W (by omega) (by omega) (by omega))
        rw [fixedL_low (by omega)] at HF
        have lf : (lowB Y.length 2).length = 2 := length_lowB _ _
        have HV2 := hide (show V = Y ++ varL m ++ Z ++ lowB Y.length 2 by
          rw [HV1.out, tailL, HM.out, HZ.out, hjn, HY.out, hT.out]
          simp only [List.append_assoc])
        obtain ⟨LM, hLM⟩ : ∃ LM, LM = varL m := ⟨_, rfl⟩
        obtain ⟨F, hF⟩ : ∃ F, F = lowB Y.length 2 := ⟨_, rfl⟩
        rw [← hLM] at HV0 lm HV2
        rw [← hF] at HF lf HV2
        obtain ⟨A1, hA1⟩ : ∃ A1, A1 = Y ++ LM := ⟨_, rfl⟩
        obtain ⟨A2, hA2⟩ : ∃ A2, A2 = A1 ++ Z := ⟨_, rfl⟩
        have k1 : A1.length ≤ 970 := by rw [hA1, List.length_append]; omega
        have k2 : A2.length ≤ 1100 := by rw [hA2, List.length_append]; omega
        have ha1 := run_cat Y LM (by omega)
        have ha2 := run_cat A1 Z (by omega)
        have ha3 := run_cat A2 F (by omega)
        rw [← hA1] at ha1 HV2
        rw [← hA2] at ha2 HV2
        clear hLM hF hA1 hA2 k1 k2 lm lf hjn
        go_wp2_with fail
        refine (HV0.out _).mono ?_
        rintro e w2 ⟨rfl, hb2⟩
        have HB2 := hide (HB.out.trans (hb2.mono hs))
        clear hb2
        go_wp2_with fail
        refine (HF.out _).mono ?_
        rintro e w3 ⟨rfl, hb3⟩
        have HB3 := hide (HB2.out.trans (hb3.mono HB2.out.size))
        clear hb3
        go_wp2_with fail
        go_ret
        exact ⟨by rw [HV2.out]; rfl, HB3.out⟩
  · have HV1 := hide (HV.out.trans (showK_no fun h => hok h.2.2))
    rw [decide_eq_false hok] at HC
    clear hn hok
    go_enter Tryz.func68, Tryz.ntmps68
    go_wp2_with (first | (go_at_call 83; refine (l1In_any _ _ _ _).mono ?_; rw [q1]; rintro e w' ⟨rfl, rfl⟩) | (go_at_call 66; refine (HC.out _ HR.out).mono ?_; rintro e w1 ⟨rfl, hb1⟩; have HB1 := hide hb1; clear hb1))
    go_ret
    exact ⟨by rw [HV1.out]; rfl, HB1.out⟩
end Go.Proofs.YtdlkgpobjacgeaaGreatDoor

/-
  Split off DrawBlk: showK_len.
-/
namespace Go.Proofs.YtdlkgpobjacgeaaGreatDoor
open Go.ChangeShapes Go.WideShapes Go.ChangeAt Go.RowKit

theorem showK_len (L : List En) : (showK L).length ≤ 1200 := by
  unfold showK
  split
  · next h =>
    have h1 := entsL_len L 0 [] h.2.2.1
    have h2 := h.2.1
    have h3 := plcL_len L L.length
    have h4 := varL_len7 (plcL L L.length).length (by omega)
    have key : ∀ P : List Nat, (∀ x ∈ P, x ≤ 60000) → (varsL P).length ≤ 7 * P.length := by
      intro P
      induction P with
      | nil => intro _; simp [varsL]
      | cons x P ih =>
        intro hp
        have a1 := varL_len7 x (by have := hp x (by simp); omega)
        have a2 := ih fun y hy => hp y (by simp [hy])
        unfold varsL at a2 ⊢
        rw [List.flatMap_cons, List.length_append, List.length_cons]
        omega
    have h5 := key _ (plcL_le h.2.2.1 h.2.1 L.length)
    unfold tailL
    rw [List.length_append, List.length_append, List.length_append, length_lowB]
    omega
  · simp
end Go.Proofs.YtdlkgpobjacgeaaGreatDoor

/-
  Contract of impl.ReadBlock.
-/
namespace Go.Proofs.YtdlkgpobjacgeaaGreatDoor
open Go.ChangeShapes Go.WideShapes Go.ChangeAt Go.RowKit

def ReadKPost (w : World) (S : List UInt8) (e : Ending) (w' : World) : Prop := ∃ v, e = .returned (.tuple #[v, .bool (readKQ S)]) ∧ elEnt.Owns w.heap.size w' v (readK S) ∧ Below w.heap.size w w'
theorem ReadKPost.no {w w' : World} {S : List UInt8} (h : readK S = [] ∧ readKQ S = false) (v : Value) (ho : elEnt.Owns w.heap.size w' v []) (hb : Below w.heap.size w w') : ReadKPost w S (.returned (.tuple #[v, .bool false])) w' :=
  ⟨v, by rw [h.2], by rw [h.1]; exact ho, hb⟩
theorem readK_len (s : List UInt8) : (readK s).length ≤ 16 := by
  unfold readK
  split
  · exact claimK_len s
  · simp
set_option maxHeartbeats 1000000 in
set_option maxRecDepth 20000 in
theorem iReadBlock_any (s : ByteArray) (hm : s.size ≤ 1048576) (w : World) :
    Calls Tryz.prog 63 #[.string s] w (ReadKPost w (bl s)) := by
  have HE := hide (fun W => entriesOf_any s hm W)
  unfold StrPost at HE
  have HC := hide (fun W => claimedEnts_any ⟨((bl s).take (endK (bl s))).toArray⟩ (by rw [size_of, List.length_take, bl_len]; omega) W)
  rw [bl_of ((bl s).take (endK (bl s)))] at HC
  unfold EntsPost at HC
  have HSH := hide (fun W b c (h : elEnt.Rd W W.heap.size b (claimK (bl s))) => iShowBlock_any b c (claimK (bl s)) W h (by have := claimK_len (bl s); omega))
  have HY := hide (fun h1 h2 => readK_yes (s := bl s) h1 h2)
  have HN := hide (fun h => readK_no (s := bl s) h)
  obtain ⟨T, hT⟩ : ∃ T, T = (bl s).take (endK (bl s)) := ⟨_, rfl⟩
  obtain ⟨X, hX⟩ : ∃ X, X = claimK (bl s) := ⟨_, rfl⟩
  rw [← hX] at HSH HY HN
  rw [claimK] at hX
  rw [← hT] at HE HC hX
  rw [← hX] at HC
  obtain ⟨VS, hVS⟩ : ∃ VS, VS = showK X := ⟨_, rfl⟩
  obtain ⟨n, hn⟩ : ∃ n, n = X.length := ⟨_, rfl⟩
  rw [← hVS, ← hn] at HSH
  rw [← hVS] at HY HN
  have HLN := hide hn
  clear hX hVS hn hT
  by_cases h0 : bl s = []
  · have HN1 := hide (HN.out (.inl h0))
    have hse : s.toList.isEmpty = true := by rw [ByteArray.toList_eq, List.isEmpty_iff]; exact h0
    clear h0 HN HY HSH
    go_enter Tryz.func63, Tryz.ntmps63
    go_wp2_with fail
    refine (HE.out _).mono ?_
    rintro e w0 ⟨rfl, hb0⟩
    have HB0 := hide hb0
    clear hb0
    go_wp2_with fail
    refine (HC.out _).mono ?_
    rintro e w1 ⟨v, rfl, ho, hb1⟩
    have HB1 := hide (HB0.out.trans (hb1.mono HB0.out.size))
    clear hb1 ho
    go_wp2_with fail
    go_ret2
    exact ReadKPost.no HN1.out _ (El.Owns.nil _ _) HB1.out
  · have hse : s.toList.isEmpty = false := by rw [ByteArray.toList_eq, List.isEmpty_eq_false_iff]; exact h0
    have H0 := hide h0
    clear h0
    by_cases hsh : VS = bl s
    · have HN2 := hide (HY.out H0.out hsh)
      have hbe : (!(VS == s.toList)) = false := by rw [Bool.not_eq_false', beq_iff_eq, ByteArray.toList_eq]; exact hsh
      clear hsh HN HY
      go_enter Tryz.func63, Tryz.ntmps63
      go_wp2_with fail
      refine (HE.out _).mono ?_
      rintro e w0 ⟨rfl, hb0⟩
      have HB0 := hide hb0
      clear hb0
      go_wp2_with fail
      refine (HC.out _).mono ?_
      rintro e w1 ⟨v, rfl, ho, hb1⟩
      obtain ⟨a, c, rfl, hrd, _⟩ := ho.form
      have HB1 := hide (HB0.out.trans (hb1.mono HB0.out.size))
      have HO1 := hide (ho.mono HB0.out.size)
      have HRD := hide hrd
      rw [← HLN.out] at HO1 ⊢
      clear hb1 ho hrd
      go_wp2_with fail
      refine (HSH.out _ _ _ HRD.out).mono ?_
      rintro e w2 ⟨rfl, hb2⟩
      have HB2 := hide (HB1.out.trans (hb2.mono HB1.out.size))
      have HO2 := hide (HO1.out.below hb2 (Nat.le_refl _))
      clear hb2
      go_wp2_with fail
      go_ret2
      exact ⟨_, by rw [HN2.out.2]; rfl, by rw [HN2.out.1]; exact HO2.out, HB2.out⟩
    · have HN1 := hide (HN.out (.inr hsh))
      have hbe : (!(VS == s.toList)) = true := by rw [ne_str hsh]; rfl
      clear hsh HN HY
      go_enter Tryz.func63, Tryz.ntmps63
      go_wp2_with fail
      refine (HE.out _).mono ?_
      rintro e w0 ⟨rfl, hb0⟩
      have HB0 := hide hb0
      clear hb0
      go_wp2_with fail
      refine (HC.out _).mono ?_
      rintro e w1 ⟨v, rfl, ho, hb1⟩
      obtain ⟨a, c, rfl, hrd, _⟩ := ho.form
      have HB1 := hide (HB0.out.trans (hb1.mono HB0.out.size))
      have HRD := hide hrd
      rw [← HLN.out]
      clear hb1 ho hrd
      go_wp2_with fail
      refine (HSH.out _ _ _ HRD.out).mono ?_
      rintro e w2 ⟨rfl, hb2⟩
      have HB2 := hide (HB1.out.trans (hb2.mono HB1.out.size))
      clear hb2
      go_wp2_with fail
      go_ret2
      exact ReadKPost.no HN1.out _ (El.Owns.nil _ _) HB2.out
end Go.Proofs.YtdlkgpobjacgeaaGreatDoor

/-
  Contract of spec.ReadBlock.
-/
namespace Go.Proofs.YtdlkgpobjacgeaaGreatDoor
open Go.ChangeShapes Go.WideShapes Go.ChangeAt Go.RowKit

theorem litEn (B : Nat) (w : World) (hB : B ≤ w.heap.size) : elEnt.Owns B (w.alloc (.cells #[] 30)) (.slice (some ⟨w.heap.size, 0, none⟩) 0 0) [] :=
  El.Owns.lit (e := elEnt) B w [] #[] 0 rfl rfl hB (by decide)
theorem byte_one {s : ByteArray} {q : Nat} (hq : q < s.size) : (((s[q]'hq).toNat : Int) == 1) = decide ((bl s)[q]? = some 1) := by
  rw [byte_at s q hq]
  by_cases h : s[q] = 1
  · rw [h]; rfl
  · have h1 : decide (some s[q] = some (1 : UInt8)) = false := decide_eq_false fun e => h (Option.some.inj e)
    rw [h1, beq_eq_false_iff_ne]
    intro e
    apply h
    apply UInt8.toNat_inj.1
    have : (1 : UInt8).toNat = 1 := rfl
    omega
theorem take_str {k : ByteArray} {x : Nat} : k.extract 0 x = ⟨((bl k).take x).toArray⟩ := ext_take k x

set_option maxHeartbeats 4000000 in
set_option maxRecDepth 20000 in
theorem sReadBlock_any (s : ByteArray) (hm : s.size ≤ 1048576) (w : World) :
    Calls Tryz.prog 33 #[.string s] w (ReadKPost w (bl s)) := by
  have hm' : s.size ≤ 1099511627775 := by omega
  have HL0 := hide (litEn w.heap.size w (Nat.le_refl _))
  have HBL := hide ((Below.refl w.heap.size w).alloc (Nat.le_refl _) (.cells #[] 30))
  by_cases h2 : s.size < 2
  · have HN1 := hide (show readK (bl s) = [] ∧ readKQ (bl s) = false from readK_none fun L hL e => by
      have := (endK_of hL e).2
      rw [bl_len] at this
      omega)
    go_enter Tryz.func33, Tryz.ntmps33
    go_wp2_with fail
    go_ret2
    exact ReadKPost.no HN1.out _ HL0.out HBL.out
  obtain ⟨m, hm2⟩ : ∃ m, s.size = m + 2 := ⟨s.size - 2, by omega⟩
  obtain ⟨s1, hs1⟩ : ∃ s1 : ByteArray, s1 = ⟨((bl s).drop m).toArray⟩ := ⟨_, rfl⟩
  have hex : s.extract m s.size = s1 := by rw [hs1]; exact ext_drop s m
  have l1 : s1.size = 2 := by rw [hs1, size_of, List.length_drop, bl_len]; omega
  have HC := hide (fun W => sReadFixed_yes s1 2 W (by omega) (by omega) (by omega) (by unfold maxLen; omega))
  have hbe : be (s1.data.toList.take 2) = be (((bl s).drop ((bl s).length - 2)).take 2) := by
    rw [hs1, bl_len, hm2, Nat.add_sub_cancel]
  rw [hbe] at HC
  have hbd := be_bd6 ((bl s).drop ((bl s).length - 2)) 2 (by omega)
  obtain ⟨en, hq⟩ : ∃ q : Nat, be (((bl s).drop ((bl s).length - 2)).take 2) = (q : Int) := ⟨(be (((bl s).drop ((bl s).length - 2)).take 2)).toNat, by omega⟩
  have HE := hide (show endK (bl s) = en by rw [endK, if_neg (by rw [bl_len]; omega), hq, Int.toNat_natCast])
  rw [hq] at HC hbd
  have HSL := hide (bl_len s)
  have i2 : (m : Int) ≤ (s.size : Int) := by omega
  have hsub : (s.size : Int) - 2 = (m : Int) := by omega
  have hsub2 : IntKind.i64.wrap ((s.size : Int) - 2) = (m : Int) := by rw [IntKind.wrap_i64]; omega
  have hsub3 : IntKind.i64.wrap (m : Int) = (m : Int) := by rw [IntKind.wrap_i64]; omega
  have HM2 := hide hm2
  have HNE := hide (show bl s ≠ [] from fun h => by
    have := bl_len s
    rw [h, List.length_nil] at this
    omega)
  clear hq hbe hs1 hm2
  go_enter Tryz.func33, Tryz.ntmps33
  go_wp2_with fail
  refine (HC.out _).mono ?_
  rintro e w1 ⟨rfl, rfl⟩
  clear HC
  go_wp2_with fail
  go_loopw [4, 7, 8] (fun o t z wr => ∃ (j p : Nat) (k : ByteArray) (a' : Option Addr) (c' : Nat) (pre : List En), o = .slice a' j c' ∧ t = .int .i64 p ∧ z = .string k ∧ j ≤ 16 ∧ p ≤ s.size ∧ k.size ≤ p ∧ pre.length = j ∧ Hid (RdAt (bl s) j pre (bl k) p) ∧ Hid (elEnt.Owns w.heap.size wr (.slice a' j c') pre) ∧ Hid (Below w.heap.size w wr)) (fun o _ _ _ => 16 - lenV o)
  case atStart => exact ⟨0, 0, ⟨#[]⟩, _, _, [], rfl, rfl, rfl, by omega, by omega, by rw [show (⟨#[]⟩ : ByteArray).size = 0 from rfl]; omega, rfl, RdAt.zero _, HL0, HBL⟩
  case round =>
    obtain ⟨j, p, k, a', c', pre, rfl, rfl, rfl, hj, hps, hkp, hpre, HR, HO, HB⟩ := hrel
    have hs := HB.out.size
    go_upto_region 7 with (fail)
    go_cut [43] from 29 to 43 (fun c wc => c = .bool (decide (p < en ∧ en ≤ m ∧ j < 16)) ∧ wr = wc)
    case first =>
      by_cases g1 : p < en
      · by_cases g2 : en ≤ m
        · by_cases g3 : j < 16
          · have hdec := hide (decide_eq_true (show p < en ∧ en ≤ m ∧ j < 16 from ⟨g1, g2, g3⟩))
            go_wp2_with fail
            go_meet
            exact ⟨by rw [hdec.out, decide_eq_true (show (j : Int) < 16 by omega)], rfl⟩
          · have hdec := hide (decide_eq_false (show ¬ (p < en ∧ en ≤ m ∧ j < 16) from fun h => g3 h.2.2))
            go_wp2_with fail
            go_meet
            exact ⟨by rw [hdec.out, decide_eq_false (show ¬ (j : Int) < 16 by omega)], rfl⟩
        · have hdec := hide (decide_eq_false (show ¬ (p < en ∧ en ≤ m ∧ j < 16) from fun h => g2 h.2.1))
          go_wp2_with fail
          go_meet
          exact ⟨by rw [hdec.out], rfl⟩
      · have hdec := hide (decide_eq_false (show ¬ (p < en ∧ en ≤ m ∧ j < 16) from fun h => g1 h.1))
        go_wp2_with fail
        go_meet
        exact ⟨by rw [hdec.out], rfl⟩
    case rest =>
    obtain ⟨rfl, rfl⟩ := hcut
    by_cases hgo : p < en ∧ en ≤ m ∧ j < 16
    · have hlt : j < 16 := hgo.2.2
      have HP := hide (show p < endK (bl s) by rw [HE.out]; exact hgo.1)
      rw [decide_eq_true hgo]
      clear hgo
      have HV1 := hide (fun W => l6Vars_any s hm' (p : Int) 1 (by omega) W)
      rw [show (1 : Int).toNat = 1 from rfl] at HV1
      rcases vars1 (bl s) (p : Int) with hq | ⟨x, p1, he, hql, hx⟩
      · have HN1 := hide (HR.out.bad1 HP.out hq)
        obtain ⟨L, hL⟩ : ∃ L, L = (varsF (bl s) 1 (p : Int)).1 := ⟨_, rfl⟩
        obtain ⟨Q, hQ⟩ : ∃ Q, Q = (varsF (bl s) 1 (p : Int)).2 := ⟨_, rfl⟩
        rw [← hL, ← hQ] at HV1
        rw [← hQ] at hq
        clear hL hQ
        have hd : decide (Q < 0) = true := decide_eq_true hq
        go_wp2_with fail
        refine (HV1.out _).mono ?_
        rintro e w2 ⟨v, rfl, ho, hb2⟩
        have HB2 := hide (HB.out.trans (hb2.mono HB.out.size))
        have hs2 := HB2.out.size
        clear hb2 ho
        go_wp2_with fail
        go_ret2
        exact ReadKPost.no HN1.out _ (litEn _ _ hs2) (HB2.out.alloc hs2 _)
      have hgx := vars1_ge he
      rw [he] at HV1
      have HHE := hide he
      clear he
      rw [bl_len] at hql
      by_cases hxk : k.size < x
      · have HN1 := hide (HR.out.bad2 HP.out HHE.out (by rw [bl_len]; exact hxk))
        have hd : decide ((k.size : Int) < (x : Int)) = true := decide_eq_true (by omega)
        go_wp2_with fail
        refine (HV1.out _).mono ?_
        rintro e w2 ⟨v, rfl, ho, hb2⟩
        obtain ⟨g, cap, tl, rfl, hgb, hglt, hW⟩ := ho.words (by simp)
        have c0 : w2.cell? ⟨g, 0, none⟩ = some (.int .i64 (x : Int)) := hW.cell 0 (by simp)
        have HB2 := hide (HB.out.trans (hb2.mono HB.out.size))
        have hs2 := HB2.out.size
        clear hb2 ho hW
        go_wp2_with fail
        go_ret2
        exact ReadKPost.no HN1.out _ (litEn _ _ hs2) (HB2.out.alloc hs2 _)
      have hd0 : decide ((k.size : Int) < (x : Int)) = false := decide_eq_false (by omega)
      have HT1 := hide (fun W => l6Take_any s hm' (p1 : Int) W)
      have HGE1 := hide (fun (q : Nat) (h : takeE (bl s) (p1 : Int) = (q : Int)) => takeE_ge h)
      have HNG1 := hide (fun (h : takeE (bl s) (p1 : Int) < 0) => takeB_neg h)
      have HB3 := hide (fun h => HR.out.bad3 HP.out HHE.out h)
      have HB4 := hide (fun m q3 h2 hn => HR.out.bad4 (m := m) (q3 := q3) HP.out HHE.out h2 hn)
      have HB5 := hide (fun m q3 h2 hn => HR.out.bad5 (m := m) (q3 := q3) HP.out HHE.out h2 hn)
      have HST := hide (fun m q3 q4 h2 hn d hd => HR.out.step (m := m) (q3 := q3) (q4 := q4) HP.out HHE.out h2 hn (d := d) hd)
      obtain ⟨kb, hkb⟩ : ∃ kb, kb = takeB (bl s) (p1 : Int) := ⟨_, rfl⟩
      obtain ⟨E1, hE1⟩ : ∃ E1, E1 = takeE (bl s) (p1 : Int) := ⟨_, rfl⟩
      rw [← hkb, ← hE1] at HT1 HGE1
      rw [← hkb] at HST
      rw [← hE1] at HB3 HB4 HB5 HST
      rw [← hkb, ← hE1] at HNG1
      clear hkb hE1
      have HV2 := hide (fun W => l6Vars_any s hm' E1 1 (by omega) W)
      rw [show (1 : Int).toNat = 1 from rfl] at HV2
      rcases vars1 (bl s) E1 with hq | ⟨y, q3, he2, hql2, hy⟩
      · have HN1 := hide (HB3.out hq)
        obtain ⟨L, hL⟩ : ∃ L, L = (varsF (bl s) 1 E1).1 := ⟨_, rfl⟩
        obtain ⟨Q, hQ⟩ : ∃ Q, Q = (varsF (bl s) 1 E1).2 := ⟨_, rfl⟩
        rw [← hL, ← hQ] at HV2
        rw [← hQ] at hq
        clear hL hQ
        have hd : decide (Q < 0) = true := decide_eq_true hq
        go_wp2_with fail
        refine (HV1.out _).mono ?_
        rintro e w2 ⟨v, rfl, ho, hb2⟩
        obtain ⟨g, cap, tl, rfl, hgb, hglt, hW⟩ := ho.words (by simp)
        have c0 : w2.cell? ⟨g, 0, none⟩ = some (.int .i64 (x : Int)) := hW.cell 0 (by simp)
        have HB2 := hide (HB.out.trans (hb2.mono HB.out.size))
        clear hb2 ho hW
        go_wp2_with fail
        refine (HT1.out _).mono ?_
        rintro e w3 ⟨rfl, hb3⟩
        have HB3' := hide (HB2.out.trans (hb3.mono HB2.out.size))
        clear hb3
        go_wp2_with fail
        refine (HV2.out _).mono ?_
        rintro e w4 ⟨v4, rfl, ho4, hb4⟩
        have HB4' := hide (HB3'.out.trans (hb4.mono HB3'.out.size))
        have hs4 := HB4'.out.size
        clear hb4 ho4
        go_wp2_with fail
        go_ret2
        exact ReadKPost.no HN1.out _ (litEn _ _ hs4) (HB4'.out.alloc hs4 _)
      have hgy := vars1_ge he2
      rw [he2] at HV2
      have HHE2 := hide he2
      clear he2
      rw [bl_len] at hql2
      have hkbl : p1 + kb.length ≤ q3 := by
        rcases Int.lt_or_le E1 0 with h0 | h0
        · exfalso
          rw [varsF_out _ 0 E1 (.inl h0)] at HHE2
          have := HHE2.out
          simp at this
        · obtain ⟨q1, rfl⟩ : ∃ q1 : Nat, E1 = q1 := ⟨E1.toNat, by omega⟩
          have := (HGE1.out q1 rfl).1
          omega
      clear HGE1 HNG1
      by_cases hend : s.size ≤ q3
      · have HN1 := hide (HB4.out y q3 HHE2.out (by rw [bl_len]; exact hend))
        have hd : decide ((s.size : Int) ≤ (q3 : Int)) = true := decide_eq_true (by omega)
        go_wp2_with fail
        refine (HV1.out _).mono ?_
        rintro e w2 ⟨v, rfl, ho, hb2⟩
        obtain ⟨g, cap, tl, rfl, hgb, hglt, hW⟩ := ho.words (by simp)
        have c0 : w2.cell? ⟨g, 0, none⟩ = some (.int .i64 (x : Int)) := hW.cell 0 (by simp)
        have HB2 := hide (HB.out.trans (hb2.mono HB.out.size))
        clear hb2 ho hW
        go_wp2_with fail
        refine (HT1.out _).mono ?_
        rintro e w3 ⟨rfl, hb3⟩
        have HB3' := hide (HB2.out.trans (hb3.mono HB2.out.size))
        clear hb3
        go_wp2_with fail
        refine (HV2.out _).mono ?_
        rintro e w4 ⟨v4, rfl, ho4, hb4⟩
        have HB4' := hide (HB3'.out.trans (hb4.mono HB3'.out.size))
        have hs4 := HB4'.out.size
        clear hb4 ho4
        go_wp2_with fail
        go_ret2
        exact ReadKPost.no HN1.out _ (litEn _ _ hs4) (HB4'.out.alloc hs4 _)
      have hq3 : q3 < s.size := by omega
      have hd1 : decide ((s.size : Int) ≤ (q3 : Int)) = false := decide_eq_false (by omega)
      have hbyte := byte_one hq3
      obtain ⟨d, hdd⟩ : ∃ d, d = decide ((bl s)[q3]? = some 1) := ⟨_, rfl⟩
      rw [← hdd] at hbyte
      have HT3 := hide (fun W => l6Take_any s hm' ((q3 + 1 : Nat) : Int) W)
      have HGE3 := hide (fun (q : Nat) (h : takeE (bl s) ((q3 + 1 : Nat) : Int) = (q : Int)) => takeE_ge h)
      have HB5' := hide (fun hn => HB5.out y q3 HHE2.out hn)
      have HST' := hide (fun q4 hn => HST.out y q3 q4 HHE2.out hn d hdd)
      obtain ⟨vb, hvb⟩ : ∃ vb, vb = takeB (bl s) ((q3 + 1 : Nat) : Int) := ⟨_, rfl⟩
      obtain ⟨E4, hE4⟩ : ∃ E4, E4 = takeE (bl s) ((q3 + 1 : Nat) : Int) := ⟨_, rfl⟩
      rw [← hvb, ← hE4] at HT3 HGE3
      rw [← hvb, ← hE4] at HST'
      rw [← hE4] at HB5'
      clear hvb hE4 HB3 HB4 HB5 HST hdd
      by_cases hE0 : E4 < 0
      · have HN1 := hide (HB5'.out hE0)
        have hd : decide (E4 < 0) = true := decide_eq_true hE0
        go_wp2_with fail
        refine (HV1.out _).mono ?_
        rintro e w2 ⟨v, rfl, ho, hb2⟩
        obtain ⟨g, cap, tl, rfl, hgb, hglt, hW⟩ := ho.words (by simp)
        have c0 : w2.cell? ⟨g, 0, none⟩ = some (.int .i64 (x : Int)) := hW.cell 0 (by simp)
        have HB2 := hide (HB.out.trans (hb2.mono HB.out.size))
        clear hb2 ho hW
        go_wp2_with fail
        refine (HT1.out _).mono ?_
        rintro e w3 ⟨rfl, hb3⟩
        have HB3' := hide (HB2.out.trans (hb3.mono HB2.out.size))
        clear hb3
        go_wp2_with fail
        refine (HV2.out _).mono ?_
        rintro e w4 ⟨v4, rfl, ho4, hb4⟩
        have HB4' := hide (HB3'.out.trans (hb4.mono HB3'.out.size))
        clear hb4 ho4
        go_wp2_with fail
        refine (HT3.out _).mono ?_
        rintro e w5 ⟨rfl, hb5⟩
        have HB5b := hide (HB4'.out.trans (hb5.mono HB4'.out.size))
        have hs5 := HB5b.out.size
        clear hb5
        go_wp2_with fail
        go_ret2
        exact ReadKPost.no HN1.out _ (litEn _ _ hs5) (HB5b.out.alloc hs5 _)
      obtain ⟨q4, rfl⟩ : ∃ q4 : Nat, E4 = q4 := ⟨E4.toNat, by omega⟩
      have hge4 := HGE3.out q4 rfl
      rw [bl_len] at hge4
      have HR1 := hide (HST'.out q4 rfl)
      obtain ⟨K, hK⟩ : ∃ K, K = (bl k).take x := ⟨_, rfl⟩
      have hKl : K.length ≤ k.size := by rw [hK, List.length_take, bl_len]; omega
      have hexk : k.extract 0 x = ⟨K.toArray⟩ := by rw [hK]; exact take_str
      obtain ⟨N, hN⟩ : ∃ N : ByteArray, N = ⟨(K ++ kb).toArray⟩ := ⟨_, rfl⟩
      have ha := run_cat K kb (by omega)
      rw [← hN] at ha
      have hNl : N.size ≤ q4 := by rw [hN, size_of, List.length_append]; omega
      have HR2 := hide (show RdAt (bl s) (j + 1) (pre ++ [((N, (y : Int), d, ⟨vb.toArray⟩) : En)]) (bl N) q4 by
        have := HR1.out
        rw [← hK] at this
        rw [hN, bl_of (K ++ kb)]
        exact this)
      have ix : (x : Int) ≤ (k.size : Int) := by omega
      have hq4s : q4 ≤ s.size := by omega
      clear HGE3 HB5' HST' hge4 HR1 hK hN hkbl hE0
      have hE4d : decide ((q4 : Int) < 0) = false := decide_eq_false (by omega)
      go_wp2_with fail
      refine (HV1.out _).mono ?_
      rintro e w2 ⟨v, rfl, ho, hb2⟩
      obtain ⟨g, cap, tl, rfl, hgb, hglt, hW⟩ := ho.words (by simp)
      have c0 : w2.cell? ⟨g, 0, none⟩ = some (.int .i64 (x : Int)) := hW.cell 0 (by simp)
      have HB2 := hide (HB.out.trans (hb2.mono HB.out.size))
      have HO2 := hide (HO.out.below hb2 (Nat.le_refl _))
      clear hb2 ho hW
      go_wp2_with fail
      refine (HT1.out _).mono ?_
      rintro e w3 ⟨rfl, hb3⟩
      have c0' : w3.cell? ⟨g, 0, none⟩ = some (.int .i64 (x : Int)) := (hb3.cell (p := ⟨g, 0, none⟩) hglt).trans c0
      have hgl3 := Nat.lt_of_lt_of_le hglt hb3.size
      have HB3' := hide (HB2.out.trans (hb3.mono HB2.out.size))
      have HO3 := hide (HO2.out.below hb3 (Nat.le_refl _))
      clear hb3 c0
      go_wp2_with fail
      refine (HV2.out _).mono ?_
      rintro e w4 ⟨v4, rfl, ho4, hb4⟩
      obtain ⟨g4, cap4, tl4, rfl, hgb4, hglt4, hW4⟩ := ho4.words (by simp)
      have d0 : w4.cell? ⟨g4, 0, none⟩ = some (.int .i64 (y : Int)) := hW4.cell 0 (by simp)
      have c1 : w4.cell? ⟨g, 0, none⟩ = some (.int .i64 (x : Int)) := (hb4.cell (p := ⟨g, 0, none⟩) hgl3).trans c0'
      have hgl4 := Nat.lt_of_lt_of_le hgl3 hb4.size
      have HB4' := hide (HB3'.out.trans (hb4.mono HB3'.out.size))
      have HO4 := hide (HO3.out.below hb4 (Nat.le_refl _))
      clear hb4 ho4 hW4 c0'
      go_wp2_with fail
      refine (HT3.out _).mono ?_
      rintro e w5 ⟨rfl, hb5⟩
      have d1 : w5.cell? ⟨g4, 0, none⟩ = some (.int .i64 (y : Int)) := (hb5.cell (p := ⟨g4, 0, none⟩) hglt4).trans d0
      have c2 : w5.cell? ⟨g, 0, none⟩ = some (.int .i64 (x : Int)) := (hb5.cell (p := ⟨g, 0, none⟩) hgl4).trans c1
      have HB5b := hide (HB4'.out.trans (hb5.mono HB4'.out.size))
      have HO5 := hide (HO4.out.below hb5 (Nat.le_refl _))
      clear hb5 d0 c1
      have HOa := hide (HO5.out.alloc (.cells #[.string N, .int .i64 (y : Int), .bool d, .string ⟨vb.toArray⟩] 30))
      have HSa : Hid (elEnt.Rd (w5.alloc (.cells #[.string N, .int .i64 (y : Int), .bool d, .string ⟨vb.toArray⟩] 30)) (w5.alloc (.cells #[.string N, .int .i64 (y : Int), .bool d, .string ⟨vb.toArray⟩] 30)).heap.size (some ⟨w5.heap.size, 0, none⟩) [(N, (y : Int), d, ⟨vb.toArray⟩)]) := El.Holds.rd (El.Holds.new (e := elEnt) w5 [(N, (y : Int), d, ⟨vb.toArray⟩)])
      have HBa := hide (HB5b.out.alloc HB5b.out.size (.cells #[.string N, .int .i64 (y : Int), .bool d, .string ⟨vb.toArray⟩] 30))
      have hBa : w.heap.size ≤ (w5.alloc (.cells #[.string N, .int .i64 (y : Int), .bool d, .string ⟨vb.toArray⟩] 30)).heap.size := HBa.out.size
      have hjl : (pre ++ [((N, (y : Int), d, ⟨vb.toArray⟩) : En)]).length = j + 1 := by rw [List.length_append, hpre]; rfl
      go_wp2_with (at_builtin; refine El.append rfl (.tmp 103) (.tmp 111) 33 rfl Tryz.underlying33 _ _ infoEnt rfl (by decide) (by decide) w.heap.size w _ _ (some ⟨w5.heap.size, 0, none⟩) 1 1 pre [(N, (y : Int), d, ⟨vb.toArray⟩)] rfl rfl rfl (fun h => by cases h) HOa HSa (fun p hp => ⟨_, _, (Option.some.inj hp).symm⟩) HBa hBa _ (j + 1) rfl hjl (by omega) ?_; intro a6 c6 w6 HO6 HB6 HG6 hz6)
      go_wp2_with fail
      go_roundw
      case rel => exact ⟨j + 1, q4, N, a6, c6, _, rfl, rfl, rfl, by omega, hq4s, hNl, hjl, HR2, HO6, HB6⟩
      case measure => simp [lenV]; omega
    · have HEN := hide (fun hn => HR.out.end_no (by rw [HE.out, HSL.out, HM2.out]; intro h; exact hgo ⟨h.1, by omega, h.2.2⟩) hn)
      rw [decide_eq_false hgo]
      clear hgo
      by_cases h0 : j = 0
      · subst h0
        have HN1 := hide (HEN.out (.inl (List.eq_nil_of_length_eq_zero hpre)))
        go_wp2_with fail
        go_ret2
        exact ReadKPost.no HN1.out _ (litEn _ _ hs) (HB.out.alloc hs _)
      · have hj0 : ((j : Int) == 0) = false := by rw [beq_eq_false_iff_ne]; omega
        obtain ⟨a6, c6, he6, hrd, _⟩ := HO.out.form
        have HRD := hide hrd
        rw [hpre] at he6
        have HSH := hide (fun W b c (h : elEnt.Rd W W.heap.size b pre) => sShowBlock_any b c pre W h (by rw [hpre]; omega))
        rw [hpre] at HSH
        have HYE := hide (fun hs => RdAt.end_yes (pre := pre) HNE.out hs)
        obtain ⟨VS, hVS⟩ : ∃ VS, VS = showK pre := ⟨_, rfl⟩
        rw [← hVS] at HSH HEN HYE
        injection he6 with e6 e7 e8
        clear e7
        subst e6
        subst e8
        clear hrd hVS
        by_cases hsh : VS = bl s
        · have HN2 := hide (HYE.out hsh)
          have hbe : (!(VS == s.toList)) = false := by rw [Bool.not_eq_false', beq_iff_eq, ByteArray.toList_eq]; exact hsh
          clear hsh HEN HYE
          go_wp2_with fail
          refine (HSH.out _ _ _ HRD.out).mono ?_
          rintro e w2 ⟨rfl, hb2⟩
          have HB2 := hide (HB.out.trans (hb2.mono HB.out.size))
          have HO2 := hide (HO.out.below hb2 (Nat.le_refl _))
          clear hb2
          go_wp2_with fail
          go_ret2
          exact ⟨_, by rw [HN2.out.2]; rfl, by rw [HN2.out.1]; exact HO2.out, HB2.out⟩
        · have HN1 := hide (HEN.out (.inr hsh))
          have hbe : (!(VS == s.toList)) = true := by rw [ne_str hsh]; rfl
          clear hsh HEN HYE
          go_wp2_with fail
          refine (HSH.out _ _ _ HRD.out).mono ?_
          rintro e w2 ⟨rfl, hb2⟩
          have HB2 := hide (HB.out.trans (hb2.mono HB.out.size))
          have hs2 := HB2.out.size
          clear hb2
          go_wp2_with fail
          go_ret2
          exact ReadKPost.no HN1.out _ (litEn _ _ hs2) (HB2.out.alloc hs2 _)
end Go.Proofs.YtdlkgpobjacgeaaGreatDoor
