/-
  Texts of this proof, put together: ShowO.
-/
import Derived.Test.YtmdhihgfnlnbnaaPackAP
import Derived.Test.YtmdhihgfnlnbnaaPackAK
import Derived.Test.YtmdhihgfnlnbnaaPackAG
import Derived.Test.YtmdhihgfnlnbnaaPackAJ
import Derived.Deep.RegionHeld3

/-
  Contracts of impl.writeOp, ShowBatch and of spec.ShowBatch.
-/
namespace Go.Proofs.Ytmdhihgfnlnbnaa
open Go.ChangeShapes Go.WideShapes Go.ChangeAt Go.RowKit

theorem opL_len {k v : ByteArray} {d : Bool} (h : opOk (k, d, v)) : (opL (k, d, v)).length ≤ 50 := by
  have h1 := piece_len (s := k) (by have : k.size ≤ 10 := h.2.1; omega)
  have h2 := piece_len (s := v) (by have : v.size ≤ 16 := h.2.2.1; omega)
  have h3 : k.size ≤ 10 := h.2.1
  have h4 : v.size ≤ 16 := h.2.2.1
  unfold opL
  split
  · simp only [List.length_cons]; omega
  · simp only [List.length_cons, List.length_append]; omega

theorem box3_cells {w w' : World} {v0 v1 v2 : Value} {T : TypeId} (h : Below (w.heap.size + 1) (w.alloc (.cells #[v0, v1, v2] T)) w') :
    w'.cell? ⟨w.heap.size, 0, none⟩ = some v0 ∧ w'.cell? ⟨w.heap.size, 1, none⟩ = some v1 ∧ w'.cell? ⟨w.heap.size, 2, none⟩ = some v2 := by
  have hh := BoxV.new T w #[v0, v1, v2]
  exact ⟨(h.cell (p := ⟨w.heap.size, 0, none⟩) (by simp)).trans (hh.cell 0 v0 rfl), (h.cell (p := ⟨w.heap.size, 1, none⟩) (by simp)).trans (hh.cell 1 v1 rfl), (h.cell (p := ⟨w.heap.size, 2, none⟩) (by simp)).trans (hh.cell 2 v2 rfl)⟩

set_option maxHeartbeats 1000000 in
theorem writeOp_any (k : ByteArray) (d : Bool) (v : ByteArray) (ho : opOk (k, d, v)) (w : World) :
    Calls Try.prog 45 #[.agg #[.string k, .bool d, .string v]] w (StrPost w (opL (k, d, v))) := by
  have hk1 : k.size ≤ 10 := ho.2.1
  have hv1 : v.size ≤ 16 := ho.2.2.1
  have HK := hide (fun W => sizedText_any k (by omega) W)
  have HVV := hide (fun W => sizedText_any v (by omega) W)
  have HMK := hide (fun W => markOf_any d W)
  have l1 := piece_len (s := k) (by omega)
  have l2 := piece_len (s := v) (by omega)
  obtain ⟨V, hV⟩ : ∃ V, V = opL (k, d, v) := ⟨_, rfl⟩
  have HV := hide hV
  rw [← hV]
  unfold opL at HV
  obtain ⟨PK, hPK⟩ : ∃ PK, PK = pieceL (bl k) := ⟨_, rfl⟩
  obtain ⟨PV, hPV⟩ : ∃ PV, PV = pieceL (bl v) := ⟨_, rfl⟩
  simp only [← hPK, ← hPV] at HK HVV HV l1 l2
  obtain ⟨MK, hMK⟩ : ∃ MK, MK = mkB d := ⟨_, rfl⟩
  have lM : MK.length ≤ 1 := by rw [hMK]; cases d <;> decide
  rw [← hMK] at HMK
  obtain ⟨A1, hA1⟩ : ∃ A1, A1 = MK ++ PK := ⟨_, rfl⟩
  have lA : A1.length ≤ 100 := by rw [hA1, List.length_append]; omega
  have ha := run_cat MK PK (by omega)
  rw [← hA1] at ha
  have ha2 := run_cat A1 PV (by omega)
  have HA := hide (show A1 = mkB d ++ PK by rw [hA1, hMK])
  clear hPK hPV hV ho hMK hA1 l1 l2 hk1 hv1
  have HD := hide (fun (w' : World) (h : Below (w.heap.size + 1) (w.alloc (.cells #[.string k, .bool d, .string v] 62)) w') => box3_cells h)
  have HB0 := hide ((Below.refl _ w).alloc (Nat.le_refl _) (.cells #[.string k, .bool d, .string v] 62))
  go_enter Try.func45, Try.ntmps45
  go_wp2_with fail
  go_region_held3 (fun w' => w'.cell? ⟨w.heap.size, 0, none⟩ = some (.string k) ∧ w'.cell? ⟨w.heap.size, 1, none⟩ = some (.bool d) ∧ w'.cell? ⟨w.heap.size, 2, none⟩ = some (.string v))
    (first
      | with_reducible exact HD.out _ (Below.refl _ _)
      | with_reducible exact HD.out _ (Below.refl _ _).drew
      | with_reducible exact HD.out _ HW2.out)
    (first
      | (go_at_call 77
         refine (HMK.out _).mono ?_
         rintro e w3 ⟨rfl, rfl⟩)
      | (go_at_call 78
         refine (HK.out _).mono ?_
         rintro e w2 ⟨rfl, hb2⟩
         have HW2 : Hid (Below (w.heap.size + 1) (w.alloc (.cells #[.string k, .bool d, .string v] 62)) w2) := by
           have h := below_of_drew' hb2
           rw [Go.Deep.nblk_alloc] at h
           exact h
         clear hb2))
  all_goals
    obtain ⟨y0, y1, y2⟩ := HD.out _ HW2.out
    have HB2 := hide (HB0.out.trans (HW2.out.mono (by omega)))
    cases d with
    | true =>
      have HV1 := hide (show V = A1 by rw [HV.out, HA.out]; rfl)
      go_wp2_with fail
      go_ret
      exact ⟨by rw [HV1.out]; rfl, HB2.out⟩
    | false =>
      have HV1 := hide (show V = A1 ++ PV by rw [HV.out, HA.out]; rfl)
      go_wp2_with fail
      refine (HVV.out _).mono ?_
      rintro e w3 ⟨rfl, hb3⟩
      have HB3 := hide (HB2.out.trans (hb3.mono HB2.out.size))
      clear hb3
      go_wp2_with fail
      go_ret
      exact ⟨by rw [HV1.out]; rfl, HB3.out⟩

theorem opsL_next {L : List Opn} {j : Nat} {x : Opn} (h : L[j]? = some x) : opsL (L.take (j + 1)) = opsL (L.take j) ++ opL x := by
  rw [List.take_add_one, h, opsL_append]
  simp [opsL]

set_option maxHeartbeats 1000000 in
theorem iShow_any (a : Option Addr) (cap : Nat) (L : List Opn) (w : World) (hr : elOp.Rd w w.heap.size a L) (hl : L.length ≤ 2097152) :
    Calls Try.prog 17 #[.slice a L.length cap] w (StrPost w (showL L)) := by
  have HR := hide hr
  clear hr
  obtain ⟨V, hV⟩ : ∃ V, V = showL L := ⟨_, rfl⟩
  have HV := hide hV
  rw [← hV]
  have HL := hide hl
  have HC := hide (fun W hr => iBatchOk_any a cap L W hr HL.out)
  obtain ⟨n, hn⟩ : ∃ n, n = L.length := ⟨_, rfl⟩
  have HN := hide hn
  rw [← hn] at hl HC
  rw [← hn]
  clear hn hV
  by_cases hm : batOk L
  · have HK := hide hm.2.2
    have hn6 : n ≤ 6 := by rw [HN.out]; exact hm.2.1
    have HT := hide (fun W => iVar_any (n : Int) W)
    obtain ⟨VT, hT⟩ : ∃ VT, VT = varV (n : Int) := ⟨_, rfl⟩
    have hv := varV_len' (n : Int)
    have HV1 := hide (show V = VT ++ opsL L by
      rw [HV.out, showL_yes hm, hT, varV, if_pos (by omega), ← HN.out]
      rfl)
    rw [← hT] at HT hv
    clear hT hl
    go_enter Try.func17, Try.ntmps17
    go_wp2_with fail
    refine (HC.out _ HR.out).mono ?_
    rintro e w1 ⟨rfl, hb1⟩
    rw [decide_eq_true hm]
    have HB0 := hide hb1
    clear hb1 hm
    go_wp2_with fail
    refine (HT.out _).mono ?_
    rintro e w2 ⟨rfl, hb2⟩
    have HB1 := hide (HB0.out.trans (hb2.mono HB0.out.size))
    clear hb2
    go_wp2_with fail
    go_loopw [3, 14] (fun t i wr => ∃ (X : List UInt8) (j : Nat), t = .string ⟨X.toArray⟩ ∧ i = .int .i64 j ∧ j ≤ n ∧ X.length ≤ 7 + 50 * j ∧ Hid (X = VT ++ opsL (L.take j)) ∧ Hid (Below w.heap.size w wr)) (fun _ i _ => n - (intOf i).toNat)
    case atStart => exact ⟨VT, 0, rfl, rfl, by omega, by omega, by simp [Hid, opsL], HB1⟩
    case round =>
      obtain ⟨X, j, rfl, rfl, hj, hx50, HX0, HB⟩ := hrel
      by_cases hlt : j < n
      · have hjL : j < L.length := by rw [← HN.out]; exact hlt
        obtain ⟨b, off, rfl, hb, hcell⟩ := HR.out (by omega)
        obtain ⟨f0, f1, f2, hx⟩ := partsOp L[j]
        obtain ⟨c0, c1, c2⟩ := cellsOp hx (hcell j hjL)
        have d0 := (HB.out.cell (p := ⟨b, off + j * 3, none⟩) hb).trans c0
        have d1 := (HB.out.cell (p := ⟨b, off + j * 3 + 1, none⟩) hb).trans c1
        have d2 := (HB.out.cell (p := ⟨b, off + j * 3 + 2, none⟩) hb).trans c2
        have HX := hide (show L[j]? = some (f0, f1, f2) by rw [List.getElem?_eq_getElem hjL, hx])
        have ho := HK.out _ (List.mem_of_getElem? HX.out)
        have hs := HB.out.size
        have HW := hide (fun W => writeOp_any f0 f1 f2 ho W)
        have h50 := opL_len ho
        obtain ⟨O, hO⟩ : ∃ O, O = opL (f0, f1, f2) := ⟨_, rfl⟩
        have HX1 := hide (show X ++ O = VT ++ opsL (L.take (j + 1)) by rw [opsL_next HX.out, HX0.out, hO, List.append_assoc])
        rw [← hO] at HW h50
        have ha := run_cat X O (by omega)
        clear hcell c0 c1 c2 hx hjL ho hO
        go_wp2_with fail
        refine (HW.out _).mono ?_
        rintro e w3 ⟨rfl, hb3⟩
        have HB3 := hide ((HB.out.alloc hs _).trans (hb3.mono (by simp <;> omega)))
        clear hb3 HB d0 d1 d2
        go_wp2_with fail
        go_roundw
        case rel => exact ⟨X ++ O, j + 1, rfl, by go_num, by omega, by rw [List.length_append]; omega, HX1, HB3⟩
        case measure => simp [intOf]; omega
      · have HV2 := hide (show V = X by rw [HV1.out, HX0.out, List.take_of_length_le (by rw [← HN.out]; omega)])
        go_wp2_with fail
        go_ret
        exact ⟨by rw [HV2.out]; rfl, HB.out⟩
  · have HV1 := hide (HV.out.trans (showL_no hm))
    go_enter Try.func17, Try.ntmps17
    go_wp2_with fail
    refine (HC.out _ HR.out).mono ?_
    rintro e w1 ⟨rfl, hb1⟩
    rw [decide_eq_false hm]
    have HB0 := hide hb1
    clear hb1 hm
    go_wp2_with fail
    go_ret
    exact ⟨by rw [HV1.out]; rfl, HB0.out⟩

set_option maxHeartbeats 2000000 in
theorem sShow_any (a : Option Addr) (cap : Nat) (L : List Opn) (w : World) (hr : elOp.Rd w w.heap.size a L) (hl : L.length ≤ 2097152) :
    Calls Try.prog 23 #[.slice a L.length cap] w (StrPost w (showL L)) := by
  have HR := hide hr
  clear hr
  obtain ⟨V, hV⟩ : ∃ V, V = showL L := ⟨_, rfl⟩
  have HV := hide hV
  rw [← hV]
  have HL := hide hl
  have HC := hide (fun W hr => sBatchOk_any a cap L W hr HL.out)
  obtain ⟨n, hn⟩ : ∃ n, n = L.length := ⟨_, rfl⟩
  have HN := hide hn
  rw [← hn] at hl HC
  rw [← hn]
  clear hn hV
  by_cases hm : batOk L
  · have HK := hide hm.2.2
    have hn6 : n ≤ 6 := by rw [HN.out]; exact hm.2.1
    have HT := hide (fun W => sVar_any (n : Int) W)
    obtain ⟨VT, hT⟩ : ∃ VT, VT = varV (n : Int) := ⟨_, rfl⟩
    have hv := varV_len' (n : Int)
    have HV1 := hide (show V = VT ++ opsL L by
      rw [HV.out, showL_yes hm, hT, varV, if_pos (by omega), ← HN.out]
      rfl)
    rw [← hT] at HT hv
    clear hT hl
    go_enter Try.func23, Try.ntmps23
    go_wp2_with fail
    refine (HC.out _ HR.out).mono ?_
    rintro e w1 ⟨rfl, hb1⟩
    rw [decide_eq_true hm]
    have HB0 := hide hb1
    clear hb1 hm
    go_wp2_with fail
    refine (HT.out _).mono ?_
    rintro e w2 ⟨rfl, hb2⟩
    have HB1 := hide (HB0.out.trans (hb2.mono HB0.out.size))
    clear hb2
    go_wp2_with fail
    go_loopw [3, 4] (fun t i wr => ∃ (X : List UInt8) (j : Nat), t = .string ⟨X.toArray⟩ ∧ i = .int .i64 j ∧ j ≤ n ∧ X.length ≤ 7 + 50 * j ∧ Hid (X = VT ++ opsL (L.take j)) ∧ Hid (Below w.heap.size w wr)) (fun _ i _ => n - (intOf i).toNat)
    case atStart => exact ⟨VT, 0, rfl, rfl, by omega, by omega, by simp [Hid, opsL], HB1⟩
    case round =>
      obtain ⟨X, j, rfl, rfl, hj, hx50, HX0, HB⟩ := hrel
      by_cases hlt : j < n
      · have hjL : j < L.length := by rw [← HN.out]; exact hlt
        obtain ⟨b, off, rfl, hb, hcell⟩ := HR.out (by omega)
        obtain ⟨f0, f1, f2, hx⟩ := partsOp L[j]
        obtain ⟨c0, c1, c2⟩ := cellsOp hx (hcell j hjL)
        have d0 := (HB.out.cell (p := ⟨b, off + j * 3, none⟩) hb).trans c0
        have d1 := (HB.out.cell (p := ⟨b, off + j * 3 + 1, none⟩) hb).trans c1
        have d2 := (HB.out.cell (p := ⟨b, off + j * 3 + 2, none⟩) hb).trans c2
        have HX := hide (show L[j]? = some (f0, f1, f2) by rw [List.getElem?_eq_getElem hjL, hx])
        have ho := HK.out _ (List.mem_of_getElem? HX.out)
        have hs := HB.out.size
        have hk1 : f0.size ≤ 10 := ho.2.1
        have hv1 : f2.size ≤ 16 := ho.2.2.1
        have HPK := hide (fun W => l6Piece_any f0 (by omega) W)
        have HPV := hide (fun W => l6Piece_any f2 (by omega) W)
        have l1 := piece_len (s := f0) (by omega)
        have l2 := piece_len (s := f2) (by omega)
        have h50 := opL_len ho
        obtain ⟨O, hO⟩ : ∃ O, O = opL (f0, f1, f2) := ⟨_, rfl⟩
        have HX1 := hide (show X ++ O = VT ++ opsL (L.take (j + 1)) by rw [opsL_next HX.out, HX0.out, hO, List.append_assoc])
        rw [← hO] at h50
        unfold opL at hO
        obtain ⟨PK, hPK⟩ : ∃ PK, PK = pieceL (bl f0) := ⟨_, rfl⟩
        obtain ⟨PV, hPV⟩ : ∃ PV, PV = pieceL (bl f2) := ⟨_, rfl⟩
        simp only [← hPK, ← hPV] at HPK HPV hO l1 l2
        clear hcell c0 c1 c2 hx hjL ho hPK hPV
        cases f1 with
        | true =>
          have HO := hide (show O = [1] ++ PK from hO)
          have ha := run_cat X [1] (by simp only [List.length_cons, List.length_nil]; omega)
          have ha2 := run_cat (X ++ [1]) PK (by simp only [List.length_append, List.length_cons, List.length_nil]; omega)
          have HXO := hide (show X ++ [1] ++ PK = X ++ O by rw [HO.out, List.append_assoc])
          clear hO
          go_wp2_with fail
          refine (HPK.out _).mono ?_
          rintro e w3 ⟨rfl, hb3⟩
          have HB3 := hide (HB.out.trans (hb3.mono hs))
          clear hb3 HB d0 d1 d2
          go_wp2_with fail
          go_roundw
          case rel => exact ⟨X ++ O, j + 1, by rw [← HXO.out]; simp, by go_num, by omega, by rw [List.length_append]; omega, HX1, HB3⟩
          case measure => simp [intOf]; omega
        | false =>
          have HO := hide (show O = [0] ++ PK ++ PV from hO)
          have ha := run_cat X [0] (by simp only [List.length_cons, List.length_nil]; omega)
          have ha2 := run_cat (X ++ [0]) PK (by simp only [List.length_append, List.length_cons, List.length_nil]; omega)
          have ha3 := run_cat (X ++ 0 :: PK) PV (by simp only [List.length_append, List.length_cons]; omega)
          have HXO := hide (show X ++ [0] ++ PK ++ PV = X ++ O by rw [HO.out]; simp only [List.append_assoc])
          clear hO
          have HD := hide (show ∀ w' : World, Below w.heap.size wr w' → w'.cell? ⟨b, off + j * 3, none⟩ = some (.string f0) ∧ w'.cell? ⟨b, off + j * 3 + 2, none⟩ = some (.string f2) from fun w' h => ⟨(h.cell (p := ⟨b, off + j * 3, none⟩) hb).trans d0, (h.cell (p := ⟨b, off + j * 3 + 2, none⟩) hb).trans d2⟩)
          go_wp2_with fail
          go_region_held3 (fun w' => w'.cell? ⟨b, off + j * 3, none⟩ = some (.string f0) ∧ w'.cell? ⟨b, off + j * 3 + 2, none⟩ = some (.string f2))
            (first
              | with_reducible exact HD.out _ (Below.refl _ _)
              | with_reducible exact HD.out _ (Below.refl _ _).drew
              | with_reducible exact HD.out _ HW2.out
              | with_reducible exact HD.out _ HW3.out)
            (first
              | (have hq2 := HW2.out
                 clear hq2
                 go_at_call 54
                 refine (HPV.out _).mono ?_
                 rintro e w3 ⟨rfl, hb3⟩
                 have HW3 : Hid (Below w.heap.size wr w3) := HW2.out.trans (hb3.mono (Nat.le_trans hs HW2.out.size))
                 clear hb3)
              | (go_at_call 54
                 refine (HPK.out _).mono ?_
                 rintro e w2 ⟨rfl, hb2⟩
                 have HW2 : Hid (Below w.heap.size wr w2) := (below_of_drew' hb2).mono hs
                 clear hb2))
          all_goals go_wp2_with fail
          all_goals go_roundw
          all_goals first
            | (simp [intOf]; omega)
            | exact ⟨X ++ O, j + 1, by rw [← HXO.out]; simp, by go_num, by omega, by rw [List.length_append]; omega, HX1, HB.out.trans HW3.out⟩
      · have HV2 := hide (show V = X by rw [HV1.out, HX0.out, List.take_of_length_le (by rw [← HN.out]; omega)])
        go_wp2_with fail
        go_ret
        exact ⟨by rw [HV2.out]; rfl, HB.out⟩
  · have HV1 := hide (HV.out.trans (showL_no hm))
    go_enter Try.func23, Try.ntmps23
    go_wp2_with fail
    refine (HC.out _ HR.out).mono ?_
    rintro e w1 ⟨rfl, hb1⟩
    rw [decide_eq_false hm]
    have HB0 := hide hb1
    clear hb1 hm
    go_wp2_with fail
    go_ret
    exact ⟨by rw [HV1.out]; rfl, HB0.out⟩
end Go.Proofs.Ytmdhihgfnlnbnaa
