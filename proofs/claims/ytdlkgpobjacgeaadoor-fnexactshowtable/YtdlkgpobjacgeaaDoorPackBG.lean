/-
  Texts of this proof, put together: TabA, TabG.
-/
import Derived.Test.YtdlkgpobjacgeaaDoorPackBF
import Derived.Test.YtdlkgpobjacgeaaDoorPackBB
import Derived.Test.YtdlkgpobjacgeaaDoorPackAM
import Derived.Test.YtdlkgpobjacgeaaDoorPackAE
import Derived.Deep.DeepCutAuto
import Derived.Deep.QuietTactic
import Derived.BigQuiet

/-
  Contract of spec.TableOf.
-/
namespace Go.Proofs.YtdlkgpobjacgeaaDoor
open Go.ChangeShapes Go.WideShapes Go.ChangeAt Go.RowKit

theorem litPart0 (w : World) (B : Nat) : elPart.Owns B w (.slice none 0 0) [] := El.Owns.nil B w
theorem litStr0 (B : Nat) (w : World) (hB : B ≤ w.heap.size) : elStr.Owns B (w.alloc (.cells #[] 9)) (.slice (some ⟨w.heap.size, 0, none⟩) 0 0) [] := El.Owns.lit (e := elStr) B w [] #[] 0 rfl rfl hB (by simp [maxLen])
theorem src_str (wr : World) (s : ByteArray) : elStr.Src (wr.alloc (.cells #[.string s] 9)) (.slice (some ⟨wr.heap.size, 0, none⟩) 1 1) [s] := (El.Owns.lit (e := elStr) 0 wr [s] #[.string s] 1 rfl rfl (Nat.zero_le _) (by simp [maxLen])).src
theorem keyS_size {L : List En} (h : ∀ e ∈ L, entOk e) : ∀ x ∈ keyS L, x.size ≤ 1048576 := by
  intro x hx
  obtain ⟨e, he, rfl⟩ := List.mem_map.1 hx
  have := (entOk_bd (h e he)).1
  rw [bl_len] at this
  omega

set_option maxHeartbeats 4000000 in
set_option maxRecDepth 20000 in
theorem sTableOf_any (a : Option Addr) (cap : Nat) (L : List En) (w : World) (hr : elEnt.Rd w w.heap.size a L) (hl : L.length ≤ maxLen) (hcap : L.length ≤ cap) :
    Calls Tryd.prog 8 #[.slice a L.length cap] w (TabPost w (tblV L) (decide (tblOk L))) := by
  have HR := hide hr
  have HC := hide (fun W h => sMemOk_all a cap L W h hl)
  have hB := hide (fun o => (Below.refl w.heap.size w).alloc (Nat.le_refl _) o)
  have HX0 := hide (BoxV.new 26 w #[.slice none 0 0, .string ⟨#[]⟩, .int .i64 0])
  obtain ⟨n, hn⟩ : ∃ n, n = L.length := ⟨_, rfl⟩
  have HN := hide hn
  rw [← hn] at HC hcap hl ⊢
  unfold maxLen at hl
  clear hr
  by_cases h0 : n = 0
  · have HV1 := hide (show tblV L = zeroT ∧ decide (tblOk L) = false from by
      have h : ¬ tblOk L := fun h => h.1 (List.eq_nil_of_length_eq_zero (by omega))
      exact ⟨tblV_no h, decide_eq_false h⟩)
    have hq : ((n : Int) == 0) = true := by rw [beq_iff_eq]; omega
    clear hn h0
    obtain ⟨y0, y1, y2⟩ := HX0.out.froz3
    obtain ⟨d0, d1, d2⟩ := HX0.out.three
    go_enter Tryd.func8, Tryd.ntmps8
    go_wp2_with fail
    refine bodyPost_ret (res_tab rfl _ _ w.heap.size rfl HX0.out) rfl ?_
    exact ⟨_, by rw [HV1.out.1, HV1.out.2]; rfl, by rw [HV1.out.1]; exact El.Owns.nil _ _, hB.out _⟩
  have hq : ((n : Int) == 0) = false := by rw [beq_eq_false_iff_ne]; omega
  by_cases hm : memOkL L
  · have hok : tblOk L := ⟨fun h => h0 (by rw [hn, h]; rfl), hm⟩
    have HV1 := hide (show tblV L = (partsL L, ⟨(bloomV (keysL L) 16).toArray⟩, maxL L) ∧ decide (tblOk L) = true from ⟨by rw [tblV_yes hok, tblOf], decide_eq_true hok⟩)
    have HE := hide hm.2.1
    have hn60 : n ≤ 60 := by rw [hn]; exact hm.1
    rw [decide_eq_true hm] at HC
    have HSH := hide (fun W a' c' p q h => sShowBlock_any a' c' ((L.drop p).take q) W h (by rw [List.length_take, List.length_drop]; omega))
    have HBL := hide (fun W b' c' h => sBloom_any b' c' (keyS L) 16 W h (by rw [keyS_len]; unfold maxLen; omega) (keyS_size hm.2.1))
    rw [keyS_bl, keyS_len, ← hn] at HBL
    have HST := hide (fun j x (h : L[j]? = some x) k => chunks_step h k)
    have HALL := hide (chunks_all L)
    have HMX := hide (max_take hm.2.1)
    rw [← hn] at HST HALL
    clear hn hm hok hl
    go_enter Tryd.func8, Tryd.ntmps8
    go_wp2_with fail
    refine (HC.out _ ((HR.out.below (hB.out _) (Nat.le_refl _)).mono (by simp))).mono ?_
    rintro e w1 ⟨rfl, hb1⟩
    have HB1 := hide ((hB.out _).trans (hb1.mono (hB.out _).size))
    have HX1 := hide (HX0.out.below hb1 HX0.out.lt)
    have hx1 := HX1.out.lt
    clear hb1 HX0 HC
    have HX2 := hide ((HX1.out.alloc (.cells #[.slice none 0 0, .string ⟨#[]⟩, .int .i64 0] 26)).alloc (.cells #[] 9))
    have HB2 := hide ((HB1.out.alloc HB1.out.size (.cells #[.slice none 0 0, .string ⟨#[]⟩, .int .i64 0] 26)).alloc (by have := HB1.out.size; simp; omega) (.cells #[] 9))
    have HT2 := hide ((BoxV.new 26 w1 #[.slice none 0 0, .string ⟨#[]⟩, .int .i64 0]).alloc (.cells #[] 9))
    have HK2 := hide (show elStr.Owns (w1.heap.size + 1) ((w1.alloc (.cells #[.slice none 0 0, .string ⟨#[]⟩, .int .i64 0] 26)).alloc (.cells #[] 9)) (.slice (some ⟨w1.heap.size + 1, 0, none⟩) 0 0) (keyS (L.take 0)) from by
      have h := litStr0 (w1.heap.size + 1) (w1.alloc (.cells #[.slice none 0 0, .string ⟨#[]⟩, .int .i64 0] 26)) (by simp)
      rw [Go.Deep.nblk_alloc] at h
      exact h)
    go_wp2_with fail
    go_loopw [5, 6] (fun k i wr => ∃ (j p : Nat) (m : Int) (aK aP : Option Addr) (cK cP : Nat), i = .int .i64 j ∧ k = .slice aK j cK ∧ j ≤ n ∧ p ≤ 60 ∧ 0 ≤ m ∧ m ≤ 1000000 ∧ Hid (m = maxL (L.take j)) ∧ Hid (p = cntP n j) ∧ Hid (elStr.Owns (w1.heap.size + 1) wr (.slice aK j cK) (keyS (L.take j))) ∧ Hid (elPart.Owns (w1.heap.size + 1) wr (.slice aP p cP) (chunks L (cntP n j))) ∧
      Hid (BoxV 26 wr w1.heap.size #[.slice aP p cP, .string ⟨#[]⟩, .int .i64 m]) ∧ Hid (BoxV 26 wr w.heap.size #[.slice none 0 0, .string ⟨#[]⟩, .int .i64 0]) ∧ Hid (Below w.heap.size w wr)) (fun _ i _ => n - (intOf i).toNat)
    case atStart =>
      refine ⟨0, 0, 0, _, none, 0, 0, rfl, rfl, by omega, by omega, by omega, by omega, by simp [Hid, maxL], (cntP_zero (by omega)).symm, HK2, ?_, HT2, HX2, HB2⟩
      rw [cntP_zero (by omega)]
      exact El.Owns.nil _ _
    case round =>
      obtain ⟨j, p, m, aK, aP, cK, cP, rfl, rfl, hj, hp, hm0, hm1, HM, HPn, HK, HP, HT, HX, HB⟩ := hrel
      have hs := HB.out.size
      have hgl := HT.out.lt
      by_cases hlt : j < n
      · have hjL : j < L.length := by rw [← HN.out]; exact hlt
        obtain ⟨b, off, rfl, hb, hcell⟩ := HR.out (by omega)
        obtain ⟨f0, f1, f2, f3, hx⟩ := partsEnt L[j]
        obtain ⟨c0, c1, c2, c3⟩ := cellsEnt hx (hcell j hjL)
        have HD := hide (show ∀ w' : World, Below w.heap.size w w' → w'.cell? ⟨b, off + j * 4, none⟩ = some (.string f0) ∧ w'.cell? ⟨b, off + j * 4 + 1, none⟩ = some (.int .i64 f1) from fun w' h => ⟨(h.cell (p := ⟨b, off + j * 4, none⟩) hb).trans c0, (h.cell (p := ⟨b, off + j * 4 + 1, none⟩) hb).trans c1⟩)
        have HJ := hide (show L[j]? = some (f0, f1, f2, f3) by rw [List.getElem?_eq_getElem hjL, hx])
        have HRS := hide (fun W (h : Below w.heap.size w W) (q : Nat) (hq : j / 6 * 6 + q ≤ n) => ((HR.out.below h (Nat.le_refl _)).mono h.size).slice (j / 6 * 6) q (by rw [← HN.out]; exact hq))
        obtain ⟨hk0, hk1⟩ : f0.size ≤ 10 ∧ f1 ≤ 1000000 ∧ 0 ≤ f1 := by
          obtain ⟨h1, _, h3, h4⟩ := entOk_bd (HE.out _ (List.mem_of_getElem? HJ.out))
          rw [bl_len] at h1
          exact ⟨h1, h4, h3⟩
        have HMe := hide (show maxL (L.take (j + 1)) = if m < f1 then f1 else m by rw [max_step HJ.out, HM.out]; rfl)
        clear hcell c0 c1 c2 c3 hx hjL
        obtain ⟨d0, d1⟩ := HD.out wr HB.out
        -- the key
        have HKa := hide (HK.out.alloc (.cells #[.string f0] 9))
        have HSa := hide (src_str wr f0)
        have HBa := hide (HB.out.alloc hs (.cells #[.string f0] 9))
        have HPa := hide (HP.out.alloc (.cells #[.string f0] 9))
        have HTa := hide (HT.out.alloc (.cells #[.string f0] 9))
        have HXa := hide (HX.out.alloc (.cells #[.string f0] 9))
        have hka : w1.heap.size + 1 ≤ (wr.alloc (.cells #[.string f0] 9)).heap.size := by rw [Go.Deep.nblk_alloc]; omega
        have hkl : (keyS (L.take (j + 1))).length = j + 1 := by rw [keyS_len, List.length_take, ← HN.out]; omega
        have hbb := hide (Below.refl (w1.heap.size + 1) (wr.alloc (.cells #[.string f0] 9)))
        go_upto_region 9 with (at_builtin; refine El.appendSrc (e := elStr) rfl (.tmp 25) (.tmp 31) 51 rfl Tryd.underlying51 _ _ infoStr rfl (by decide) (by decide) (w1.heap.size + 1) (wr.alloc (.cells #[.string f0] 9)) _ _ _ _ [f0] rfl rfl HKa HSa hbb hka _ (j + 1) (keyS_step HJ.out).symm hkl (by omega) ?_; intro a5 c5 w5 HK5 HB5 hz5 HO5)
        have HP5 := hide (HPa.out.other HKa.out (by decide) HO5.out)
        have HT5 := hide (HTa.out.other HKa.out (by decide) HO5.out)
        have HX5 := hide (HXa.out.other HKa.out (by decide) HO5.out)
        have HW5 := hide (HBa.out.trans (HB5.out.mono (by omega)))
        clear HKa HSa HBa HPa HTa HXa hbb HB5 HO5 HK HP HT HX HB d0 d1
        obtain ⟨d0, d1⟩ := HD.out w5 HW5.out
        have hs5 := HW5.out.size
        have hg5 := HT5.out.lt
        obtain ⟨t0, t1, t2⟩ := HT5.out.three
        have z2 := HT5.out.frozen 2
        -- the greatest number
        go_quiet (fail)
        have HK5' := hide (ownsN HK5.out nq)
        have HP5' := hide (ownsN HP5.out nq)
        have HT5' := hide (boxN HT5.out nq)
        have HX5' := hide (boxN HX5.out nq)
        have HW5' := hide (belN HW5.out nq)
        obtain ⟨W5, hW5⟩ : ∃ W5, W5 = w5.drewN nq := ⟨_, rfl⟩
        rw [← hW5] at HK5' HP5' HT5' HX5' HW5' ⊢
        clear hW5 d0 d1 t0 t1 t2 z2 hs5 hg5
        obtain ⟨d0, d1⟩ := HD.out W5 HW5'.out
        obtain ⟨t0, t1, t2⟩ := HT5'.out.three
        have z2 := HT5'.out.frozen 2
        have hg5 := HT5'.out.lt
        go_upto_if 40 with (fail)
        go_cut [] from 40 to 46 (fun wc => ∃ m' : Int, m' = maxL (L.take (j + 1)) ∧ 0 ≤ m' ∧ m' ≤ 1000000 ∧ Hid (elStr.Owns (w1.heap.size + 1) wc (.slice a5 (j + 1) c5) (keyS (L.take (j + 1)))) ∧ Hid (elPart.Owns (w1.heap.size + 1) wc (.slice aP p cP) (chunks L (cntP n j))) ∧
          Hid (BoxV 26 wc w1.heap.size #[.slice aP p cP, .string ⟨#[]⟩, .int .i64 m']) ∧ Hid (BoxV 26 wc w.heap.size #[.slice none 0 0, .string ⟨#[]⟩, .int .i64 0]) ∧ Hid (Below w.heap.size w wc))
        case first =>
          by_cases hmf : m < f1
          · have HMy := hide (show f1 = maxL (L.take (j + 1)) by rw [HMe.out, if_pos hmf])
            have HK6 := hide (HK5'.out.set_other (p := ⟨w1.heap.size, 2, none⟩) (Nat.lt_succ_self _) (.int .i64 f1))
            have HP6 := hide (HP5'.out.set_other (p := ⟨w1.heap.size, 2, none⟩) (Nat.lt_succ_self _) (.int .i64 f1))
            have HT6 := hide (HT5'.out.set32 (.int .i64 f1))
            have HX6 := hide (HX5'.out.set_other (p := ⟨w1.heap.size, 2, none⟩) (by show w1.heap.size ≠ w.heap.size; omega) (.int .i64 f1))
            have HW6 := hide (HW5'.out.setCell (p := ⟨w1.heap.size, 2, none⟩) (by show w.heap.size ≤ w1.heap.size; omega) (.int .i64 f1))
            have hd := decide_eq_true hmf
            go_wp2_with fail
            go_meet
            exact ⟨f1, HMy.out, hk1.2, hk1.1, HK6, HP6, HT6, HX6, HW6⟩
          · have HMy := hide (show m = maxL (L.take (j + 1)) by rw [HMe.out, if_neg hmf])
            have hd := decide_eq_false hmf
            go_wp2_with fail
            go_meet
            exact ⟨m, HMy.out, hm0, hm1, HK5', HP5', HT5', HX5', HW5'⟩
        case rest =>
        obtain ⟨m', HMn, hm0', hm1', HK7, HP7, HT7, HX7, HW7⟩ := hcut
        have hgl7 := HT7.out.lt
        have hs7 := HW7.out.size
        have HMN := hide HMn
        clear HMn HMe HK5 HP5 HT5 HX5 HW5 HK5' HP5' HT5' HX5' HW5' d0 d1 t0 t1 t2 z2 hg5
        obtain ⟨d0, d1⟩ := HD.out wc HW7.out
        have hmod : (j : Int).tmod 6 = ((j % 6 : Nat) : Int) := by rw [Int.tmod_eq_emod_of_nonneg (by omega)]; omega
        have hsub : IntKind.i64.wrap ((n : Int) - 1) = ((n - 1 : Nat) : Int) := by rw [IntKind.wrap_i64]; omega
        obtain ⟨r6, hr6⟩ : ∃ r, r = j % 6 := ⟨_, rfl⟩
        obtain ⟨n1, hn1⟩ : ∃ r, r = n - 1 := ⟨_, rfl⟩
        rw [← hr6] at hmod
        rw [← hn1] at hsub
        have hr7 : r6 < 6 := by omega
        go_upto_region 11 with (fail)
        go_cut [56] from 47 to 56 (fun c wx => c = .bool (decide (j % 6 = 5 ∨ j + 1 = n)) ∧ wx = wc)
        case first =>
          by_cases h5 : r6 = 5
          · have hq6 : ((r6 : Int) == 5) = true := by rw [beq_iff_eq]; omega
            have hdec := hide (decide_eq_true (show j % 6 = 5 ∨ j + 1 = n by omega))
            clear hr6 hn1 h5
            go_wp2_with fail
            go_meet
            exact ⟨by rw [hdec.out], rfl⟩
          · have hq6 : ((r6 : Int) == 5) = false := by rw [beq_eq_false_iff_ne]; omega
            by_cases hl : j = n1
            · have hqn : ((j : Int) == (n1 : Int)) = true := by rw [beq_iff_eq]; omega
              have hdec := hide (decide_eq_true (show j % 6 = 5 ∨ j + 1 = n by omega))
              clear hr6 hn1 hl h5
              go_wp2_with fail
              go_meet
              exact ⟨by rw [hdec.out], rfl⟩
            · have hqn : ((j : Int) == (n1 : Int)) = false := by rw [beq_eq_false_iff_ne]; omega
              have hdec := hide (decide_eq_false (show ¬ (j % 6 = 5 ∨ j + 1 = n) by omega))
              clear hr6 hn1 hl h5
              go_wp2_with fail
              go_meet
              exact ⟨by rw [hdec.out], rfl⟩
        case rest =>
        obtain ⟨rfl, rfl⟩ := hcut
        by_cases hyes : j % 6 = 5 ∨ j + 1 = n
        · rw [decide_eq_true hyes]
          obtain ⟨q, hq1⟩ : ∃ q, q = j / 6 := ⟨_, rfl⟩
          obtain ⟨fr, hfr⟩ : ∃ fr, fr = j / 6 * 6 := ⟨_, rfl⟩
          have hdiv : (j : Int).tdiv 6 = (q : Int) := by rw [Int.tdiv_eq_ediv_of_nonneg (by omega)]; omega
          have hmul : IntKind.i64.wrap ((q : Int) * 6) = (fr : Int) := by rw [IntKind.wrap_i64]; omega
          have hadd : IntKind.i64.wrap ((j : Int) + 1) = ((j + 1 : Nat) : Int) := by rw [IntKind.wrap_i64]; omega
          have hmid : ∀ W : World, (Instr.slice 29 (.slice (some ⟨b, off, none⟩) n cap) (some (.int .i64 (fr : Int))) (some (.int .i64 ((j : Int) + 1))) none).run Tryd.prog W = .ok (.slice (some ⟨b, off + fr * 4, none⟩) (j + 1 - fr) (cap - fr)) W := fun W => by
            have h := runMidEnt b off n cap fr (j + 1) (by omega) (by omega) W
            rwa [show ((j + 1 : Nat) : Int) = (j : Int) + 1 by omega] at h
          have HCS := hide (HST.out j _ HJ.out hyes)
          have HSC := hide (fun W (h : Below w.heap.size w W) => HSH.out W (some ⟨b, off + fr * 4, none⟩) (cap - fr) fr (j + 1 - fr) (by have := HRS.out W h (j + 1 - fr) (by omega); rw [← hfr] at this; exact this))
          have hcl : ((L.drop fr).take (j + 1 - fr)).length = j + 1 - fr := by rw [List.length_take, List.length_drop, ← HN.out]; omega
          rw [hcl] at HSC
          rw [← hfr] at HCS
          obtain ⟨ST, hST⟩ : ∃ ST, ST = showK ((L.drop fr).take (j + 1 - fr)) := ⟨_, rfl⟩
          rw [← hST] at HSC HCS
          have hpl : (chunks L (cntP n (j + 1))).length = p + 1 := by rw [HCS.out, List.length_append, chunks_len, HPn.out]; rfl
          have HFR := hide hfr
          clear hr6 hn1 hyes hST hfr hq1 hdiv hmul hcl
          go_upto_region 12 with (fail)
          go_cut [7] from 57 to 59 (fun c wx => c = .int .i64 (fr : Int) ∧ wx = wc)
          case first =>
            go_wp2_with fail
            go_meet
            exact ⟨by rw [show (fr : Int) = (j : Int) / 6 * 6 by have := HFR.out; omega], rfl⟩
          case rest =>
          obtain ⟨rfl, rfl⟩ := hcut
          go_upto_region 13 with (fail)
          obtain ⟨t0, t1, t2⟩ := HT7.out.three
          have hgP := hide (fun (w8 : World) (hb8 : Below wc.heap.size wc w8) => show Below w.heap.size w w8 ∧ BoxV 26 w8 w1.heap.size #[.slice aP p cP, .string ⟨#[]⟩, .int .i64 m'] ∧ elPart.Owns (w1.heap.size + 1) w8 (.slice aP p cP) (chunks L (cntP n j)) from
            ⟨HW7.out.trans (hb8.mono hs7), HT7.out.below hb8 hgl7, HP7.out.below hb8 (Nat.le_refl _)⟩)
          go_region_law
            (first
              | (go_simp
                 go_at_call 27
                 refine (HSC.out _ (by first | with_reducible exact HW7.out | with_reducible exact HW7.out.drew)).mono ?_
                 rintro e w8 ⟨rfl, hb8⟩
                 have hb8' : Below wc.heap.size wc w8 := by first | with_reducible exact hb8 | with_reducible exact below_drew' hb8
                 have HB8 := hide hb8'
                 obtain ⟨hw8, hx8, ho8⟩ := hgP.out w8 hb8'
                 obtain ⟨e0, e1⟩ := HD.out w8 hw8
                 obtain ⟨x0, x1, x2⟩ := hx8.three
                 have HW8 := hide hw8
                 have HW8a := hide (hw8.alloc hw8.size (.cells #[.string f0, .string ⟨ST.toArray⟩] 55))
                 have HX8a := hide (hx8.alloc (.cells #[.string f0, .string ⟨ST.toArray⟩] 55))
                 have HO8a := hide (ho8.alloc (.cells #[.string f0, .string ⟨ST.toArray⟩] 55))
                 have HK8a := hide ((HK7.out.below hb8' (Nat.le_refl _)).alloc (.cells #[.string f0, .string ⟨ST.toArray⟩] 55))
                 have HR8a := hide ((HX7.out.below hb8' HX7.out.lt).alloc (.cells #[.string f0, .string ⟨ST.toArray⟩] 55))
                 obtain ⟨v0, v1, v2⟩ := HX8a.out.three
                 have hsz8 : w1.heap.size + 1 ≤ (w8.alloc (.cells #[.string f0, .string ⟨ST.toArray⟩] 55)).heap.size := by
                   have h := hb8'.size
                   rw [Go.Deep.nblk_alloc]
                   omega
                 clear hb8 hb8' hw8 hx8 ho8)
              | (refine El.stepSrc (e := elPart) rfl (.tmp 61) (.tmp 74) 24 rfl Tryd.underlying24 _ _ infoPart rfl (by decide) (by decide) (w1.heap.size + 1) (w8.alloc (.cells #[.string f0, .string ⟨ST.toArray⟩] 55)) (w8.alloc (.cells #[.string f0, .string ⟨ST.toArray⟩] 55)) _ _ 1 1 _ [(f0, ⟨ST.toArray⟩)] rfl rfl rfl HO8a (fun j u h => El.lit_cells elPart w8 [(f0, ⟨ST.toArray⟩)] _ rfl j u h) (hide (Below.refl _ _)) hsz8 _ (p + 1) HCS.out.symm hpl (by omega) ?_
                 intro a9 c9 w9 HO9 HB9 hz9 HN9
                 have HX9 := hide (HX8a.out.other HO8a.out (by decide) HN9.out)
                 have HK9 := hide (HK8a.out.other HO8a.out (by decide) HN9.out)
                 have HR9 := hide (HR8a.out.other HO8a.out (by decide) HN9.out)
                 have HW9 := hide (HW8a.out.trans (HB9.out.mono (by omega)))
                 have hl9 := HX9.out.lt
                 have z9 := HX9.out.frozen 0
                 obtain ⟨x0, x1, x2⟩ := HX9.out.three))
          all_goals
            have HT10 := hide (HX9.out.set30 (.slice a9 (p + 1) c9))
            have HK10 := hide (HK9.out.set_other (p := ⟨w1.heap.size, 0, none⟩) (Nat.lt_succ_self _) (.slice a9 (p + 1) c9))
            have HP10 := hide (HO9.out.set_other (p := ⟨w1.heap.size, 0, none⟩) (Nat.lt_succ_self _) (.slice a9 (p + 1) c9))
            have HX10 := hide (HR9.out.set_other (p := ⟨w1.heap.size, 0, none⟩) (by show w1.heap.size ≠ w.heap.size; omega) (.slice a9 (p + 1) c9))
            have HW10 := hide (HW9.out.setCell (p := ⟨w1.heap.size, 0, none⟩) (by show w.heap.size ≤ w1.heap.size; omega) (.slice a9 (p + 1) c9))
            have HPn2 := hide (show p + 1 = cntP n (j + 1) by rw [← hpl, chunks_len])
            have hp1 : p + 1 ≤ 60 := by have h := HPn2.out; unfold cntP at h; split at h <;> omega
            go_wp2_with fail
            go_roundw
            all_goals first
              | (simp [intOf]; omega)
              | exact ⟨j + 1, p + 1, m', a5, a9, c5, c9, by go_num, rfl, by omega, hp1, hm0', hm1', HMN, HPn2, HK10, HP10, HT10, HX10, HW10⟩
        · rw [decide_eq_false hyes]
          have HCN := hide (cnt_no hlt hyes)
          clear hyes hr6 hn1
          go_wp2_with fail
          go_roundw
          case rel => exact ⟨j + 1, p, m', a5, aP, c5, cP, by go_num, rfl, by omega, hp, hm0', hm1', HMN, hide (by rw [HCN.out]; exact HPn.out), HK7, hide (by rw [HCN.out]; exact HP7.out), HT7, HX7, HW7⟩
          case measure => simp [intOf]; omega
      · obtain rfl : j = n := by omega
        have hT : L.take j = L := List.take_of_length_le (by rw [← HN.out]; exact Nat.le_refl _)
        rw [hT] at HK HM
        have HBC := hide (HBL.out _ _ cK (owns_rd HK.out))
        obtain ⟨F, hF⟩ : ∃ F, F = bloomV (keysL L) 16 := ⟨_, rfl⟩
        rw [← hF] at HBC HV1
        have HP' := hide (show elPart.Owns (w1.heap.size + 1) wr (.slice aP p cP) (partsL L) by have h := HP.out; rw [HALL.out] at h; exact h)
        clear hF hT HP
        go_wp2_with fail
        refine HBC.out.mono ?_
        rintro e w8 ⟨rfl, hb8⟩
        have HT8 := hide (HT.out.below hb8 hgl)
        have HX8 := hide (HX.out.below hb8 HX.out.lt)
        have HP8 := hide (HP'.out.below hb8 (Nat.le_refl _))
        have HB8 := hide (HB.out.trans (hb8.mono hs))
        have hg8 := HT8.out.lt
        have z1 := HT8.out.frozen 1
        obtain ⟨t0, t1, t2⟩ := HT8.out.three
        clear hb8 HT HX HP' HB HK HBC
        obtain ⟨W9, hW9⟩ : ∃ W9, W9 = w8.setCell ⟨w1.heap.size, 1, none⟩ (.string ⟨F.toArray⟩) := ⟨_, rfl⟩
        have HT9 := hide (show BoxV 26 W9 w1.heap.size #[.slice aP p cP, .string ⟨F.toArray⟩, .int .i64 m] from hW9 ▸ HT8.out.set31 _)
        have HX9 := hide (show BoxV 26 W9 w.heap.size #[.slice none 0 0, .string ⟨#[]⟩, .int .i64 0] from hW9 ▸ HX8.out.set_other (by show w1.heap.size ≠ w.heap.size; omega) _)
        have HP9 := hide (show elPart.Owns (w1.heap.size + 1) W9 (.slice aP p cP) (partsL L) from hW9 ▸ HP8.out.set_other (Nat.lt_succ_self _) _)
        have HB9 := hide (show Below w.heap.size w W9 from hW9 ▸ HB8.out.setCell (p := ⟨w1.heap.size, 1, none⟩) (by show w.heap.size ≤ w1.heap.size; omega) _)
        go_upto_region 15 with (fail)
        rw [← hW9]
        clear hW9 HT8 HX8 HP8 HB8 z1 t0 t1 t2 hg8
        obtain ⟨t0, t1, t2⟩ := HT9.out.three
        obtain ⟨d0, d1, d2⟩ := HX9.out.three
        obtain ⟨y0, y1, y2⟩ := HX9.out.froz3
        have hl9 := HX9.out.lt
        have HMx := hide (show maxL L = m from HM.out.symm)
        go_wp2_with fail
        refine bodyPost_ret (res_tab rfl _ _ w.heap.size rfl (HX9.out.all3 _ _ _)) rfl ?_
        refine ⟨.slice aP p cP, by rw [HV1.out.1, HV1.out.2, HMx.out]; rfl, ?_, below_three HB9.out (Nat.le_refl _) _ _ _⟩
        rw [HV1.out.1]
        exact (((HP9.out.set_other (p := ⟨w.heap.size, 0, none⟩) (by show w.heap.size < _; omega) _).set_other (p := ⟨w.heap.size, 1, none⟩) (by show w.heap.size < _; omega) _).set_other (p := ⟨w.heap.size, 2, none⟩) (by show w.heap.size < _; omega) _).mono (by omega)
  · have HV1 := hide (show tblV L = zeroT ∧ decide (tblOk L) = false from by
      have h : ¬ tblOk L := fun h => hm h.2
      exact ⟨tblV_no h, decide_eq_false h⟩)
    rw [decide_eq_false hm] at HC
    clear hn hm hl
    go_enter Tryd.func8, Tryd.ntmps8
    go_wp2_with fail
    refine (HC.out _ ((HR.out.below (hB.out _) (Nat.le_refl _)).mono (by simp))).mono ?_
    rintro e w1 ⟨rfl, hb1⟩
    have HB1 := hide ((hB.out _).trans (hb1.mono (hB.out _).size))
    have HX1 := hide (HX0.out.below hb1 HX0.out.lt)
    clear hb1 HX0 HC
    obtain ⟨d0, d1, d2⟩ := HX1.out.three
    obtain ⟨y0, y1, y2⟩ := HX1.out.froz3
    have hl1 := HX1.out.lt
    go_wp2_with fail
    refine bodyPost_ret (res_tab rfl _ _ w.heap.size rfl (HX1.out.all3 _ _ _)) rfl ?_
    exact ⟨_, by rw [HV1.out.1, HV1.out.2]; rfl, by rw [HV1.out.1]; exact El.Owns.nil _ _, below_three HB1.out (Nat.le_refl _) _ _ _⟩
end Go.Proofs.YtdlkgpobjacgeaaDoor

/-
  Contracts of impl.keysOf, maxSeq.
-/
namespace Go.Proofs.YtdlkgpobjacgeaaDoor
open Go.ChangeShapes Go.WideShapes Go.ChangeAt Go.RowKit

def StrsPost (w : World) (L : List ByteArray) (e : Ending) (w' : World) : Prop := ∃ v, e = .returned v ∧ elStr.Owns w.heap.size w' v L ∧ Below w.heap.size w w'
set_option maxHeartbeats 1000000 in
set_option maxRecDepth 20000 in
theorem keysOf_any (a : Option Addr) (cap : Nat) (L : List En) (w : World) (hr : elEnt.Rd w w.heap.size a L) (hl : L.length ≤ 1048576) :
    Calls Tryd.prog 33 #[.slice a L.length cap] w (StrsPost w (keyS L)) := by
  have HR := hide hr
  clear hr
  obtain ⟨n, hn⟩ : ∃ n, n = L.length := ⟨_, rfl⟩
  have HN := hide hn
  rw [← hn] at hl ⊢
  clear hn
  go_enter Tryd.func33, Tryd.ntmps33
  go_wp2_with fail
  go_loopw [3, 8] (fun k i wr => ∃ (j : Nat) (aK : Option Addr) (cK : Nat), k = .slice aK j cK ∧ i = .int .i64 j ∧ j ≤ n ∧ Hid (elStr.Owns w.heap.size wr (.slice aK j cK) (keyS (L.take j))) ∧ Hid (Below w.heap.size w wr)) (fun _ i _ => n - (intOf i).toNat)
  case atStart => exact ⟨0, none, 0, rfl, rfl, by omega, El.Owns.nil _ _, Below.refl _ _⟩
  case round =>
    obtain ⟨j, aK, cK, rfl, rfl, hj, HK, HB⟩ := hrel
    have hs := HB.out.size
    by_cases hlt : j < n
    · have hjL : j < L.length := by rw [← HN.out]; exact hlt
      obtain ⟨b, off, rfl, hb, hcell⟩ := HR.out (by omega)
      obtain ⟨f0, f1, f2, f3, hx⟩ := partsEnt L[j]
      obtain ⟨c0, c1, c2, c3⟩ := cellsEnt hx (hcell j hjL)
      have d0 := (HB.out.cell (p := ⟨b, off + j * 4, none⟩) hb).trans c0
      have d1 := (HB.out.cell (p := ⟨b, off + j * 4 + 1, none⟩) hb).trans c1
      have d2 := (HB.out.cell (p := ⟨b, off + j * 4 + 2, none⟩) hb).trans c2
      have d3 := (HB.out.cell (p := ⟨b, off + j * 4 + 3, none⟩) hb).trans c3
      have HJ := hide (show L[j]? = some (f0, f1, f2, f3) by rw [List.getElem?_eq_getElem hjL, hx])
      have HKa := hide ((HK.out.alloc (.cells #[.string f0, .int .i64 f1, .bool f2, .string f3] 52)).alloc (.cells #[.string f0] 9))
      have hsa := src_str (wr.alloc (.cells #[.string f0, .int .i64 f1, .bool f2, .string f3] 52)) f0
      rw [Go.Deep.nblk_alloc] at hsa
      have HSa := hide hsa
      clear hsa
      have HBa := hide ((HB.out.alloc hs (.cells #[.string f0, .int .i64 f1, .bool f2, .string f3] 52)).alloc (by simp; omega) (.cells #[.string f0] 9))
      have hka : w.heap.size ≤ ((wr.alloc (.cells #[.string f0, .int .i64 f1, .bool f2, .string f3] 52)).alloc (.cells #[.string f0] 9)).heap.size := HBa.out.size
      have hkl : (keyS (L.take (j + 1))).length = j + 1 := by rw [keyS_len, List.length_take, ← HN.out]; omega
      clear hcell c0 c1 c2 c3 hx hjL
      go_wp2_with (at_builtin; refine El.appendSrc (e := elStr) rfl (.tmp 12) (.tmp 15) 51 rfl Tryd.underlying51 _ _ infoStr rfl (by decide) (by decide) w.heap.size w _ _ _ _ [f0] rfl rfl HKa HSa HBa hka _ (j + 1) (keyS_step HJ.out).symm hkl (by omega) ?_; intro a5 c5 w5 HK5 HB5 hz5 HO5)
      go_roundw
      case rel => exact ⟨j + 1, a5, c5, rfl, by go_num, by omega, HK5, HB5⟩
      case measure => simp [intOf]; omega
    · obtain rfl : j = n := by omega
      have HK' := hide (show elStr.Owns w.heap.size wr (.slice aK j cK) (keyS L) from by
        have h := HK.out
        rwa [List.take_of_length_le (by rw [← HN.out]; exact Nat.le_refl _)] at h)
      go_wp2_with fail
      go_ret
      exact ⟨_, rfl, HK'.out, HB.out⟩
set_option maxHeartbeats 1000000 in
set_option maxRecDepth 20000 in
theorem maxSeq_any (a : Option Addr) (cap : Nat) (L : List En) (w : World) (hr : elEnt.Rd w w.heap.size a L) (hl : L.length ≤ 1048576) :
    Calls Tryd.prog 34 #[.slice a L.length cap] w (IntPost w (maxL L)) := by
  have HR := hide hr
  clear hr
  obtain ⟨n, hn⟩ : ∃ n, n = L.length := ⟨_, rfl⟩
  have HN := hide hn
  rw [← hn] at hl ⊢
  clear hn
  go_enter Tryd.func34, Tryd.ntmps34
  go_wp2_with fail
  go_loopw [3, 8] (fun k i wr => ∃ (j : Nat) (m : Int), k = .int .i64 m ∧ i = .int .i64 j ∧ j ≤ n ∧ Hid (m = maxL (L.take j)) ∧ Hid (Below w.heap.size w wr)) (fun _ i _ => n - (intOf i).toNat)
  case atStart => exact ⟨0, 0, rfl, rfl, by omega, by simp [Hid, maxL], Below.refl _ _⟩
  case round =>
    obtain ⟨j, m, rfl, rfl, hj, HM, HB⟩ := hrel
    have hs := HB.out.size
    by_cases hlt : j < n
    · have hjL : j < L.length := by rw [← HN.out]; exact hlt
      obtain ⟨b, off, rfl, hb, hcell⟩ := HR.out (by omega)
      obtain ⟨f0, f1, f2, f3, hx⟩ := partsEnt L[j]
      obtain ⟨c0, c1, c2, c3⟩ := cellsEnt hx (hcell j hjL)
      have d0 := (HB.out.cell (p := ⟨b, off + j * 4, none⟩) hb).trans c0
      have d1 := (HB.out.cell (p := ⟨b, off + j * 4 + 1, none⟩) hb).trans c1
      have d2 := (HB.out.cell (p := ⟨b, off + j * 4 + 2, none⟩) hb).trans c2
      have d3 := (HB.out.cell (p := ⟨b, off + j * 4 + 3, none⟩) hb).trans c3
      have HJ := hide (show L[j]? = some (f0, f1, f2, f3) by rw [List.getElem?_eq_getElem hjL, hx])
      have HBa := hide (HB.out.alloc hs (.cells #[.string f0, .int .i64 f1, .bool f2, .string f3] 52))
      obtain ⟨m', hm'⟩ : ∃ m', m' = if m < f1 then f1 else m := ⟨_, rfl⟩
      have HMe := hide (show m' = maxL (L.take (j + 1)) by rw [max_step HJ.out, ← HM.out]; exact hm')
      have h1 : (if m < f1 then f1 else m) = m' := hm'.symm
      clear hcell c0 c1 c2 c3 hx hjL hm'
      go_wp2_with fail
      go_roundw
      case rel => exact ⟨j + 1, m', by go_num, by go_num, by omega, HMe, HBa⟩
      case measure => simp [intOf]; omega
    · obtain rfl : j = n := by omega
      have HM' := hide (show m = maxL L from by rw [HM.out, List.take_of_length_le (by rw [← HN.out]; exact Nat.le_refl _)])
      go_wp2_with fail
      go_ret
      exact ⟨by rw [← HM'.out]; rfl, HB.out⟩
end Go.Proofs.YtdlkgpobjacgeaaDoor
