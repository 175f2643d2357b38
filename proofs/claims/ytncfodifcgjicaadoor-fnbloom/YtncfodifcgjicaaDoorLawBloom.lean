/-
  The walk of laws.FnBloom: it returns true.
-/
import Derived.Test.YtncfodifcgjicaaDoorDrawBln
import Derived.Test.YtncfodifcgjicaaDoorBlmL
import Derived.Test.YtncfodifcgjicaaDoorRowB
namespace Go.Proofs.YtncfodifcgjicaaDoor
open Go.ChangeShapes Go.WideShapes Go.ChangeAt Go.RowKit

theorem blm_big (a : Option Addr) (n cap : Nat) (w : World) : Calls Tryd.prog 6 #[.slice a n cap] w fun e w' => e = .returned (.bool (decide ((1048576 : Int) < (n : Int)))) ∧ w = w' := by
  go_enter Tryd.func6, Tryd.ntmps6
  go_wp2
  go_ret
  exact ⟨rfl, rfl⟩
theorem CodeAt.grow {B B' : Nat} {w : World} {a : Option Addr} {bs : List Int} (h : CodeAt B w a bs) (hB : B ≤ B') : CodeAt B' w a bs := ⟨h.1, fun hp => by
  obtain ⟨b, off, ha, hb, hc⟩ := h.2 hp
  exact ⟨b, off, ha, by omega, hc⟩⟩
/-- what a filter that is not empty is -/
theorem bloomV_ne {K : List (List UInt8)} {z : Int} (h : bloomV K z ≠ []) : ∃ q : Nat, z = q ∧ (bloomV K z).length = q ∧ ∀ k ∈ K, mayV (bloomV K z) k = true := by
  by_cases hc : 1 ≤ z ∧ z ≤ 64 ∧ K.length ≤ 60
  · refine ⟨z.toNat, by omega, ?_, fun k hk => may_bloom hk hc⟩
    unfold bloomV
    rw [if_pos hc, length_bloomL, List.length_replicate]
  · exact absurd (bloomV_no hc) h
set_option maxHeartbeats 4000000 in
set_option maxRecDepth 40000 in
theorem bloom_core (a : Option Addr) (cap : Nat) (bs : List Int) (w : World) (hc : CodeAt w.heap.size w a bs) (h0 : 0 < w.heap.size) (hT : Hid (CrcTabIn w)) :
    Calls Tryd.prog 3 #[.slice a bs.length cap] w fun e w' => e = .returned (.bool true) ∧ Below w.heap.size w w' := by
  have HC := hide hc
  obtain ⟨n, hn⟩ : ∃ n, n = bs.length := ⟨_, rfl⟩
  by_cases hbig : 1048576 < n
  · have hd : decide ((1048576 : Int) < (n : Int)) = true := decide_eq_true (by omega)
    rw [← hn]
    clear hn hc
    go_enter Tryd.func3, Tryd.ntmps3
    go_wp2_with fail
    refine (blm_big a n cap _).mono ?_
    rintro e w1 ⟨rfl, rfl⟩
    rw [hd]
    go_wp2_with fail
    go_ret
    exact ⟨rfl, Below.refl _ _⟩
  have hd : decide ((1048576 : Int) < (n : Int)) = false := decide_eq_false (by omega)
  have hm : bs.length ≤ 1048576 := by omega
  have HAD := hide (drawBloomOf_any a cap bs w hc hm)
  have HAM := hide (fun W (h : Below w.heap.size w W) => drawBloomMay_any a cap bs W (CodeAt.grow (CodeAt.below hc h) h.size) hm)
  have HTW := hide (fun W (h : Below w.heap.size w W) => (⟨Nat.lt_of_lt_of_le h0 h.size, hide (hT.out.below h h0)⟩ : 0 < W.heap.size ∧ Hid (CrcTabIn W)))
  rw [← hn] at HAD HAM ⊢
  clear hn hc hbig HC hm
  go_enter Tryd.func3, Tryd.ntmps3
  go_wp2_with fail
  refine (blm_big a n cap _).mono ?_
  rintro e wb ⟨rfl, rfl⟩
  rw [hd]
  go_wp2_with fail
  refine HAD.out.mono ?_
  rintro e w1 ⟨a1, c1, l, z, rfl, hr1, hl, hz, hb1⟩
  have HB1 := hide hb1
  have HR1 := hide hr1
  have hz20 : ∀ x ∈ l, x.size ≤ 1048576 := fun x hx => by have := hz x hx; omega
  have HIM := hide (iBloom_any a1 c1 l z w1 hr1 (by unfold maxLen; omega) hz20 (HTW.out _ hb1).1 (HTW.out _ hb1).2)
  have HSP := hide (fun W (h : elStr.Rd W W.heap.size a1 l) => sBloom_any a1 c1 l z W h (by unfold maxLen; omega) hz20)
  have HZ := hide hz20
  obtain ⟨V, hV⟩ : ∃ V, V = bloomV (l.map bl) z := ⟨_, rfl⟩
  have hVl : V.length ≤ 64 := by rw [hV]; exact bloomV_len _ _
  have HVn := hide (show V ≠ [] → ∃ q : Nat, z = q ∧ V.length = q ∧ ∀ k ∈ l.map bl, mayV V k = true by rw [hV]; exact bloomV_ne)
  rw [← hV] at HIM HSP
  obtain ⟨m, hmm⟩ : ∃ m, m = l.length := ⟨_, rfl⟩
  have HM := hide hmm
  rw [← hmm] at HIM HSP hl ⊢
  have hq : (V == V) = true := by simp
  clear hb1 hr1 hz hz20 hV hmm HAD hd
  go_wp2_with fail
  refine HIM.out.mono ?_
  rintro e w2 ⟨rfl, hb2⟩
  have HB2 := hide (HB1.out.trans (hb2.mono HB1.out.size))
  have HR2 := hide ((HR1.out.below hb2 (Nat.le_refl _)).mono hb2.size)
  clear hb2 HIM HR1 HB1
  go_wp2_with fail
  refine (HSP.out _ HR2.out).mono ?_
  rintro e w3 ⟨rfl, hb3⟩
  have HB3 := hide (HB2.out.trans (hb3.mono HB2.out.size))
  have HR3 := hide ((HR2.out.below hb3 (Nat.le_refl _)).mono hb3.size)
  clear hb3 HSP HR2 HB2
  have HIX := hide (fun W b k (h : Below w.heap.size w W) (hb : b.size ≤ 64) (hk : k.size ≤ 1048576) => iMay_any b k W (by unfold maxLen; omega) hk (HTW.out W h).1 (HTW.out W h).2)
  have HSX := hide (fun W b k (hb : b.size ≤ 64) (hk : k.size ≤ 1048576) => sMay_any b k W (by unfold maxLen; omega) hk)
  obtain ⟨S, hS⟩ : ∃ S : ByteArray, S = ⟨V.toArray⟩ := ⟨_, rfl⟩
  have hSz : S.size = V.length := by rw [hS, size_of]
  have hSb : bl S = V := by rw [hS]; rfl
  clear HTW
  go_wp2_with fail
  go_loopw [6] (fun i wr => ∃ j : Nat, i = .int .i64 j ∧ j ≤ m ∧ Hid (Below w.heap.size w wr) ∧ Hid (elStr.Rd wr wr.heap.size a1 l)) (fun i _ => m - (intOf i).toNat)
  case atStart => exact ⟨0, rfl, by omega, HB3.out, HR3.out⟩
  case round =>
    clear HB3 HR3
    obtain ⟨j, rfl, hj, HB, HR⟩ := hrel
    by_cases hVe : V = []
    · have hem : V.isEmpty = true := by rw [hVe]; rfl
      by_cases hlt : j < m
      all_goals
        go_wp2_with fail
        refine (HAM.out _ HB.out).mono ?_
        rintro e w4 ⟨b, k, rfl, hbs, hks, hb4⟩
        have HB4 := hide (HB.out.trans (hb4.mono HB.out.size))
        have HI4 := hide (HIX.out w4 b k HB4.out hbs (by omega))
        have HS4 := hide (fun W => HSX.out W b k hbs (by omega))
        have HI6 := hide (fun W h => HIX.out W ⟨#[]⟩ k h (by decide) (by omega))
        rw [show mayV (bl ⟨#[]⟩) (bl k) = false from may_none _] at HI6
        generalize mayV (bl b) (bl k) = U at *
        have hu : (U == U) = true := by simp
        clear hb4 HB HAM HIX HSX
        go_wp2_with fail
        refine HI4.out.mono ?_
        rintro e w5 ⟨rfl, hb5⟩
        have HB5 := hide (HB4.out.trans (hb5.mono HB4.out.size))
        clear hb5 HI4 HB4
        go_wp2_with fail
        refine (HS4.out _).mono ?_
        rintro e w6 ⟨rfl, hb6⟩
        have HB6 := hide (HB5.out.trans (hb6.mono HB5.out.size))
        clear hb6 HS4 HB5
        go_wp2_with fail
        refine (HI6.out _ HB6.out).mono ?_
        rintro e w7 ⟨rfl, hb7⟩
        have HB7 := hide (HB6.out.trans (hb7.mono HB6.out.size))
        clear hb7 HI6 HB6
        go_wp2_with fail
        go_ret
        exact ⟨rfl, HB7.out⟩
    · have hem : V.isEmpty = false := List.isEmpty_eq_false_iff.mpr hVe
      obtain ⟨q, hzq, hVq, hall⟩ := HVn.out hVe
      by_cases hlt : j < m
      · have hjL : j < l.length := by rw [← HM.out]; exact hlt
        obtain ⟨b, off, rfl, hb, hcell⟩ := HR.out.str (by omega)
        have d0 := hcell j hjL
        have hkz := HZ.out l[j] (List.getElem_mem hjL)
        have hmay := hall (bl l[j]) (List.mem_map.2 ⟨_, List.getElem_mem hjL, rfl⟩)
        generalize l[j] = k at *
        have HIj := hide (HIX.out wr S k HB.out (by rw [hSz]; exact hVl) hkz)
        rw [hSb, hmay, hS] at HIj
        clear hcell hjL hall hVq hzq hmay hkz
        go_wp2_with fail
        refine HIj.out.mono ?_
        rintro e w4 ⟨rfl, hb4⟩
        have HB4 := hide (HB.out.trans (hb4.mono HB.out.size))
        have HR4 := hide ((HR.out.below hb4 (Nat.le_refl _)).mono hb4.size)
        clear hb4 HB HR
        go_wp2_with fail
        go_roundw
        case rel => exact ⟨j + 1, by go_num, by omega, HB4, HR4⟩
        case measure => simp [intOf]; omega
      · subst hzq
        have hlen : ((V.length : Nat) : Int) = (q : Int) := by rw [hVq]
        go_wp2_with fail
        refine (HAM.out _ HB.out).mono ?_
        rintro e w4 ⟨b, k, rfl, hbs, hks, hb4⟩
        have HB4 := hide (HB.out.trans (hb4.mono HB.out.size))
        have HI4 := hide (HIX.out w4 b k HB4.out hbs (by omega))
        have HS4 := hide (fun W => HSX.out W b k hbs (by omega))
        have HI6 := hide (fun W h => HIX.out W ⟨#[]⟩ k h (by decide) (by omega))
        rw [show mayV (bl ⟨#[]⟩) (bl k) = false from may_none _] at HI6
        generalize mayV (bl b) (bl k) = U at *
        have hu : (U == U) = true := by simp
        clear hb4 HB HAM HIX HSX
        go_wp2_with fail
        refine HI4.out.mono ?_
        rintro e w5 ⟨rfl, hb5⟩
        have HB5 := hide (HB4.out.trans (hb5.mono HB4.out.size))
        clear hb5 HI4 HB4
        go_wp2_with fail
        refine (HS4.out _).mono ?_
        rintro e w6 ⟨rfl, hb6⟩
        have HB6 := hide (HB5.out.trans (hb6.mono HB5.out.size))
        clear hb6 HS4 HB5
        go_wp2_with fail
        refine (HI6.out _ HB6.out).mono ?_
        rintro e w7 ⟨rfl, hb7⟩
        have HB7 := hide (HB6.out.trans (hb7.mono HB6.out.size))
        clear hb7 HI6 HB6
        go_wp2_with fail
        go_ret
        exact ⟨rfl, HB7.out⟩

theorem law_bloom (a0 : Option Addr) (len0 cap0 : Nat) (z0 : List Int) (w : World) (w0 : IsRow .u8 w a0 len0 cap0 z0) (h0 : 0 < w.heap.size) (hT : Hid (CrcTabIn w)) :
    Calls Tryd.prog 3 #[.slice a0 len0 cap0] w fun e w' => e = .returned (.bool true) ∧ Below w.heap.size w w' := by
  obtain ⟨h1, h2⟩ := w0.code
  have := bloom_core a0 cap0 (z0.take len0) w h2 h0 hT
  rwa [h1] at this
end Go.Proofs.YtncfodifcgjicaaDoor
