/-
  Texts of this proof, put together: MapO.
-/
import Derived.Test.YtphfakdbgohhgaaPackAK
import Derived.Test.YtphfakdbgohhgaaPackAE
import Derived.Test.YtphfakdbgohhgaaPackAM
import Derived.Test.YtphfakdbgohhgaaPackAJ
import Derived.WalkLawsBesides

/-
  Contracts of impl.MapOk and what it calls: cmp.isNaN, cmp.Compare, compareKVs, ascends.
-/
namespace Go.Proofs.Ytphfakdbgohhgaa
open Go.ChangeShapes Go.WideShapes Go.ChangeAt Go.RowKit

theorem compareKVs_any (a b c d : ByteArray) (w : World) : Calls Try.prog 96 #[.agg #[.string a, .string b], .agg #[.string c, .string d]] w (IntPost w (cmpK a c)) := by
  go_enter Try.func96, Try.ntmps96
  go_wp2_with fail
  refine (compare_any a c _).mono ?_
  rintro e w1 ⟨rfl, rfl⟩
  go_wp2_with fail
  go_ret
  exact ⟨rfl, ((Below.refl _ _).alloc (Nat.le_refl _) _).alloc (by simp) _⟩

set_option maxRecDepth 40000 in
theorem ascends_any (a : Option Addr) (cap : Nat) (L : List KV) (w : World) (hr : elKV.Rd w w.heap.size a L) (hl : L.length ≤ 2097152) :
    Calls Try.prog 95 #[.slice a L.length cap, .func (.func 96) #[] #[]] w (BoolPost w (decide (Srt L))) := by
  have HR := hide hr
  clear hr
  obtain ⟨V, hV⟩ : ∃ V, V = decide (Srt L) := ⟨_, rfl⟩
  have HV := hide hV
  rw [← hV]
  obtain ⟨n, hn⟩ : ∃ n, n = L.length := ⟨_, rfl⟩
  have HN := hide hn
  rw [← hn] at hl
  rw [← hn]
  clear hn hV
  go_enter Try.func95, Try.ntmps95
  go_wp2_with fail
  go_loopw [5] (fun i wr => ∃ j : Nat, i = .int .i64 j ∧ 1 ≤ j ∧ (j = 1 ∨ j ≤ n) ∧ Hid (∀ i (h : i + 1 < L.length), i + 1 < j → kless L[i].1 L[i + 1].1 = true) ∧ Hid (Below w.heap.size w wr)) (fun i _ => n - (intOf i).toNat)
  case atStart => exact ⟨1, rfl, by omega, .inl rfl, fun i _ hi => by omega, Below.refl _ _⟩
  case round =>
    obtain ⟨j, rfl, hj0, hj, HA, HB⟩ := hrel
    by_cases hlt : j < n
    · have hjL : j < L.length := by rw [← HN.out]; exact hlt
      obtain ⟨p, hp⟩ : ∃ p, j = p + 1 := ⟨j - 1, by omega⟩
      have hpL : p < L.length := by omega
      have HP := hide hp
      have hpn : p < n := by omega
      have wp1 : IntKind.i64.wrap ((j : Int) - 1) = (p : Int) := by rw [IntKind.wrap_i64]; omega
      obtain ⟨b, o, rfl, hb, hc⟩ := HR.out (by omega)
      obtain ⟨f0, f1, hx⟩ := partsKV (L[p]'hpL)
      obtain ⟨g0, g1, hy⟩ := partsKV (L[j]'hjL)
      obtain ⟨p0, p1⟩ := cellsKV hx (hc p hpL)
      obtain ⟨q0, q1⟩ := cellsKV hy (hc j hjL)
      have d0 := (HB.out.cell (p := ⟨b, o + p * 2, none⟩) hb).trans p0
      have d1 := (HB.out.cell (p := ⟨b, o + p * 2 + 1, none⟩) hb).trans p1
      have e0 := (HB.out.cell (p := ⟨b, o + j * 2, none⟩) hb).trans q0
      have e1 := (HB.out.cell (p := ⟨b, o + j * 2 + 1, none⟩) hb).trans q1
      have HJ := hide hjL
      have HX := hide hx
      have HY := hide hy
      clear hc p0 p1 q0 q1 hp hx hy
      go_wp2_with fail
      go_still_tail 10, (by kernel_rfl)
      change wpList _ _ _ _ _ wr.drew
      go_wp2_with fail
      refine (compareKVs_any f0 f1 g0 g1 _).mono ?_
      rintro e w1 ⟨rfl, hb1⟩
      have HB1 := hide (HB.out.drew.trans (hb1.mono HB.out.size))
      clear hb1 HB d0 d1 e0 e1 wp1
      by_cases hc : kless f0 g0 = true
      · have t0 : decide (0 ≤ cmpK f0 g0) = false := decide_eq_false (by have := cmpK_neg.2 hc; omega)
        have HA1 := hide (show ∀ i (h : i + 1 < L.length), i + 1 < j + 1 → kless L[i].1 L[i + 1].1 = true from fun i h hi => by
          rcases Nat.lt_or_ge (i + 1) j with h' | h'
          · exact HA.out i h h'
          · have e := HP.out
            obtain rfl : i = p := by omega
            subst e
            rw [HX.out, HY.out]
            exact hc)
        clear hc
        go_wp2_with fail
        go_roundw
        case rel => exact ⟨j + 1, by go_num, by omega, .inr (by omega), HA1, HB1⟩
        case measure => simp [intOf]; omega
      · have t0 : decide (0 ≤ cmpK f0 g0) = true := decide_eq_true (by have : ¬ cmpK f0 g0 < 0 := fun h => hc (cmpK_neg.1 h); omega)
        have HV1 := hide (show V = false from HV.out.trans (decide_eq_false (by
          have e := HP.out
          subst e
          exact srt_no HJ.out (by rw [HX.out, HY.out]; exact hc))))
        clear hc
        go_wp2_with fail
        go_ret
        exact ⟨by rw [HV1.out]; rfl, HB1.out⟩
    · have HV1 := hide (show V = true from HV.out.trans (decide_eq_true ((srt_adj L).2 fun i h => HA.out i h (by rw [← HN.out] at h; omega))))
      go_wp2_with fail
      go_ret
      exact ⟨by rw [HV1.out]; rfl, HB.out⟩

set_option maxHeartbeats 1000000 in
theorem iMapOk_any (a : Option Addr) (cap : Nat) (L : List KV) (w : World) (hr : elKV.Rd w w.heap.size a L) (hl : L.length ≤ 2097152) :
    Calls Try.prog 73 #[.slice a L.length cap] w (BoolPost w (decide (mapOk L))) := by
  have HR := hide hr
  clear hr
  obtain ⟨V, hV⟩ : ∃ V, V = decide (mapOk L) := ⟨_, rfl⟩
  have HV := hide hV
  rw [← hV]
  have HL := hide hl
  have HC := hide (fun W hr => ascends_any a cap L W hr HL.out)
  obtain ⟨n, hn⟩ : ∃ n, n = L.length := ⟨_, rfl⟩
  have HN := hide hn
  rw [← hn] at hl HC
  rw [← hn]
  clear hn hV
  go_enter Try.func73, Try.ntmps73
  go_wp2_with fail
  go_loopw [7] (fun i wr => ∃ j : Nat, i = .int .i64 j ∧ j ≤ n ∧ Hid (∀ i x, i < j → L[i]? = some x → kvOk x) ∧ Hid (Below w.heap.size w wr)) (fun i _ => n - (intOf i).toNat)
  case atStart => exact ⟨0, rfl, by omega, fun i _ hi _ => by omega, Below.refl _ _⟩
  case round =>
    obtain ⟨j, rfl, hj, HO, HB⟩ := hrel
    by_cases hlt : j < n
    · have hjL : j < L.length := by rw [← HN.out]; exact hlt
      obtain ⟨b, off, rfl, hb, hcell⟩ := HR.out (by omega)
      obtain ⟨f0, f1, hx⟩ := partsKV L[j]
      obtain ⟨c0, c1⟩ := cellsKV hx (hcell j hjL)
      have d0 := (HB.out.cell (p := ⟨b, off + j * 2, none⟩) hb).trans c0
      have d1 := (HB.out.cell (p := ⟨b, off + j * 2 + 1, none⟩) hb).trans c1
      have HX := hide (show L[j]? = some (f0, f1) by rw [List.getElem?_eq_getElem hjL, hx])
      have hs := HB.out.size
      clear hcell c0 c1 hx hjL
      by_cases hk : 1 ≤ f0.size ∧ f0.size ≤ 10
      · have HK := hide (decide_eq_true hk)
        by_cases hv : f1.size ≤ 16
        · have HVV := hide (decide_eq_true hv)
          have HO1 := hide (show ∀ i x, i < j + 1 → L[i]? = some x → kvOk x from fun i x hi hx => by
            rcases Nat.lt_or_ge i j with h | h
            · exact HO.out i x h hx
            · rw [show i = j by omega, HX.out] at hx
              rw [← Option.some.inj hx]
              exact ⟨hk.1, hk.2, hv⟩)
          clear hk hv
          go_wp2_with fail
          refine (keyOk_any f0 _).mono ?_
          rintro e w1 ⟨rfl, rfl⟩
          rw [HK.out]
          go_wp2_with fail
          refine (valOk_any f1 _).mono ?_
          rintro e w1 ⟨rfl, rfl⟩
          rw [HVV.out]
          go_wp2_with fail
          go_roundw
          case rel => exact ⟨j + 1, by go_num, by omega, HO1, HB.out.alloc hs _⟩
          case measure => simp [intOf]; omega
        · have HVV := hide (decide_eq_false hv)
          have HV1 := hide (show V = false from HV.out.trans (decide_eq_false fun h => hv (h.1 _ (List.mem_of_getElem? HX.out)).2.2))
          clear hk hv
          go_wp2_with fail
          refine (keyOk_any f0 _).mono ?_
          rintro e w1 ⟨rfl, rfl⟩
          rw [HK.out]
          go_wp2_with fail
          refine (valOk_any f1 _).mono ?_
          rintro e w1 ⟨rfl, rfl⟩
          rw [HVV.out]
          go_wp2_with fail
          go_ret
          exact ⟨by rw [HV1.out]; rfl, HB.out.alloc hs _⟩
      · have HK := hide (decide_eq_false hk)
        have HV1 := hide (show V = false from HV.out.trans (decide_eq_false fun h => hk ⟨(h.1 _ (List.mem_of_getElem? HX.out)).1, (h.1 _ (List.mem_of_getElem? HX.out)).2.1⟩))
        clear hk
        go_wp2_with fail
        refine (keyOk_any f0 _).mono ?_
        rintro e w1 ⟨rfl, rfl⟩
        rw [HK.out]
        go_wp2_with fail
        go_ret
        exact ⟨by rw [HV1.out]; rfl, HB.out.alloc hs _⟩
    · have HA := hide (show ∀ o ∈ L, kvOk o from fun o ho => by
        obtain ⟨i, hi, e⟩ := List.getElem_of_mem ho
        exact HO.out i o (by rw [← HN.out] at hi; omega) (by rw [List.getElem?_eq_getElem hi, e]))
      have HV1 := hide (show V = decide (Srt L) from HV.out.trans (decide_eq_decide.2 ⟨fun h => h.2, fun h => ⟨HA.out, h⟩⟩))
      have HB' := hide HB.out.size
      go_wp2_with fail
      refine (HC.out _ ((HR.out.below HB.out (Nat.le_refl _)).mono HB.out.size)).mono ?_
      rintro e w1 ⟨rfl, hb1⟩
      have HB1 := hide (HB.out.trans (hb1.mono HB.out.size))
      clear hb1
      go_wp2_with fail
      go_ret
      exact ⟨by rw [HV1.out]; rfl, HB1.out⟩
end Go.Proofs.Ytphfakdbgohhgaa
