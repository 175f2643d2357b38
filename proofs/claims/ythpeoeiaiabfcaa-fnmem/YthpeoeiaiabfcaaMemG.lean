/-
  Contracts of spec.MemPut, l9Get and MemGet.
-/
import Derived.Test.YthpeoeiaiabfcaaMemF
namespace Go.Proofs.Ythpeoeiaiabfcaa
open Go.ChangeShapes Go.WideShapes Go.ChangeAt Go.RowKit

def PutPost' (w : World) (M : List En) (b : Bool) (e : Ending) (w' : World) : Prop := ∃ v, e = .returned (.tuple #[v, .bool b]) ∧ elEnt.Owns w.heap.size w' v M ∧ Below w.heap.size w w'

set_option maxHeartbeats 2000000 in
set_option maxRecDepth 20000 in
theorem sMemPut_any (B : Nat) (a : Option Addr) (cap : Nat) (L : List En) (x0 : ByteArray) (x1 : Int) (x2 : Bool) (x3 : ByteArray) (w : World) (hO : elEnt.Owns B w (.slice a L.length cap) L) (hl : L.length ≤ 2097151) :
    Calls Try.prog 12 #[.slice a L.length cap, .agg #[.string x0, .int .i64 x1, .bool x2, .string x3]] w (PutPost' w (putM L (x0, x1, x2, x3)) (putB L (x0, x1, x2, x3))) := by
  have HO := hide hO
  have HL := hide hl
  obtain ⟨P, hP⟩ : ∃ P, P = putM L (x0, x1, x2, x3) := ⟨_, rfl⟩
  obtain ⟨b, hb⟩ : ∃ b, b = putB L (x0, x1, x2, x3) := ⟨_, rfl⟩
  have HP := hide hP
  have HBB := hide hb
  rw [← hP, ← hb]
  have HRd := hide (show ∀ W, elEnt.Owns B W (.slice a L.length cap) L → elEnt.Rd W W.heap.size a L from fun W h => by
    obtain ⟨a', c', q, h, _⟩ := h.form
    simp only [Value.slice.injEq] at q
    rw [q.1]
    exact h)
  have HC := hide (fun W h => sMemOk_any a cap L W (HRd.out W h) (Nat.le_trans HL.out (by decide)))
  have HX0 := hide (BoxV.new 26 w #[.string x0, .int .i64 x1, .bool x2, .string x3])
  have hB := hide (fun o => (Below.refl w.heap.size w).alloc (Nat.le_refl _) o)
  clear hO hl hP hb
  by_cases hm : memOkL L
  · have HT := hide (fun W h => l9Put_any a cap L x0 x1 x2 x3 W (HRd.out W h) (Nat.le_trans HL.out (by decide)))
    have HIL := hide (insE_len (x0, x1, x2, x3) L)
    have HY := hide (fun h => putM_yes (e := (x0, x1, x2, x3)) hm h)
    have HNO := hide (fun h => putM_no (e := (x0, x1, x2, x3)) hm h)
    obtain ⟨M, hM⟩ : ∃ M, M = insE (x0, x1, x2, x3) L := ⟨_, rfl⟩
    rw [← hM] at HT HIL HY HNO
    have HD := hide (decide_eq_true hm)
    rw [HD.out] at HC
    obtain ⟨m, hm'⟩ : ∃ m, m = M.length := ⟨_, rfl⟩
    have HML := hide hm'
    obtain ⟨n, hn⟩ : ∃ n, n = L.length := ⟨_, rfl⟩
    have HN := hide hn
    rw [← hn] at HO HRd HC HT HIL HL ⊢
    clear hm hM hn hm'
    go_enter Try.func12, Try.ntmps12
    go_wp2_with fail
    refine (HC.out _ (HO.out.below (hB.out _) (Nat.le_refl _))).mono ?_
    rintro e w1 ⟨rfl, hb1⟩
    have HB1 := hide ((hB.out _).trans (hb1.mono (hB.out _).size))
    have HX1 := hide (HX0.out.below hb1 HX0.out.lt)
    have HO1 := hide (HO.out.below HB1.out (Nat.le_refl _))
    obtain ⟨c0, c1, c2, c3⟩ := HX1.out.four'
    clear hb1 HX0 HC
    go_wp2_with fail
    refine (HT.out _ HO1.out).mono ?_
    rintro e w3 ⟨v3, rfl, ho3, hb3⟩
    obtain ⟨a3, c3', rfl, hr3, _⟩ := ho3.form
    have HR3 := hide hr3
    have HB3 := hide (HB1.out.trans (hb3.mono HB1.out.size))
    have HO3 := hide (ho3.mono HB1.out.size)
    have HC3 := hide (fun W h => sMemOk_any a3 c3' M W h (by rw [HIL.out]; have := HL.out; omega))
    rw [← HML.out] at HO3 HC3 ⊢
    clear ho3 hr3 hb3
    go_wp2_with fail
    refine (HC3.out _ HR3.out).mono ?_
    rintro e w4 ⟨rfl, hb4⟩
    have HB4 := hide (HB3.out.trans (hb4.mono HB3.out.size))
    have HO4 := hide (HO3.out.below hb4 (Nat.le_refl _))
    clear hb4 HO3 HR3 HC3
    by_cases hk : memOkL M
    · have HD2 := hide (decide_eq_true hk)
      obtain ⟨q1, q2⟩ := HY.out hk
      have HQ1 := hide (HP.out.trans q1)
      have HQ2 := hide (HBB.out.trans q2)
      clear hk q1 q2
      rw [HD2.out]
      go_wp2_with fail
      go_ret2
      exact ⟨_, by rw [HQ2.out]; rfl, by rw [HQ1.out]; exact HO4.out, HB4.out⟩
    · have HD2 := hide (decide_eq_false hk)
      obtain ⟨q1, q2⟩ := HNO.out hk
      have HQ1 := hide (HP.out.trans q1)
      have HQ2 := hide (HBB.out.trans q2)
      have HO5 := hide (((HO.out.below HB4.out (Nat.le_refl _)).src (e := elEnt)).alloc (.cells #[] 26))
      have HOL := hide (show elEnt.Owns w4.heap.size (w4.alloc (.cells #[] 26)) (.slice (some ⟨w4.heap.size, 0, none⟩) 0 0) [] from El.Owns.lit (e := elEnt) w4.heap.size w4 [] #[] 0 rfl rfl (Nat.le_refl _) (by simp [maxLen]))
      have HBa := hide ((Below.refl w4.heap.size w4).alloc (Nat.le_refl _) (.cells #[] 26))
      have hba := HBa.out.size
      have hnl := HL.out
      have HNN := hide HN.out.symm
      clear hk q1 q2
      rw [HD2.out]
      go_wp2_with (at_builtin; go_loud (refine El.appendSrc (e := elEnt) rfl (.tmp 17) (.tmp 18) 24 rfl Try.underlying24 _ _ infoEnt rfl (by decide) (by decide) w4.heap.size w4 _ _ _ [] L rfl rfl HOL HO5 HBa hba L n rfl HNN.out (by omega) ?_); intro a6 c6 w6 HO6 HB6 hz6 _)
      go_ret2
      exact ⟨_, by rw [HQ2.out]; rfl, by rw [HQ1.out]; exact HO6.out.mono HB4.out.size, HB4.out.trans (HB6.out.mono HB4.out.size)⟩
  · obtain ⟨q1, q2⟩ := putM_bad (e := (x0, x1, x2, x3)) hm
    have HQ1 := hide (HP.out.trans q1)
    have HQ2 := hide (HBB.out.trans q2)
    have HD := hide (decide_eq_false hm)
    rw [HD.out] at HC
    obtain ⟨n, hn⟩ : ∃ n, n = L.length := ⟨_, rfl⟩
    rw [← hn] at HO HC ⊢
    clear hm hn q1 q2
    go_enter Try.func12, Try.ntmps12
    go_wp2_with fail
    refine (HC.out _ (HO.out.below (hB.out _) (Nat.le_refl _))).mono ?_
    rintro e w1 ⟨rfl, hb1⟩
    have HB1 := hide ((hB.out _).trans (hb1.mono (hB.out _).size))
    have hw1 := HB1.out.size
    clear hb1
    go_wp2_with fail
    go_ret2
    exact ⟨_, by rw [HQ2.out]; rfl, by rw [HQ1.out]; exact El.Owns.lit (e := elEnt) w.heap.size w1 [] #[] 0 rfl rfl hw1 (by simp [maxLen]), HB1.out.alloc hw1 _⟩

/-- a result that is an entry in a block of its own, and a bool -/
theorem res_ent' {fn : Func} {p u : Tmp} (h : fn.results = #[.cell p 26, .tmp u]) (tmps : Array Value) (w : World) (g : Nat) (ht : tmps.getD p undef = .pointer (some ⟨g, 0, none⟩)) {v0 v1 v2 v3 : Value} (hx : BoxV 26 w g #[v0, v1, v2, v3]) :
    (results fn tmps).run Try.prog w = .ok (.tuple #[.agg #[v0, v1, v2, v3], tmps.getD u undef]) w := by
  obtain ⟨c0, c1, c2, c3⟩ := hx.four'
  rw [Array.getD_eq_getD_getElem?] at ht
  simp only [results, h]
  simp [ht, go_sem, c0, c1, c2, c3]
def EntBPost' (w : World) (f0 : ByteArray) (f1 : Int) (f2 : Bool) (f3 : ByteArray) (b : Bool) (e : Ending) (w' : World) : Prop :=
  e = .returned (.tuple #[.agg #[.string f0, .int .i64 f1, .bool f2, .string f3], .bool b]) ∧ Below w.heap.size w w'

theorem getE_first {k : ByteArray} {n : Int} {L : List En} {j : Nat} {x : En} (hj : L[j]? = some x) (hx : x.1 = k ∧ x.2.1 ≤ n) (hb : ∀ i y, i < j → L[i]? = some y → ¬ (y.1 = k ∧ y.2.1 ≤ n)) : getE k n L = some x := by
  obtain ⟨hl, rfl⟩ := List.getElem?_eq_some_iff.1 hj
  refine List.find?_eq_some_iff_getElem.mpr ⟨by simp [hx], j, hl, rfl, fun i hi => ?_⟩
  simp only [Bool.not_eq_true', decide_eq_false_iff_not]
  exact hb i _ hi (List.getElem?_eq_getElem (by omega))
theorem getE_never {k : ByteArray} {n : Int} {L : List En} (hb : ∀ i y, i < L.length → L[i]? = some y → ¬ (y.1 = k ∧ y.2.1 ≤ n)) : getE k n L = none :=
  getE_none.mpr fun x hx => by
    obtain ⟨i, hi, rfl⟩ := List.getElem_of_mem hx
    exact hb i _ hi (List.getElem?_eq_getElem hi)

set_option maxHeartbeats 2000000 in
set_option maxRecDepth 20000 in
theorem l9Get_any (a : Option Addr) (cap : Nat) (L : List En) (k : ByteArray) (q : Int) (w : World) (hr : elEnt.Rd w w.heap.size a L) (hl : L.length ≤ 2097152) (f0 : ByteArray) (f1 : Int) (f2 : Bool) (f3 : ByteArray) (hf : (getE k q L).getD zeroE = (f0, f1, f2, f3)) :
    Calls Try.prog 54 #[.slice a L.length cap, .string k, .int .i64 q] w (EntBPost' w f0 f1 f2 f3 (getE k q L).isSome) := by
  have HB := hide ((Below.refl w.heap.size w).alloc (Nat.le_refl _) (.cells #[.string ⟨#[]⟩, .int .i64 0, .bool false, .string ⟨#[]⟩] 26))
  have HR := hide ((hr.below HB.out (Nat.le_refl _)))
  have HX := hide (BoxV.new 26 w #[.string ⟨#[]⟩, .int .i64 0, .bool false, .string ⟨#[]⟩])
  obtain ⟨b, hb⟩ : ∃ b, b = (getE k q L).isSome := ⟨_, rfl⟩
  have HBB := hide hb
  have HF := hide hf
  rw [← hb]
  obtain ⟨n, hn⟩ : ∃ n, n = L.length := ⟨_, rfl⟩
  have HN := hide hn
  rw [← hn] at hl ⊢
  clear hr hb hf hn
  go_enter Try.func54, Try.ntmps54
  go_wp2_with fail
  obtain ⟨W, hW⟩ : ∃ W, W = w.alloc (.cells #[.string ⟨#[]⟩, .int .i64 0, .bool false, .string ⟨#[]⟩] 26) := ⟨_, rfl⟩
  rw [← hW] at HB HR HX ⊢
  clear hW
  go_loop [8] (fun i => ∃ j : Nat, i = .int .i64 j ∧ j ≤ n ∧ Hid (∀ i y, i < j → L[i]? = some y → ¬ (y.1 = k ∧ y.2.1 ≤ q))) (fun i => n - (intOf i).toNat)
  case atStart => exact ⟨0, rfl, by omega, fun i y hi => by omega⟩
  case round =>
    obtain ⟨j, rfl, hj, HA⟩ := hrel
    by_cases hlt : j < n
    · have hjL : j < L.length := by rw [← HN.out]; exact hlt
      obtain ⟨b', off, rfl, hb, hcell⟩ := HR.out (by omega)
      obtain ⟨g0, g1, g2, g3, hx⟩ := partsEnt L[j]
      obtain ⟨c0, c1, c2, c3⟩ := cellsEnt hx (hcell j hjL)
      have HJ := hide (show L[j]? = some (g0, g1, g2, g3) by rw [List.getElem?_eq_getElem hjL, hx])
      clear hcell hx hjL
      by_cases h1 : g0 = k
      · have z1 : (g0.toList == k.toList) = true := (keq_iff g0 k).2 h1
        by_cases h2 : g1 ≤ q
        · have hge := getE_first HJ.out ⟨h1, h2⟩ HA.out
          have HQ := hide (show (f0, f1, f2, f3) = ((g0, g1, g2, g3) : En) by rw [← HF.out, hge]; rfl)
          have HQB := hide (show b = true by rw [HBB.out, hge]; rfl)
          obtain ⟨y0, y1, y2, y3⟩ := HX.out.froz4
          obtain ⟨d0, d1, d2, d3⟩ := HX.out.four'
          clear h1 hge
          go_wp2_with fail
          refine bodyPost_ret (res_ent' rfl _ _ w.heap.size rfl (HX.out.all4 _ _ _ _)) rfl ?_
          rw [HQB.out]
          simp only [Prod.mk.injEq] at HQ
          obtain ⟨rfl, rfl, rfl, rfl⟩ := HQ.out
          exact ⟨rfl, below_four HB.out (Nat.le_refl _) _ _ _ _⟩
        · have HA1 := hide (show ∀ i y, i < j + 1 → L[i]? = some y → ¬ (y.1 = k ∧ y.2.1 ≤ q) from fun i y hi hy => by
            rcases Nat.lt_or_ge i j with h | h
            · exact HA.out i y h hy
            · rw [show i = j by omega, HJ.out] at hy
              rw [← Option.some.inj hy]
              exact fun h => h2 h.2)
          clear h1
          go_wp2_with fail
          go_round
          case rel => exact ⟨j + 1, by go_num, by omega, HA1⟩
          case measure => simp [intOf]; omega
      · have z1 : (g0.toList == k.toList) = false := keq_false h1
        have HA1 := hide (show ∀ i y, i < j + 1 → L[i]? = some y → ¬ (y.1 = k ∧ y.2.1 ≤ q) from fun i y hi hy => by
          rcases Nat.lt_or_ge i j with h | h
          · exact HA.out i y h hy
          · rw [show i = j by omega, HJ.out] at hy
            rw [← Option.some.inj hy]
            exact fun h => h1 h.1)
        clear h1
        go_wp2_with fail
        go_round
        case rel => exact ⟨j + 1, by go_num, by omega, HA1⟩
        case measure => simp [intOf]; omega
    · have hge := getE_never (k := k) (n := q) (L := L) (fun i y hi hy => HA.out i y (by have := HN.out; omega) hy)
      have HQ := hide (show (f0, f1, f2, f3) = zeroE by rw [← HF.out, hge]; rfl)
      have HQB := hide (show b = false by rw [HBB.out, hge]; rfl)
      obtain ⟨y0, y1, y2, y3⟩ := HX.out.froz4
      obtain ⟨d0, d1, d2, d3⟩ := HX.out.four'
      clear hge
      go_wp2_with fail
      refine bodyPost_ret (res_ent' rfl _ _ w.heap.size rfl (HX.out.all4 _ _ _ _)) rfl ?_
      rw [HQB.out]
      simp only [zeroE, Prod.mk.injEq] at HQ
      obtain ⟨rfl, rfl, rfl, rfl⟩ := HQ.out
      exact ⟨rfl, below_four HB.out (Nat.le_refl _) _ _ _ _⟩

set_option maxHeartbeats 2000000 in
set_option maxRecDepth 20000 in
theorem sMemGet_any (a : Option Addr) (cap : Nat) (L : List En) (k : ByteArray) (q : Int) (w : World) (hr : elEnt.Rd w w.heap.size a L) (hl : L.length ≤ 2097152) (f0 : ByteArray) (f1 : Int) (f2 : Bool) (f3 : ByteArray) (hf : getM L k q = (f0, f1, f2, f3)) :
    Calls Try.prog 30 #[.slice a L.length cap, .string k, .int .i64 q] w (EntBPost' w f0 f1 f2 f3 (getB L k q)) := by
  have HR := hide hr
  have HC := hide (fun W h => sMemOk_any a cap L W h hl)
  obtain ⟨b, hb⟩ : ∃ b, b = getB L k q := ⟨_, rfl⟩
  rw [← hb]
  have hB := hide (fun o => (Below.refl w.heap.size w).alloc (Nat.le_refl _) o)
  have HX0 := hide (BoxV.new 26 w #[.string ⟨#[]⟩, .int .i64 0, .bool false, .string ⟨#[]⟩])
  by_cases hm : memOkL L
  · have HD := hide (decide_eq_true hm)
    rw [HD.out] at HC
    have hgm : getM L k q = (getE k q L).getD zeroE := if_pos hm
    have HQB := hide (show (getE k q L).isSome = b by rw [hb]; unfold getB; rw [decide_eq_true hm, Bool.true_and])
    have HG := hide (fun W h => l9Get_any a cap L k q W h hl f0 f1 f2 f3 (hgm.symm.trans hf))
    rw [HQB.out] at HG
    obtain ⟨n, hn⟩ : ∃ n, n = L.length := ⟨_, rfl⟩
    rw [← hn] at HC HG ⊢
    clear hm hgm hf hb hr hl hn
    go_enter Try.func30, Try.ntmps30
    go_wp2_with fail
    refine (HC.out _ ((HR.out.below (hB.out _) (Nat.le_refl _)).mono (by simp))).mono ?_
    rintro e w1 ⟨rfl, hb1⟩
    have HB1 := hide ((hB.out _).trans (hb1.mono (hB.out _).size))
    have HX1 := hide (HX0.out.below hb1 HX0.out.lt)
    clear hb1 HX0 HC
    go_wp2_with fail
    refine (HG.out _ ((HR.out.below HB1.out (Nat.le_refl _)).mono HB1.out.size)).mono ?_
    rintro e w3 ⟨rfl, hb3⟩
    have HB3 := hide (HB1.out.trans (hb3.mono HB1.out.size))
    have HX3 := hide (HX1.out.below hb3 HX1.out.lt)
    have hx3 := HX3.out.lt
    clear hb3 HG HX1
    have hw3 := HB3.out.size
    obtain ⟨y0, y1, y2, y3⟩ := HX3.out.froz4
    obtain ⟨d0, d1, d2, d3⟩ := HX3.out.four'
    go_wp2_with fail
    refine bodyPost_ret (res_ent' rfl _ _ w.heap.size rfl ((HX3.out.all4 _ _ _ _).alloc _)) rfl ?_
    exact ⟨rfl, (below_four HB3.out (Nat.le_refl _) _ _ _ _).alloc (by simpa using hw3) _⟩
  · have HD := hide (decide_eq_false hm)
    rw [HD.out] at HC
    have HQ := hide (show (f0, f1, f2, f3) = zeroE by rw [← hf]; exact if_neg hm)
    have HQB := hide (show b = false by rw [hb]; unfold getB; rw [decide_eq_false hm, Bool.false_and])
    obtain ⟨m, hn⟩ : ∃ m, m = L.length := ⟨_, rfl⟩
    rw [← hn] at HC ⊢
    clear hm hf hb hr hl hn
    go_enter Try.func30, Try.ntmps30
    go_wp2_with fail
    refine (HC.out _ ((HR.out.below (hB.out _) (Nat.le_refl _)).mono (by simp))).mono ?_
    rintro e w1 ⟨rfl, hb1⟩
    have HB1 := hide ((hB.out _).trans (hb1.mono (hB.out _).size))
    have HX1 := hide (HX0.out.below hb1 HX0.out.lt)
    clear hb1 HX0 HC
    obtain ⟨y0, y1, y2, y3⟩ := HX1.out.froz4
    obtain ⟨d0, d1, d2, d3⟩ := HX1.out.four'
    go_wp2_with fail
    refine bodyPost_ret (res_ent' rfl _ _ w.heap.size rfl (HX1.out.all4 _ _ _ _)) rfl ?_
    rw [HQB.out]
    simp only [zeroE, Prod.mk.injEq] at HQ
    obtain ⟨rfl, rfl, rfl, rfl⟩ := HQ.out
    exact ⟨rfl, below_four HB1.out (Nat.le_refl _) _ _ _ _⟩
end Go.Proofs.Ythpeoeiaiabfcaa
