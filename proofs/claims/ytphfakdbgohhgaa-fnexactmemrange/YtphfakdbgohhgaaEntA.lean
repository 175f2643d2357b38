/-
  Contracts of impl.entOk, ascends, versions, inOrder and entsInOrder.
-/
import Derived.Test.YtphfakdbgohhgaaCmpE
import Derived.Test.YtphfakdbgohhgaaMemN
import Derived.Test.YtphfakdbgohhgaaOpkO
import Derived.Test.YtphfakdbgohhgaaSrcG
import Derived.StillTailTactics
import Derived.Deep.DeepCutAuto
import Derived.Deep.RegionHeld3
import Derived.Deep.QuietTactic
import Derived.BigQuiet
import Derived.Laws.EntriesVeiled
namespace Go.Proofs.Ytphfakdbgohhgaa
open Go.ChangeShapes Go.WideShapes Go.ChangeAt Go.RowKit

theorem entOk_any (f0 : ByteArray) (f1 : Int) (f2 : Bool) (f3 : ByteArray) (w : World) :
    Calls Try.prog 100 #[.agg #[.string f0, .int .i64 f1, .bool f2, .string f3]] w (BoolPost w (decide (entOk (f0, f1, f2, f3)))) := by
  obtain ⟨V, hV⟩ : ∃ V, V = decide (entOk (f0, f1, f2, f3)) := ⟨_, rfl⟩
  rw [← hV]
  have HB := hide ((Below.refl w.heap.size w).alloc (Nat.le_refl _) (.cells #[.string f0, .int .i64 f1, .bool f2, .string f3] 26))
  have hw0 := HB.out.size
  by_cases ho : opOk (f0, f2, f3)
  · have HO := hide (decide_eq_true ho)
    by_cases h0 : 0 ≤ f1
    · by_cases h1 : f1 ≤ 1000000
      · have HV := hide (show V = true from hV.trans (decide_eq_true ⟨ho, h0, h1⟩))
        clear hV ho
        go_enter Try.func100, Try.ntmps100
        go_wp2_with fail
        refine (opOk_any f0 f2 f3 _).mono ?_
        rintro e w1 ⟨rfl, hb1⟩
        have HX := hide ((BoxV.new 26 w #[.string f0, .int .i64 f1, .bool f2, .string f3]).below hb1 (by simp))
        have c1 := HX.out.cell 1 _ rfl
        have HB1 := hide (HB.out.trans (hb1.mono hw0))
        rw [HO.out]
        go_wp2_with fail
        go_ret
        exact ⟨by rw [HV.out]; rfl, HB1.out⟩
      · have HV := hide (show V = false from hV.trans (decide_eq_false fun h => h1 h.2.2))
        have HD := hide (show decide (f1 ≤ 1000000) = false from decide_eq_false h1)
        clear hV ho
        go_enter Try.func100, Try.ntmps100
        go_wp2_with fail
        refine (opOk_any f0 f2 f3 _).mono ?_
        rintro e w1 ⟨rfl, hb1⟩
        have HX := hide ((BoxV.new 26 w #[.string f0, .int .i64 f1, .bool f2, .string f3]).below hb1 (by simp))
        have c1 := HX.out.cell 1 _ rfl
        have HB1 := hide (HB.out.trans (hb1.mono hw0))
        rw [HO.out]
        go_wp2_with fail
        go_ret
        exact ⟨by show Ending.returned (.bool (decide (f1 ≤ 1000000))) = _; rw [HD.out, HV.out], HB1.out⟩
    · have HV := hide (show V = false from hV.trans (decide_eq_false fun h => h0 h.2.1))
      clear hV ho
      go_enter Try.func100, Try.ntmps100
      go_wp2_with fail
      refine (opOk_any f0 f2 f3 _).mono ?_
      rintro e w1 ⟨rfl, hb1⟩
      have HX := hide ((BoxV.new 26 w #[.string f0, .int .i64 f1, .bool f2, .string f3]).below hb1 (by simp))
      have c1 := HX.out.cell 1 _ rfl
      have HB1 := hide (HB.out.trans (hb1.mono hw0))
      rw [HO.out]
      go_wp2_with fail
      go_ret
      exact ⟨by rw [HV.out]; rfl, HB1.out⟩
  · have HO := hide (decide_eq_false ho)
    have HV := hide (show V = false from hV.trans (decide_eq_false fun h => ho h.1))
    clear hV ho
    go_enter Try.func100, Try.ntmps100
    go_wp2_with fail
    refine (opOk_any f0 f2 f3 _).mono ?_
    rintro e w1 ⟨rfl, hb1⟩
    have HB1 := hide (HB.out.trans (hb1.mono hw0))
    rw [HO.out]
    go_wp2_with fail
    go_ret
    exact ⟨by rw [HV.out]; rfl, HB1.out⟩

theorem srtE_no {L : List En} {p : Nat} (h1 : p + 1 < L.length) (h : ¬ ahead (L[p]'(by omega)) L[p + 1]) : ¬ SrtE L := fun hs => h ((srtE_adj L).1 hs p h1)
theorem at_of {α : Type} {L : List α} {i : Nat} (h : i < L.length) {x : α} (hx : L[i]? = some x) : L[i] = x := by
  rw [List.getElem?_eq_getElem h] at hx
  exact Option.some.inj hx

set_option maxHeartbeats 1000000 in
set_option maxRecDepth 20000 in
theorem ascendsE_any (a : Option Addr) (cap : Nat) (L : List En) (w : World) (hr : elEnt.Rd w w.heap.size a L) (hl : L.length ≤ 2097152) :
    Calls Try.prog 107 #[.slice a L.length cap, .func (.func 87) #[.agg #[]] #[]] w (BoolPost w (decide (SrtE L))) := by
  have HR := hide hr
  clear hr
  obtain ⟨V, hV⟩ : ∃ V, V = decide (SrtE L) := ⟨_, rfl⟩
  have HV := hide hV
  rw [← hV]
  obtain ⟨n, hn⟩ : ∃ n, n = L.length := ⟨_, rfl⟩
  have HN := hide hn
  rw [← hn] at hl
  rw [← hn]
  clear hn hV
  go_enter Try.func107, Try.ntmps107
  go_wp2_with fail
  go_loopw [5] (fun i wr => ∃ j : Nat, i = .int .i64 j ∧ 1 ≤ j ∧ (j = 1 ∨ j ≤ n) ∧ Hid (∀ i (h : i + 1 < L.length), i + 1 < j → ahead L[i] L[i + 1]) ∧ Hid (Below w.heap.size w wr)) (fun i _ => n - (intOf i).toNat)
  case atStart => exact ⟨1, rfl, by omega, .inl rfl, fun i _ hi => by omega, Below.refl _ _⟩
  case round =>
    obtain ⟨j, rfl, hj0, hj, HA, HB⟩ := hrel
    by_cases hlt : j < n
    · have hjL : j < L.length := by rw [← HN.out]; exact hlt
      obtain ⟨p, hp⟩ : ∃ p, j = p + 1 := ⟨j - 1, by omega⟩
      have HP := hide hp
      have hpn : p < n := by omega
      have hpL : p < L.length := by omega
      have wp1 : IntKind.i64.wrap ((j : Int) - 1) = (p : Int) := by rw [IntKind.wrap_i64]; omega
      obtain ⟨b, o, rfl, hb, hc⟩ := HR.out (by omega)
      obtain ⟨f0, f1, f2, f3, hf⟩ := partsEnt L[p]
      obtain ⟨p0, p1, p2, p3⟩ := cellsEnt hf (hc p hpL)
      obtain ⟨g0, g1, g2, g3, hg⟩ := partsEnt L[j]
      obtain ⟨q0, q1, q2, q3⟩ := cellsEnt hg (hc j hjL)
      have d0 := (HB.out.cell (p := ⟨b, o + p * 4, none⟩) hb).trans p0
      have d1 := (HB.out.cell (p := ⟨b, o + p * 4 + 1, none⟩) hb).trans p1
      have d2 := (HB.out.cell (p := ⟨b, o + p * 4 + 2, none⟩) hb).trans p2
      have d3 := (HB.out.cell (p := ⟨b, o + p * 4 + 3, none⟩) hb).trans p3
      have e0 := (HB.out.cell (p := ⟨b, o + j * 4, none⟩) hb).trans q0
      have e1 := (HB.out.cell (p := ⟨b, o + j * 4 + 1, none⟩) hb).trans q1
      have e2 := (HB.out.cell (p := ⟨b, o + j * 4 + 2, none⟩) hb).trans q2
      have e3 := (HB.out.cell (p := ⟨b, o + j * 4 + 3, none⟩) hb).trans q3
      have HF := hide (show L[p]? = some (f0, f1, f2, f3) by rw [List.getElem?_eq_getElem hpL, hf])
      have HG := hide (show L[j]? = some (g0, g1, g2, g3) by rw [List.getElem?_eq_getElem hjL, hg])
      have HJ := hide hjL
      clear hc p0 p1 p2 p3 q0 q1 q2 q3 hp hjL hpL hf hg
      go_wp2_with fail
      go_still_tail 10, (by kernel_rfl)
      change wpList _ _ _ _ _ wr.drew
      go_wp2_with fail
      refine (compareE_any f0 f1 f2 f3 g0 g1 g2 g3 _).mono ?_
      rintro e w1 ⟨rfl, hb1⟩
      have HB1 := hide (HB.out.drew.trans (hb1.mono HB.out.size))
      clear hb1 HB d0 d1 d2 d3 e0 e1 e2 e3 wp1
      by_cases hc : ahead (f0, f1, f2, f3) (g0, g1, g2, g3)
      · have t0 : decide (0 ≤ cmpE (f0, f1, f2, f3) (g0, g1, g2, g3)) = false := decide_eq_false (by have := cmpE_neg.2 hc; omega)
        have HA1 := hide (show ∀ i (h : i + 1 < L.length), i + 1 < j + 1 → ahead L[i] L[i + 1] from fun i h hi => by
          rcases Nat.lt_or_ge (i + 1) j with h' | h'
          · exact HA.out i h h'
          · have e := HP.out
            obtain rfl : i = p := by omega
            subst e
            rw [at_of _ HF.out, at_of _ HG.out]
            exact hc)
        clear hc
        go_wp2_with fail
        go_roundw
        case rel => exact ⟨j + 1, by go_num, by omega, .inr (by omega), HA1, HB1⟩
        case measure => simp [intOf]; omega
      · have t0 : decide (0 ≤ cmpE (f0, f1, f2, f3) (g0, g1, g2, g3)) = true := decide_eq_true (by have : ¬ cmpE (f0, f1, f2, f3) (g0, g1, g2, g3) < 0 := fun h => hc (cmpE_neg.1 h); omega)
        have HV1 := hide (show V = false from HV.out.trans (decide_eq_false (by
          have e := HP.out
          subst e
          exact srtE_no HJ.out (by rw [at_of _ HF.out, at_of _ HG.out]; exact hc))))
        clear hc
        go_wp2_with fail
        go_ret
        exact ⟨by rw [HV1.out]; rfl, HB1.out⟩
    · have HV1 := hide (show V = true from HV.out.trans (decide_eq_true ((srtE_adj L).2 fun i h => HA.out i h (by rw [← HN.out] at h; omega))))
      go_wp2_with fail
      go_ret
      exact ⟨by rw [HV1.out]; rfl, HB.out⟩

/-- a result that is a sorted list in a block of its own -/
theorem res_list {fn : Func} {p : Tmp} (h : fn.results = #[.cell p 80]) (tmps : Array Value) (w : World) (g : Nat) (ht : tmps.getD p undef = .pointer (some ⟨g, 0, none⟩)) {v0 v1 : Value} (hx : BoxV 80 w g #[v0, v1]) :
    (results fn tmps).run Try.prog w = .ok (.agg #[v0, v1]) w := by
  have c0 := hx.cell 0 v0 rfl
  have c1 := hx.cell 1 v1 rfl
  rw [Array.getD_eq_getD_getElem?] at ht
  simp only [results, h]
  simp [ht, go_sem, c0, c1]
def ListPost (w : World) (v : Value) (e : Ending) (w' : World) : Prop := e = .returned (.agg #[v, .func (.func 87) #[.agg #[]] #[]]) ∧ Below w.heap.size w w'
theorem versions_any (a : Option Addr) (n cap : Nat) (w : World) :
    Calls Try.prog 56 #[.slice a n cap] w (ListPost w (.slice a n cap)) := by
  have hmf : ∀ (fn : Fn) (first cap : Array Value) (w : World), (Instr.makeFunc fn first cap).run Try.prog w = .ok (.func fn first cap) w := fun _ _ _ _ => rfl
  have hx := BoxV.new 80 w #[.slice a n cap, .func (.func 87) #[.agg #[]] #[]]
  go_enter Try.func56, Try.ntmps56
  go_wp2
  refine bodyPost_ret (res_list rfl _ _ w.heap.size rfl hx) rfl ?_
  exact ⟨rfl, (Below.refl _ _).alloc (Nat.le_refl _) _⟩

theorem inOrder_any (a : Option Addr) (cap : Nat) (L : List En) (w : World) (hr : elEnt.Rd w w.heap.size a L) (hl : L.length ≤ 2097152) :
    Calls Try.prog 101 #[.agg #[.slice a L.length cap, .func (.func 87) #[.agg #[]] #[]]] w (BoolPost w (decide (SrtE L))) := by
  have HR := hide hr
  have HL := hide hl
  have HC := hide (fun W h => ascendsE_any a cap L W h HL.out)
  have hB := fun o => (Below.refl w.heap.size w).alloc (Nat.le_refl _) o
  obtain ⟨n, hn⟩ : ∃ n, n = L.length := ⟨_, rfl⟩
  rw [← hn] at HC ⊢
  clear hn hl hr
  go_enter Try.func101, Try.ntmps101
  go_wp2_with fail
  refine (HC.out _ ((HR.out.below (hB _) (Nat.le_refl _)).mono (by simp))).mono ?_
  rintro e w1 ⟨rfl, hb1⟩
  have HB1 := hide ((hB _).trans (hb1.mono (hB _).size))
  go_wp2_with fail
  go_ret
  exact ⟨rfl, HB1.out⟩

/-- entries, however many -/
def entsOk (L : List En) : Prop := (∀ e ∈ L, entOk e) ∧ SrtE L
instance (L : List En) : Decidable (entsOk L) := inferInstanceAs (Decidable (_ ∧ _))
theorem memOkL_iff {L : List En} : memOkL L ↔ L.length ≤ 60 ∧ entsOk L := Iff.rfl

set_option maxHeartbeats 1000000 in
theorem entsInOrder_any (a : Option Addr) (cap : Nat) (L : List En) (w : World) (hr : elEnt.Rd w w.heap.size a L) (hl : L.length ≤ 2097152) :
    Calls Try.prog 86 #[.slice a L.length cap] w (BoolPost w (decide (entsOk L))) := by
  have HR := hide hr
  clear hr
  obtain ⟨V, hV⟩ : ∃ V, V = decide (entsOk L) := ⟨_, rfl⟩
  have HV := hide hV
  rw [← hV]
  have HL := hide hl
  have HC := hide (fun W hr => inOrder_any a cap L W hr HL.out)
  obtain ⟨n, hn⟩ : ∃ n, n = L.length := ⟨_, rfl⟩
  have HN := hide hn
  rw [← hn] at hl HC
  rw [← hn]
  clear hn hV
  go_enter Try.func86, Try.ntmps86
  go_wp2_with fail
  go_loopw [7] (fun i wr => ∃ j : Nat, i = .int .i64 j ∧ j ≤ n ∧ Hid (∀ i x, i < j → L[i]? = some x → entOk x) ∧ Hid (Below w.heap.size w wr)) (fun i _ => n - (intOf i).toNat)
  case atStart => exact ⟨0, rfl, by omega, fun i _ hi _ => by omega, Below.refl _ _⟩
  case round =>
    obtain ⟨j, rfl, hj, HO, HB⟩ := hrel
    by_cases hlt : j < n
    · have hjL : j < L.length := by rw [← HN.out]; exact hlt
      obtain ⟨b, off, rfl, hb, hcell⟩ := HR.out (by omega)
      obtain ⟨f0, f1, f2, f3, hx⟩ := partsEnt L[j]
      obtain ⟨c0, c1, c2, c3⟩ := cellsEnt hx (hcell j hjL)
      have d0 := (HB.out.cell (p := ⟨b, off + j * 4, none⟩) hb).trans c0
      have d1 := (HB.out.cell (p := ⟨b, off + j * 4 + 1, none⟩) hb).trans c1
      have d2 := (HB.out.cell (p := ⟨b, off + j * 4 + 2, none⟩) hb).trans c2
      have d3 := (HB.out.cell (p := ⟨b, off + j * 4 + 3, none⟩) hb).trans c3
      have HX := hide (show L[j]? = some (f0, f1, f2, f3) by rw [List.getElem?_eq_getElem hjL, hx])
      have hs := HB.out.size
      clear hcell c0 c1 c2 c3 hx hjL
      by_cases hk : entOk (f0, f1, f2, f3)
      · have HK := hide (decide_eq_true hk)
        have HO1 := hide (show ∀ i x, i < j + 1 → L[i]? = some x → entOk x from fun i x hi hx => by
          rcases Nat.lt_or_ge i j with h | h
          · exact HO.out i x h hx
          · rw [show i = j by omega, HX.out] at hx
            rw [← Option.some.inj hx]
            exact hk)
        clear hk
        go_wp2_with fail
        refine (entOk_any f0 f1 f2 f3 _).mono ?_
        rintro e w1 ⟨rfl, hb1⟩
        rw [HK.out]
        have HB1 := hide ((HB.out.alloc hs _).trans (hb1.mono (HB.out.alloc hs _).size))
        clear hb1 HB d0 d1 d2 d3
        go_wp2_with fail
        go_roundw
        case rel => exact ⟨j + 1, by go_num, by omega, HO1, HB1⟩
        case measure => simp [intOf]; omega
      · have HK := hide (decide_eq_false hk)
        have HV1 := hide (show V = false from HV.out.trans (decide_eq_false fun h => hk (h.1 _ (List.mem_of_getElem? HX.out))))
        clear hk
        go_wp2_with fail
        refine (entOk_any f0 f1 f2 f3 _).mono ?_
        rintro e w1 ⟨rfl, hb1⟩
        rw [HK.out]
        have HB1 := hide ((HB.out.alloc hs _).trans (hb1.mono (HB.out.alloc hs _).size))
        clear hb1 HB d0 d1 d2 d3
        go_wp2_with fail
        go_ret
        exact ⟨by rw [HV1.out]; rfl, HB1.out⟩
    · have HA := hide (show ∀ o ∈ L, entOk o from fun o ho => by
        obtain ⟨i, hi, e⟩ := List.getElem_of_mem ho
        exact HO.out i o (by rw [← HN.out] at hi; omega) (by rw [List.getElem?_eq_getElem hi, e]))
      have HV1 := hide (show V = decide (SrtE L) from HV.out.trans (decide_eq_decide.2 ⟨fun h => h.2, fun h => ⟨HA.out, h⟩⟩))
      have HB' := hide HB.out.size
      go_wp2_with fail
      refine (versions_any a n cap _).mono ?_
      rintro e w1 ⟨rfl, hb1⟩
      have HB1 := hide (HB.out.trans (hb1.mono HB'.out))
      clear hb1
      go_wp2_with fail
      refine (HC.out _ ((HR.out.below HB1.out (Nat.le_refl _)).mono HB1.out.size)).mono ?_
      rintro e w2 ⟨rfl, hb2⟩
      have HB2 := hide (HB1.out.trans (hb2.mono HB1.out.size))
      go_wp2_with fail
      go_ret
      exact ⟨by rw [HV1.out]; rfl, HB2.out⟩
end Go.Proofs.Ytphfakdbgohhgaa
