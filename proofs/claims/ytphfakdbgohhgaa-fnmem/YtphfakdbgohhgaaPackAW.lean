/-
  Texts of this proof, put together: EntA, MemA, ReaI, GetI, WithI, MemD.
-/
import Derived.Test.YtphfakdbgohhgaaPackAT
import Derived.Test.YtphfakdbgohhgaaPackAB
import Derived.Test.YtphfakdbgohhgaaPackAU
import Derived.Test.YtphfakdbgohhgaaPackAL
import Derived.StillTailTactics
import Derived.Deep.DeepCutAuto
import Derived.Deep.RegionHeld3
import Derived.Deep.QuietTactic
import Derived.BigQuiet
import Derived.Laws.EntriesVeiled
import Derived.Test.YtphfakdbgohhgaaPackAI
import Derived.Test.YtphfakdbgohhgaaPackAV
import Derived.Test.YtphfakdbgohhgaaPackAO
import Derived.Test.YtphfakdbgohhgaaPackAK

/-
  Contracts of impl.entOk, ascends, versions, inOrder and entsInOrder.
-/
namespace Go.Proofs.Ytphfakdbgohhgaa
open Go.ChangeShapes Go.WideShapes Go.ChangeAt Go.RowKit

theorem entOk_any (f0 : ByteArray) (f1 : Int) (f2 : Bool) (f3 : ByteArray) (w : World) :
    Calls Try.prog 100 #[.agg #[.string f0, .int .i64 f1, .bool f2, .string f3]] w (BoolPost w (decide (entOk (f0, f1, f2, f3)))) := by
  obtain ⟨V, hV⟩ : ∃ V, V = decide (entOk (f0, f1, f2, f3)) := ⟨_, rfl⟩
  rw [← hV]
  have HB := hide ((Below.refl w.heap.size w).alloc (Nat.le_refl _) (.cells #[.string f0, .int .i64 f1, .bool f2, .string f3] 26))
  have hw0 := HB.out.size
  by_cases ho : opOk (f0, f2, f3)
  · have HO := hide (decide_eq_true ho)
    by_cases h0 : 0 ≤ f1
    · by_cases h1 : f1 ≤ 1000000
      · have HV := hide (show V = true from hV.trans (decide_eq_true ⟨ho, h0, h1⟩))
        clear hV ho
        go_enter Try.func100, Try.ntmps100
        go_wp2_with fail
        refine (opOk_any f0 f2 f3 _).mono ?_
        rintro e w1 ⟨rfl, hb1⟩
        have HX := hide ((BoxV.new 26 w #[.string f0, .int .i64 f1, .bool f2, .string f3]).below hb1 (by simp))
        have c1 := HX.out.cell 1 _ rfl
        have HB1 := hide (HB.out.trans (hb1.mono hw0))
        rw [HO.out]
        go_wp2_with fail
        go_ret
        exact ⟨by rw [HV.out]; rfl, HB1.out⟩
      · have HV := hide (show V = false from hV.trans (decide_eq_false fun h => h1 h.2.2))
        have HD := hide (show decide (f1 ≤ 1000000) = false from decide_eq_false h1)
        clear hV ho
        go_enter Try.func100, Try.ntmps100
        go_wp2_with fail
        refine (opOk_any f0 f2 f3 _).mono ?_
        rintro e w1 ⟨rfl, hb1⟩
        have HX := hide ((BoxV.new 26 w #[.string f0, .int .i64 f1, .bool f2, .string f3]).below hb1 (by simp))
        have c1 := HX.out.cell 1 _ rfl
        have HB1 := hide (HB.out.trans (hb1.mono hw0))
        rw [HO.out]
        go_wp2_with fail
        go_ret
        exact ⟨by show Ending.returned (.bool (decide (f1 ≤ 1000000))) = _; rw [HD.out, HV.out], HB1.out⟩
    · have HV := hide (show V = false from hV.trans (decide_eq_false fun h => h0 h.2.1))
      clear hV ho
      go_enter Try.func100, Try.ntmps100
      go_wp2_with fail
      refine (opOk_any f0 f2 f3 _).mono ?_
      rintro e w1 ⟨rfl, hb1⟩
      have HX := hide ((BoxV.new 26 w #[.string f0, .int .i64 f1, .bool f2, .string f3]).below hb1 (by simp))
      have c1 := HX.out.cell 1 _ rfl
      have HB1 := hide (HB.out.trans (hb1.mono hw0))
      rw [HO.out]
      go_wp2_with fail
      go_ret
      exact ⟨by rw [HV.out]; rfl, HB1.out⟩
  · have HO := hide (decide_eq_false ho)
    have HV := hide (show V = false from hV.trans (decide_eq_false fun h => ho h.1))
    clear hV ho
    go_enter Try.func100, Try.ntmps100
    go_wp2_with fail
    refine (opOk_any f0 f2 f3 _).mono ?_
    rintro e w1 ⟨rfl, hb1⟩
    have HB1 := hide (HB.out.trans (hb1.mono hw0))
    rw [HO.out]
    go_wp2_with fail
    go_ret
    exact ⟨by rw [HV.out]; rfl, HB1.out⟩

theorem srtE_no {L : List En} {p : Nat} (h1 : p + 1 < L.length) (h : ¬ ahead (L[p]'(by omega)) L[p + 1]) : ¬ SrtE L := fun hs => h ((srtE_adj L).1 hs p h1)
theorem at_of {α : Type} {L : List α} {i : Nat} (h : i < L.length) {x : α} (hx : L[i]? = some x) : L[i] = x := by
  rw [List.getElem?_eq_getElem h] at hx
  exact Option.some.inj hx

set_option maxHeartbeats 1000000 in
set_option maxRecDepth 20000 in
theorem ascendsE_any (a : Option Addr) (cap : Nat) (L : List En) (w : World) (hr : elEnt.Rd w w.heap.size a L) (hl : L.length ≤ 2097152) :
    Calls Try.prog 107 #[.slice a L.length cap, .func (.func 87) #[.agg #[]] #[]] w (BoolPost w (decide (SrtE L))) := by
  have HR := hide hr
  clear hr
  obtain ⟨V, hV⟩ : ∃ V, V = decide (SrtE L) := ⟨_, rfl⟩
  have HV := hide hV
  rw [← hV]
  obtain ⟨n, hn⟩ : ∃ n, n = L.length := ⟨_, rfl⟩
  have HN := hide hn
  rw [← hn] at hl
  rw [← hn]
  clear hn hV
  go_enter Try.func107, Try.ntmps107
  go_wp2_with fail
  go_loopw [5] (fun i wr => ∃ j : Nat, i = .int .i64 j ∧ 1 ≤ j ∧ (j = 1 ∨ j ≤ n) ∧ Hid (∀ i (h : i + 1 < L.length), i + 1 < j → ahead L[i] L[i + 1]) ∧ Hid (Below w.heap.size w wr)) (fun i _ => n - (intOf i).toNat)
  case atStart => exact ⟨1, rfl, by omega, .inl rfl, fun i _ hi => by omega, Below.refl _ _⟩
  case round =>
    obtain ⟨j, rfl, hj0, hj, HA, HB⟩ := hrel
    by_cases hlt : j < n
    · have hjL : j < L.length := by rw [← HN.out]; exact hlt
      obtain ⟨p, hp⟩ : ∃ p, j = p + 1 := ⟨j - 1, by omega⟩
      have HP := hide hp
      have hpn : p < n := by omega
      have hpL : p < L.length := by omega
      have wp1 : IntKind.i64.wrap ((j : Int) - 1) = (p : Int) := by rw [IntKind.wrap_i64]; omega
      obtain ⟨b, o, rfl, hb, hc⟩ := HR.out (by omega)
      obtain ⟨f0, f1, f2, f3, hf⟩ := partsEnt L[p]
      obtain ⟨p0, p1, p2, p3⟩ := cellsEnt hf (hc p hpL)
      obtain ⟨g0, g1, g2, g3, hg⟩ := partsEnt L[j]
      obtain ⟨q0, q1, q2, q3⟩ := cellsEnt hg (hc j hjL)
      have d0 := (HB.out.cell (p := ⟨b, o + p * 4, none⟩) hb).trans p0
      have d1 := (HB.out.cell (p := ⟨b, o + p * 4 + 1, none⟩) hb).trans p1
      have d2 := (HB.out.cell (p := ⟨b, o + p * 4 + 2, none⟩) hb).trans p2
      have d3 := (HB.out.cell (p := ⟨b, o + p * 4 + 3, none⟩) hb).trans p3
      have e0 := (HB.out.cell (p := ⟨b, o + j * 4, none⟩) hb).trans q0
      have e1 := (HB.out.cell (p := ⟨b, o + j * 4 + 1, none⟩) hb).trans q1
      have e2 := (HB.out.cell (p := ⟨b, o + j * 4 + 2, none⟩) hb).trans q2
      have e3 := (HB.out.cell (p := ⟨b, o + j * 4 + 3, none⟩) hb).trans q3
      have HF := hide (show L[p]? = some (f0, f1, f2, f3) by rw [List.getElem?_eq_getElem hpL, hf])
      have HG := hide (show L[j]? = some (g0, g1, g2, g3) by rw [List.getElem?_eq_getElem hjL, hg])
      have HJ := hide hjL
      clear hc p0 p1 p2 p3 q0 q1 q2 q3 hp hjL hpL hf hg
      go_wp2_with fail
      go_still_tail 10, (by kernel_rfl)
      change wpList _ _ _ _ _ wr.drew
      go_wp2_with fail
      refine (compareE_any f0 f1 f2 f3 g0 g1 g2 g3 _).mono ?_
      rintro e w1 ⟨rfl, hb1⟩
      have HB1 := hide (HB.out.drew.trans (hb1.mono HB.out.size))
      clear hb1 HB d0 d1 d2 d3 e0 e1 e2 e3 wp1
      by_cases hc : ahead (f0, f1, f2, f3) (g0, g1, g2, g3)
      · have t0 : decide (0 ≤ cmpE (f0, f1, f2, f3) (g0, g1, g2, g3)) = false := decide_eq_false (by have := cmpE_neg.2 hc; omega)
        have HA1 := hide (show ∀ i (h : i + 1 < L.length), i + 1 < j + 1 → ahead L[i] L[i + 1] from fun i h hi => by
          rcases Nat.lt_or_ge (i + 1) j with h' | h'
          · exact HA.out i h h'
          · have e := HP.out
            obtain rfl : i = p := by omega
            subst e
            rw [at_of _ HF.out, at_of _ HG.out]
            exact hc)
        clear hc
        go_wp2_with fail
        go_roundw
        case rel => exact ⟨j + 1, by go_num, by omega, .inr (by omega), HA1, HB1⟩
        case measure => simp [intOf]; omega
      · have t0 : decide (0 ≤ cmpE (f0, f1, f2, f3) (g0, g1, g2, g3)) = true := decide_eq_true (by have : ¬ cmpE (f0, f1, f2, f3) (g0, g1, g2, g3) < 0 := fun h => hc (cmpE_neg.1 h); omega)
        have HV1 := hide (show V = false from HV.out.trans (decide_eq_false (by
          have e := HP.out
          subst e
          exact srtE_no HJ.out (by rw [at_of _ HF.out, at_of _ HG.out]; exact hc))))
        clear hc
        go_wp2_with fail
        go_ret
        exact ⟨by rw [HV1.out]; rfl, HB1.out⟩
    · have HV1 := hide (show V = true from HV.out.trans (decide_eq_true ((srtE_adj L).2 fun i h => HA.out i h (by rw [← HN.out] at h; omega))))
      go_wp2_with fail
      go_ret
      exact ⟨by rw [HV1.out]; rfl, HB.out⟩

/-- a result that is a sorted list in a block of its own -/
theorem res_list {fn : Func} {p : Tmp} (h : fn.results = #[.cell p 80]) (tmps : Array Value) (w : World) (g : Nat) (ht : tmps.getD p undef = .pointer (some ⟨g, 0, none⟩)) {v0 v1 : Value} (hx : BoxV 80 w g #[v0, v1]) :
    (results fn tmps).run Try.prog w = .ok (.agg #[v0, v1]) w := by
  have c0 := hx.cell 0 v0 rfl
  have c1 := hx.cell 1 v1 rfl
  rw [Array.getD_eq_getD_getElem?] at ht
  simp only [results, h]
  simp [ht, go_sem, c0, c1]
def ListPost (w : World) (v : Value) (e : Ending) (w' : World) : Prop := e = .returned (.agg #[v, .func (.func 87) #[.agg #[]] #[]]) ∧ Below w.heap.size w w'
theorem versions_any (a : Option Addr) (n cap : Nat) (w : World) :
    Calls Try.prog 56 #[.slice a n cap] w (ListPost w (.slice a n cap)) := by
  have hmf : ∀ (fn : Fn) (first cap : Array Value) (w : World), (Instr.makeFunc fn first cap).run Try.prog w = .ok (.func fn first cap) w := fun _ _ _ _ => rfl
  have hx := BoxV.new 80 w #[.slice a n cap, .func (.func 87) #[.agg #[]] #[]]
  go_enter Try.func56, Try.ntmps56
  go_wp2
  refine bodyPost_ret (res_list rfl _ _ w.heap.size rfl hx) rfl ?_
  exact ⟨rfl, (Below.refl _ _).alloc (Nat.le_refl _) _⟩

theorem inOrder_any (a : Option Addr) (cap : Nat) (L : List En) (w : World) (hr : elEnt.Rd w w.heap.size a L) (hl : L.length ≤ 2097152) :
    Calls Try.prog 101 #[.agg #[.slice a L.length cap, .func (.func 87) #[.agg #[]] #[]]] w (BoolPost w (decide (SrtE L))) := by
  have HR := hide hr
  have HL := hide hl
  have HC := hide (fun W h => ascendsE_any a cap L W h HL.out)
  have hB := fun o => (Below.refl w.heap.size w).alloc (Nat.le_refl _) o
  obtain ⟨n, hn⟩ : ∃ n, n = L.length := ⟨_, rfl⟩
  rw [← hn] at HC ⊢
  clear hn hl hr
  go_enter Try.func101, Try.ntmps101
  go_wp2_with fail
  refine (HC.out _ ((HR.out.below (hB _) (Nat.le_refl _)).mono (by simp))).mono ?_
  rintro e w1 ⟨rfl, hb1⟩
  have HB1 := hide ((hB _).trans (hb1.mono (hB _).size))
  go_wp2_with fail
  go_ret
  exact ⟨rfl, HB1.out⟩

/-- entries, however many -/
def entsOk (L : List En) : Prop := (∀ e ∈ L, entOk e) ∧ SrtE L
instance (L : List En) : Decidable (entsOk L) := inferInstanceAs (Decidable (_ ∧ _))
theorem memOkL_iff {L : List En} : memOkL L ↔ L.length ≤ 60 ∧ entsOk L := Iff.rfl

set_option maxHeartbeats 1000000 in
theorem entsInOrder_any (a : Option Addr) (cap : Nat) (L : List En) (w : World) (hr : elEnt.Rd w w.heap.size a L) (hl : L.length ≤ 2097152) :
    Calls Try.prog 86 #[.slice a L.length cap] w (BoolPost w (decide (entsOk L))) := by
  have HR := hide hr
  clear hr
  obtain ⟨V, hV⟩ : ∃ V, V = decide (entsOk L) := ⟨_, rfl⟩
  have HV := hide hV
  rw [← hV]
  have HL := hide hl
  have HC := hide (fun W hr => inOrder_any a cap L W hr HL.out)
  obtain ⟨n, hn⟩ : ∃ n, n = L.length := ⟨_, rfl⟩
  have HN := hide hn
  rw [← hn] at hl HC
  rw [← hn]
  clear hn hV
  go_enter Try.func86, Try.ntmps86
  go_wp2_with fail
  go_loopw [7] (fun i wr => ∃ j : Nat, i = .int .i64 j ∧ j ≤ n ∧ Hid (∀ i x, i < j → L[i]? = some x → entOk x) ∧ Hid (Below w.heap.size w wr)) (fun i _ => n - (intOf i).toNat)
  case atStart => exact ⟨0, rfl, by omega, fun i _ hi _ => by omega, Below.refl _ _⟩
  case round =>
    obtain ⟨j, rfl, hj, HO, HB⟩ := hrel
    by_cases hlt : j < n
    · have hjL : j < L.length := by rw [← HN.out]; exact hlt
      obtain ⟨b, off, rfl, hb, hcell⟩ := HR.out (by omega)
      obtain ⟨f0, f1, f2, f3, hx⟩ := partsEnt L[j]
      obtain ⟨c0, c1, c2, c3⟩ := cellsEnt hx (hcell j hjL)
      have d0 := (HB.out.cell (p := ⟨b, off + j * 4, none⟩) hb).trans c0
      have d1 := (HB.out.cell (p := ⟨b, off + j * 4 + 1, none⟩) hb).trans c1
      have d2 := (HB.out.cell (p := ⟨b, off + j * 4 + 2, none⟩) hb).trans c2
      have d3 := (HB.out.cell (p := ⟨b, off + j * 4 + 3, none⟩) hb).trans c3
      have HX := hide (show L[j]? = some (f0, f1, f2, f3) by rw [List.getElem?_eq_getElem hjL, hx])
      have hs := HB.out.size
      clear hcell c0 c1 c2 c3 hx hjL
      by_cases hk : entOk (f0, f1, f2, f3)
      · have HK := hide (decide_eq_true hk)
        have HO1 := hide (show ∀ i x, i < j + 1 → L[i]? = some x → entOk x from fun i x hi hx => by
          rcases Nat.lt_or_ge i j with h | h
          · exact HO.out i x h hx
          · rw [show i = j by omega, HX.out] at hx
            rw [← Option.some.inj hx]
            exact hk)
        clear hk
        go_wp2_with fail
        refine (entOk_any f0 f1 f2 f3 _).mono ?_
        rintro e w1 ⟨rfl, hb1⟩
        rw [HK.out]
        have HB1 := hide ((HB.out.alloc hs _).trans (hb1.mono (HB.out.alloc hs _).size))
        clear hb1 HB d0 d1 d2 d3
        go_wp2_with fail
        go_roundw
        case rel => exact ⟨j + 1, by go_num, by omega, HO1, HB1⟩
        case measure => simp [intOf]; omega
      · have HK := hide (decide_eq_false hk)
        have HV1 := hide (show V = false from HV.out.trans (decide_eq_false fun h => hk (h.1 _ (List.mem_of_getElem? HX.out))))
        clear hk
        go_wp2_with fail
        refine (entOk_any f0 f1 f2 f3 _).mono ?_
        rintro e w1 ⟨rfl, hb1⟩
        rw [HK.out]
        have HB1 := hide ((HB.out.alloc hs _).trans (hb1.mono (HB.out.alloc hs _).size))
        clear hb1 HB d0 d1 d2 d3
        go_wp2_with fail
        go_ret
        exact ⟨by rw [HV1.out]; rfl, HB1.out⟩
    · have HA := hide (show ∀ o ∈ L, entOk o from fun o ho => by
        obtain ⟨i, hi, e⟩ := List.getElem_of_mem ho
        exact HO.out i o (by rw [← HN.out] at hi; omega) (by rw [List.getElem?_eq_getElem hi, e]))
      have HV1 := hide (show V = decide (SrtE L) from HV.out.trans (decide_eq_decide.2 ⟨fun h => h.2, fun h => ⟨HA.out, h⟩⟩))
      have HB' := hide HB.out.size
      go_wp2_with fail
      refine (versions_any a n cap _).mono ?_
      rintro e w1 ⟨rfl, hb1⟩
      have HB1 := hide (HB.out.trans (hb1.mono HB'.out))
      clear hb1
      go_wp2_with fail
      refine (HC.out _ ((HR.out.below HB1.out (Nat.le_refl _)).mono HB1.out.size)).mono ?_
      rintro e w2 ⟨rfl, hb2⟩
      have HB2 := hide (HB1.out.trans (hb2.mono HB1.out.size))
      go_wp2_with fail
      go_ret
      exact ⟨by rw [HV1.out]; rfl, HB2.out⟩
end Go.Proofs.Ytphfakdbgohhgaa

/-
  Contract of impl.MemOk.
-/
namespace Go.Proofs.Ytphfakdbgohhgaa
open Go.ChangeShapes Go.WideShapes Go.ChangeAt Go.RowKit

theorem iMemOk_any (a : Option Addr) (cap : Nat) (L : List En) (w : World) (hr : elEnt.Rd w w.heap.size a L) (hl : L.length ≤ 2097152) :
    Calls Try.prog 55 #[.slice a L.length cap] w (BoolPost w (decide (memOkL L))) := by
  have HC := hide (entsInOrder_any a cap L w hr hl)
  clear hr
  obtain ⟨V, hV⟩ : ∃ V, V = decide (memOkL L) := ⟨_, rfl⟩
  obtain ⟨U, hU⟩ : ∃ U, U = decide (entsOk L) := ⟨_, rfl⟩
  by_cases h : L.length ≤ 60
  · have HV := hide (show V = U by rw [hV, hU]; exact decide_eq_decide.2 ⟨fun k => k.2, fun k => ⟨h, k⟩⟩)
    rw [← hU] at HC
    rw [← hV]
    obtain ⟨n, hn⟩ : ∃ n, n = L.length := ⟨_, rfl⟩
    rw [← hn] at HC h ⊢
    clear hn hl hV hU
    go_enter Try.func55, Try.ntmps55
    go_wp2_with fail
    refine HC.out.mono ?_
    rintro e w1 ⟨rfl, hb1⟩
    have HB := hide hb1
    go_wp2_with fail
    go_ret
    exact ⟨by rw [HV.out]; rfl, HB.out⟩
  · have HV := hide (show V = false from hV.trans (decide_eq_false fun k => h k.1))
    rw [← hV]
    obtain ⟨n, hn⟩ : ∃ n, n = L.length := ⟨_, rfl⟩
    rw [← hn] at HC h ⊢
    clear hn hl hV hU
    go_enter Try.func55, Try.ntmps55
    go_wp2_with fail
    go_ret
    exact ⟨by rw [HV.out]; rfl, Below.refl _ _⟩
end Go.Proofs.Ytphfakdbgohhgaa

/-
  Split off MemB: three_boxes, res_ent, EntBPost, reach_any.
-/
namespace Go.Proofs.Ytphfakdbgohhgaa
open Go.ChangeShapes Go.WideShapes Go.ChangeAt Go.RowKit

/-- a box of a list, of an entry and of a result, laid one behind the other -/
theorem three_boxes (w : World) {T U V : TypeId} (xs ys zs : Array Value) : ∃ W, W = ((w.alloc (.cells xs T)).alloc (.cells ys U)).alloc (.cells zs V) ∧ W.heap.size = w.heap.size + 1 + 1 + 1 ∧ Below w.heap.size w W ∧
    BoxV T W w.heap.size xs ∧ BoxV U W (w.heap.size + 1) ys ∧ BoxV V W (w.heap.size + 1 + 1) zs := by
  refine ⟨_, rfl, by simp, (((Below.refl _ _).alloc (Nat.le_refl _) _).alloc (by simp) _).alloc (by simp; omega) _, ((BoxV.new T w xs).alloc _).alloc _, ?_, ?_⟩
  · have h := (BoxV.new U (w.alloc (.cells xs T)) ys).alloc (.cells zs V)
    rwa [Go.Deep.nblk_alloc] at h
  · have h := BoxV.new V ((w.alloc (.cells xs T)).alloc (.cells ys U)) zs
    rwa [Go.Deep.nblk_alloc, Go.Deep.nblk_alloc] at h
/-- a result that is an entry in a block of its own, and a bool -/
theorem res_ent {fn : Func} {p u : Tmp} (h : fn.results = #[.cell p 26, .tmp u]) (tmps : Array Value) (w : World) (g : Nat) (ht : tmps.getD p undef = .pointer (some ⟨g, 0, none⟩)) {v0 v1 v2 v3 : Value} (hx : BoxV 26 w g #[v0, v1, v2, v3]) :
    (results fn tmps).run Try.prog w = .ok (.tuple #[.agg #[v0, v1, v2, v3], tmps.getD u undef]) w := by
  obtain ⟨c0, c1, c2, c3⟩ := hx.four'
  rw [Array.getD_eq_getD_getElem?] at ht
  simp only [results, h]
  simp [ht, go_sem, c0, c1, c2, c3]
def EntBPost (w : World) (f0 : ByteArray) (f1 : Int) (f2 : Bool) (f3 : ByteArray) (b : Bool) (e : Ending) (w' : World) : Prop :=
  e = .returned (.tuple #[.agg #[.string f0, .int .i64 f1, .bool f2, .string f3], .bool b]) ∧ Below w.heap.size w w'

set_option maxHeartbeats 2000000 in
set_option maxRecDepth 20000 in
theorem reach_any (a : Option Addr) (cap : Nat) (L : List En) (x0 : ByteArray) (x1 : Int) (x2 : Bool) (x3 : ByteArray) (w : World) (hr : elEnt.Rd w w.heap.size a L) (hs : SrtE L) (hl : L.length ≤ 2097152)
    (f0 : ByteArray) (f1 : Int) (f2 : Bool) (f3 : ByteArray) (b : Bool) (hf : b = true → L[posI (x0, x1, x2, x3) L]? = some (f0, f1, f2, f3)) (hg : b = false → posI (x0, x1, x2, x3) L = L.length ∧ (f0, f1, f2, f3) = zeroE) :
    Calls Try.prog 61 #[.agg #[.slice a L.length cap, .func (.func 87) #[.agg #[]] #[]], .agg #[.string x0, .int .i64 x1, .bool x2, .string x3]] w (EntBPost w f0 f1 f2 f3 b) := by
  have HR := hide hr
  have HF := hide hf
  have HG := hide hg
  obtain ⟨p, hp⟩ : ∃ p, p = posI (x0, x1, x2, x3) L := ⟨_, rfl⟩
  have HI := hide (fun W (h : elEnt.Rd W W.heap.size a L) => searchEnt_any a cap L x0 x1 x2 x3 (posI (x0, x1, x2, x3) L) W h (posI_le _ _) (fun i h hi => cmpE_neg.2 (posI_before _ L i h hi)) (fun i h hi => Int.not_lt.1 fun hn => posI_after hs i h hi (cmpE_neg.1 hn)) hl)
  rw [← hp] at HI HF HG
  have hpl : p ≤ L.length := hp ▸ posI_le _ _
  obtain ⟨n, hn⟩ : ∃ n, n = L.length := ⟨_, rfl⟩
  have HN := hide hn
  rw [← hn] at HI HG hpl hl ⊢
  clear hr hs hn hf hg hp
  obtain ⟨W, hW, hz, hWb, hA, hX, hRR⟩ := three_boxes (T := 80) (U := 26) (V := 26) w #[.slice a n cap, .func (.func 87) #[.agg #[]] #[]] #[.string x0, .int .i64 x1, .bool x2, .string x3] #[.string ⟨#[]⟩, .int .i64 0, .bool false, .string ⟨#[]⟩]
  have HA := hide hA
  have HX := hide hX
  have HRR := hide hRR
  have HWB := hide hWb
  go_enter Try.func61, Try.ntmps61
  go_wp2_with fail
  rw [← hW]
  clear hW hz hWb hA hX hRR
  refine (HI.out _ ((HR.out.below HWB.out (Nat.le_refl _)).mono HWB.out.size)).mono ?_
  rintro e w1 ⟨fd, rfl, hb⟩
  have HB1 := hide hb
  have HA1 := hide (HA.out.below hb HA.out.lt)
  have HR1 := hide (HRR.out.below hb HRR.out.lt)
  have hzr : w.heap.size + 1 + 1 < W.heap.size := HRR.out.lt
  have hw1 := HB1.out.size
  have HBW := hide (HWB.out.trans (HB1.out.mono HWB.out.size))
  clear hb HA HRR HI
  obtain ⟨c0, c1⟩ := HA1.out.two'
  obtain ⟨d0, d1, d2, d3⟩ := HR1.out.four'
  obtain ⟨y0, y1, y2, y3⟩ := HR1.out.froz4
  cases b with
  | true =>
    have hf := HF.out rfl
    obtain ⟨hpL, hx⟩ := List.getElem?_eq_some_iff.1 hf
    have hpn : p < n := by rw [HN.out]; exact hpL
    have hne : ((p : Int) == (n : Int)) = false := by rw [beq_eq_false_iff_ne]; omega
    obtain ⟨b, o, rfl, hb, hc⟩ := HR.out (by omega)
    obtain ⟨p0, p1, p2, p3⟩ := cellsEnt hx (hc p hpL)
    have e0 := (HBW.out.cell (p := ⟨b, o + p * 4, none⟩) hb).trans p0
    have e1 := (HBW.out.cell (p := ⟨b, o + p * 4 + 1, none⟩) hb).trans p1
    have e2 := (HBW.out.cell (p := ⟨b, o + p * 4 + 2, none⟩) hb).trans p2
    have e3 := (HBW.out.cell (p := ⟨b, o + p * 4 + 3, none⟩) hb).trans p3
    clear hf hpL hx hc p0 p1 p2 p3
    go_wp2_with fail
    refine bodyPost_ret (res_ent rfl _ _ (w.heap.size + 1 + 1) rfl (HR1.out.all4 _ _ _ _)) rfl ?_
    exact ⟨rfl, below_four HBW.out (by omega) _ _ _ _⟩
  | false =>
    obtain ⟨hpe, hz⟩ := HG.out rfl
    subst hpe
    simp only [zeroE, Prod.mk.injEq] at hz
    obtain ⟨rfl, rfl, rfl, rfl⟩ := hz
    have hlr : w.heap.size + 1 + 1 < w1.heap.size := HR1.out.lt
    go_wp2_with fail
    refine bodyPost_ret (res_ent rfl _ _ (w.heap.size + 1 + 1) rfl ((HR1.out.all4 _ _ _ _).alloc _)) rfl ?_
    exact ⟨rfl, (below_four HBW.out (by omega) _ _ _ _).alloc (by simp; omega) _⟩
end Go.Proofs.Ytphfakdbgohhgaa

/-
  Split off MemC: iMemGet_any.
-/
namespace Go.Proofs.Ytphfakdbgohhgaa
open Go.ChangeShapes Go.WideShapes Go.ChangeAt Go.RowKit

set_option maxHeartbeats 2000000 in
set_option maxRecDepth 20000 in
theorem iMemGet_any (a : Option Addr) (cap : Nat) (L : List En) (k : ByteArray) (n : Int) (w : World) (hr : elEnt.Rd w w.heap.size a L) (hl : L.length ≤ 2097152) (f0 : ByteArray) (f1 : Int) (f2 : Bool) (f3 : ByteArray) (hf : getM L k n = (f0, f1, f2, f3)) :
    Calls Try.prog 16 #[.slice a L.length cap, .string k, .int .i64 n] w (EntBPost w f0 f1 f2 f3 (getB L k n)) := by
  have HR := hide hr
  have HC := hide (fun W h => iMemOk_any a cap L W h hl)
  obtain ⟨b, hb⟩ : ∃ b, b = getB L k n := ⟨_, rfl⟩
  rw [← hb]
  have hB := hide (fun o => (Below.refl w.heap.size w).alloc (Nat.le_refl _) o)
  have HX0 := hide (BoxV.new 26 w #[.string ⟨#[]⟩, .int .i64 0, .bool false, .string ⟨#[]⟩])
  by_cases hm : memOkL L
  · have HD := hide (decide_eq_true hm)
    rw [HD.out] at HC
    have hgm : getM L k n = (getE k n L).getD zeroE := if_pos hm
    have hgb : getB L k n = (getE k n L).isSome := by unfold getB; rw [decide_eq_true hm, Bool.true_and]
    obtain ⟨r1, r2⟩ := getE_reach hm.2.2 k n false ⟨#[]⟩
    by_cases hp : posI (k, n, false, ⟨#[]⟩) L < L.length
    · obtain ⟨g0, g1, g2, g3, hg⟩ := partsEnt L[posI (k, n, false, ⟨#[]⟩) L]
      have hgq : L[posI (k, n, false, ⟨#[]⟩) L]? = some (g0, g1, g2, g3) := by rw [List.getElem?_eq_getElem hp, hg]
      have HRE := hide (fun W h => reach_any a cap L k n false ⟨#[]⟩ W h hm.2.2 hl g0 g1 g2 g3 true (fun _ => hgq) (fun h => by cases h))
      by_cases he : g0 = k
      · have hge := r1 hp (by rw [hg]; exact he)
        rw [hg] at hge
        have HQ := hide (show (f0, f1, f2, f3) = ((g0, g1, g2, g3) : En) by rw [← hf, hgm, hge]; rfl)
        have HQB := hide (show b = true by rw [hb, hgb, hge]; rfl)
        have hkk : (g0.toList != k.toList) = false := by rw [he]; simp
        subst he
        obtain ⟨m, hn⟩ : ∃ m, m = L.length := ⟨_, rfl⟩
        rw [← hn] at HC HRE ⊢
        clear hm hgm hgb r1 r2 hp hg hgq hge hf hb hr hl hn
        go_enter Try.func16, Try.ntmps16
        go_wp2_with fail
        refine (HC.out _ ((HR.out.below (hB.out _) (Nat.le_refl _)).mono (by simp))).mono ?_
        rintro e w1 ⟨rfl, hb1⟩
        have HB1 := hide ((hB.out _).trans (hb1.mono (hB.out _).size))
        have HX1 := hide (HX0.out.below hb1 HX0.out.lt)
        clear hb1 HX0 HC
        go_wp2_with fail
        refine (versions_any a m cap _).mono ?_
        rintro e w2 ⟨rfl, hb2⟩
        have HB2 := hide (HB1.out.trans (hb2.mono HB1.out.size))
        have HX2 := hide (HX1.out.below hb2 HX1.out.lt)
        clear hb2
        go_wp2_with fail
        refine (HRE.out _ ((HR.out.below HB2.out (Nat.le_refl _)).mono HB2.out.size)).mono ?_
        rintro e w3 ⟨rfl, hb3⟩
        have HB3 := hide (HB2.out.trans (hb3.mono HB2.out.size))
        have HX3 := hide (HX2.out.below hb3 HX2.out.lt)
        have hx3 := HX3.out.lt
        clear hb3 HRE HX1 HX2
        have hw3 := HB3.out.size
        obtain ⟨y0, y1, y2, y3⟩ := HX3.out.froz4
        obtain ⟨d0, d1, d2, d3⟩ := HX3.out.four'
        go_wp2_with fail
        refine bodyPost_ret (res_ent rfl _ _ w.heap.size rfl ((HX3.out.all4 _ _ _ _).alloc _)) rfl ?_
        rw [HQB.out]
        simp only [Prod.mk.injEq] at HQ
        obtain ⟨rfl, rfl, rfl, rfl⟩ := HQ.out
        exact ⟨rfl, (below_four HB3.out (Nat.le_refl _) _ _ _ _).alloc (by simpa using hw3) _⟩
      · have hge := r2 (fun _ => by rw [hg]; exact he)
        have HQ := hide (show (f0, f1, f2, f3) = zeroE by rw [← hf, hgm, hge]; rfl)
        have HQB := hide (show b = false by rw [hb, hgb, hge]; rfl)
        have hkk : (g0.toList == k.toList) = false := keq_false he
        obtain ⟨m, hn⟩ : ∃ m, m = L.length := ⟨_, rfl⟩
        rw [← hn] at HC HRE ⊢
        clear hm hgm hgb r1 r2 hp hg hgq hge hf hb hr hl hn
        go_enter Try.func16, Try.ntmps16
        go_wp2_with fail
        refine (HC.out _ ((HR.out.below (hB.out _) (Nat.le_refl _)).mono (by simp))).mono ?_
        rintro e w1 ⟨rfl, hb1⟩
        have HB1 := hide ((hB.out _).trans (hb1.mono (hB.out _).size))
        have HX1 := hide (HX0.out.below hb1 HX0.out.lt)
        clear hb1 HX0 HC
        go_wp2_with fail
        refine (versions_any a m cap _).mono ?_
        rintro e w2 ⟨rfl, hb2⟩
        have HB2 := hide (HB1.out.trans (hb2.mono HB1.out.size))
        have HX2 := hide (HX1.out.below hb2 HX1.out.lt)
        clear hb2
        go_wp2_with fail
        refine (HRE.out _ ((HR.out.below HB2.out (Nat.le_refl _)).mono HB2.out.size)).mono ?_
        rintro e w3 ⟨rfl, hb3⟩
        have HB3 := hide (HB2.out.trans (hb3.mono HB2.out.size))
        have HX3 := hide (HX2.out.below hb3 HX2.out.lt)
        have hx3 := HX3.out.lt
        clear hb3 HRE HX1 HX2
        have hw3 := HB3.out.size
        obtain ⟨y0, y1, y2, y3⟩ := HX3.out.froz4
        obtain ⟨d0, d1, d2, d3⟩ := HX3.out.four'
        go_wp2_with fail
        refine bodyPost_ret (res_ent rfl _ _ w.heap.size rfl ((HX3.out.all4 _ _ _ _).alloc _)) rfl ?_
        rw [HQB.out]
        simp only [zeroE, Prod.mk.injEq] at HQ
        obtain ⟨rfl, rfl, rfl, rfl⟩ := HQ.out
        exact ⟨rfl, (below_four HB3.out (Nat.le_refl _) _ _ _ _).alloc (by simpa using hw3) _⟩
    · have hge := r2 (fun h => absurd h hp)
      have hpe : posI (k, n, false, ⟨#[]⟩) L = L.length := by have := posI_le (k, n, false, ⟨#[]⟩) L; omega
      have HRE := hide (fun W h => reach_any a cap L k n false ⟨#[]⟩ W h hm.2.2 hl ⟨#[]⟩ 0 false ⟨#[]⟩ false (fun h => by cases h) (fun _ => ⟨hpe, rfl⟩))
      have HQ := hide (show (f0, f1, f2, f3) = zeroE by rw [← hf, hgm, hge]; rfl)
      have HQB := hide (show b = false by rw [hb, hgb, hge]; rfl)
      obtain ⟨m, hn⟩ : ∃ m, m = L.length := ⟨_, rfl⟩
      rw [← hn] at HC HRE ⊢
      clear hm hgm hgb r1 r2 hp hge hf hb hr hl hn hpe
      go_enter Try.func16, Try.ntmps16
      go_wp2_with fail
      refine (HC.out _ ((HR.out.below (hB.out _) (Nat.le_refl _)).mono (by simp))).mono ?_
      rintro e w1 ⟨rfl, hb1⟩
      have HB1 := hide ((hB.out _).trans (hb1.mono (hB.out _).size))
      have HX1 := hide (HX0.out.below hb1 HX0.out.lt)
      clear hb1 HX0 HC
      go_wp2_with fail
      refine (versions_any a m cap _).mono ?_
      rintro e w2 ⟨rfl, hb2⟩
      have HB2 := hide (HB1.out.trans (hb2.mono HB1.out.size))
      have HX2 := hide (HX1.out.below hb2 HX1.out.lt)
      clear hb2
      go_wp2_with fail
      refine (HRE.out _ ((HR.out.below HB2.out (Nat.le_refl _)).mono HB2.out.size)).mono ?_
      rintro e w3 ⟨rfl, hb3⟩
      have HB3 := hide (HB2.out.trans (hb3.mono HB2.out.size))
      have HX3 := hide (HX2.out.below hb3 HX2.out.lt)
      have hx3 := HX3.out.lt
      clear hb3 HRE HX1 HX2
      have hw3 := HB3.out.size
      obtain ⟨y0, y1, y2, y3⟩ := HX3.out.froz4
      obtain ⟨d0, d1, d2, d3⟩ := HX3.out.four'
      go_wp2_with fail
      refine bodyPost_ret (res_ent rfl _ _ w.heap.size rfl ((HX3.out.all4 _ _ _ _).alloc _)) rfl ?_
      rw [HQB.out]
      simp only [zeroE, Prod.mk.injEq] at HQ
      obtain ⟨rfl, rfl, rfl, rfl⟩ := HQ.out
      exact ⟨rfl, (below_four HB3.out (Nat.le_refl _) _ _ _ _).alloc (by simpa using hw3) _⟩
  · have HD := hide (decide_eq_false hm)
    rw [HD.out] at HC
    have HQ := hide (show (f0, f1, f2, f3) = zeroE by rw [← hf]; exact if_neg hm)
    have HQB := hide (show b = false by rw [hb]; unfold getB; rw [decide_eq_false hm, Bool.false_and])
    obtain ⟨m, hn⟩ : ∃ m, m = L.length := ⟨_, rfl⟩
    rw [← hn] at HC ⊢
    clear hm hf hb hr hl hn
    go_enter Try.func16, Try.ntmps16
    go_wp2_with fail
    refine (HC.out _ ((HR.out.below (hB.out _) (Nat.le_refl _)).mono (by simp))).mono ?_
    rintro e w1 ⟨rfl, hb1⟩
    have HB1 := hide ((hB.out _).trans (hb1.mono (hB.out _).size))
    have HX1 := hide (HX0.out.below hb1 HX0.out.lt)
    clear hb1 HX0 HC
    obtain ⟨y0, y1, y2, y3⟩ := HX1.out.froz4
    obtain ⟨d0, d1, d2, d3⟩ := HX1.out.four'
    go_wp2_with fail
    refine bodyPost_ret (res_ent rfl _ _ w.heap.size rfl (HX1.out.all4 _ _ _ _)) rfl ?_
    rw [HQB.out]
    simp only [zeroE, Prod.mk.injEq] at HQ
    obtain ⟨rfl, rfl, rfl, rfl⟩ := HQ.out
    exact ⟨rfl, below_four HB1.out (Nat.le_refl _) _ _ _ _⟩
end Go.Proofs.Ytphfakdbgohhgaa

/-
  Contract of impl.within: a key within bounds.
-/
namespace Go.Proofs.Ytphfakdbgohhgaa
open Go.ChangeShapes Go.WideShapes Go.ChangeAt Go.RowKit

theorem klessW {k f : ByteArray} (b : Bool) (h : kless k f = b) : Op.bytesLess k.toList f.toList = b := h
theorem within_any (k f t : ByteArray) (w : World) :
    Calls Try.prog 63 #[.string k, .string f, .string t] w fun e w' => e = .returned (.bool (decide (withinK k f t))) ∧ w' = w := by
  obtain ⟨V, hV⟩ : ∃ V, V = decide (withinK k f t) := ⟨_, rfl⟩
  rw [← hV]
  cases h1 : kless k f with
  | true =>
    have z1 := klessW true h1
    have HV := hide (show V = false from hV.trans (decide_eq_false fun h => by rw [h.1] at h1; cases h1))
    clear hV h1
    go_enter Try.func63, Try.ntmps63
    go_wp2_with fail
    go_ret
    exact ⟨by rw [HV.out]; rfl, rfl⟩
  | false =>
    have z1 := klessW false h1
    by_cases h2 : t.size = 0
    · have z2 : t.toList.isEmpty = true := by rw [empty_mk h2, ByteArray.toList_eq]; rfl
      have HV := hide (show V = true from hV.trans (decide_eq_true ⟨h1, .inl h2⟩))
      clear hV h1 h2
      go_enter Try.func63, Try.ntmps63
      go_wp2_with fail
      go_ret
      exact ⟨by rw [HV.out]; rfl, rfl⟩
    · have z2 := empty_not h2
      cases h3 : kless k t with
      | true =>
        have z3 := klessW true h3
        have HV := hide (show V = true from hV.trans (decide_eq_true ⟨h1, .inr h3⟩))
        clear hV h1 h2 h3
        go_enter Try.func63, Try.ntmps63
        go_wp2_with fail
        go_ret
        exact ⟨by rw [HV.out]; rfl, rfl⟩
      | false =>
        have z3 := klessW false h3
        have HV := hide (show V = false from hV.trans (decide_eq_false fun h => h.2.elim h2 (fun h => by rw [h] at h3; cases h3)))
        clear hV h1 h2 h3
        go_enter Try.func63, Try.ntmps63
        go_wp2_with fail
        go_ret
        exact ⟨by rw [HV.out]; rfl, rfl⟩
end Go.Proofs.Ytphfakdbgohhgaa

/-
  Contracts of impl.visibleMap, impl.MemMap and impl.MemRange.
-/
namespace Go.Proofs.Ytphfakdbgohhgaa
open Go.ChangeShapes Go.WideShapes Go.ChangeAt Go.RowKit

def KVPost (w : World) (M : List KV) (e : Ending) (w' : World) : Prop := ∃ v, e = .returned v ∧ elKV.Owns w.heap.size w' v M ∧ Below w.heap.size w w'
/-- a row of one pair, behind a box -/
theorem src_pair (wr : World) (o : Obj) (k v : ByteArray) : elKV.Src ((wr.alloc o).alloc (.cells #[.string k, .string v] 41)) (.slice (some ⟨wr.heap.size + 1, 0, none⟩) 1 1) [(k, v)] := by
  have h := (El.Owns.lit (e := elKV) 0 (wr.alloc o) [(k, v)] #[.string k, .string v] 1 rfl rfl (Nat.zero_le _) (by simp [maxLen])).src
  rwa [Go.Deep.nblk_alloc] at h

set_option maxHeartbeats 2000000 in
set_option maxRecDepth 20000 in
theorem visibleMap_any (a : Option Addr) (cap : Nat) (L : List En) (q : Int) (w : World) (hr : elEnt.Rd w w.heap.size a L) (hk : entsOk L) (hl : L.length ≤ 2097152) :
    Calls Try.prog 64 #[.slice a L.length cap, .int .i64 q] w (KVPost w (mapE q L)) := by
  have HR := hide hr
  have HS := hide hk.2
  have HE := hide hk.1
  have HALL := hide (mapP_all q L)
  obtain ⟨n, hn⟩ : ∃ n, n = L.length := ⟨_, rfl⟩
  have HN := hide hn
  rw [← hn] at hl HALL ⊢
  clear hr hk hn
  go_enter Try.func64, Try.ntmps64
  go_wp2_with fail
  go_loopw [5, 6, 8, 11] (fun m z _ i wr => ∃ (j y : Nat) (a5 : Option Addr) (c5 : Nat) (last : ByteArray), m = .slice a5 y c5 ∧ z = .string last ∧ i = .int .i64 j ∧ j ≤ n ∧ y ≤ j ∧ Hid ((mapP q L j).length = y) ∧ Hid (elKV.Owns w.heap.size wr (.slice a5 y c5) (mapP q L j)) ∧ Hid (LastOk q L j last) ∧ Hid (Below w.heap.size w wr)) (fun _ _ _ i _ => n - (intOf i).toNat)
  case atStart => exact ⟨0, 0, none, 0, ⟨#[]⟩, rfl, rfl, rfl, by omega, by omega, hide (by rw [mapP_zero]; rfl), by rw [mapP_zero]; exact El.Owns.nil _ _, last_zero q L, Below.refl _ _⟩
  case round =>
    obtain ⟨j, y, a5, c5, last, rfl, rfl, rfl, hj, hyj, HY, HO, HLA, HB⟩ := hrel
    by_cases hlt : j < n
    · have hjL : j < L.length := by rw [← HN.out]; exact hlt
      obtain ⟨b, off, rfl, hb, hcell⟩ := HR.out (by omega)
      obtain ⟨f0, f1, f2, f3, hx⟩ := partsEnt L[j]
      obtain ⟨c0, c1, c2, c3⟩ := cellsEnt hx (hcell j hjL)
      have d0 := (HB.out.cell (p := ⟨b, off + j * 4, none⟩) hb).trans c0
      have d1 := (HB.out.cell (p := ⟨b, off + j * 4 + 1, none⟩) hb).trans c1
      have d2 := (HB.out.cell (p := ⟨b, off + j * 4 + 2, none⟩) hb).trans c2
      have d3 := (HB.out.cell (p := ⟨b, off + j * 4 + 3, none⟩) hb).trans c3
      have HX := hide (show L[j]? = some (f0, f1, f2, f3) by rw [List.getElem?_eq_getElem hjL, hx])
      have hs := HB.out.size
      have HVI := hide (vis_iff HS.out HE.out HLA.out hjL)
      have HSK := hide (last_skip HLA.out hjL)
      have HNW := hide (last_new HS.out HLA.out hjL)
      rw [hx] at HVI HSK HNW
      clear hcell c0 c1 c2 c3 hx hjL
      by_cases h1 : q < f1
      · have HM := hide (mapP_no HX.out (fun h => (HVI.out.1 h).1 (.inl h1)))
        have HL1 := hide (HSK.out (.inl h1))
        go_wp2_with fail
        go_roundw
        case rel => exact ⟨j + 1, y, a5, c5, last, rfl, rfl, by go_num, by omega, by omega, by rw [HM.out]; exact HY, by rw [HM.out]; exact HO.out.alloc _, HL1, HB.out.alloc hs _⟩
        case measure => simp [intOf]; omega
      · by_cases h2 : f0 = last
        · have HM := hide (mapP_no HX.out (fun h => (HVI.out.1 h).1 (.inr h2)))
          have HL1 := hide (HSK.out (.inr h2))
          have he : (f0.toList == last.toList) = true := (keq_iff f0 last).2 h2
          clear h2
          go_wp2_with fail
          go_roundw
          case rel => exact ⟨j + 1, y, a5, c5, last, rfl, rfl, by go_num, by omega, by omega, by rw [HM.out]; exact HY, by rw [HM.out]; exact HO.out.alloc _, HL1, HB.out.alloc hs _⟩
          case measure => simp [intOf]; omega
        · have he : (f0.toList == last.toList) = false := keq_false h2
          have HL1 := hide (HNW.out (Int.not_lt.1 h1))
          cases f2 with
          | true =>
            have HM := hide (mapP_no HX.out (fun h => by have := (HVI.out.1 h).2; cases this))
            clear h2
            go_wp2_with fail
            go_roundw
            case rel => exact ⟨j + 1, y, a5, c5, f0, rfl, rfl, by go_num, by omega, by omega, by rw [HM.out]; exact HY, by rw [HM.out]; exact HO.out.alloc _, HL1, HB.out.alloc hs _⟩
            case measure => simp [intOf]; omega
          | false =>
            have HM := hide (mapP_yes HX.out (HVI.out.2 ⟨fun h => h.elim (fun h => h1 h) h2, rfl⟩))
            have hM' : (mapP q L j ++ [(f0, f3)]).length = y + 1 := by rw [List.length_append, HY.out]; rfl
            have HM' := hide hM'
            have HOa := hide ((HO.out.alloc (.cells #[.string f0, .int .i64 f1, .bool false, .string f3] 26)).alloc (.cells #[.string f0, .string f3] 41))
            have HSa := hide (src_pair wr (.cells #[.string f0, .int .i64 f1, .bool false, .string f3] 26) f0 f3)
            have HBa := hide ((HB.out.alloc hs (.cells #[.string f0, .int .i64 f1, .bool false, .string f3] 26)).alloc (by simp; omega) (.cells #[.string f0, .string f3] 41))
            have hba := HBa.out.size
            clear h2 hM'
            go_wp2_with (at_builtin; go_loud (refine El.appendSrc (e := elKV) rfl (.tmp 30) (.tmp 36) 37 rfl Try.underlying37 _ _ infoKV rfl (by decide) (by decide) w.heap.size w _ _ _ (mapP q L j) [(f0, f3)] rfl rfl HOa HSa HBa hba (mapP q L j ++ [(f0, f3)]) (y + 1) rfl HM'.out (by omega) ?_); intro a6 c6 w6 HO6 HB6 hz6 _)
            go_roundw
            case rel => exact ⟨j + 1, y + 1, a6, c6, f0, rfl, rfl, by go_num, by omega, by omega, by rw [HM.out]; exact HM', by rw [HM.out]; exact HO6, HL1, HB6⟩
            case measure => simp [intOf]; omega
    · have hjn : j = n := by omega
      subst hjn
      go_wp2_with fail
      go_ret
      exact ⟨_, rfl, by rw [← HALL.out]; exact HO.out, HB.out⟩

theorem iMemMap_any (a : Option Addr) (cap : Nat) (L : List En) (q : Int) (w : World) (hr : elEnt.Rd w w.heap.size a L) (hl : L.length ≤ 2097152) :
    Calls Try.prog 19 #[.slice a L.length cap, .int .i64 q] w (KVPost w (mapM L q)) := by
  have HR := hide hr
  have HC := hide (fun W h => iMemOk_any a cap L W h hl)
  by_cases hm : memOkL L
  · rw [show mapM L q = mapE q L from if_pos hm]
    rw [decide_eq_true hm] at HC
    have HV := hide (fun W h => visibleMap_any a cap L q W h hm.2 hl)
    obtain ⟨M, hM⟩ : ∃ M, M = mapE q L := ⟨_, rfl⟩
    obtain ⟨n, hn⟩ : ∃ n, n = L.length := ⟨_, rfl⟩
    rw [← hn, ← hM] at HV
    rw [← hn] at HC
    rw [← hn, ← hM]
    clear hm hn hM hr hl
    go_enter Try.func19, Try.ntmps19
    go_wp2_with fail
    refine (HC.out _ HR.out).mono ?_
    rintro e w1 ⟨rfl, hb1⟩
    have HB1 := hide hb1
    clear hb1
    go_wp2_with fail
    refine (HV.out _ ((HR.out.below HB1.out (Nat.le_refl _)).mono HB1.out.size)).mono ?_
    rintro e w2 ⟨v, rfl, ho, hb2⟩
    have HO := hide (ho.mono HB1.out.size)
    have HB2 := hide (HB1.out.trans (hb2.mono HB1.out.size))
    clear ho hb2
    go_wp2_with fail
    go_ret
    exact ⟨_, rfl, HO.out, HB2.out⟩
  · rw [show mapM L q = [] from if_neg hm]
    rw [decide_eq_false hm] at HC
    obtain ⟨n, hn⟩ : ∃ n, n = L.length := ⟨_, rfl⟩
    rw [← hn] at HC ⊢
    clear hm hn hr hl
    go_enter Try.func19, Try.ntmps19
    go_wp2_with fail
    refine (HC.out _ HR.out).mono ?_
    rintro e w1 ⟨rfl, hb1⟩
    have HB1 := hide hb1
    clear hb1
    go_wp2_with fail
    go_ret
    exact ⟨_, rfl, El.Owns.nil _ _, HB1.out⟩

theorem kless_of {k f : ByteArray} (b : Bool) (h : kless k f = b) : Op.bytesLess k.toList f.toList = b := h

set_option maxHeartbeats 2000000 in
set_option maxRecDepth 20000 in
theorem iMemRange_any (a : Option Addr) (cap : Nat) (L : List En) (f t : ByteArray) (q : Int) (w : World) (hr : elEnt.Rd w w.heap.size a L) (hl : L.length ≤ 2097152) :
    Calls Try.prog 18 #[.slice a L.length cap, .string f, .string t, .int .i64 q] w (KVPost w (rangeE f t (mapM L q))) := by
  have HR := hide hr
  have HC := hide (iMemMap_any a cap L q w hr hl)
  have hlm := Nat.le_trans (mapM_len L q) hl
  obtain ⟨M, hM⟩ : ∃ M, M = mapM L q := ⟨_, rfl⟩
  obtain ⟨n, hn⟩ : ∃ n, n = L.length := ⟨_, rfl⟩
  rw [← hM] at HC hlm ⊢
  rw [← hn] at HC ⊢
  have HALL := hide (rangP_all f t M)
  clear hM hn hr hl
  go_enter Try.func18, Try.ntmps18
  go_wp2_with fail
  refine HC.out.mono ?_
  rintro e w1 ⟨v, rfl, ho, hb1⟩
  obtain ⟨a1, cap1, rfl, hrd, _⟩ := ho.form
  have HM := hide hrd
  have HB1 := hide hb1
  obtain ⟨m, hm⟩ : ∃ m, m = M.length := ⟨_, rfl⟩
  have HN := hide hm
  rw [← hm] at hlm HALL ⊢
  clear ho hrd hb1 hm HC
  go_wp2_with fail
  go_loopw [9, 11, 16] (fun o _ i wr => ∃ (j y : Nat) (a5 : Option Addr) (c5 : Nat), o = .slice a5 y c5 ∧ i = .int .i64 j ∧ j ≤ m ∧ y ≤ j ∧ Hid ((rangP f t M j).length = y) ∧ Hid (elKV.Owns w1.heap.size wr (.slice a5 y c5) (rangP f t M j)) ∧ Hid (Below w1.heap.size w1 wr)) (fun _ _ i _ => m - (intOf i).toNat)
  case atStart => exact ⟨0, 0, none, 0, rfl, rfl, by omega, by omega, hide (by rw [rangP_zero]; rfl), by rw [rangP_zero]; exact El.Owns.nil _ _, Below.refl _ _⟩
  case round =>
    obtain ⟨j, y, a5, c5, rfl, rfl, hj, hyj, HY, HO, HB⟩ := hrel
    by_cases hlt : j < m
    · have hjL : j < M.length := by rw [← HN.out]; exact hlt
      obtain ⟨b, off, rfl, hb, hcell⟩ := HM.out (by omega)
      obtain ⟨f0, f1, hx⟩ := partsKV M[j]
      obtain ⟨c0, c1⟩ := cellsKV hx (hcell j hjL)
      have d0 := (HB.out.cell (p := ⟨b, off + j * 2, none⟩) hb).trans c0
      have d1 := (HB.out.cell (p := ⟨b, off + j * 2 + 1, none⟩) hb).trans c1
      have HX := hide (show M[j]? = some (f0, f1) by rw [List.getElem?_eq_getElem hjL, hx])
      have hs := HB.out.size
      have HW := hide (fun W => within_any f0 f t W)
      clear hcell c0 c1 hx hjL
      by_cases hv : withinK f0 f t
      · have HMM := hide (rangP_yes HX.out hv)
        have HM' := hide (show (rangP f t M j ++ [(f0, f1)]).length = y + 1 by rw [List.length_append, HY.out]; rfl)
        have HOa := hide ((HO.out.alloc (.cells #[.string f0, .string f1] 41)).alloc (.cells #[.string f0, .string f1] 41))
        have HSa := hide (src_pair wr (.cells #[.string f0, .string f1] 41) f0 f1)
        have HBa := hide ((HB.out.alloc hs (.cells #[.string f0, .string f1] 41)).alloc (by simp; omega) (.cells #[.string f0, .string f1] 41))
        have hba := HBa.out.size
        rw [decide_eq_true hv] at HW
        clear hv
        go_wp2_with fail
        refine (HW.out _).mono ?_
        rintro e w2 ⟨rfl, rfl⟩
        go_wp2_with (at_builtin; go_loud (refine El.appendSrc (e := elKV) rfl (.tmp 25) (.tmp 27) 37 rfl Try.underlying37 _ _ infoKV rfl (by decide) (by decide) w1.heap.size w1 _ _ _ (rangP f t M j) [(f0, f1)] rfl rfl HOa HSa HBa hba (rangP f t M j ++ [(f0, f1)]) (y + 1) rfl HM'.out (by omega) ?_); intro a6 c6 w6 HO6 HB6 hz6 _)
        go_roundw
        case rel => exact ⟨j + 1, y + 1, a6, c6, rfl, by go_num, by omega, by omega, by rw [HMM.out]; exact HM', by rw [HMM.out]; exact HO6, HB6⟩
        case measure => simp [intOf]; omega
      · have HMM := hide (rangP_no HX.out hv)
        rw [decide_eq_false hv] at HW
        clear hv
        go_wp2_with fail
        refine (HW.out _).mono ?_
        rintro e w2 ⟨rfl, rfl⟩
        go_wp2_with fail
        go_roundw
        case rel => exact ⟨j + 1, y, a5, c5, rfl, by go_num, by omega, by omega, by rw [HMM.out]; exact HY, by rw [HMM.out]; exact HO.out.alloc _, HB.out.alloc hs _⟩
        case measure => simp [intOf]; omega
    · have hjn : j = m := by omega
      subst hjn
      go_wp2_with fail
      go_ret
      exact ⟨_, rfl, by rw [← HALL.out]; exact HO.out.mono HB1.out.size, HB1.out.trans (HB.out.mono HB1.out.size)⟩
end Go.Proofs.Ytphfakdbgohhgaa
