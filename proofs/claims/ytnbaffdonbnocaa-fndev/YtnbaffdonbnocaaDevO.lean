/-
  Contracts of impl.DevOk and what it calls: hasSector, sectorsOk, cachedOk.
-/
import Derived.Test.YtnbaffdonbnocaaDevM
import Derived.Test.YtnbaffdonbnocaaOwnT
import Derived.StillTailTactics
import Derived.Deep.QuietTactic
import Derived.BigQuiet
namespace Go.Proofs.Ytnbaffdonbnocaa
open Go.ChangeShapes Go.WideShapes Go.ChangeAt Go.RowKit

/-- a box of two cells -/
def BoxP (T : TypeId) (w : World) (g : Nat) (v0 v1 : Value) : Prop := w.heap[g]? = some (.cells #[v0, v1] T (0, 0))
theorem BoxP.new (T : TypeId) (w : World) (v0 v1 : Value) : BoxP T (w.alloc (.cells #[v0, v1] T)) w.heap.size v0 v1 := Go.Deep.blk_alloc_new w _
theorem BoxP.lt {T : TypeId} {w : World} {g : Nat} {v0 v1 : Value} (h : BoxP T w g v0 v1) : g < w.heap.size := (Array.getElem?_eq_some_iff.1 h).1
theorem BoxP.below {T : TypeId} {w w' : World} {g B : Nat} {v0 v1 : Value} (h : BoxP T w g v0 v1) (hb : Below B w w') (hg : g < B) : BoxP T w' g v0 v1 := (hb.block g hg).trans h
theorem BoxP.cells {T : TypeId} {w : World} {g : Nat} {v0 v1 : Value} (h : BoxP T w g v0 v1) : w.cell? ⟨g, 0, none⟩ = some v0 ∧ w.cell? ⟨g, 1, none⟩ = some v1 := by
  unfold BoxP at h
  exact ⟨by simp [World.cell?, h], by simp [World.cell?, h]⟩

theorem hasSector_any (a : Option Addr) (n cap : Nat) (v : Value) (x t : Int) (w : World) :
    Calls Try.prog 33 #[.agg #[.slice a n cap, v, .int .i64 x], .int .i64 t] w (BoolPost w (decide (0 ≤ t) && decide (t < n))) := by
  by_cases h0 : 0 ≤ t
  · go_enter Try.func33, Try.ntmps33
    go_wp2
    go_ret
    exact ⟨by simp [h0], (Below.refl _ _).alloc (Nat.le_refl _) _⟩
  · go_enter Try.func33, Try.ntmps33
    go_wp2
    go_ret
    exact ⟨by simp; omega, (Below.refl _ _).alloc (Nat.le_refl _) _⟩

theorem sectorsOk_any (a : Option Addr) (cap : Nat) (S : List ByteArray) (v : Value) (x : Int) (w : World) (hr : StrRd w w.heap.size a S) (hl : S.length ≤ 2097152) :
    Calls Try.prog 43 #[.agg #[.slice a S.length cap, v, .int .i64 x]] w (BoolPost w (yes (SecOk S))) := by
  have HR := hide hr
  clear hr
  obtain ⟨V, hV⟩ : ∃ V, V = yes (SecOk S) := ⟨_, rfl⟩
  have HV := hide hV
  rw [← hV]
  obtain ⟨n, hn⟩ : ∃ n, n = S.length := ⟨_, rfl⟩
  have HN := hide hn
  rw [← hn] at hl
  rw [← hn]
  clear hn hV
  have hB := fun o => (Below.refl w.heap.size w).alloc (Nat.le_refl _) o
  by_cases h1 : n < 1
  · have HV1 := hide (show V = false from HV.out.trans (yes_false fun h => by have := h.1; rw [← HN.out] at this; omega))
    go_enter Try.func43, Try.ntmps43
    go_wp2_with fail
    go_ret
    exact ⟨by rw [HV1.out]; rfl, hB _⟩
  by_cases h2 : 16 < n
  · have HV1 := hide (show V = false from HV.out.trans (yes_false fun h => by have := h.2.1; rw [← HN.out] at this; omega))
    go_enter Try.func43, Try.ntmps43
    go_wp2_with fail
    go_ret
    exact ⟨by rw [HV1.out]; rfl, hB _⟩
  go_enter Try.func43, Try.ntmps43
  go_wp2_with fail
  go_loopw [4, 18] (fun _ i wr => ∃ j : Nat, i = .int .i64 j ∧ j ≤ n ∧ Hid (∀ i, i < j → (st S i).size ≤ 200) ∧ Hid (Below w.heap.size w wr)) (fun _ i _ => n - (intOf i).toNat)
  case atStart => exact ⟨0, rfl, by omega, fun i hi => by omega, hB _⟩
  case round =>
    obtain ⟨j, rfl, hj, HO, HB⟩ := hrel
    by_cases hlt : j < n
    · have hjL : j < S.length := by rw [← HN.out]; exact hlt
      obtain ⟨b, o, rfl, hb, hc⟩ := HR.out (by omega)
      have d0 := (HB.out.cell (p := ⟨b, o + j, none⟩) hb).trans (hc j hjL)
      have HJ := hide hjL
      clear hc hjL
      by_cases hk : (st S j).size ≤ 200
      · have k1 : decide ((200 : Int) < (st S j).size) = false := decide_eq_false (by omega)
        have HO1 := hide (show ∀ i, i < j + 1 → (st S i).size ≤ 200 from fun i hi => by
          rcases Nat.lt_or_ge i j with h | h
          · exact HO.out i h
          · rw [show i = j by omega]; exact hk)
        clear hk
        go_wp2_with fail
        go_roundw
        case rel => exact ⟨j + 1, by go_num, by omega, HO1, HB⟩
        case measure => simp [intOf]; omega
      · have k1 : decide ((200 : Int) < (st S j).size) = true := decide_eq_true (by omega)
        have HV1 := hide (show V = false from HV.out.trans (yes_false fun h => hk (h.2.2 j HJ.out)))
        clear hk
        go_wp2_with fail
        go_ret
        exact ⟨by rw [HV1.out]; rfl, HB.out⟩
    · have HV1 := hide (show V = true from HV.out.trans (yes_true ⟨by rw [← HN.out]; omega, by rw [← HN.out]; omega, fun i hi => HO.out i (by rw [← HN.out] at hi; omega)⟩))
      go_wp2_with fail
      go_ret
      exact ⟨by rw [HV1.out]; rfl, HB.out⟩

theorem cachedOk_any (a a' : Option Addr) (n cap cap' : Nat) (L : List Slot) (x : Int) (w : World) (hr : SlotRd w w.heap.size a' L) (hl : L.length ≤ 2097152) :
    Calls Try.prog 44 #[.agg #[.slice a n cap, .slice a' L.length cap', .int .i64 x]] w (BoolPost w (yes (CacOk n L))) := by
  have HR := hide hr
  clear hr
  obtain ⟨V, hV⟩ : ∃ V, V = yes (CacOk n L) := ⟨_, rfl⟩
  have HV := hide hV
  rw [← hV]
  obtain ⟨m, hm⟩ : ∃ m, m = L.length := ⟨_, rfl⟩
  have HN := hide hm
  rw [← hm] at hl
  rw [← hm]
  clear hm hV
  have hB := fun o => (Below.refl w.heap.size w).alloc (Nat.le_refl _) o
  by_cases h1 : 20 < m
  · have HV1 := hide (show V = false from HV.out.trans (yes_false fun h => by have := h.1; rw [← HN.out] at this; omega))
    go_enter Try.func44, Try.ntmps44
    go_wp2_with fail
    go_ret
    exact ⟨by rw [HV1.out]; rfl, hB _⟩
  go_enter Try.func44, Try.ntmps44
  go_wp2_with fail
  go_loopw [4, 12] (fun _ i wr => ∃ j : Nat, i = .int .i64 j ∧ j ≤ m ∧ Hid (∀ i, i < j → PutOk n (tn L i) (ky L i)) ∧ Hid (Below w.heap.size w wr) ∧ Hid (BoxB 27 wr w.heap.size (.slice a n cap) (.slice a' m cap') (.int .i64 x))) (fun _ i _ => m - (intOf i).toNat)
  case atStart => exact ⟨0, rfl, by omega, fun i hi => by omega, hB _, BoxB.new _ w _ _ _⟩
  case round =>
    obtain ⟨j, rfl, hj, HO, HB, HX⟩ := hrel
    by_cases hlt : j < m
    · have hjL : j < L.length := by rw [← HN.out]; exact hlt
      obtain ⟨b, o, rfl, hb, hc⟩ := HR.out (by omega)
      obtain ⟨p0, p1⟩ := hc j hjL
      have d0 := (HB.out.cell (p := ⟨b, o + j * 2, none⟩) hb).trans p0
      have d1 := (HB.out.cell (p := ⟨b, o + j * 2 + 1, none⟩) hb).trans p1
      have HJ := hide hjL
      have hs := HB.out.size
      have hx := HX.out.lt
      obtain ⟨x0, x1, x2⟩ := HX.out.cells
      clear hc p0 p1 hjL
      go_wp2_with fail
      refine (hasSector_any _ n cap _ x (tn L j) _).mono ?_
      rintro e w2 ⟨rfl, hb2⟩
      have HX2 := hide ((HX.out.alloc _).below hb2 (by simp; omega))
      have HP2 := hide ((BoxP.new 36 wr (.int .i64 (tn L j)) (.string (ky L j))).below hb2 (by simp))
      have HB2 := hide ((HB.out.alloc hs _).trans (hb2.mono (by simp <;> omega)))
      clear hb2 HB HX d0 d1 x0 x1 x2
      obtain ⟨q0, q1⟩ := HP2.out.cells
      by_cases ht : 0 ≤ tn L j ∧ tn L j < n
      · have e1 : (decide (0 ≤ tn L j) && decide (tn L j < (n : Int))) = true := by simp [ht.1, ht.2]
        rw [e1]
        by_cases hk : (ky L j).size ≤ 200
        · have k1 : decide ((200 : Int) < (ky L j).size) = false := decide_eq_false (by omega)
          have HO1 := hide (show ∀ i, i < j + 1 → PutOk n (tn L i) (ky L i) from fun i hi => by
            rcases Nat.lt_or_ge i j with h | h
            · exact HO.out i h
            · rw [show i = j by omega]; exact ⟨ht.1, ht.2, hk⟩)
          clear hk ht e1
          go_wp2_with fail
          go_roundw
          case rel => exact ⟨j + 1, by go_num, by omega, HO1, HB2, HX2⟩
          case measure => simp [intOf]; omega
        · have k1 : decide ((200 : Int) < (ky L j).size) = true := decide_eq_true (by omega)
          have HV1 := hide (show V = false from HV.out.trans (yes_false fun h => hk (h.2 j HJ.out).2.2))
          clear hk ht e1
          go_wp2_with fail
          go_ret
          exact ⟨by rw [HV1.out]; rfl, HB2.out⟩
      · have e1 : (decide (0 ≤ tn L j) && decide (tn L j < (n : Int))) = false := by simp; omega
        rw [e1]
        have HV1 := hide (show V = false from HV.out.trans (yes_false fun h => ht ⟨(h.2 j HJ.out).1, (h.2 j HJ.out).2.1⟩))
        clear ht e1
        go_wp2_with fail
        go_ret
        exact ⟨by rw [HV1.out]; rfl, HB2.out⟩
    · have HV1 := hide (show V = true from HV.out.trans (yes_true ⟨by rw [← HN.out]; omega, fun i hi => HO.out i (by rw [← HN.out] at hi; omega)⟩))
      go_wp2_with fail
      go_ret
      exact ⟨by rw [HV1.out]; rfl, HB.out⟩

set_option maxHeartbeats 1000000 in
theorem iDevOk_any (a a' : Option Addr) (cap cap' : Nat) (S : List ByteArray) (L : List Slot) (x : Int) (w : World) (hs : StrRd w w.heap.size a S) (hsl : S.length ≤ 2097152) (hr : SlotRd w w.heap.size a' L) (hl : L.length ≤ 2097152) :
    Calls Try.prog 20 #[.agg #[.slice a S.length cap, .slice a' L.length cap', .int .i64 x]] w (BoolPost w (devOkB S L x)) := by
  have HS := hide hs
  have HSL := hide hsl
  have HR := hide hr
  have HL := hide hl
  clear hr hl hs hsl
  obtain ⟨V, hV⟩ : ∃ V, V = devOkB S L x := ⟨_, rfl⟩
  have HV := hide hV
  rw [← hV]
  clear hV
  have hB := fun o => (Below.refl w.heap.size w).alloc (Nat.le_refl _) o
  go_enter Try.func20, Try.ntmps20
  go_wp2_with fail
  refine (sectorsOk_any a cap S _ x _ ((HS.out.below (hB _) (Nat.le_refl _)).mono (by simp)) HSL.out).mono ?_
  rintro e w1 ⟨rfl, hb1⟩
  have HX1 := hide ((BoxB.new 27 w (.slice a S.length cap) (.slice a' L.length cap') (.int .i64 x)).below hb1 (by simp))
  have HB1 := hide ((hB _).trans (hb1.mono (by simp)))
  clear hb1 hB
  obtain ⟨x0, x1, x2⟩ := HX1.out.cells
  cases hS : yes (SecOk S) with
  | false =>
    have HV1 := hide (show V = false from HV.out.trans (yes_false fun h => no_iff.1 hS h.1))
    clear hS
    go_wp2_with fail
    go_ret
    exact ⟨by rw [HV1.out]; rfl, HB1.out⟩
  | true =>
    have HSo := hide (yes_iff.1 hS)
    clear hS
    go_wp2_with fail
    refine (cachedOk_any a a' S.length cap cap' L x _ ((HR.out.below HB1.out (Nat.le_refl _)).mono HB1.out.size) HL.out).mono ?_
    rintro e w2 ⟨rfl, hb2⟩
    have HX2 := hide (HX1.out.below hb2 HX1.out.lt)
    have HB2 := hide (HB1.out.trans (hb2.mono HB1.out.size))
    clear hb2 HB1 HX1 x0 x1 x2
    obtain ⟨x0, x1, x2⟩ := HX2.out.cells
    cases hC : yes (CacOk S.length L) with
    | false =>
      have HV1 := hide (show V = false from HV.out.trans (yes_false fun h => no_iff.1 hC h.2.1))
      clear hC
      go_wp2_with fail
      go_ret
      exact ⟨by rw [HV1.out]; rfl, HB2.out⟩
    | true =>
      have HCo := hide (yes_iff.1 hC)
      clear hC
      by_cases h0 : 0 ≤ x
      · by_cases h1 : x ≤ 1000000
        · have HV1 := hide (show V = true from HV.out.trans (yes_true ⟨HSo.out, HCo.out, h0, h1⟩))
          go_wp2_with fail
          go_ret
          exact ⟨by rw [HV1.out]; rfl, HB2.out⟩
        · have HV1 := hide (show V = false from HV.out.trans (yes_false fun h => h1 h.2.2.2))
          have d1 : decide (x ≤ 1000000) = false := decide_eq_false h1
          go_wp2_with fail
          go_ret
          exact ⟨by rw [HV1.out]; rfl, HB2.out⟩
      · have HV1 := hide (show V = false from HV.out.trans (yes_false fun h => h0 h.2.2.1))
        go_wp2_with fail
        go_ret
        exact ⟨by rw [HV1.out]; rfl, HB2.out⟩
end Go.Proofs.Ytnbaffdonbnocaa
